/-
  Which queries the reference lets be; two queries that are the same. Conditions: those that each theorem names. Two queries that are the same. Conditions: those that each theorem names.
  A query that came in by value, opened. Condition: its bulk.
-/
import Derived.Test.YtlhodanpfpfodaaGreatDoorMQry
import Derived.Test.YtlhodanpfpfodaaGreatDoorBulk
import Derived.Deep.Slices
import Derived.Lib.SmallJoins
namespace Go.Proofs.YtlhodanpfpfodaaGreatDoor
open Go.RowKit Go.Icz
theorem six_agg (w : World) (c0 c1 c2 c3 c4 c5 : Value) (t : TypeId) : let w' := w.alloc (.cells #[c0, c1, c2, c3, c4, c5] t)
    w'.cell? ⟨w.heap.size, 0, none⟩ = some c0 ∧ w'.cell? ⟨w.heap.size, 1, none⟩ = some c1 ∧ w'.cell? ⟨w.heap.size, 2, none⟩ = some c2 ∧ w'.cell? ⟨w.heap.size, 3, none⟩ = some c3 ∧ w'.cell? ⟨w.heap.size, 4, none⟩ = some c4 ∧ w'.cell? ⟨w.heap.size, 5, none⟩ = some c5 := six_cells (heap_alloc_new w _)
/-- Why a match may not be. -/
theorem okM_cases (nm vl : B8) (op : Int) : (okM ⟨nm, op, vl⟩ = true ∧ nameS nm = true ∧ 1 ≤ op ∧ op ≤ 4 ∧ vl.length ≤ 128 ∧ Lib.validD vl = true) ∨ (okM ⟨nm, op, vl⟩ = false ∧ nameS nm = false) ∨ (okM ⟨nm, op, vl⟩ = false ∧ nameS nm = true ∧ op < 1) ∨ (okM ⟨nm, op, vl⟩ = false ∧ nameS nm = true ∧ 1 ≤ op ∧ 4 < op) ∨ (okM ⟨nm, op, vl⟩ = false ∧ nameS nm = true ∧ 1 ≤ op ∧ op ≤ 4 ∧ 128 < vl.length) ∨ (okM ⟨nm, op, vl⟩ = false ∧ nameS nm = true ∧ 1 ≤ op ∧ op ≤ 4 ∧ vl.length ≤ 128 ∧ Lib.validD vl = false) := by
  unfold okM textS
  cases hn : nameS nm
  · simp
  · cases hv : Lib.validD vl
    · by_cases h1 : 1 ≤ op <;> by_cases h2 : op ≤ 4 <;> by_cases h3 : vl.length ≤ 128 <;> simp [h1, h2, h3] <;> omega
    · by_cases h1 : 1 ≤ op <;> by_cases h2 : op ≤ 4 <;> by_cases h3 : vl.length ≤ 128 <;> simp [h1, h2, h3] <;> omega
set_option maxHeartbeats 8000000 in
set_option maxRecDepth 100000 in
theorem R6Right_is (v0 : Value) (q : Qy) (w : World) (hR : KR.Rd w v0 q.ms) (hm : q.ms.length ≤ 1099511627776) (hz : ∀ m ∈ q.ms, m.name.length ≤ 1099511627776 ∧ m.val.length ≤ 1099511627776) (hh : q.has.length ≤ 1099511627776) :
    Calls Tryz.prog 26 #[qryV v0 q] w fun e w' => e = .returned (.bool (rightQ q)) ∧ Below w.heap.size w w' := by
  obtain ⟨A, c, rfl, hc⟩ := hR.form
  obtain ⟨ms, has, fr, upt, lim, nw⟩ := q
  simp only [] at hR hm hz hh hc
  unfold qryV
  simp only []
  have HQ : Hid (rightQ ⟨ms, has, fr, upt, lim, nw⟩ = (decide (ms.length ≤ 8) && (decide (has.length ≤ 1024) && Lib.validD has) && ms.all okM && decide (0 ≤ fr ∧ fr ≤ upt ∧ upt ≤ 1099511627776) && decide (0 ≤ lim ∧ lim ≤ 10000))) := hid rfl
  generalize rightQ ⟨ms, has, fr, upt, lim, nw⟩ = rq at *
  have rb := heap_alloc_new w (.cells #[.slice A ms.length c, .string ⟨has.toArray⟩, .int .i64 fr, .int .i64 upt, .int .i64 lim, .bool nw] 37)
  have bb0 : Below w.heap.size w (w.alloc (.cells #[.slice A ms.length c, .string ⟨has.toArray⟩, .int .i64 fr, .int .i64 upt, .int .i64 lim, .bool nw] 37)) := (Below.refl _ w).alloc (Nat.le_refl _) _
  have zb : w.heap.size < (w.alloc (.cells #[.slice A ms.length c, .string ⟨has.toArray⟩, .int .i64 fr, .int .i64 upt, .int .i64 lim, .bool nw] 37)).heap.size := by simp
  go_enter Tryz.func26, Tryz.ntmps26
  go_wp2_with fail
  generalize w.alloc (.cells #[.slice A ms.length c, .string ⟨has.toArray⟩, .int .i64 fr, .int .i64 upt, .int .i64 lim, .bool nw] 37) = W1 at *
  go_loopw [3] (fun iv wr => ∃ i : Nat, iv = .int .i64 i ∧ i ≤ ms.length ∧ Below W1.heap.size W1 wr ∧ Hid ((ms.take i).all okM = true)) (fun iv _ => ms.length - (intOf iv).toNat)
  case atStart => exact ⟨0, rfl, by omega, Below.refl _ _, hid rfl⟩
  case round =>
    obtain ⟨i, rfl, hi, hbw, HA⟩ := hrel
    have rbw := (hbw.block _ zb).trans rb
    obtain ⟨q0, q1, q2, q3, q4, q5⟩ := six_cells rbw
    have bt : Below w.heap.size w wr := bb0.trans (hbw.mono bb0.size)
    by_cases hlt : i < ms.length
    · obtain ⟨b, off, rfl, hb, c0, c1, c2⟩ := KR_at hR hlt
      rw [← bt.cell (p := ⟨b, off + i * 3, none⟩) hb] at c0
      rw [← bt.cell (p := ⟨b, off + i * 3 + 1, none⟩) hb] at c1
      rw [← bt.cell (p := ⟨b, off + i * 3 + 2, none⟩) hb] at c2
      have hx := hz ms[i] (List.getElem_mem hlt)
      have HT : Hid ((ms.take (i + 1)).all okM = ((ms.take i).all okM && okM ms[i])) := hid (by rw [List.take_add_one, List.getElem?_eq_getElem hlt]; simp only [Option.toList_some, List.all_append, List.all_cons, List.all_nil, Bool.and_true])
      have HN : Hid (okM ms[i] = false → rq = false) := hid (fun h => by
        have : ms.all okM = false := List.all_eq_false.2 ⟨ms[i], List.getElem_mem hlt, by rw [h]; simp⟩
        rw [HQ.out, this]
        simp)
      clear hR hz HQ rbw rb
      generalize ms[i] = x at *
      obtain ⟨nm, op, vl⟩ := x
      simp only [] at hx c0 c1 c2
      have hNm := fun w1 => RefName_is ⟨nm.toArray⟩ w1 (by rw [Lib.size_mk]; omega)
      have hGd := fun w1 => Good_is vl w1 (by omega)
      simp only [] at hNm
      have hoc := okM_cases nm vl op
      have hbx := hbw.alloc hbw.size (.cells #[.string ⟨nm.toArray⟩, .int .i64 op, .string ⟨vl.toArray⟩] 63)
      have btx := bt.alloc bt.size (.cells #[.string ⟨nm.toArray⟩, .int .i64 op, .string ⟨vl.toArray⟩] 63)
      rcases hoc with ⟨ho, k1, k2, k3, k4, k5⟩ | ⟨ho, k1⟩ | ⟨ho, k1, k2⟩ | ⟨ho, k1, k2, k3⟩ | ⟨ho, k1, k2, k3, k4⟩ | ⟨ho, k1, k2, k3, k4, k5⟩
      · have HA2 : Hid ((ms.take (i + 1)).all okM = true) := hid (by rw [HT.out, HA.out, ho]; rfl)
        rw [k1] at hNm
        rw [k5] at hGd
        clear HT HA ho HN
        go_wp2_with (first
          | (go_at_call 61; refine (hNm _).mono ?_; rintro e w2 ⟨rfl, rfl⟩; clear hNm)
          | (go_at_call 62; refine (hGd _).mono ?_; rintro e w3 ⟨rfl, rfl⟩; clear hGd))
        go_roundw
        case rel => exact ⟨i + 1, by go_num, by omega, hbx, HA2⟩
        case measure => simp [intOf]; omega
      all_goals
        have HF := hid (HN.out ho)
        clear HT HA ho HN
        first | rw [k1] at hNm | skip
        first | rw [k5] at hGd | skip
        go_wp2_with (first
          | (go_at_call 61; refine (hNm _).mono ?_; rintro e w2 ⟨rfl, rfl⟩; clear hNm)
          | (go_at_call 62; refine (hGd _).mono ?_; rintro e w3 ⟨rfl, rfl⟩; clear hGd))
        go_ret
        exact ⟨by rw [HF.out]; rfl, btx⟩
    · have e : ms.take i = ms := List.take_of_length_le (by omega)
      have hA := HA.out
      rw [e] at hA
      have HQ2 : Hid (rq = (decide (ms.length ≤ 8) && (decide (has.length ≤ 1024) && Lib.validD has) && decide (0 ≤ fr ∧ fr ≤ upt ∧ upt ≤ 1099511627776) && decide (0 ≤ lim ∧ lim ≤ 10000))) := hid (by rw [HQ.out, hA]; simp)
      clear hA HA e HQ hR hz
      have hGd := fun w1 => Good_is has w1 (by omega)
      by_cases h8 : ms.length ≤ 8
      · by_cases h1 : has.length ≤ 1024
        · cases hv : Lib.validD has with
          | false =>
            have HF : Hid (rq = false) := hid (by rw [HQ2.out, hv]; simp)
            rw [hv] at hGd
            clear HQ2
            go_wp2_with (go_at_call 62; refine (hGd _).mono ?_; rintro e w3 ⟨rfl, rfl⟩; clear hGd)
            go_ret
            exact ⟨by rw [HF.out]; rfl, bt⟩
          | true =>
            have HG : Hid (rq = (decide (0 ≤ fr ∧ fr ≤ upt ∧ upt ≤ 1099511627776) && decide (0 ≤ lim ∧ lim ≤ 10000))) := hid (by rw [HQ2.out, hv, decide_eq_true h8, decide_eq_true h1]; simp)
            rw [hv] at hGd
            clear HQ2
            have hcs : (0 ≤ fr ∧ fr ≤ upt ∧ upt ≤ 1099511627776 ∧ 0 ≤ lim ∧ lim ≤ 10000) ∨ fr < 0 ∨ (0 ≤ fr ∧ upt < fr) ∨ (0 ≤ fr ∧ fr ≤ upt ∧ 1099511627776 < upt) ∨ (0 ≤ fr ∧ fr ≤ upt ∧ upt ≤ 1099511627776 ∧ lim < 0) ∨ (0 ≤ fr ∧ fr ≤ upt ∧ upt ≤ 1099511627776 ∧ 0 ≤ lim ∧ 10000 < lim) := by omega
            rcases hcs with ⟨n1, n2, n3, n4, n5⟩ | n1 | ⟨n1, n2⟩ | ⟨n1, n2, n3⟩ | ⟨n1, n2, n3, n4⟩ | ⟨n1, n2, n3, n4, n5⟩
            · have HF : Hid (rq = true) := hid (by rw [HG.out, decide_eq_true ⟨n1, n2, n3⟩, decide_eq_true ⟨n4, n5⟩]; rfl)
              clear HG
              go_wp2_with (go_at_call 62; refine (hGd _).mono ?_; rintro e w3 ⟨rfl, rfl⟩; clear hGd)
              go_ret
              exact ⟨by rw [HF.out]; first | rfl | (simp; omega), bt⟩
            all_goals
              have HF : Hid (rq = false) := hid (by rw [HG.out]; simp only [Bool.and_eq_false_iff, decide_eq_false_iff_not]; omega)
              clear HG
              go_wp2_with (go_at_call 62; refine (hGd _).mono ?_; rintro e w3 ⟨rfl, rfl⟩; clear hGd)
              go_ret
              exact ⟨by rw [HF.out]; first | rfl | (simp; omega), bt⟩
        · have HF : Hid (rq = false) := hid (by rw [HQ2.out, decide_eq_false h1]; simp)
          clear HQ2
          go_wp2_with fail
          go_ret
          exact ⟨by rw [HF.out]; rfl, bt⟩
      · have HF : Hid (rq = false) := hid (by rw [HQ2.out, decide_eq_false h8]; simp)
        clear HQ2
        go_wp2_with fail
        go_ret
        exact ⟨by rw [HF.out]; rfl, bt⟩
end Go.Proofs.YtlhodanpfpfodaaGreatDoor
namespace Go.Proofs.YtlhodanpfpfodaaGreatDoor
open Go.RowKit Go.Icz
set_option maxHeartbeats 8000000 in
set_option maxRecDepth 100000 in
theorem Same_is (v0 v1 : Value) (q : Qy) (w : World) (h0 : KM.Rd w v0 q.ms) (h1 : KR.Rd w v1 q.ms) (hm : q.ms.length ≤ 1099511627776) :
    Calls Tryz.prog 29 #[qryV v0 q, qryV v1 q] w fun e w' => e = .returned (.bool true) ∧ Below w.heap.size w w' := by
  obtain ⟨A, c, rfl, hc⟩ := h0.form
  obtain ⟨A1, c1, rfl, hc1⟩ := h1.form
  obtain ⟨ms, has, fr, upt, lim, nw⟩ := q
  simp only [] at h0 h1 hm hc hc1
  unfold qryV
  simp only []
  have ra := (heap_alloc_old (w.alloc (.cells #[.slice A ms.length c, .string ⟨has.toArray⟩, .int .i64 fr, .int .i64 upt, .int .i64 lim, .bool nw] 40)) (.cells #[.slice A1 ms.length c1, .string ⟨has.toArray⟩, .int .i64 fr, .int .i64 upt, .int .i64 lim, .bool nw] 37) (by simp)).trans (heap_alloc_new w (.cells #[.slice A ms.length c, .string ⟨has.toArray⟩, .int .i64 fr, .int .i64 upt, .int .i64 lim, .bool nw] 40))
  have rb := heap_alloc_new (w.alloc (.cells #[.slice A ms.length c, .string ⟨has.toArray⟩, .int .i64 fr, .int .i64 upt, .int .i64 lim, .bool nw] 40)) (.cells #[.slice A1 ms.length c1, .string ⟨has.toArray⟩, .int .i64 fr, .int .i64 upt, .int .i64 lim, .bool nw] 37)
  have bb : Below w.heap.size w ((w.alloc (.cells #[.slice A ms.length c, .string ⟨has.toArray⟩, .int .i64 fr, .int .i64 upt, .int .i64 lim, .bool nw] 40)).alloc (.cells #[.slice A1 ms.length c1, .string ⟨has.toArray⟩, .int .i64 fr, .int .i64 upt, .int .i64 lim, .bool nw] 37)) := ((Below.refl _ w).alloc (Nat.le_refl _) _).alloc (by simp) _
  rw [show (w.alloc (.cells #[.slice A ms.length c, .string ⟨has.toArray⟩, .int .i64 fr, .int .i64 upt, .int .i64 lim, .bool nw] 40)).heap.size = w.heap.size + 1 by simp] at rb
  go_enter Tryz.func29, Tryz.ntmps29
  go_wp2_with fail
  generalize (w.alloc (.cells #[.slice A ms.length c, .string ⟨has.toArray⟩, .int .i64 fr, .int .i64 upt, .int .i64 lim, .bool nw] 40)).alloc (.cells #[.slice A1 ms.length c1, .string ⟨has.toArray⟩, .int .i64 fr, .int .i64 upt, .int .i64 lim, .bool nw] 37) = W1 at *
  have za := (Array.getElem?_eq_some_iff.1 ra).1
  have zb := (Array.getElem?_eq_some_iff.1 rb).1
  go_loopw [5] (fun iv wr => ∃ i : Nat, iv = .int .i64 i ∧ i ≤ ms.length ∧ Below W1.heap.size W1 wr) (fun iv _ => ms.length - (intOf iv).toNat)
  case atStart => exact ⟨0, rfl, by omega, Below.refl _ _⟩
  case round =>
    obtain ⟨i, rfl, hi, hbw⟩ := hrel
    obtain ⟨q0, q1, q2, q3, q4, q5⟩ := six_cells ((hbw.block _ za).trans ra)
    obtain ⟨p0, p1, p2, p3, p4, p5⟩ := six_cells ((hbw.block _ zb).trans rb)
    have bt : Below w.heap.size w wr := bb.trans (hbw.mono bb.size)
    by_cases hlt : i < ms.length
    · obtain ⟨b, off, rfl, hb, c0, c1', c2⟩ := KM_at h0 hlt
      obtain ⟨b2, off2, rfl, hb2, d0, d1, d2⟩ := KR_at h1 hlt
      rw [← bt.cell (p := ⟨b, off + i * 3, none⟩) hb] at c0
      rw [← bt.cell (p := ⟨b, off + i * 3 + 1, none⟩) hb] at c1'
      rw [← bt.cell (p := ⟨b, off + i * 3 + 2, none⟩) hb] at c2
      rw [← bt.cell (p := ⟨b2, off2 + i * 3, none⟩) hb2] at d0
      rw [← bt.cell (p := ⟨b2, off2 + i * 3 + 1, none⟩) hb2] at d1
      rw [← bt.cell (p := ⟨b2, off2 + i * 3 + 2, none⟩) hb2] at d2
      clear h0 h1 ra rb q1 q2 q3 q4 q5 p1 p2 p3 p4 p5
      generalize ms[i] = x at *
      obtain ⟨nm, op, vl⟩ := x
      simp only [] at c0 c1' c2 d0 d1 d2
      go_wp2_with fail
      have hk : (wr.drew.cell? ⟨w.heap.size, 0, none⟩ = some (.slice (some ⟨b, off, none⟩) ms.length c) ∧ wr.drew.cell? ⟨w.heap.size + 1, 0, none⟩ = some (.slice (some ⟨b2, off2, none⟩) ms.length c1) ∧ wr.drew.cell? ⟨b, off + i * 3, none⟩ = some (.string ⟨nm.toArray⟩) ∧ wr.drew.cell? ⟨b, off + i * 3 + 1, none⟩ = some (.int .i64 op) ∧ wr.drew.cell? ⟨b, off + i * 3 + 2, none⟩ = some (.string ⟨vl.toArray⟩)) ∧ wr.drew.cell? ⟨b2, off2 + i * 3, none⟩ = some (.string ⟨nm.toArray⟩) ∧ wr.drew.cell? ⟨b2, off2 + i * 3 + 1, none⟩ = some (.int .i64 op) ∧ wr.drew.cell? ⟨b2, off2 + i * 3 + 2, none⟩ = some (.string ⟨vl.toArray⟩) := ⟨⟨q0, p0, c0, c1', c2⟩, d0, d1, d2⟩
      go_region_held3 (fun w' => (w'.cell? ⟨w.heap.size, 0, none⟩ = some (.slice (some ⟨b, off, none⟩) ms.length c) ∧ w'.cell? ⟨w.heap.size + 1, 0, none⟩ = some (.slice (some ⟨b2, off2, none⟩) ms.length c1) ∧ w'.cell? ⟨b, off + i * 3, none⟩ = some (.string ⟨nm.toArray⟩) ∧ w'.cell? ⟨b, off + i * 3 + 1, none⟩ = some (.int .i64 op) ∧ w'.cell? ⟨b, off + i * 3 + 2, none⟩ = some (.string ⟨vl.toArray⟩)) ∧ w'.cell? ⟨b2, off2 + i * 3, none⟩ = some (.string ⟨nm.toArray⟩) ∧ w'.cell? ⟨b2, off2 + i * 3 + 1, none⟩ = some (.int .i64 op) ∧ w'.cell? ⟨b2, off2 + i * 3 + 2, none⟩ = some (.string ⟨vl.toArray⟩)) (exact hk) (fail)
      all_goals
        go_wp2_with fail
        go_roundw
        case rel => exact ⟨i + 1, by go_num, by omega, hbw.drew⟩
        case measure => simp [intOf]; omega
    · clear h0 h1
      go_wp2_with fail
      go_ret
      exact ⟨rfl, bt⟩
end Go.Proofs.YtlhodanpfpfodaaGreatDoor
namespace Go.Proofs.YtlhodanpfpfodaaGreatDoor
open Go.ChangeMaps Go.ChangeShapes Go.WideShapes Go.ChangeAt Go.RowKit Go.Icz Go.Joins Go.Deep
theorem cellsRM : Tryz.prog.cellsOf 63 = 3 := by kernel_rfl
theorem cellsRQ : Tryz.prog.cellsOf 37 = 6 := by kernel_rfl
theorem cellsRMs : Tryz.prog.cellsOf 35 = 1 := by kernel_rfl
theorem cellsInt : Tryz.prog.cellsOf 3 = 1 := by kernel_rfl
theorem cellsBool : Tryz.prog.cellsOf 4 = 1 := by kernel_rfl
theorem slice_form {H : Type} {enc : TypeId × Value → H} {P : Program} {w : World} {base : Nat} {spare : Nat → Bool} {held : Bool} {n : Nat} {t e : TypeId} {c : Value} {y : DataW H × List MemPlace} (ht : P.underlying t = some (.slice e)) (h : DataW.trod enc P w base spare held n t [c] = some y) : ∃ A m k, c = .slice A m k := by
  rcases open_slice ht h with ⟨hcs, _⟩ | ⟨x, ln, cp, m, k, D, Pl, hcs, _⟩
  · simp only [List.cons.injEq, and_true] at hcs
    exact ⟨none, 0, 0, hcs⟩
  · simp only [List.cons.injEq, and_true] at hcs
    exact ⟨_, _, _, hcs⟩
set_option maxRecDepth 100000 in
theorem rmatch_of {H : Type} {enc : TypeId × Value → H} {W : World} {base : Nat} {spare : Nat → Bool} {held : Bool} {fuel : Nat} {cs : List Value} {y : DataW H × List MemPlace} (h : DataW.trod enc Tryz.prog W base spare held fuel 63 cs = some y) (hl : cs.length = 3) :
    ∃ m : Mt, cs = [.string ⟨m.name.toArray⟩, .int .i64 m.op, .string ⟨m.val.toArray⟩] ∧ y.1 = .agg [.lit (.string m.name), .lit (.int .i64 m.op), .lit (.string m.val)] := by
  obtain ⟨xs, n, _, hx, _, hlen, hf⟩ := DataW.trod_struct Tryz.underlying63 h
  match cs, hl, xs, hlen with
  | [c0, c1, c2], _, [y0, y1, y2], _ =>
    have g0 : DataW.trod enc Tryz.prog W base spare held n 9 [c0] = some y0 := by simpa [cells9, Value.cells] using hf 0 _ rfl
    have g1 : DataW.trod enc Tryz.prog W base spare held n 3 [c1] = some y1 := by simpa [cellsInt, Value.cells] using hf 1 _ rfl
    have g2 : DataW.trod enc Tryz.prog W base spare held n 9 [c2] = some y2 := by simpa [cells9, Value.cells] using hf 2 _ rfl
    obtain ⟨s0, e0, x0, _⟩ := DataW.trod_string Tryz.underlying9 g0
    obtain ⟨a1, e1, x1, _⟩ := DataW.trod_int Tryz.underlying3 g1
    obtain ⟨s2, e2, x2, _⟩ := DataW.trod_string Tryz.underlying9 g2
    simp only [List.cons.injEq, and_true] at e0 e1 e2
    subst e0 e1 e2 x0 x1 x2 hx
    exact ⟨⟨s0.data.toList, a1, s2.data.toList⟩, rfl, rfl⟩
set_option maxRecDepth 100000 in
theorem open_rms {H : Type} {enc : TypeId × Value → H} {W : World} {c : Value} {n : Nat} {y : DataW H × List MemPlace} (h : DataW.trod enc Tryz.prog W 0 (fun _ => true) true n 35 [c] = some y) (hb : Rows.uptoBulk y.1 ≤ 1048576) :
    ∃ l : List Mt, KR.Rd W c l ∧ l.length ≤ 1048576 ∧ ∀ m ∈ l, m.name.length ≤ 1048576 ∧ m.val.length ≤ 1048576 := by
  rcases open_slice Tryz.underlying35 h with ⟨hcs, hx⟩ | ⟨x, ln, cp, m, k, D, Pl, hcs, _, hl, hm, hmm, hx, hall⟩
  · simp only [List.cons.injEq, and_true] at hcs
    subst hcs
    exact ⟨[], Kd.Rd.nil _, by simp, by simp⟩
  · simp only [List.cons.injEq, and_true] at hcs
    subst hcs
    simp only [if_true] at hmm
    subst hmm
    subst hx
    have each : ∀ i, i < m → ∃ y : Mt, (W.cell? (x.add (i * 3)) = some (.string ⟨y.name.toArray⟩) ∧ W.cell? (x.add (i * 3 + 1)) = some (.int .i64 y.op) ∧ W.cell? (x.add (i * 3 + 2)) = some (.string ⟨y.val.toArray⟩)) ∧ D i = .agg [.lit (.string y.name), .lit (.int .i64 y.op), .lit (.string y.val)] := by
      intro i hi
      obtain ⟨cs', h1, h2⟩ := hall i hi
      rw [cellsRM] at h1
      obtain ⟨_, hlen, hcell⟩ := World.cells?_some h1
      obtain ⟨y, hcs, hD⟩ := rmatch_of h2 hlen
      subst hcs
      have c0 := hcell 0 (by omega)
      have c1 := hcell 1 (by omega)
      have c2 := hcell 2 (by omega)
      rw [Go.Deep.add_add] at c0 c1 c2
      exact ⟨y, ⟨by simpa using c0, by simpa using c1, by simpa using c2⟩, hD⟩
    haveI : Inhabited Mt := ⟨⟨[], 0, []⟩⟩
    obtain ⟨Y, hY⟩ := Go.Deep.choose_lt each
    have hlen : ((List.range ln).map Y).length = ln := by simp
    have hsm : ∀ l : List Nat, (∀ i ∈ l, i < m) → l.length ≤ Rows.uptoBulkAll (l.map D) ∧ ∀ i ∈ l, (Y i).name.length + (Y i).val.length ≤ Rows.uptoBulkAll (l.map D) := by
      intro l
      induction l with
      | nil => intro _; simp [Rows.uptoBulkAll]
      | cons i t ih =>
        intro hi
        obtain ⟨i1, i2⟩ := ih fun j hj => hi j (by simp [hj])
        have hd := (hY i (hi i (by simp))).2
        simp only [List.map_cons, Rows.uptoBulkAll, List.length_cons]
        rw [hd]
        simp only [Rows.uptoBulk, Rows.uptoBulkAll]
        refine ⟨by omega, fun j hj => ?_⟩
        rcases List.mem_cons.1 hj with rfl | hj
        · omega
        · have := i2 j hj
          omega
    obtain ⟨s1, s2⟩ := hsm (List.range ln) (fun i hi => by have := List.mem_range.1 hi; omega)
    simp only [Rows.uptoBulk] at hb
    rw [List.length_range] at s1
    refine ⟨(List.range ln).map Y, ⟨some x, m, by rw [hlen], by rw [hlen]; exact hl, fun h0 => ?_⟩, by rw [hlen]; omega, fun y hy => ?_⟩
    · rw [hlen] at h0
      obtain ⟨b, off, spot⟩ := x
      have hc0 := (hY 0 (by omega)).1.1
      have hspot : spot = none := by simpa [Addr.add] using World.cell?_spot hc0
      subst hspot
      refine ⟨b, off, rfl, World.block_lt_of_cell? W _ (by simpa [Addr.add] using hc0), fun j u hj => ?_⟩
      have hjl : j < ln * 3 := by
        have := (List.getElem?_eq_some_iff.1 hj).1
        rw [Kd.cells_len, hlen] at this
        exact this
      have hq : j / 3 < ((List.range ln).map Y).length := by rw [hlen]; omega
      have hg := KR.cells_get ((List.range ln).map Y) (j / 3) hq (j % 3) (by show j % 3 < 3; omega)
      have ej : j / 3 * KR.z + j % 3 = j := by show j / 3 * 3 + j % 3 = j; omega
      rw [ej, hj, List.getElem_map, List.getElem_range] at hg
      obtain ⟨k0, k1, k2⟩ := (hY (j / 3) (by omega)).1
      rw [add_flat] at k0 k1 k2
      rcases (by omega : j % 3 = 0 ∨ j % 3 = 1 ∨ j % 3 = 2) with h3 | h3 | h3
      · rw [h3] at hg
        have e : u = .string ⟨(Y (j / 3)).name.toArray⟩ := Option.some.inj hg
        rw [e, show off + j = off + j / 3 * 3 by omega]
        exact k0
      · rw [h3] at hg
        have e : u = .int .i64 (Y (j / 3)).op := Option.some.inj hg
        rw [e, show off + j = off + (j / 3 * 3 + 1) by omega]
        exact k1
      · rw [h3] at hg
        have e : u = .string ⟨(Y (j / 3)).val.toArray⟩ := Option.some.inj hg
        rw [e, show off + j = off + (j / 3 * 3 + 2) by omega]
        exact k2
    · obtain ⟨i, hi, rfl⟩ := List.mem_map.1 hy
      have := s2 i hi
      omega
set_option maxRecDepth 100000 in
theorem open_rq {H : Type} {enc : TypeId × Value → H} {W : World} {r : Reach} {b0 : Nat} {v : Value} {d : DataW H} {p : List MemPlace} (hv : Value.okWide Tryz.prog W r b0 37 v) (h : DataW.Trod enc Tryz.prog W 0 (fun _ => true) true 37 v d p) (hb : Rows.uptoBulk d ≤ 1048576) :
    ∃ (v0 : Value) (q : Qy), v = qryV v0 q ∧ KR.Rd W v0 q.ms ∧ q.ms.length ≤ 1048576 ∧ (∀ m ∈ q.ms, m.name.length ≤ 1048576 ∧ m.val.length ≤ 1048576) ∧ q.has.length ≤ 1048576 := by
  have hs := Tryz.underlying37
  obtain ⟨cs, rfl, hsz⟩ := okWide_struct hs hv
  have hsz := hsz.trans cellsRQ
  obtain ⟨l⟩ := cs
  match l, hsz with
  | [c0, c1, c2, c3, c4, c5], _ =>
    obtain ⟨fuel, hf⟩ := h
    obtain ⟨xs, n, _, hx, hl, hlen, hf⟩ := DataW.trod_struct hs hf
    match xs, hlen with
    | [y0, y1, y2, y3, y4, y5], _ =>
      have g0 : DataW.trod enc Tryz.prog W 0 (fun _ => true) true n 35 [c0] = some y0 := by simpa [cellsRMs, Value.cells] using hf 0 _ rfl
      have g1 : DataW.trod enc Tryz.prog W 0 (fun _ => true) true n 9 [c1] = some y1 := by simpa [cells9, Value.cells] using hf 1 _ rfl
      have g2 : DataW.trod enc Tryz.prog W 0 (fun _ => true) true n 3 [c2] = some y2 := by simpa [cellsInt, Value.cells] using hf 2 _ rfl
      have g3 : DataW.trod enc Tryz.prog W 0 (fun _ => true) true n 3 [c3] = some y3 := by simpa [cellsInt, Value.cells] using hf 3 _ rfl
      have g4 : DataW.trod enc Tryz.prog W 0 (fun _ => true) true n 3 [c4] = some y4 := by simpa [cellsInt, Value.cells] using hf 4 _ rfl
      have g5 : DataW.trod enc Tryz.prog W 0 (fun _ => true) true n 4 [c5] = some y5 := by simpa [cellsBool, Value.cells] using hf 5 _ rfl
      simp only [Prod.mk.injEq] at hx
      obtain ⟨hd, _⟩ := hx
      subst hd
      simp only [List.map_cons, List.map_nil, Rows.uptoBulk, Rows.uptoBulkAll] at hb
      obtain ⟨ms, hR, m1, m2⟩ := open_rms g0 (by omega)
      obtain ⟨s1, e1, x1, z1⟩ := DataW.trod_string Tryz.underlying9 g1
      obtain ⟨a2, e2, _, _⟩ := DataW.trod_int Tryz.underlying3 g2
      obtain ⟨a3, e3, _, _⟩ := DataW.trod_int Tryz.underlying3 g3
      obtain ⟨a4, e4, _, _⟩ := DataW.trod_int Tryz.underlying3 g4
      obtain ⟨a5, e5, _⟩ := DataW.trod_bool Tryz.underlying4 g5
      simp only [List.cons.injEq, and_true] at e1 e2 e3 e4 e5
      subst e1 e2 e3 e4 e5 x1
      simp only [Rows.uptoBulk] at hb
      exact ⟨c0, ⟨ms, s1.data.toList, a2, a3, a4, a5⟩, rfl, hR, m1, m2, by simp only; omega⟩
end Go.Proofs.YtlhodanpfpfodaaGreatDoor
