/-
  The walk of MatcherTimes. Conditions: sizes; the program's tables are in place.
  An entry that came in by value, opened. Condition: its bulk.
  MatcherTimes: whatever the query, the number and the entry, the law returns true. Conditions: those of the given statement (what is read is of bulk at most 1048576; the listed variables are as the program lays them).
-/
import Derived.Test.YtlhodanpfpfodaaGreatDoorMFit
import Derived.Test.YtlhodanpfpfodaaGreatDoorMQrS
import Derived.Test.YtlhodanpfpfodaaGreatDoorMTwoM
import Derived.Test.YtlhodanpfpfodaaGreatDoorMTab
import Derived.Deep.RegionLaw
import Derived.Deep.RegionHeld3
import Derived.Test.YtlhodanpfpfodaaGreatDoorBulk
namespace Go.Proofs.YtlhodanpfpfodaaGreatDoor
open Go.RowKit Go.Icz
/-- Take number i first: its temporary is told. -/
theorem takeAt {P : Program} {ops : Array Oper} {Q : Exit → Act → World → Prop} {md : Region.Mode} {S : World → Prop} {i : Nat} {d : Tmp} {oi : Oper} {v : Value} {fuel : Nat} {listed : Array Bool} {a : Act} {w : World} (hi : ops[i]? = some oi) (hd : oi.dst = some d)
    (hs : Region.noSelect ops = true) (hf : Region.free md ops listed i = true) (hr : (Region.ready md ops listed).contains i = true)
    (hQ : ∀ c a w, Q (.panic c) (a.put oi.dst v) w → Q (.panic c) a w) (hy : YieldsIf P ops S oi v a) (hS : S w)
    (h : wpAnyH P md ops Q S fuel (listed.setIfInBounds i true) { tmps := a.tmps.setIfInBounds d v, defers := a.defers } w) : wpAnyH P md ops Q S (fuel + 1) listed a w := by
  refine wpAnyH_take hi hs hf hr hQ hy hS ?_
  rw [hd]
  exact h

theorem RdL_at' {w : World} {A : Option Addr} {n c : Nat} {l : List Lab} (h : RdL w (.slice A n c) l) {j : Nat} (hj : j < l.length) :
    ∃ b off, A = some ⟨b, off, none⟩ ∧ b < w.heap.size ∧ w.cell? ⟨b, off + j * 2 + 1, none⟩ = some (.string ⟨(l[j]).2.toArray⟩) := by
  obtain ⟨A', c', hv, hc, hr⟩ := h
  injection hv with e1 e2 e3
  subst e1 e2 e3
  obtain ⟨b, off, hA, hlt, hcell⟩ := hr (by omega)
  exact ⟨b, off, hA, hlt, (hcell j hj).2⟩
theorem times_math {ms : List Mt} {has : B8} {fr upt lim : Int} {nw : Bool} {mid tm : Int} {l : List Lab} {line : B8} (hr : rightQ ⟨ms, has, fr, upt, lim, nw⟩ = true) (h1 : fr ≤ mid) (h2 : mid ≤ upt) :
    takesS ⟨ms, has, fr, upt, lim, nw⟩ tm l line = (takesS ⟨ms, has, fr, mid, lim, nw⟩ tm l line || takesS ⟨ms, has, mid, upt, lim, nw⟩ tm l line) ∧ (takesS ⟨ms, has, fr, mid, lim, nw⟩ tm l line && takesS ⟨ms, has, mid, upt, lim, nw⟩ tm l line) = false := by
  have hr0 := hr
  simp only [rightQ, timesQ, Bool.and_eq_true, decide_eq_true_eq] at hr0
  have ra : rightQ ⟨ms, has, fr, mid, lim, nw⟩ = true := by
    simp only [rightQ, timesQ, Bool.and_eq_true, decide_eq_true_eq]
    refine ⟨⟨hr0.1.1, ?_⟩, hr0.2⟩
    have := hr0.1.2
    omega
  have rb : rightQ ⟨ms, has, mid, upt, lim, nw⟩ = true := by
    simp only [rightQ, timesQ, Bool.and_eq_true, decide_eq_true_eq]
    refine ⟨⟨hr0.1.1, ?_⟩, hr0.2⟩
    have := hr0.1.2
    omega
  unfold takesS
  rw [hr, ra, rb]
  simp only [Bool.true_and]
  generalize fitsS ms l = fb
  generalize Lib.contains line has = cb
  by_cases a1 : fr ≤ tm <;> by_cases a2 : tm < upt <;> by_cases a3 : tm < mid <;> by_cases a4 : mid ≤ tm <;> cases fb <;> cases cb <;> simp [a1, a2, a3, a4] <;> omega
set_option maxHeartbeats 8000000 in
set_option maxRecDepth 100000 in
theorem MatcherTimes_walk (v0 v1 : Value) (q : Qy) (mid sq tm : Int) (l : List Lab) (line : B8) (w : World) (hR : KR.Rd w v0 q.ms) (h1 : RdL w v1 l) (hm : q.ms.length ≤ 1048576) (hz : ∀ m ∈ q.ms, m.name.length ≤ 1048576 ∧ m.val.length ≤ 1048576) (hh : q.has.length ≤ 1048576) (hl : l.length ≤ 1048576) (hll : ∀ x ∈ l, x.1.length ≤ 1048576 ∧ x.2.length ≤ 1048576) (hln : line.length ≤ 1048576) (hT : TabsM w) (hX : MaxAt w) (h9 : 9 ≤ w.heap.size) :
    Calls Tryz.prog 9 #[qryV v0 q, .int .i64 mid, entV sq tm v1 line] w fun e w' => e = .returned (.bool true) ∧ Below w.heap.size w w' := by
  obtain ⟨A, c, rfl, hc⟩ := hR.form
  obtain ⟨A1, c1, rfl, hc1⟩ := (show ∃ A c, v1 = .slice A l.length c ∧ l.length ≤ c by obtain ⟨A, c, h, h', _⟩ := h1; exact ⟨A, c, h, h'⟩)
  have hg : ∀ n : B8, (getS n l).1.length ≤ 1048576 := fun n => getS_len 1048576 n l fun x hx => (hll x hx).2
  have hK := fun w1 (hb : Below w.heap.size w w1) => knows6_is w1 (hT.below hb) (Nat.le_trans h9 hb.size)
  have hRi := fun w1 (hb : Below w.heap.size w w1) => R6Right_is _ q w1 (hR.below hb) (by omega) (fun m h => by have := hz m h; omega) (by omega)
  obtain ⟨ms, has, fr, upt, lim, nw⟩ := q
  simp only [] at hR hm hz hh hc hRi
  have hL := fun (s t : B8) w1 (hs : s.length ≤ 1048576) (ht : t.length ≤ 1048576) => Long_is ⟨s.toArray⟩ ⟨t.toArray⟩ w1 (by rw [Lib.size_mk]; omega) (by rw [Lib.size_mk]; omega)
  have hL0 := fun w1 => hL has line w1 hh hln
  have hQ := fun (f u : Int) w1 (hb : Below w.heap.size w w1) => Query_is (.slice A ms.length c) ⟨ms, has, f, u, lim, nw⟩ w1 (hR.below hb) (by show ms.length ≤ _; omega)
  have hTk := fun (f u : Int) v w1 (h : KM.Rd w1 v ms) (hb : Below w.heap.size w w1) => Takes_is v _ ⟨ms, has, f, u, lim, nw⟩ sq tm l line w1 h (h1.below hb) hm hz hh hl hll hln hg (hT.below hb) (hX.below h9 hb) (Nat.le_trans h9 hb.size)
  unfold qryV entV at *
  simp only [] at *
  have ra := (heap_alloc_old (w.alloc (.cells #[.slice A ms.length c, .string ⟨has.toArray⟩, .int .i64 fr, .int .i64 upt, .int .i64 lim, .bool nw] 37)) (.cells #[.int .i64 sq, .int .i64 tm, .slice A1 l.length c1, .string ⟨line.toArray⟩] 62) (by simp)).trans (heap_alloc_new w (.cells #[.slice A ms.length c, .string ⟨has.toArray⟩, .int .i64 fr, .int .i64 upt, .int .i64 lim, .bool nw] 37))
  have rb := heap_alloc_new (w.alloc (.cells #[.slice A ms.length c, .string ⟨has.toArray⟩, .int .i64 fr, .int .i64 upt, .int .i64 lim, .bool nw] 37)) (.cells #[.int .i64 sq, .int .i64 tm, .slice A1 l.length c1, .string ⟨line.toArray⟩] 62)
  have bb : Below w.heap.size w ((w.alloc (.cells #[.slice A ms.length c, .string ⟨has.toArray⟩, .int .i64 fr, .int .i64 upt, .int .i64 lim, .bool nw] 37)).alloc (.cells #[.int .i64 sq, .int .i64 tm, .slice A1 l.length c1, .string ⟨line.toArray⟩] 62)) := ((Below.refl _ w).alloc (Nat.le_refl _) _).alloc (by simp) _
  rw [show (w.alloc (.cells #[.slice A ms.length c, .string ⟨has.toArray⟩, .int .i64 fr, .int .i64 upt, .int .i64 lim, .bool nw] 37)).heap.size = w.heap.size + 1 by simp] at rb
  have za := (Array.getElem?_eq_some_iff.1 ra).1
  have zb := (Array.getElem?_eq_some_iff.1 rb).1
  have hcs : (rightQ ⟨ms, has, fr, upt, lim, nw⟩ = true ∧ fr ≤ mid ∧ mid ≤ upt) ∨ rightQ ⟨ms, has, fr, upt, lim, nw⟩ = false ∨ (rightQ ⟨ms, has, fr, upt, lim, nw⟩ = true ∧ mid < fr) ∨ (rightQ ⟨ms, has, fr, upt, lim, nw⟩ = true ∧ fr ≤ mid ∧ upt < mid) := by
    cases rightQ ⟨ms, has, fr, upt, lim, nw⟩
    · exact .inr (.inl rfl)
    · simp only [true_and]; omega
  have HM := fun (h : rightQ ⟨ms, has, fr, upt, lim, nw⟩ = true) (a : fr ≤ mid) (b : mid ≤ upt) => times_math (tm := tm) (l := l) (line := line) h a b
  generalize rightQ ⟨ms, has, fr, upt, lim, nw⟩ = rq at *
  go_enter Tryz.func9, Tryz.ntmps9
  go_wp2_with fail
  generalize (w.alloc (.cells #[.slice A ms.length c, .string ⟨has.toArray⟩, .int .i64 fr, .int .i64 upt, .int .i64 lim, .bool nw] 37)).alloc (.cells #[.int .i64 sq, .int .i64 tm, .slice A1 l.length c1, .string ⟨line.toArray⟩] 62) = W1 at *
  obtain ⟨q0, q1, q2, q3, q4, q5⟩ := six_cells ra
  obtain ⟨p0, p1, p2, p3⟩ := four_cells rb
  rcases hcs with ⟨rfl, k1, k2⟩ | rfl | ⟨rfl, k1⟩ | ⟨rfl, k1, k2⟩
  · have HM2 := HM rfl k1 k2
    clear HM
    generalize hlb : longB (⟨has.toArray⟩ : ByteArray).size (⟨line.toArray⟩ : ByteArray).size = lb at *
    cases lb with
    | true =>
      clear HM2 hL hQ hTk
      go_wp2_with (first
        | (go_at_call 26; refine (hRi _ bb).mono ?_; rintro e w2 ⟨rfl, b2⟩; clear hRi q0 q1 q2 q3 q4 q5 p0 p1 p2 p3; have bt2 := bb.trans (b2.mono bb.size); have ra2 := (b2.block _ za).trans ra; have rb2 := (b2.block _ zb).trans rb; obtain ⟨q0, q1, q2, q3, q4, q5⟩ := six_cells ra2; obtain ⟨p0, p1, p2, p3⟩ := four_cells rb2)
        | (go_at_call 18; refine (hL0 _).mono ?_; rintro e w4 ⟨rfl, b4⟩; clear hL0; have bt4 := bt2.trans (b4.mono bt2.size))
        | (go_at_call 19; refine (hK _ bt4).mono ?_; rintro e w3 ⟨rfl, b3⟩; clear hK))
      go_ret
      exact ⟨rfl, bt4.trans (b3.mono bt4.size)⟩
    | false =>
      go_wp2_with (first
        | (go_at_call 26; refine (hRi _ bb).mono ?_; rintro e w2 ⟨rfl, b2⟩; clear hRi q0 q1 q2 q3 q4 q5 p0 p1 p2 p3; have bt2 := bb.trans (b2.mono bb.size); have ra2 := (b2.block _ za).trans ra; have rb2 := (b2.block _ zb).trans rb; obtain ⟨q0, q1, q2, q3, q4, q5⟩ := six_cells ra2; obtain ⟨p0, p1, p2, p3⟩ := four_cells rb2)
        | (go_at_call 18; refine (hL0 _).mono ?_; rintro e w4 ⟨rfl, b4⟩; clear hL0; have bt4 := bt2.trans (b4.mono bt2.size); have b24 := b2.trans (b4.mono b2.size)))
      clear q0 q1 q2 q3 q4 q5 p0 p1 p2 p3 ra2 rb2
      go_loopw [7] (fun iv wr => ∃ i : Nat, iv = .int .i64 i ∧ i ≤ ms.length ∧ Below W1.heap.size W1 wr) (fun iv _ => ms.length - (intOf iv).toNat)
      case atStart => exact ⟨0, rfl, by omega, b24⟩
      case round =>
        obtain ⟨i, rfl, hi, hbw⟩ := hrel
        have bt := bb.trans (hbw.mono bb.size)
        obtain ⟨q0, q1, q2, q3, q4, q5⟩ := six_cells ((hbw.block _ za).trans ra)
        obtain ⟨p0, p1, p2, p3⟩ := four_cells ((hbw.block _ zb).trans rb)
        by_cases hlt : i < ms.length
        · clear HM2 hQ hTk
          go_wp2_with fail
          clear q0 q1 q2 q3 q4 q5 p0 p1 p2 p3
          generalize wr = wo at *
          go_loopw [8] (fun kv wr => ∃ k : Nat, kv = .int .i64 k ∧ k ≤ l.length ∧ Below W1.heap.size W1 wr) (fun kv _ => l.length - (intOf kv).toNat)
          case atStart => exact ⟨0, rfl, by omega, hbw⟩
          case round =>
            clear hbw bt
            obtain ⟨k, rfl, hk, hbw⟩ := hrel
            have bt := bb.trans (hbw.mono bb.size)
            obtain ⟨q0, q1, q2, q3, q4, q5⟩ := six_cells ((hbw.block _ za).trans ra)
            obtain ⟨p0, p1, p2, p3⟩ := four_cells ((hbw.block _ zb).trans rb)
            by_cases hkl : k < l.length
            · obtain ⟨b, off, rfl, hbb, _, _, d2⟩ := KR_at hR hlt
              obtain ⟨b2, off2, rfl, hbb2, e2⟩ := RdL_at' h1 hkl
              rw [← bt.cell (p := ⟨b, off + i * 3 + 2, none⟩) hbb] at d2
              rw [← bt.cell (p := ⟨b2, off2 + k * 2 + 1, none⟩) hbb2] at e2
              have s1 := (hz ms[i] (List.getElem_mem hlt)).2
              have s2 := (hll l[k] (List.getElem_mem hkl)).2
              have zt := bt.size
              have zw := hbw.size
              clear hR h1 hz hll
              generalize (ms[i]).val = va at *
              generalize (l[k]).2 = vb at *
              have hL3 := fun w5 => hL va vb w5 s1 s2
              have mkS : ∀ w' : World, Below wr.heap.size wr w' → Below wr.heap.size wr w' ∧ w'.cell? ⟨w.heap.size, 0, none⟩ = some (.slice (some ⟨b, off, none⟩) ms.length c) ∧ w'.cell? ⟨w.heap.size + 1, 2, none⟩ = some (.slice (some ⟨b2, off2, none⟩) l.length c1) ∧ w'.cell? ⟨b, off + i * 3 + 2, none⟩ = some (.string ⟨va.toArray⟩) ∧ w'.cell? ⟨b2, off2 + k * 2 + 1, none⟩ = some (.string ⟨vb.toArray⟩) := fun w' h =>
                ⟨h, (h.cell (p := ⟨w.heap.size, 0, none⟩) (by show w.heap.size < _; omega)).trans q0, (h.cell (p := ⟨w.heap.size + 1, 2, none⟩) (by show w.heap.size + 1 < _; omega)).trans p2, (h.cell (p := ⟨b, off + i * 3 + 2, none⟩) (by show b < _; omega)).trans d2, (h.cell (p := ⟨b2, off2 + k * 2 + 1, none⟩) (by show b2 < _; omega)).trans e2⟩
              have hk := mkS wr.drew (Below.refl _ wr).drew
              clear q1 q2 q3 q4 q5 p0 p1 p3 hL
              generalize hlb2 : longB (⟨va.toArray⟩ : ByteArray).size (⟨vb.toArray⟩ : ByteArray).size = lb at *
              go_wp2_with fail
              go_region_held3 (fun w' => Below wr.heap.size wr w' ∧ w'.cell? ⟨w.heap.size, 0, none⟩ = some (.slice (some ⟨b, off, none⟩) ms.length c) ∧ w'.cell? ⟨w.heap.size + 1, 2, none⟩ = some (.slice (some ⟨b2, off2, none⟩) l.length c1) ∧ w'.cell? ⟨b, off + i * 3 + 2, none⟩ = some (.string ⟨va.toArray⟩) ∧ w'.cell? ⟨b2, off2 + k * 2 + 1, none⟩ = some (.string ⟨vb.toArray⟩)) (exact hk) ((go_at_call 18; refine (hL3 _).mono ?_; rintro e w5 ⟨rfl, b5⟩; have hk := mkS w5 (hk.1.trans (b5.mono hk.1.size)); clear hL3))
              have bt5 := bt.trans (hk.1.mono bt.size)
              cases lb with
              | true =>
                go_wp2_with (go_at_call 19; refine (hK _ bt5).mono ?_; rintro e w6 ⟨rfl, b6⟩; clear hK)
                go_ret
                exact ⟨rfl, bt5.trans (b6.mono bt5.size)⟩
              | false =>
                go_wp2_with fail
                go_roundw
                case rel => exact ⟨k + 1, by go_num, by omega, hbw.trans (hk.1.mono hbw.size)⟩
                case measure => simp [intOf]; omega
            · go_wp2_with fail
              go_roundw
              case rel => exact ⟨i + 1, by go_num, by omega, hbw⟩
              case measure => simp [intOf]; omega
        · clear hL
          have zq1 : w.heap.size < wr.heap.size := Nat.lt_of_lt_of_le za hbw.size
          have zq2 : w.heap.size + 1 < wr.heap.size := Nat.lt_of_lt_of_le zb hbw.size
          have rqa : ((wr.alloc (.cells #[.slice A ms.length c, .string ⟨has.toArray⟩, .int .i64 fr, .int .i64 mid, .int .i64 lim, .bool nw] 37)).alloc (.cells #[.slice A ms.length c, .string ⟨has.toArray⟩, .int .i64 mid, .int .i64 upt, .int .i64 lim, .bool nw] 37)).heap[wr.heap.size]? = some (.cells #[.slice A ms.length c, .string ⟨has.toArray⟩, .int .i64 fr, .int .i64 mid, .int .i64 lim, .bool nw] 37 (0, 0)) := (heap_alloc_old _ _ (by simp)).trans (heap_alloc_new wr _)
          have rqb : ((wr.alloc (.cells #[.slice A ms.length c, .string ⟨has.toArray⟩, .int .i64 fr, .int .i64 mid, .int .i64 lim, .bool nw] 37)).alloc (.cells #[.slice A ms.length c, .string ⟨has.toArray⟩, .int .i64 mid, .int .i64 upt, .int .i64 lim, .bool nw] 37)).heap[wr.heap.size + 1]? = some (.cells #[.slice A ms.length c, .string ⟨has.toArray⟩, .int .i64 mid, .int .i64 upt, .int .i64 lim, .bool nw] 37 (0, 0)) := by
            have := heap_alloc_new (wr.alloc (.cells #[.slice A ms.length c, .string ⟨has.toArray⟩, .int .i64 fr, .int .i64 mid, .int .i64 lim, .bool nw] 37)) (.cells #[.slice A ms.length c, .string ⟨has.toArray⟩, .int .i64 mid, .int .i64 upt, .int .i64 lim, .bool nw] 37)
            simpa using this
          have bq : Below W1.heap.size W1 ((wr.alloc (.cells #[.slice A ms.length c, .string ⟨has.toArray⟩, .int .i64 fr, .int .i64 mid, .int .i64 lim, .bool nw] 37)).alloc (.cells #[.slice A ms.length c, .string ⟨has.toArray⟩, .int .i64 mid, .int .i64 upt, .int .i64 lim, .bool nw] 37)) := (hbw.alloc hbw.size _).alloc (Nat.le_trans hbw.size (by simp)) _
          have rq0 := (bq.block _ za).trans ra
          have rx := (bq.block _ zb).trans rb
          have bw2 := bb.trans (bq.mono bb.size)
          have hTa := fun v w1 h hb => hTk fr mid v w1 h hb
          have hTb := fun v w1 h hb => hTk mid upt v w1 h hb
          have hTq := fun v w1 h hb => hTk fr upt v w1 h hb
          clear hTk
          generalize takesS ⟨ms, has, fr, upt, lim, nw⟩ tm l line = tq at *
          generalize takesS ⟨ms, has, fr, mid, lim, nw⟩ tm l line = ta at *
          generalize takesS ⟨ms, has, mid, upt, lim, nw⟩ tm l line = tb at *
          go_wp2_with fail
          clear q0 q1 q2 q3 q4 q5 p0 p1 p2 p3
          generalize hW2 : ((wr.alloc (.cells #[.slice A ms.length c, .string ⟨has.toArray⟩, .int .i64 fr, .int .i64 mid, .int .i64 lim, .bool nw] 37)).alloc (.cells #[.slice A ms.length c, .string ⟨has.toArray⟩, .int .i64 mid, .int .i64 upt, .int .i64 lim, .bool nw] 37)) = W2 at *
          clear hW2 bq ra rb
          have mkS1 : ∀ W' : World, Below W2.heap.size W2 W' → Below W2.heap.size W2 W' ∧ (W'.cell? ⟨wr.heap.size, 0, none⟩ = some (.slice A ms.length c) ∧ W'.cell? ⟨wr.heap.size, 1, none⟩ = some (.string ⟨has.toArray⟩) ∧ W'.cell? ⟨wr.heap.size, 2, none⟩ = some (.int .i64 fr) ∧ W'.cell? ⟨wr.heap.size, 3, none⟩ = some (.int .i64 mid) ∧ W'.cell? ⟨wr.heap.size, 4, none⟩ = some (.int .i64 lim) ∧ W'.cell? ⟨wr.heap.size, 5, none⟩ = some (.bool nw)) ∧ W'.cell? ⟨w.heap.size + 1, 0, none⟩ = some (.int .i64 sq) ∧ W'.cell? ⟨w.heap.size + 1, 1, none⟩ = some (.int .i64 tm) ∧ W'.cell? ⟨w.heap.size + 1, 2, none⟩ = some (.slice A1 l.length c1) ∧ W'.cell? ⟨w.heap.size + 1, 3, none⟩ = some (.string ⟨line.toArray⟩) := fun W' h => ⟨h, six_cells ((h.block _ (Array.getElem?_eq_some_iff.1 rqa).1).trans rqa), four_cells ((h.block _ (Array.getElem?_eq_some_iff.1 rx).1).trans rx)⟩
          have mkS2 : ∀ W' : World, Below W2.heap.size W2 W' → Below W2.heap.size W2 W' ∧ (W'.cell? ⟨wr.heap.size + 1, 0, none⟩ = some (.slice A ms.length c) ∧ W'.cell? ⟨wr.heap.size + 1, 1, none⟩ = some (.string ⟨has.toArray⟩) ∧ W'.cell? ⟨wr.heap.size + 1, 2, none⟩ = some (.int .i64 mid) ∧ W'.cell? ⟨wr.heap.size + 1, 3, none⟩ = some (.int .i64 upt) ∧ W'.cell? ⟨wr.heap.size + 1, 4, none⟩ = some (.int .i64 lim) ∧ W'.cell? ⟨wr.heap.size + 1, 5, none⟩ = some (.bool nw)) ∧ W'.cell? ⟨w.heap.size + 1, 0, none⟩ = some (.int .i64 sq) ∧ W'.cell? ⟨w.heap.size + 1, 1, none⟩ = some (.int .i64 tm) ∧ W'.cell? ⟨w.heap.size + 1, 2, none⟩ = some (.slice A1 l.length c1) ∧ W'.cell? ⟨w.heap.size + 1, 3, none⟩ = some (.string ⟨line.toArray⟩) := fun W' h => ⟨h, six_cells ((h.block _ (Array.getElem?_eq_some_iff.1 rqb).1).trans rqb), four_cells ((h.block _ (Array.getElem?_eq_some_iff.1 rx).1).trans rx)⟩
          have mkS3 : ∀ W' : World, Below W2.heap.size W2 W' → Below W2.heap.size W2 W' ∧ (W'.cell? ⟨w.heap.size, 0, none⟩ = some (.slice A ms.length c) ∧ W'.cell? ⟨w.heap.size, 1, none⟩ = some (.string ⟨has.toArray⟩) ∧ W'.cell? ⟨w.heap.size, 2, none⟩ = some (.int .i64 fr) ∧ W'.cell? ⟨w.heap.size, 3, none⟩ = some (.int .i64 upt) ∧ W'.cell? ⟨w.heap.size, 4, none⟩ = some (.int .i64 lim) ∧ W'.cell? ⟨w.heap.size, 5, none⟩ = some (.bool nw)) ∧ W'.cell? ⟨w.heap.size + 1, 0, none⟩ = some (.int .i64 sq) ∧ W'.cell? ⟨w.heap.size + 1, 1, none⟩ = some (.int .i64 tm) ∧ W'.cell? ⟨w.heap.size + 1, 2, none⟩ = some (.slice A1 l.length c1) ∧ W'.cell? ⟨w.heap.size + 1, 3, none⟩ = some (.string ⟨line.toArray⟩) := fun W' h => ⟨h, six_cells ((h.block _ (Array.getElem?_eq_some_iff.1 rq0).1).trans rq0), four_cells ((h.block _ (Array.getElem?_eq_some_iff.1 rx).1).trans rx)⟩
          have hcs2 : (ta = true ∧ tb = false ∧ tq = true) ∨ (ta = false ∧ tb = true ∧ tq = true) ∨ (ta = false ∧ tb = false ∧ tq = false) := by
            obtain ⟨x1, x2⟩ := HM2
            cases ta <;> cases tb <;> simp_all
          clear HM2
          have hK0 := hK
          clear hK
          rcases hcs2 with ⟨rfl, rfl, rfl⟩ | ⟨rfl, rfl, rfl⟩ | ⟨rfl, rfl, rfl⟩
          · have hk := mkS1 W2.drew (Below.refl _ W2).drew
            go_region_held3 (fun W' => Below W2.heap.size W2 W' ∧ (W'.cell? ⟨wr.heap.size, 0, none⟩ = some (.slice A ms.length c) ∧ W'.cell? ⟨wr.heap.size, 1, none⟩ = some (.string ⟨has.toArray⟩) ∧ W'.cell? ⟨wr.heap.size, 2, none⟩ = some (.int .i64 fr) ∧ W'.cell? ⟨wr.heap.size, 3, none⟩ = some (.int .i64 mid) ∧ W'.cell? ⟨wr.heap.size, 4, none⟩ = some (.int .i64 lim) ∧ W'.cell? ⟨wr.heap.size, 5, none⟩ = some (.bool nw)) ∧ W'.cell? ⟨w.heap.size + 1, 0, none⟩ = some (.int .i64 sq) ∧ W'.cell? ⟨w.heap.size + 1, 1, none⟩ = some (.int .i64 tm) ∧ W'.cell? ⟨w.heap.size + 1, 2, none⟩ = some (.slice A1 l.length c1) ∧ W'.cell? ⟨w.heap.size + 1, 3, none⟩ = some (.string ⟨line.toArray⟩)) (exact hk)
              (first
                | (go_at_call 22; refine (hQ (fr) (mid) _ (bw2.trans (hk.1.mono bw2.size))).mono ?_; rintro e w5 ⟨vw5, rfl, ow5, bw5⟩; have hk := mkS1 w5 (hk.1.trans (bw5.mono hk.1.size)))
                | (go_at_call 32; refine (hTa _ _ ow5.rd (bw2.trans (hk.1.mono bw2.size))).mono ?_; rintro e w6 ⟨rfl, bw6⟩; have hk := mkS1 w6 (hk.1.trans (bw6.mono hk.1.size))))
            have hk := mkS2 w6.drew hk.1.drew
            go_wp2_with fail
            go_region_held3 (fun W' => Below W2.heap.size W2 W' ∧ (W'.cell? ⟨wr.heap.size + 1, 0, none⟩ = some (.slice A ms.length c) ∧ W'.cell? ⟨wr.heap.size + 1, 1, none⟩ = some (.string ⟨has.toArray⟩) ∧ W'.cell? ⟨wr.heap.size + 1, 2, none⟩ = some (.int .i64 mid) ∧ W'.cell? ⟨wr.heap.size + 1, 3, none⟩ = some (.int .i64 upt) ∧ W'.cell? ⟨wr.heap.size + 1, 4, none⟩ = some (.int .i64 lim) ∧ W'.cell? ⟨wr.heap.size + 1, 5, none⟩ = some (.bool nw)) ∧ W'.cell? ⟨w.heap.size + 1, 0, none⟩ = some (.int .i64 sq) ∧ W'.cell? ⟨w.heap.size + 1, 1, none⟩ = some (.int .i64 tm) ∧ W'.cell? ⟨w.heap.size + 1, 2, none⟩ = some (.slice A1 l.length c1) ∧ W'.cell? ⟨w.heap.size + 1, 3, none⟩ = some (.string ⟨line.toArray⟩)) (exact hk)
              (first
                | (go_at_call 22; refine (hQ (mid) (upt) _ (bw2.trans (hk.1.mono bw2.size))).mono ?_; rintro e w7 ⟨vw7, rfl, ow7, bw7⟩; have hk := mkS2 w7 (hk.1.trans (bw7.mono hk.1.size)))
                | (go_at_call 32; refine (hTb _ _ ow7.rd (bw2.trans (hk.1.mono bw2.size))).mono ?_; rintro e w8 ⟨rfl, bw8⟩; have hk := mkS2 w8 (hk.1.trans (bw8.mono hk.1.size))))
            go_wp2_with fail
            refine wp_region_held_drew (S := fun W' => Below W2.heap.size W2 W' ∧ (W'.cell? ⟨w.heap.size, 0, none⟩ = some (.slice A ms.length c) ∧ W'.cell? ⟨w.heap.size, 1, none⟩ = some (.string ⟨has.toArray⟩) ∧ W'.cell? ⟨w.heap.size, 2, none⟩ = some (.int .i64 fr) ∧ W'.cell? ⟨w.heap.size, 3, none⟩ = some (.int .i64 upt) ∧ W'.cell? ⟨w.heap.size, 4, none⟩ = some (.int .i64 lim) ∧ W'.cell? ⟨w.heap.size, 5, none⟩ = some (.bool nw)) ∧ W'.cell? ⟨w.heap.size + 1, 0, none⟩ = some (.int .i64 sq) ∧ W'.cell? ⟨w.heap.size + 1, 1, none⟩ = some (.int .i64 tm) ∧ W'.cell? ⟨w.heap.size + 1, 2, none⟩ = some (.slice A1 l.length c1) ∧ W'.cell? ⟨w.heap.size + 1, 3, none⟩ = some (.string ⟨line.toArray⟩)) (by kernel_rfl) (mkS3 _ hk.1.drew) (fun hHeld => ?_)
            refine takeAt (i := 0) (d := 78) (v := .agg #[.slice A ms.length c, .string ⟨has.toArray⟩, .int .i64 fr, .int .i64 upt, .int .i64 lim, .bool nw]) rfl rfl (by kernel_rfl) (by kernel_rfl) (by kernel_rfl) (fun _ _ _ h => h) (Or.inl ⟨by rfl, fun w hSw => by obtain ⟨hS0, ⟨hq0, hq1, hq2, hq3, hq4, hq5⟩, hx0, hx1, hx2, hx3⟩ := hSw; go_simp⟩) hHeld ?_
            simp only [List.setIfInBounds_toArray, List.set_cons_zero, List.set_cons_succ]
            refine takeAt (i := 2) (d := 80) (v := .agg #[.int .i64 sq, .int .i64 tm, .slice A1 l.length c1, .string ⟨line.toArray⟩]) rfl rfl (by kernel_rfl) (by kernel_rfl) (by kernel_rfl) (fun _ _ _ h => h) (Or.inl ⟨by rfl, fun w hSw => by obtain ⟨hS0, ⟨hq0, hq1, hq2, hq3, hq4, hq5⟩, hx0, hx1, hx2, hx3⟩ := hSw; go_simp⟩) hHeld ?_
            simp only [List.setIfInBounds_toArray, List.set_cons_zero, List.set_cons_succ]
            refine takeAt (i := 4) (d := 82) (v := .bool true) rfl rfl (by kernel_rfl) (by kernel_rfl) (by kernel_rfl) (fun _ _ _ h => h) (Or.inl ⟨by rfl, fun w hSw => by go_simp⟩) hHeld ?_
            simp only [List.setIfInBounds_toArray, List.set_cons_zero, List.set_cons_succ]
            refine wpAnyH_ready (rs := [1]) (by kernel_rfl) (by simp) ?_
            refine AllReadyH.cons (o := { dst := some 79, op := Go.Op.call { callee := Go.Callee.value (Go.Operand.func 22), args := #[Go.Operand.tmp 78], argTypes := #[37] }, type := 40, pos := "law.go:206", after := #[{ on := 0, ground := Go.Ground.data }], guard := none }) rfl (fun K hK => ?_) AllReadyH.nil
            rw [if_pos (by rfl)]
            go_simp
            refine (hQ fr upt _ (bw2.trans (hHeld.1.mono bw2.size))).mono ?_
            rintro e w9 ⟨vw9, rfl, ow9, bw9⟩
            have hkN := mkS3 w9 (hHeld.1.trans (bw9.mono hHeld.1.size))
            refine hK.out _ _ hkN (fun hH2 => ?_)
            clear hK K
            try simp only [Act.put, List.setIfInBounds_toArray, List.set_cons_zero, List.set_cons_succ]
            refine wpAnyH_ready (rs := [3]) (by kernel_rfl) (by simp) ?_
            refine AllReadyH.cons (o := { dst := some 81, op := Go.Op.call { callee := Go.Callee.value (Go.Operand.func 32), args := #[Go.Operand.tmp 79, Go.Operand.tmp 80], argTypes := #[40, 62] }, type := 4, pos := "law.go:206", after := #[{ on := 1, ground := Go.Ground.data }, { on := 2, ground := Go.Ground.data }, { on := 1, ground := Go.Ground.chain }], guard := none }) rfl (fun K hK => ?_) AllReadyH.nil
            rw [if_pos (by rfl)]
            go_simp
            refine (hTq _ _ ow9.rd (bw2.trans (hH2.1.mono bw2.size))).mono ?_
            rintro e w10 ⟨rfl, bw10⟩
            have hkN := mkS3 w10 (hH2.1.trans (bw10.mono hH2.1.size))
            refine hK.out _ _ hkN (fun hH3 => ?_)
            clear hK K
            try simp only [Act.put, List.setIfInBounds_toArray, List.set_cons_zero, List.set_cons_succ]
            refine takeAt (i := 5) (d := 83) (v := .bool true) rfl rfl (by kernel_rfl) (by kernel_rfl) (by kernel_rfl) (fun _ _ _ h => h) (Or.inl ⟨by rfl, fun w hSw => by go_simp⟩) hH3 ?_
            simp only [List.setIfInBounds_toArray, List.set_cons_zero, List.set_cons_succ]
            refine takeAt (i := 6) (d := 84) (v := undef) rfl rfl (by kernel_rfl) (by kernel_rfl) (by kernel_rfl) (fun _ _ _ h => h) (Or.inr ⟨by rfl, rfl⟩) hH3 ?_
            simp only [List.setIfInBounds_toArray, List.set_cons_zero, List.set_cons_succ]
            refine takeAt (i := 7) (d := 85) (v := .bool true) rfl rfl (by kernel_rfl) (by kernel_rfl) (by kernel_rfl) (fun _ _ _ h => h) (Or.inl ⟨by rfl, fun w hSw => by go_simp⟩) hH3 ?_
            simp only [List.setIfInBounds_toArray, List.set_cons_zero, List.set_cons_succ]
            refine takeAt (i := 8) (d := 86) (v := .bool true) rfl rfl (by kernel_rfl) (by kernel_rfl) (by kernel_rfl) (fun _ _ _ h => h) (Or.inl ⟨by rfl, fun w hSw => by go_simp⟩) hH3 ?_
            simp only [List.setIfInBounds_toArray, List.set_cons_zero, List.set_cons_succ]
            refine takeAt (i := 9) (d := 87) (v := .bool true) rfl rfl (by kernel_rfl) (by kernel_rfl) (by kernel_rfl) (fun _ _ _ h => h) (Or.inl ⟨by rfl, fun w hSw => by go_simp⟩) hH3 ?_
            simp only [List.setIfInBounds_toArray, List.set_cons_zero, List.set_cons_succ]
            refine takeAt (i := 10) (d := 88) (v := .bool true) rfl rfl (by kernel_rfl) (by kernel_rfl) (by kernel_rfl) (fun _ _ _ h => h) (Or.inl ⟨by rfl, fun w hSw => by go_simp⟩) hH3 ?_
            simp only [List.setIfInBounds_toArray, List.set_cons_zero, List.set_cons_succ]
            refine takeAt (i := 11) (d := 89) (v := .bool true) rfl rfl (by kernel_rfl) (by kernel_rfl) (by kernel_rfl) (fun _ _ _ h => h) (Or.inl ⟨by rfl, fun w hSw => by go_simp⟩) hH3 ?_
            simp only [List.setIfInBounds_toArray, List.set_cons_zero, List.set_cons_succ]
            refine takeAt (i := 12) (d := 90) (v := .bool false) rfl rfl (by kernel_rfl) (by kernel_rfl) (by kernel_rfl) (fun _ _ _ h => h) (Or.inl ⟨by rfl, fun w hSw => by go_simp⟩) hH3 ?_
            simp only [List.setIfInBounds_toArray, List.set_cons_zero, List.set_cons_succ]
            refine takeAt (i := 13) (d := 91) (v := .bool false) rfl rfl (by kernel_rfl) (by kernel_rfl) (by kernel_rfl) (fun _ _ _ h => h) (Or.inl ⟨by rfl, fun w hSw => by go_simp⟩) hH3 ?_
            simp only [List.setIfInBounds_toArray, List.set_cons_zero, List.set_cons_succ]
            refine takeAt (i := 14) (d := 92) (v := .bool true) rfl rfl (by kernel_rfl) (by kernel_rfl) (by kernel_rfl) (fun _ _ _ h => h) (Or.inl ⟨by rfl, fun w hSw => by go_simp⟩) hH3 ?_
            simp only [List.setIfInBounds_toArray, List.set_cons_zero, List.set_cons_succ]
            refine takeAt (i := 15) (d := 93) (v := .bool true) rfl rfl (by kernel_rfl) (by kernel_rfl) (by kernel_rfl) (fun _ _ _ h => h) (Or.inl ⟨by rfl, fun w hSw => by go_simp⟩) hH3 ?_
            simp only [List.setIfInBounds_toArray, List.set_cons_zero, List.set_cons_succ]
            refine takeAt (i := 16) (d := 94) (v := .bool true) rfl rfl (by kernel_rfl) (by kernel_rfl) (by kernel_rfl) (fun _ _ _ h => h) (Or.inl ⟨by rfl, fun w hSw => by go_simp⟩) hH3 ?_
            simp only [List.setIfInBounds_toArray, List.set_cons_zero, List.set_cons_succ]
            refine wpAnyH_ready (rs := [17]) (by kernel_rfl) (by simp) ?_
            refine AllReadyH.cons (o := { dst := some 95, op := Go.Op.call { callee := Go.Callee.value (Go.Operand.func 19), args := #[], argTypes := #[] }, type := 4, pos := "law.go:206", after := #[{ on := 16, ground := Go.Ground.chain }, { on := 16, ground := Go.Ground.guard }], guard := some (16, true) }) rfl (fun K hK => ?_) AllReadyH.nil
            rw [if_pos (by rfl)]
            go_simp
            refine (hK0 _ (bw2.trans (hH3.1.mono bw2.size))).mono ?_
            rintro e w11 ⟨rfl, bw11⟩
            have hkN := mkS3 w11 (hH3.1.trans (bw11.mono hH3.1.size))
            refine hK.out _ _ hkN (fun hH4 => ?_)
            clear hK K
            try simp only [Act.put, List.setIfInBounds_toArray, List.set_cons_zero, List.set_cons_succ]
            refine takeAt (i := 18) (d := 96) (v := .bool true) rfl rfl (by kernel_rfl) (by kernel_rfl) (by kernel_rfl) (fun _ _ _ h => h) (Or.inl ⟨by rfl, fun w hSw => by go_simp⟩) hH4 ?_
            simp only [List.setIfInBounds_toArray, List.set_cons_zero, List.set_cons_succ]
            refine takeAt (i := 19) (d := 6) (v := .bool true) rfl rfl (by kernel_rfl) (by kernel_rfl) (by kernel_rfl) (fun _ _ _ h => h) (Or.inl ⟨by rfl, fun w hSw => by go_simp⟩) hH4 ?_
            simp only [List.setIfInBounds_toArray, List.set_cons_zero, List.set_cons_succ]
            refine wpAnyH_done (by kernel_rfl) ?_ _
            go_wp2_with fail
            go_ret
            exact ⟨rfl, bw2.trans (hH4.1.mono bw2.size)⟩
          · have hk := mkS1 W2.drew (Below.refl _ W2).drew
            go_region_held3 (fun W' => Below W2.heap.size W2 W' ∧ (W'.cell? ⟨wr.heap.size, 0, none⟩ = some (.slice A ms.length c) ∧ W'.cell? ⟨wr.heap.size, 1, none⟩ = some (.string ⟨has.toArray⟩) ∧ W'.cell? ⟨wr.heap.size, 2, none⟩ = some (.int .i64 fr) ∧ W'.cell? ⟨wr.heap.size, 3, none⟩ = some (.int .i64 mid) ∧ W'.cell? ⟨wr.heap.size, 4, none⟩ = some (.int .i64 lim) ∧ W'.cell? ⟨wr.heap.size, 5, none⟩ = some (.bool nw)) ∧ W'.cell? ⟨w.heap.size + 1, 0, none⟩ = some (.int .i64 sq) ∧ W'.cell? ⟨w.heap.size + 1, 1, none⟩ = some (.int .i64 tm) ∧ W'.cell? ⟨w.heap.size + 1, 2, none⟩ = some (.slice A1 l.length c1) ∧ W'.cell? ⟨w.heap.size + 1, 3, none⟩ = some (.string ⟨line.toArray⟩)) (exact hk)
              (first
                | (go_at_call 22; refine (hQ (fr) (mid) _ (bw2.trans (hk.1.mono bw2.size))).mono ?_; rintro e w5 ⟨vw5, rfl, ow5, bw5⟩; have hk := mkS1 w5 (hk.1.trans (bw5.mono hk.1.size)))
                | (go_at_call 32; refine (hTa _ _ ow5.rd (bw2.trans (hk.1.mono bw2.size))).mono ?_; rintro e w6 ⟨rfl, bw6⟩; have hk := mkS1 w6 (hk.1.trans (bw6.mono hk.1.size))))
            have hk := mkS2 w6.drew hk.1.drew
            go_wp2_with fail
            go_region_held3 (fun W' => Below W2.heap.size W2 W' ∧ (W'.cell? ⟨wr.heap.size + 1, 0, none⟩ = some (.slice A ms.length c) ∧ W'.cell? ⟨wr.heap.size + 1, 1, none⟩ = some (.string ⟨has.toArray⟩) ∧ W'.cell? ⟨wr.heap.size + 1, 2, none⟩ = some (.int .i64 mid) ∧ W'.cell? ⟨wr.heap.size + 1, 3, none⟩ = some (.int .i64 upt) ∧ W'.cell? ⟨wr.heap.size + 1, 4, none⟩ = some (.int .i64 lim) ∧ W'.cell? ⟨wr.heap.size + 1, 5, none⟩ = some (.bool nw)) ∧ W'.cell? ⟨w.heap.size + 1, 0, none⟩ = some (.int .i64 sq) ∧ W'.cell? ⟨w.heap.size + 1, 1, none⟩ = some (.int .i64 tm) ∧ W'.cell? ⟨w.heap.size + 1, 2, none⟩ = some (.slice A1 l.length c1) ∧ W'.cell? ⟨w.heap.size + 1, 3, none⟩ = some (.string ⟨line.toArray⟩)) (exact hk)
              (first
                | (go_at_call 22; refine (hQ (mid) (upt) _ (bw2.trans (hk.1.mono bw2.size))).mono ?_; rintro e w7 ⟨vw7, rfl, ow7, bw7⟩; have hk := mkS2 w7 (hk.1.trans (bw7.mono hk.1.size)))
                | (go_at_call 32; refine (hTb _ _ ow7.rd (bw2.trans (hk.1.mono bw2.size))).mono ?_; rintro e w8 ⟨rfl, bw8⟩; have hk := mkS2 w8 (hk.1.trans (bw8.mono hk.1.size))))
            go_wp2_with fail
            refine wp_region_held_drew (S := fun W' => Below W2.heap.size W2 W' ∧ (W'.cell? ⟨w.heap.size, 0, none⟩ = some (.slice A ms.length c) ∧ W'.cell? ⟨w.heap.size, 1, none⟩ = some (.string ⟨has.toArray⟩) ∧ W'.cell? ⟨w.heap.size, 2, none⟩ = some (.int .i64 fr) ∧ W'.cell? ⟨w.heap.size, 3, none⟩ = some (.int .i64 upt) ∧ W'.cell? ⟨w.heap.size, 4, none⟩ = some (.int .i64 lim) ∧ W'.cell? ⟨w.heap.size, 5, none⟩ = some (.bool nw)) ∧ W'.cell? ⟨w.heap.size + 1, 0, none⟩ = some (.int .i64 sq) ∧ W'.cell? ⟨w.heap.size + 1, 1, none⟩ = some (.int .i64 tm) ∧ W'.cell? ⟨w.heap.size + 1, 2, none⟩ = some (.slice A1 l.length c1) ∧ W'.cell? ⟨w.heap.size + 1, 3, none⟩ = some (.string ⟨line.toArray⟩)) (by kernel_rfl) (mkS3 _ hk.1.drew) (fun hHeld => ?_)
            refine takeAt (i := 0) (d := 78) (v := .agg #[.slice A ms.length c, .string ⟨has.toArray⟩, .int .i64 fr, .int .i64 upt, .int .i64 lim, .bool nw]) rfl rfl (by kernel_rfl) (by kernel_rfl) (by kernel_rfl) (fun _ _ _ h => h) (Or.inl ⟨by rfl, fun w hSw => by obtain ⟨hS0, ⟨hq0, hq1, hq2, hq3, hq4, hq5⟩, hx0, hx1, hx2, hx3⟩ := hSw; go_simp⟩) hHeld ?_
            simp only [List.setIfInBounds_toArray, List.set_cons_zero, List.set_cons_succ]
            refine takeAt (i := 2) (d := 80) (v := .agg #[.int .i64 sq, .int .i64 tm, .slice A1 l.length c1, .string ⟨line.toArray⟩]) rfl rfl (by kernel_rfl) (by kernel_rfl) (by kernel_rfl) (fun _ _ _ h => h) (Or.inl ⟨by rfl, fun w hSw => by obtain ⟨hS0, ⟨hq0, hq1, hq2, hq3, hq4, hq5⟩, hx0, hx1, hx2, hx3⟩ := hSw; go_simp⟩) hHeld ?_
            simp only [List.setIfInBounds_toArray, List.set_cons_zero, List.set_cons_succ]
            refine takeAt (i := 4) (d := 82) (v := .bool false) rfl rfl (by kernel_rfl) (by kernel_rfl) (by kernel_rfl) (fun _ _ _ h => h) (Or.inl ⟨by rfl, fun w hSw => by go_simp⟩) hHeld ?_
            simp only [List.setIfInBounds_toArray, List.set_cons_zero, List.set_cons_succ]
            refine wpAnyH_ready (rs := [1]) (by kernel_rfl) (by simp) ?_
            refine AllReadyH.cons (o := { dst := some 79, op := Go.Op.call { callee := Go.Callee.value (Go.Operand.func 22), args := #[Go.Operand.tmp 78], argTypes := #[37] }, type := 40, pos := "law.go:206", after := #[{ on := 0, ground := Go.Ground.data }], guard := none }) rfl (fun K hK => ?_) AllReadyH.nil
            rw [if_pos (by rfl)]
            go_simp
            refine (hQ fr upt _ (bw2.trans (hHeld.1.mono bw2.size))).mono ?_
            rintro e w9 ⟨vw9, rfl, ow9, bw9⟩
            have hkN := mkS3 w9 (hHeld.1.trans (bw9.mono hHeld.1.size))
            refine hK.out _ _ hkN (fun hH2 => ?_)
            clear hK K
            try simp only [Act.put, List.setIfInBounds_toArray, List.set_cons_zero, List.set_cons_succ]
            refine wpAnyH_ready (rs := [3]) (by kernel_rfl) (by simp) ?_
            refine AllReadyH.cons (o := { dst := some 81, op := Go.Op.call { callee := Go.Callee.value (Go.Operand.func 32), args := #[Go.Operand.tmp 79, Go.Operand.tmp 80], argTypes := #[40, 62] }, type := 4, pos := "law.go:206", after := #[{ on := 1, ground := Go.Ground.data }, { on := 2, ground := Go.Ground.data }, { on := 1, ground := Go.Ground.chain }], guard := none }) rfl (fun K hK => ?_) AllReadyH.nil
            rw [if_pos (by rfl)]
            go_simp
            refine (hTq _ _ ow9.rd (bw2.trans (hH2.1.mono bw2.size))).mono ?_
            rintro e w10 ⟨rfl, bw10⟩
            have hkN := mkS3 w10 (hH2.1.trans (bw10.mono hH2.1.size))
            refine hK.out _ _ hkN (fun hH3 => ?_)
            clear hK K
            try simp only [Act.put, List.setIfInBounds_toArray, List.set_cons_zero, List.set_cons_succ]
            refine takeAt (i := 5) (d := 83) (v := .bool false) rfl rfl (by kernel_rfl) (by kernel_rfl) (by kernel_rfl) (fun _ _ _ h => h) (Or.inl ⟨by rfl, fun w hSw => by go_simp⟩) hH3 ?_
            simp only [List.setIfInBounds_toArray, List.set_cons_zero, List.set_cons_succ]
            refine takeAt (i := 6) (d := 84) (v := .bool true) rfl rfl (by kernel_rfl) (by kernel_rfl) (by kernel_rfl) (fun _ _ _ h => h) (Or.inl ⟨by rfl, fun w hSw => by go_simp⟩) hH3 ?_
            simp only [List.setIfInBounds_toArray, List.set_cons_zero, List.set_cons_succ]
            refine takeAt (i := 7) (d := 85) (v := .bool true) rfl rfl (by kernel_rfl) (by kernel_rfl) (by kernel_rfl) (fun _ _ _ h => h) (Or.inl ⟨by rfl, fun w hSw => by go_simp⟩) hH3 ?_
            simp only [List.setIfInBounds_toArray, List.set_cons_zero, List.set_cons_succ]
            refine takeAt (i := 8) (d := 86) (v := .bool true) rfl rfl (by kernel_rfl) (by kernel_rfl) (by kernel_rfl) (fun _ _ _ h => h) (Or.inl ⟨by rfl, fun w hSw => by go_simp⟩) hH3 ?_
            simp only [List.setIfInBounds_toArray, List.set_cons_zero, List.set_cons_succ]
            refine takeAt (i := 9) (d := 87) (v := .bool true) rfl rfl (by kernel_rfl) (by kernel_rfl) (by kernel_rfl) (fun _ _ _ h => h) (Or.inl ⟨by rfl, fun w hSw => by go_simp⟩) hH3 ?_
            simp only [List.setIfInBounds_toArray, List.set_cons_zero, List.set_cons_succ]
            refine takeAt (i := 10) (d := 88) (v := .bool false) rfl rfl (by kernel_rfl) (by kernel_rfl) (by kernel_rfl) (fun _ _ _ h => h) (Or.inl ⟨by rfl, fun w hSw => by go_simp⟩) hH3 ?_
            simp only [List.setIfInBounds_toArray, List.set_cons_zero, List.set_cons_succ]
            refine takeAt (i := 11) (d := 89) (v := .bool false) rfl rfl (by kernel_rfl) (by kernel_rfl) (by kernel_rfl) (fun _ _ _ h => h) (Or.inl ⟨by rfl, fun w hSw => by go_simp⟩) hH3 ?_
            simp only [List.setIfInBounds_toArray, List.set_cons_zero, List.set_cons_succ]
            refine takeAt (i := 12) (d := 90) (v := undef) rfl rfl (by kernel_rfl) (by kernel_rfl) (by kernel_rfl) (fun _ _ _ h => h) (Or.inr ⟨by rfl, rfl⟩) hH3 ?_
            simp only [List.setIfInBounds_toArray, List.set_cons_zero, List.set_cons_succ]
            refine takeAt (i := 13) (d := 91) (v := .bool false) rfl rfl (by kernel_rfl) (by kernel_rfl) (by kernel_rfl) (fun _ _ _ h => h) (Or.inl ⟨by rfl, fun w hSw => by go_simp⟩) hH3 ?_
            simp only [List.setIfInBounds_toArray, List.set_cons_zero, List.set_cons_succ]
            refine takeAt (i := 14) (d := 92) (v := .bool true) rfl rfl (by kernel_rfl) (by kernel_rfl) (by kernel_rfl) (fun _ _ _ h => h) (Or.inl ⟨by rfl, fun w hSw => by go_simp⟩) hH3 ?_
            simp only [List.setIfInBounds_toArray, List.set_cons_zero, List.set_cons_succ]
            refine takeAt (i := 15) (d := 93) (v := .bool true) rfl rfl (by kernel_rfl) (by kernel_rfl) (by kernel_rfl) (fun _ _ _ h => h) (Or.inl ⟨by rfl, fun w hSw => by go_simp⟩) hH3 ?_
            simp only [List.setIfInBounds_toArray, List.set_cons_zero, List.set_cons_succ]
            refine takeAt (i := 16) (d := 94) (v := .bool true) rfl rfl (by kernel_rfl) (by kernel_rfl) (by kernel_rfl) (fun _ _ _ h => h) (Or.inl ⟨by rfl, fun w hSw => by go_simp⟩) hH3 ?_
            simp only [List.setIfInBounds_toArray, List.set_cons_zero, List.set_cons_succ]
            refine wpAnyH_ready (rs := [17]) (by kernel_rfl) (by simp) ?_
            refine AllReadyH.cons (o := { dst := some 95, op := Go.Op.call { callee := Go.Callee.value (Go.Operand.func 19), args := #[], argTypes := #[] }, type := 4, pos := "law.go:206", after := #[{ on := 16, ground := Go.Ground.chain }, { on := 16, ground := Go.Ground.guard }], guard := some (16, true) }) rfl (fun K hK => ?_) AllReadyH.nil
            rw [if_pos (by rfl)]
            go_simp
            refine (hK0 _ (bw2.trans (hH3.1.mono bw2.size))).mono ?_
            rintro e w11 ⟨rfl, bw11⟩
            have hkN := mkS3 w11 (hH3.1.trans (bw11.mono hH3.1.size))
            refine hK.out _ _ hkN (fun hH4 => ?_)
            clear hK K
            try simp only [Act.put, List.setIfInBounds_toArray, List.set_cons_zero, List.set_cons_succ]
            refine takeAt (i := 18) (d := 96) (v := .bool true) rfl rfl (by kernel_rfl) (by kernel_rfl) (by kernel_rfl) (fun _ _ _ h => h) (Or.inl ⟨by rfl, fun w hSw => by go_simp⟩) hH4 ?_
            simp only [List.setIfInBounds_toArray, List.set_cons_zero, List.set_cons_succ]
            refine takeAt (i := 19) (d := 6) (v := .bool true) rfl rfl (by kernel_rfl) (by kernel_rfl) (by kernel_rfl) (fun _ _ _ h => h) (Or.inl ⟨by rfl, fun w hSw => by go_simp⟩) hH4 ?_
            simp only [List.setIfInBounds_toArray, List.set_cons_zero, List.set_cons_succ]
            refine wpAnyH_done (by kernel_rfl) ?_ _
            go_wp2_with fail
            go_ret
            exact ⟨rfl, bw2.trans (hH4.1.mono bw2.size)⟩
          · have hk := mkS1 W2.drew (Below.refl _ W2).drew
            go_region_held3 (fun W' => Below W2.heap.size W2 W' ∧ (W'.cell? ⟨wr.heap.size, 0, none⟩ = some (.slice A ms.length c) ∧ W'.cell? ⟨wr.heap.size, 1, none⟩ = some (.string ⟨has.toArray⟩) ∧ W'.cell? ⟨wr.heap.size, 2, none⟩ = some (.int .i64 fr) ∧ W'.cell? ⟨wr.heap.size, 3, none⟩ = some (.int .i64 mid) ∧ W'.cell? ⟨wr.heap.size, 4, none⟩ = some (.int .i64 lim) ∧ W'.cell? ⟨wr.heap.size, 5, none⟩ = some (.bool nw)) ∧ W'.cell? ⟨w.heap.size + 1, 0, none⟩ = some (.int .i64 sq) ∧ W'.cell? ⟨w.heap.size + 1, 1, none⟩ = some (.int .i64 tm) ∧ W'.cell? ⟨w.heap.size + 1, 2, none⟩ = some (.slice A1 l.length c1) ∧ W'.cell? ⟨w.heap.size + 1, 3, none⟩ = some (.string ⟨line.toArray⟩)) (exact hk)
              (first
                | (go_at_call 22; refine (hQ (fr) (mid) _ (bw2.trans (hk.1.mono bw2.size))).mono ?_; rintro e w5 ⟨vw5, rfl, ow5, bw5⟩; have hk := mkS1 w5 (hk.1.trans (bw5.mono hk.1.size)))
                | (go_at_call 32; refine (hTa _ _ ow5.rd (bw2.trans (hk.1.mono bw2.size))).mono ?_; rintro e w6 ⟨rfl, bw6⟩; have hk := mkS1 w6 (hk.1.trans (bw6.mono hk.1.size))))
            have hk := mkS2 w6.drew hk.1.drew
            go_wp2_with fail
            go_region_held3 (fun W' => Below W2.heap.size W2 W' ∧ (W'.cell? ⟨wr.heap.size + 1, 0, none⟩ = some (.slice A ms.length c) ∧ W'.cell? ⟨wr.heap.size + 1, 1, none⟩ = some (.string ⟨has.toArray⟩) ∧ W'.cell? ⟨wr.heap.size + 1, 2, none⟩ = some (.int .i64 mid) ∧ W'.cell? ⟨wr.heap.size + 1, 3, none⟩ = some (.int .i64 upt) ∧ W'.cell? ⟨wr.heap.size + 1, 4, none⟩ = some (.int .i64 lim) ∧ W'.cell? ⟨wr.heap.size + 1, 5, none⟩ = some (.bool nw)) ∧ W'.cell? ⟨w.heap.size + 1, 0, none⟩ = some (.int .i64 sq) ∧ W'.cell? ⟨w.heap.size + 1, 1, none⟩ = some (.int .i64 tm) ∧ W'.cell? ⟨w.heap.size + 1, 2, none⟩ = some (.slice A1 l.length c1) ∧ W'.cell? ⟨w.heap.size + 1, 3, none⟩ = some (.string ⟨line.toArray⟩)) (exact hk)
              (first
                | (go_at_call 22; refine (hQ (mid) (upt) _ (bw2.trans (hk.1.mono bw2.size))).mono ?_; rintro e w7 ⟨vw7, rfl, ow7, bw7⟩; have hk := mkS2 w7 (hk.1.trans (bw7.mono hk.1.size)))
                | (go_at_call 32; refine (hTb _ _ ow7.rd (bw2.trans (hk.1.mono bw2.size))).mono ?_; rintro e w8 ⟨rfl, bw8⟩; have hk := mkS2 w8 (hk.1.trans (bw8.mono hk.1.size))))
            go_wp2_with fail
            refine wp_region_held_drew (S := fun W' => Below W2.heap.size W2 W' ∧ (W'.cell? ⟨w.heap.size, 0, none⟩ = some (.slice A ms.length c) ∧ W'.cell? ⟨w.heap.size, 1, none⟩ = some (.string ⟨has.toArray⟩) ∧ W'.cell? ⟨w.heap.size, 2, none⟩ = some (.int .i64 fr) ∧ W'.cell? ⟨w.heap.size, 3, none⟩ = some (.int .i64 upt) ∧ W'.cell? ⟨w.heap.size, 4, none⟩ = some (.int .i64 lim) ∧ W'.cell? ⟨w.heap.size, 5, none⟩ = some (.bool nw)) ∧ W'.cell? ⟨w.heap.size + 1, 0, none⟩ = some (.int .i64 sq) ∧ W'.cell? ⟨w.heap.size + 1, 1, none⟩ = some (.int .i64 tm) ∧ W'.cell? ⟨w.heap.size + 1, 2, none⟩ = some (.slice A1 l.length c1) ∧ W'.cell? ⟨w.heap.size + 1, 3, none⟩ = some (.string ⟨line.toArray⟩)) (by kernel_rfl) (mkS3 _ hk.1.drew) (fun hHeld => ?_)
            refine takeAt (i := 0) (d := 78) (v := .agg #[.slice A ms.length c, .string ⟨has.toArray⟩, .int .i64 fr, .int .i64 upt, .int .i64 lim, .bool nw]) rfl rfl (by kernel_rfl) (by kernel_rfl) (by kernel_rfl) (fun _ _ _ h => h) (Or.inl ⟨by rfl, fun w hSw => by obtain ⟨hS0, ⟨hq0, hq1, hq2, hq3, hq4, hq5⟩, hx0, hx1, hx2, hx3⟩ := hSw; go_simp⟩) hHeld ?_
            simp only [List.setIfInBounds_toArray, List.set_cons_zero, List.set_cons_succ]
            refine takeAt (i := 2) (d := 80) (v := .agg #[.int .i64 sq, .int .i64 tm, .slice A1 l.length c1, .string ⟨line.toArray⟩]) rfl rfl (by kernel_rfl) (by kernel_rfl) (by kernel_rfl) (fun _ _ _ h => h) (Or.inl ⟨by rfl, fun w hSw => by obtain ⟨hS0, ⟨hq0, hq1, hq2, hq3, hq4, hq5⟩, hx0, hx1, hx2, hx3⟩ := hSw; go_simp⟩) hHeld ?_
            simp only [List.setIfInBounds_toArray, List.set_cons_zero, List.set_cons_succ]
            refine takeAt (i := 4) (d := 82) (v := .bool false) rfl rfl (by kernel_rfl) (by kernel_rfl) (by kernel_rfl) (fun _ _ _ h => h) (Or.inl ⟨by rfl, fun w hSw => by go_simp⟩) hHeld ?_
            simp only [List.setIfInBounds_toArray, List.set_cons_zero, List.set_cons_succ]
            refine wpAnyH_ready (rs := [1]) (by kernel_rfl) (by simp) ?_
            refine AllReadyH.cons (o := { dst := some 79, op := Go.Op.call { callee := Go.Callee.value (Go.Operand.func 22), args := #[Go.Operand.tmp 78], argTypes := #[37] }, type := 40, pos := "law.go:206", after := #[{ on := 0, ground := Go.Ground.data }], guard := none }) rfl (fun K hK => ?_) AllReadyH.nil
            rw [if_pos (by rfl)]
            go_simp
            refine (hQ fr upt _ (bw2.trans (hHeld.1.mono bw2.size))).mono ?_
            rintro e w9 ⟨vw9, rfl, ow9, bw9⟩
            have hkN := mkS3 w9 (hHeld.1.trans (bw9.mono hHeld.1.size))
            refine hK.out _ _ hkN (fun hH2 => ?_)
            clear hK K
            try simp only [Act.put, List.setIfInBounds_toArray, List.set_cons_zero, List.set_cons_succ]
            refine wpAnyH_ready (rs := [3]) (by kernel_rfl) (by simp) ?_
            refine AllReadyH.cons (o := { dst := some 81, op := Go.Op.call { callee := Go.Callee.value (Go.Operand.func 32), args := #[Go.Operand.tmp 79, Go.Operand.tmp 80], argTypes := #[40, 62] }, type := 4, pos := "law.go:206", after := #[{ on := 1, ground := Go.Ground.data }, { on := 2, ground := Go.Ground.data }, { on := 1, ground := Go.Ground.chain }], guard := none }) rfl (fun K hK => ?_) AllReadyH.nil
            rw [if_pos (by rfl)]
            go_simp
            refine (hTq _ _ ow9.rd (bw2.trans (hH2.1.mono bw2.size))).mono ?_
            rintro e w10 ⟨rfl, bw10⟩
            have hkN := mkS3 w10 (hH2.1.trans (bw10.mono hH2.1.size))
            refine hK.out _ _ hkN (fun hH3 => ?_)
            clear hK K
            try simp only [Act.put, List.setIfInBounds_toArray, List.set_cons_zero, List.set_cons_succ]
            refine takeAt (i := 5) (d := 83) (v := .bool false) rfl rfl (by kernel_rfl) (by kernel_rfl) (by kernel_rfl) (fun _ _ _ h => h) (Or.inl ⟨by rfl, fun w hSw => by go_simp⟩) hH3 ?_
            simp only [List.setIfInBounds_toArray, List.set_cons_zero, List.set_cons_succ]
            refine takeAt (i := 6) (d := 84) (v := .bool false) rfl rfl (by kernel_rfl) (by kernel_rfl) (by kernel_rfl) (fun _ _ _ h => h) (Or.inl ⟨by rfl, fun w hSw => by go_simp⟩) hH3 ?_
            simp only [List.setIfInBounds_toArray, List.set_cons_zero, List.set_cons_succ]
            refine takeAt (i := 7) (d := 85) (v := .bool false) rfl rfl (by kernel_rfl) (by kernel_rfl) (by kernel_rfl) (fun _ _ _ h => h) (Or.inl ⟨by rfl, fun w hSw => by go_simp⟩) hH3 ?_
            simp only [List.setIfInBounds_toArray, List.set_cons_zero, List.set_cons_succ]
            refine takeAt (i := 8) (d := 86) (v := .bool true) rfl rfl (by kernel_rfl) (by kernel_rfl) (by kernel_rfl) (fun _ _ _ h => h) (Or.inl ⟨by rfl, fun w hSw => by go_simp⟩) hH3 ?_
            simp only [List.setIfInBounds_toArray, List.set_cons_zero, List.set_cons_succ]
            refine takeAt (i := 9) (d := 87) (v := .bool true) rfl rfl (by kernel_rfl) (by kernel_rfl) (by kernel_rfl) (fun _ _ _ h => h) (Or.inl ⟨by rfl, fun w hSw => by go_simp⟩) hH3 ?_
            simp only [List.setIfInBounds_toArray, List.set_cons_zero, List.set_cons_succ]
            refine takeAt (i := 10) (d := 88) (v := .bool false) rfl rfl (by kernel_rfl) (by kernel_rfl) (by kernel_rfl) (fun _ _ _ h => h) (Or.inl ⟨by rfl, fun w hSw => by go_simp⟩) hH3 ?_
            simp only [List.setIfInBounds_toArray, List.set_cons_zero, List.set_cons_succ]
            refine takeAt (i := 11) (d := 89) (v := .bool false) rfl rfl (by kernel_rfl) (by kernel_rfl) (by kernel_rfl) (fun _ _ _ h => h) (Or.inl ⟨by rfl, fun w hSw => by go_simp⟩) hH3 ?_
            simp only [List.setIfInBounds_toArray, List.set_cons_zero, List.set_cons_succ]
            refine takeAt (i := 12) (d := 90) (v := undef) rfl rfl (by kernel_rfl) (by kernel_rfl) (by kernel_rfl) (fun _ _ _ h => h) (Or.inr ⟨by rfl, rfl⟩) hH3 ?_
            simp only [List.setIfInBounds_toArray, List.set_cons_zero, List.set_cons_succ]
            refine takeAt (i := 13) (d := 91) (v := .bool false) rfl rfl (by kernel_rfl) (by kernel_rfl) (by kernel_rfl) (fun _ _ _ h => h) (Or.inl ⟨by rfl, fun w hSw => by go_simp⟩) hH3 ?_
            simp only [List.setIfInBounds_toArray, List.set_cons_zero, List.set_cons_succ]
            refine takeAt (i := 14) (d := 92) (v := .bool true) rfl rfl (by kernel_rfl) (by kernel_rfl) (by kernel_rfl) (fun _ _ _ h => h) (Or.inl ⟨by rfl, fun w hSw => by go_simp⟩) hH3 ?_
            simp only [List.setIfInBounds_toArray, List.set_cons_zero, List.set_cons_succ]
            refine takeAt (i := 15) (d := 93) (v := .bool true) rfl rfl (by kernel_rfl) (by kernel_rfl) (by kernel_rfl) (fun _ _ _ h => h) (Or.inl ⟨by rfl, fun w hSw => by go_simp⟩) hH3 ?_
            simp only [List.setIfInBounds_toArray, List.set_cons_zero, List.set_cons_succ]
            refine takeAt (i := 16) (d := 94) (v := .bool true) rfl rfl (by kernel_rfl) (by kernel_rfl) (by kernel_rfl) (fun _ _ _ h => h) (Or.inl ⟨by rfl, fun w hSw => by go_simp⟩) hH3 ?_
            simp only [List.setIfInBounds_toArray, List.set_cons_zero, List.set_cons_succ]
            refine wpAnyH_ready (rs := [17]) (by kernel_rfl) (by simp) ?_
            refine AllReadyH.cons (o := { dst := some 95, op := Go.Op.call { callee := Go.Callee.value (Go.Operand.func 19), args := #[], argTypes := #[] }, type := 4, pos := "law.go:206", after := #[{ on := 16, ground := Go.Ground.chain }, { on := 16, ground := Go.Ground.guard }], guard := some (16, true) }) rfl (fun K hK => ?_) AllReadyH.nil
            rw [if_pos (by rfl)]
            go_simp
            refine (hK0 _ (bw2.trans (hH3.1.mono bw2.size))).mono ?_
            rintro e w11 ⟨rfl, bw11⟩
            have hkN := mkS3 w11 (hH3.1.trans (bw11.mono hH3.1.size))
            refine hK.out _ _ hkN (fun hH4 => ?_)
            clear hK K
            try simp only [Act.put, List.setIfInBounds_toArray, List.set_cons_zero, List.set_cons_succ]
            refine takeAt (i := 18) (d := 96) (v := .bool true) rfl rfl (by kernel_rfl) (by kernel_rfl) (by kernel_rfl) (fun _ _ _ h => h) (Or.inl ⟨by rfl, fun w hSw => by go_simp⟩) hH4 ?_
            simp only [List.setIfInBounds_toArray, List.set_cons_zero, List.set_cons_succ]
            refine takeAt (i := 19) (d := 6) (v := .bool true) rfl rfl (by kernel_rfl) (by kernel_rfl) (by kernel_rfl) (fun _ _ _ h => h) (Or.inl ⟨by rfl, fun w hSw => by go_simp⟩) hH4 ?_
            simp only [List.setIfInBounds_toArray, List.set_cons_zero, List.set_cons_succ]
            refine wpAnyH_done (by kernel_rfl) ?_ _
            go_wp2_with fail
            go_ret
            exact ⟨rfl, bw2.trans (hH4.1.mono bw2.size)⟩
  all_goals
    clear HM hL hL0 hQ hTk
    go_wp2_with (first
      | (go_at_call 26; refine (hRi _ bb).mono ?_; rintro e w2 ⟨rfl, b2⟩; clear hRi q0 q1 q2 q3 q4 q5 p0 p1 p2 p3; have bt2 := bb.trans (b2.mono bb.size); have ra2 := (b2.block _ za).trans ra; have rb2 := (b2.block _ zb).trans rb; obtain ⟨q0, q1, q2, q3, q4, q5⟩ := six_cells ra2; obtain ⟨p0, p1, p2, p3⟩ := four_cells rb2)
      | (go_at_call 19; refine (hK _ bt2).mono ?_; rintro e w3 ⟨rfl, b3⟩; clear hK))
    go_ret
    exact ⟨rfl, bt2.trans (b3.mono bt2.size)⟩
end Go.Proofs.YtlhodanpfpfodaaGreatDoor
namespace Go.Proofs.YtlhodanpfpfodaaGreatDoor
open Go.ChangeMaps Go.ChangeShapes Go.WideShapes Go.ChangeAt Go.RowKit Go.Icz Go.Joins Go.Deep
theorem cellsEn : Tryz.prog.cellsOf 62 = 4 := by kernel_rfl
theorem cellsLs : Tryz.prog.cellsOf 22 = 1 := by kernel_rfl
set_option maxRecDepth 100000 in
theorem open_en {H : Type} {enc : TypeId × Value → H} {W : World} {r : Reach} {b0 : Nat} {v : Value} {d : DataW H} {p : List MemPlace} (hv : Value.okWide Tryz.prog W r b0 62 v) (h : DataW.Trod enc Tryz.prog W 0 (fun _ => true) true 62 v d p) (hb : Rows.uptoBulk d ≤ 1048576) :
    ∃ (sq tm : Int) (v1 : Value) (l : List Lab) (line : B8), v = entV sq tm v1 line ∧ RdL W v1 l ∧ l.length ≤ 1048576 ∧ (∀ x ∈ l, x.1.length ≤ 1048576 ∧ x.2.length ≤ 1048576) ∧ line.length ≤ 1048576 := by
  have hs := Tryz.underlying62
  obtain ⟨cs, rfl, hsz⟩ := okWide_struct hs hv
  have hsz := hsz.trans cellsEn
  obtain ⟨l⟩ := cs
  match l, hsz with
  | [c0, c1, c2, c3], _ =>
    obtain ⟨fuel, hf⟩ := h
    obtain ⟨xs, n, _, hx, hl, hlen, hf⟩ := DataW.trod_struct hs hf
    match xs, hlen with
    | [y0, y1, y2, y3], _ =>
      have g0 : DataW.trod enc Tryz.prog W 0 (fun _ => true) true n 3 [c0] = some y0 := by simpa [cellsInt, Value.cells] using hf 0 _ rfl
      have g1 : DataW.trod enc Tryz.prog W 0 (fun _ => true) true n 3 [c1] = some y1 := by simpa [cellsInt, Value.cells] using hf 1 _ rfl
      have g2 : DataW.trod enc Tryz.prog W 0 (fun _ => true) true n 22 [c2] = some y2 := by simpa [cellsLs, Value.cells] using hf 2 _ rfl
      have g3 : DataW.trod enc Tryz.prog W 0 (fun _ => true) true n 9 [c3] = some y3 := by simpa [cells9, Value.cells] using hf 3 _ rfl
      simp only [Prod.mk.injEq] at hx
      obtain ⟨hd, _⟩ := hx
      subst hd
      simp only [List.map_cons, List.map_nil, Rows.uptoBulk, Rows.uptoBulkAll] at hb
      obtain ⟨a0, e0, _, _⟩ := DataW.trod_int Tryz.underlying3 g0
      obtain ⟨a1, e1, _, _⟩ := DataW.trod_int Tryz.underlying3 g1
      obtain ⟨A, m, k, e2⟩ := slice_form Tryz.underlying22 g2
      obtain ⟨s3, e3, x3, _⟩ := DataW.trod_string Tryz.underlying9 g3
      simp only [List.cons.injEq, and_true] at e0 e1 e3
      subst e0 e1 e2 e3 x3
      simp only [Rows.uptoBulk] at hb
      obtain ⟨l, hll, hr, _, hdl⟩ := open_labs (d := y2.1) (p := y2.2) ⟨n, by simpa [Value.cells] using g2⟩
      have hy : l.length ≤ 1048576 ∧ ∀ x ∈ l, x.1.length ≤ 1048576 ∧ x.2.length ≤ 1048576 := by
        rcases hdl with ⟨_, rfl⟩ | ⟨el, sp, h2, rfl, _⟩
        · simp
        · rw [h2] at hb
          exact bulk_labs (sp := sp) (by omega)
      exact ⟨a0, a1, _, l, s3.data.toList, rfl, hr, hy.1, hy.2, by omega⟩
end Go.Proofs.YtlhodanpfpfodaaGreatDoor
namespace Go.Proofs.YtlhodanpfpfodaaGreatDoor.MatcherTimes
open Go.ChangeMaps Go.ChangeShapes Go.WideShapes Go.ChangeAt Go.RowKit Go.Icz

set_option maxRecDepth 100000 in
theorem contract (H : Type) (enc : TypeId × Value → H) (W : World) (base : Nat) (args : Array Value) (ds gs : List (DataW H)) (before : List MemPlace)
    (hval : ∀ (j : Nat) t v, Tryz.f9.params[j]? = some t → args[j]? = some v → Value.okWide Tryz.prog W .any base t v)
    (hW : DataW.Whole enc Tryz.prog Tryz.f9.params.toList Rows.matcherTimesSpec.vars false W args.toList ds gs before)
    (hsz : (DataW.weightsEach Tryz.prog (Tryz.f9.params.toList ++ Rows.matcherTimesSpec.plain.varTypes Tryz.prog) (ds ++ gs)).all (· ≤ reachBytes) = true)
    (hL : laidMetH Tryz.prog Rows.matcherTimesRow.laid W) (hk : Rows.uptoSmall H (ds ++ gs) = true) (hSh : W.ShapedOpen Tryz.prog) :
    Calls Tryz.prog 9 args W fun e W' => ∃ v, e = .returned v ∧ Rows.matcherTimesSpec.post enc Tryz.prog Tryz.f9 false true false false W args v W' := by
  have hW' := hW
  obtain ⟨p, q, hA0, hV, rfl, hfz, hnd⟩ := hW
  have hA : DataW.TrodAll enc Tryz.prog W 0 (fun _ => true) true Tryz.f9.params.toList args.toList ds p := hA0
  rw [Tryz.params9] at hA hval hsz
  obtain ⟨v0, vs0, d0, ds0, p0, q0, hargs, rfl, rfl, h0, r0⟩ := trodAll_cons hA
  obtain ⟨v1, vs1, d1, ds1, p1, q1, rfl, rfl, rfl, h1, r1⟩ := trodAll_cons r0
  obtain ⟨v2, vs2, d2, ds2, p2, q2, rfl, rfl, rfl, h2, r2⟩ := trodAll_cons r1
  obtain ⟨rfl, rfl, rfl⟩ := trodAll_nil r2
  obtain rfl : args = #[v0, v1, v2] := by cases args; simp_all
  obtain ⟨rfl, rfl⟩ := trodVars_none hV
  have lt0 : ∀ x ∈ p0, x.block < W.heap.size := by
    obtain ⟨m, hm⟩ := h0
    exact DataW.trod_lt m _ _ _ hm
  obtain ⟨vv0, a0, rfl, hr0, m0, n0, s0⟩ := open_rq (hval 0 37 v0 rfl rfl) h0 (bulk_small hk (by simp))
  obtain ⟨a1, rfl, rfl, rfl, w1⟩ := open_int Tryz.underlying3 (hval 1 3 v1 rfl rfl) h1
  have lt2 : ∀ x ∈ p2, x.block < W.heap.size := by
    obtain ⟨m, hm⟩ := h2
    exact DataW.trod_lt m _ _ _ hm
  obtain ⟨sq2, tm2, vv2, l2, ln2, rfl, hr2, m2, n2, s2⟩ := open_en (hval 2 62 v2 rfl rfl) h2 (bulk_small hk (by simp))
  clear hA0
  obtain ⟨hT, h9⟩ := tabsM_of hL (.tail _ (.tail _ (.tail _ (.tail _ (.tail _ (.tail _ (.tail _ (.head _)))))))) (.tail _ (.tail _ (.tail _ (.head _)))) (.tail _ (.head _)) (.tail _ (.tail _ (.tail _ (.tail _ (.head _))))) (.tail _ (.tail _ (.tail _ (.tail _ (.tail _ (.head _)))))) (.tail _ (.tail _ (.tail _ (.tail _ (.tail _ (.tail _ (.head _))))))) (.tail _ (.tail _ (.head _)))
  refine (MatcherTimes_walk vv0 vv2 a0 a1 sq2 tm2 l2 ln2 W hr0 hr2 m0 n0 s0 m2 n2 s2 hT (MaxAt.of hSh) h9).mono fun e W' ⟨he, bel⟩ => ?_
  subst he
  exact ⟨_, rfl, _, _, _, [], _, [], hW', trodAll_mk1 (shut_bool Tryz.underlying4 _), (trodAll_cons_mk (Below.trod laidOut (by kernel_rfl) (of_decide_eq_true (by kernel_rfl)) h0 bel lt0) (trodAll_cons_mk (shut_int Tryz.underlying3 w1) (trodAll_cons_mk (Below.trod laidOut (by kernel_rfl) (of_decide_eq_true (by kernel_rfl)) h2 bel lt2) trodAll_mk0))), rfl, bel.frame _, fun h => by cases h⟩

theorem laid_met (os : Os) : laidMet Tryz.prog Rows.matcherTimesUptoRow.laid ((World.laidAll Tryz.prog os Rows.matcherTimesUptoRow.laid).forCall (fun _ _ => 0) ⟨#[], #[.agg #[.slice none 0 0, .string ByteArray.empty, .int .i64 0, .int .i64 0, .int .i64 0, .bool false], .int .i64 0, .agg #[.int .i64 0, .int .i64 0, .slice none 0 0, .string ByteArray.empty]], []⟩).memory :=
  laidMet_laidAll _ (by kernel_rfl) (by kernel_rfl)
theorem reads (os : Os) {H : Type} (enc : TypeId × Value → H) : ∃ places, DataW.whole enc Tryz.prog ((World.laidAll Tryz.prog os Rows.matcherTimesUptoRow.laid).forCall (fun _ _ => 0) ⟨#[], #[.agg #[.slice none 0 0, .string ByteArray.empty, .int .i64 0, .int .i64 0, .int .i64 0, .bool false], .int .i64 0, .agg #[.int .i64 0, .int .i64 0, .slice none 0 0, .string ByteArray.empty]], []⟩).memory Tryz.f9.params.toList Rows.matcherTimesSpec.vars false #[.agg #[.slice none 0 0, .string ByteArray.empty, .int .i64 0, .int .i64 0, .int .i64 0, .bool false], .int .i64 0, .agg #[.int .i64 0, .int .i64 0, .slice none 0 0, .string ByteArray.empty]].toList 8 = some ([.agg [.nil, .lit (.string []), .lit (.int .i64 0), .lit (.int .i64 0), .lit (.int .i64 0), .lit (.bool false)], .lit (.int .i64 0), .agg [.lit (.int .i64 0), .lit (.int .i64 0), .nil, .lit (.string [])]], [], places) :=
  ⟨[], by kernel_rfl⟩

set_option maxRecDepth 100000 in
theorem lifted (os : Os) (started : os.Started) (H : Type) (enc : TypeId × Value → H) (F : Stop.Interp) :
    ReturnsInHanded {} Tryz.checked os 9 .any ((Rows.OpenSpec.upto Rows.matcherTimesSpec).preRow enc Tryz.prog Tryz.f9 Rows.matcherTimesUptoRow.domain false Rows.matcherTimesUptoRow.laid) (((Rows.OpenSpec.upto Rows.matcherTimesSpec).at F).post enc Tryz.prog Tryz.f9 false true false false) := by
  obtain ⟨places, hx⟩ := reads os enc
  refine returnsInHanded_of_row (C := Tryz.checked) (s := Rows.OpenSpec.upto Rows.matcherTimesSpec) own started (by kernel_rfl) Tryz.func9
    (witness_row_at (enc := enc) (C := Tryz.checked) false (World.laidAll Tryz.prog os Rows.matcherTimesUptoRow.laid) #[.agg #[.slice none 0 0, .string ByteArray.empty, .int .i64 0, .int .i64 0, .int .i64 0, .bool false], .int .i64 0, .agg #[.int .i64 0, .int .i64 0, .slice none 0 0, .string ByteArray.empty]] (World.laidAll_os _ _ _) (by kernel_rfl) (by kernel_rfl) (by kernel_rfl)
      (OpenSpec.preRow_of_cond 8 hx (by kernel_rfl) (fun k hk => by cases hk; kernel_rfl) (by kernel_rfl) (laid_met os))) ?_
  intro W base args ds gs before hval hW _ hcond hsz hL hSh _
  exact contract H enc W base args ds gs before hval hW hsz hL (hcond _ rfl) hSh

theorem fact_inPlace : Rows.matcherTimesUptoRow.inPlace = Tryz.pinned.checked.prog.inPlace 9 := by kernel_rfl
theorem fact_unfollowed : Rows.matcherTimesUptoRow.unfollowed = Tryz.pinned.checked.prog.unfollowed 9 := by kernel_rfl
theorem fact_recurses : Rows.matcherTimesUptoRow.recurses = Tryz.pinned.checked.prog.recurses 9 := by kernel_rfl
theorem fact_named : Rows.matcherTimesUptoRow.named = Tryz.pinned.checked.prog.varsNamed 9 := by kernel_rfl
set_option maxRecDepth 100000 in
theorem closed : joinedFacts Tryz.pinned.checked.prog 9 Tryz.f9 (Rows.OpenSpec.upto Rows.matcherTimesSpec).bare Rows.matcherTimesUptoRow = true := by
  have h1 : (Rows.matcherTimesUptoRow.inPlace == Tryz.pinned.checked.prog.inPlace 9) = true := beq_iff_eq.2 fact_inPlace
  have h2 : (Rows.matcherTimesUptoRow.unfollowed == Tryz.pinned.checked.prog.unfollowed 9) = true := beq_iff_eq.2 fact_unfollowed
  have h3 : (Rows.matcherTimesUptoRow.recurses == Tryz.pinned.checked.prog.recurses 9) = true := beq_iff_eq.2 fact_recurses
  have h4 : (Rows.matcherTimesUptoRow.named == Tryz.pinned.checked.prog.varsNamed 9) = true := beq_iff_eq.2 fact_named
  unfold joinedFacts
  rw [h1, h2, h3, h4]
  refine Eq.symm ?_
  kernel_rfl
theorem goes : false = Rows.matcherTimesUptoRow.goesBy Tryz.pinned.checked.prog := by kernel_rfl
theorem said : Rows.MatcherTimesUptoSaid :=
  OpenClaim.holds_of_cond 9 Tryz.f9 rfl rfl rfl rfl rfl rfl rfl ⟨rfl, rfl, rfl, rfl, rfl⟩ rfl rfl rfl rfl rfl (by kernel_rfl) Tryz.func9 closed
    (of_decide_eq_true (by kernel_rfl)) (by unfold Func.isWrapper; first | (rw [if_pos (by decide +kernel)]; kernel_rfl) | (rw [if_neg (by decide +kernel)]; exact ⟨rfl, rfl⟩))
    (fun os started H enc _ F => by rw [OpenClaim.pre_eq_preRow]; exact lifted os started H enc F)

theorem plain (f : FuncId) (fn : Func) (hf : Tryz.pinned.checked.prog.funcNamed Tryz.f9.name = some f) (hfn : Tryz.pinned.checked.prog.funcs[f]? = some fn) :
    true = Tryz.pinned.checked.prog.looks [] ∧ ∀ (j : Nat) t, fn.params[j]? = some t → Tryz.pinned.checked.prog.wantsStandIn t = false := by
  obtain rfl : f = 9 := Option.some.inj ((show Tryz.prog.funcNamed Tryz.f9.name = some 9 by kernel_rfl).symm.trans hf) |>.symm
  obtain rfl : fn = Tryz.f9 := (Option.some.inj (Tryz.func9.symm.trans hfn)).symm
  refine ⟨by kernel_rfl, fun j t ht => ?_⟩
  rw [Tryz.params9] at ht
  have hm : t ∈ [37, 3, 62] := by simpa using Array.mem_of_getElem? ht
  have hall : ([37, 3, 62].all fun u => !Tryz.prog.wantsStandIn u) = true := by kernel_rfl
  exact (show Tryz.prog.wantsStandIn t = false by simpa using List.all_eq_true.1 hall t hm)

/-- THE STATEMENT. -/
theorem proved : Rows.MatcherTimesUptoCardSaid :=
  Claim7.holds_tied_plain_at .later [] _ _ _ _ said (fun _ h => by cases h) (by kernel_rfl) (fun _ h => by cases h) matcherTimesUpto_row_tie rfl ⟨rfl, rfl⟩ (by kernel_rfl) rfl plain goes

end Go.Proofs.YtlhodanpfpfodaaGreatDoor.MatcherTimes
