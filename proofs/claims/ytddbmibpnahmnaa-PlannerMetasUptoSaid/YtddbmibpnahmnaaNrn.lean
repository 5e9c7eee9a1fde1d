/-
  The first run of blocks of a level: planner's run. Conditions: the list is no longer than 2^40, and fine; the fan is from 2 to 16.
-/
import Derived.Test.YtddbmibpnahmnaaNso
namespace Go.Icz
open Go.RowKit
theorem winM_len {s : List MV} {fan i : Nat} (h : i + fan ≤ s.length) : (winM s fan i).length = fan := by
  unfold winM
  rw [List.length_take, List.length_drop]
  omega
theorem winM_get {s : List MV} {fan i k : Nat} (h : i + fan ≤ s.length) (hk : k < fan) : (winM s fan i)[k]'(by rw [winM_len h]; exact hk) = s[i + k]'(by omega) := by
  unfold winM
  rw [List.getElem_take, List.getElem_drop]
/-- So far, the first k of a run: all of that level; their bytes. -/
def RunTo (s : List MV) (fan : Nat) (lv : Int) (i k : Nat) (z : Int) : Prop := (∀ x ∈ (winM s fan i).take k, x.level = lv) ∧ z = sumB ((winM s fan i).take k)
theorem RunTo.next {s : List MV} {fan i k : Nat} {lv z : Int} (h : RunTo s fan lv i k z) (hi : i + fan ≤ s.length) (hk : k < fan) (hl : (s[i + k]'(by omega)).level = lv) : RunTo s fan lv i (k + 1) (z + (s[i + k]'(by omega)).bytes) := by
  have hk2 : k < (winM s fan i).length := by rw [winM_len hi]; exact hk
  have e := winM_get hi hk
  unfold RunTo
  rw [List.take_succ_eq_append_getElem hk2, sumB_app, sumB_one, e]
  refine ⟨fun x hx => ?_, by rw [h.2]⟩
  rcases List.mem_append.1 hx with hx | hx
  · exact h.1 x hx
  · rw [List.mem_singleton.1 hx]; exact hl
theorem RunTo.bound {s : List MV} {fan i k : Nat} {lv z : Int} (h : RunTo s fan lv i k z) (hs : ∀ x ∈ s, 0 ≤ x.bytes ∧ x.bytes < 1099511627776) : 0 ≤ z ∧ z ≤ k * 1099511627776 := by
  have hsub : ∀ x ∈ (winM s fan i).take k, 0 ≤ x.bytes ∧ x.bytes < 1099511627776 := fun x hx => hs x (List.mem_of_mem_drop (List.mem_of_mem_take (List.mem_of_mem_take hx)))
  rw [h.2]
  refine ⟨sumB_nonneg (fun x hx => (hsub x hx).1), ?_⟩
  have hl : ((winM s fan i).take k).length ≤ k := List.length_take_le _ _
  generalize (winM s fan i).take k = t at *
  have : ∀ t : List MV, (∀ x ∈ t, 0 ≤ x.bytes ∧ x.bytes < 1099511627776) → sumB t ≤ t.length * 1099511627776 := by
    intro t
    induction t with
    | nil => simp [sumB]
    | cons x t ih =>
      intro h
      have h1 := ih (fun y hy => h y (List.mem_cons_of_mem _ hy))
      have h2 := h x (List.mem_cons_self ..)
      unfold sumB at *
      rw [List.map_cons, List.sum_cons, List.length_cons]
      push_cast
      omega
  have h3 := this t hsub
  omega
theorem sumB_take {l : List MV} (h : ∀ x ∈ l, 0 ≤ x.bytes) (k : Nat) : sumB (l.take k) ≤ sumB l := by
  have e : sumB l = sumB (l.take k) + sumB (l.drop k) := by rw [← sumB_app, List.take_append_drop]
  have := sumB_nonneg (l := l.drop k) (fun x hx => h x (List.mem_of_mem_drop hx))
  omega
theorem run_no1 {s : List MV} {fan i k : Nat} {mb lv : Int} (hi : i + fan ≤ s.length) (hk : k < fan) (hl : (s[i + k]'(by omega)).level ≠ lv) : ¬ goodM s fan mb lv i := by
  rintro ⟨h1, _⟩
  have e := winM_get hi hk
  exact hl (by rw [← e]; exact h1 _ (List.getElem_mem _))
theorem run_no2 {s : List MV} {fan i k : Nat} {mb lv z : Int} (h : RunTo s fan lv i k z) (hs : ∀ x ∈ s, 0 ≤ x.bytes ∧ x.bytes < 1099511627776) (hz : mb < z) : ¬ goodM s fan mb lv i := by
  rintro ⟨_, h2⟩
  have := sumB_take (l := winM s fan i) (fun x hx => (hs x (List.mem_of_mem_drop (List.mem_of_mem_take hx))).1) k
  rw [← h.2] at this
  omega
theorem run_yes {s : List MV} {fan i : Nat} {mb lv z : Int} (h : RunTo s fan lv i fan z) (hi : i + fan ≤ s.length) (hz : z ≤ mb) : goodM s fan mb lv i := by
  have e : (winM s fan i).take fan = winM s fan i := List.take_of_length_le (by rw [winM_len hi]; exact Nat.le_refl _)
  obtain ⟨h1, h2⟩ := h
  rw [e] at h1 h2
  exact ⟨h1, by rw [← h2]; exact hz⟩
/-- What run answers. -/
def RunA (s : List MV) (fan : Nat) (mb lv : Int) (a : List MV) : Prop :=
  (∃ i : Nat, i + fan ≤ s.length ∧ goodM s fan mb lv i ∧ (∀ i' : Nat, i' < i → ¬ goodM s fan mb lv i') ∧ a = winM s fan i) ∨ ((∀ i : Nat, i + fan ≤ s.length → ¬ goodM s fan mb lv i) ∧ a = [])
end Go.Icz
namespace Go.Proofs.Ytddbmibpnahmnaa
open Go.RowKit Go.Icz
set_option maxRecDepth 100000 in
theorem run_part {A : Option Addr} {n c lo hi : Nat} (h1 : lo ≤ hi) (h2 : hi ≤ c) (wx : World) : (Instr.slice 25 (.slice A n c) (some (.int .i64 (lo : Int))) (some (.int .i64 (hi : Int))) none).run Try.prog wx = .ok (sliced A lo hi c 8) wx := by
  have := run_slice_lh (P := Try.prog) (w := wx) 25 A n c Try.underlying25 .i64 .i64 (lo : Int) (hi : Int) (by omega) (by omega) (by omega)
  rw [this]
  have hz : (sizeOf (Try.prog.elem 25)).run Try.prog wx = .ok 8 wx := by go_simp
  rw [hz]
  simp [Result.andThen]
set_option maxRecDepth 100000 in
set_option maxHeartbeats 4000000 in
theorem run_is (v : Value) (s : List MV) (fan : Nat) (mb keep : Int) (lv : Nat) (w : World) (hR : KMet.Rd w v s) (hlen : s.length ≤ 1099511627776) (hmb : 1 ≤ mb) (hf1 : 2 ≤ fan) (hf2 : fan ≤ 16) (hs : ∀ x ∈ s, 0 ≤ x.bytes ∧ x.bytes < 1099511627776) :
    Calls Try.prog 51 #[v, rulesV fan mb keep, .int .i64 lv] w fun e w' => ∃ u a, e = .returned u ∧ RunA s fan mb lv a ∧ KMet.Rd w' u a ∧ Below w.heap.size w w' := by
  obtain ⟨A, c, rfl, hlc⟩ := hR.form
  have HS := hid hs
  have b1 : Below w.heap.size w (w.alloc (.cells #[.int .i64 (fan : Int), .int .i64 mb, .int .i64 keep] 70)) := (Below.refl _ w).alloc (Nat.le_refl _) _
  have r1 := box_row w #[.int .i64 (fan : Int), .int .i64 mb, .int .i64 keep] 70
  have z1 : (w.alloc (.cells #[.int .i64 (fan : Int), .int .i64 mb, .int .i64 keep] 70)).heap.size = w.heap.size + 1 := World.size_alloc _ _
  have hw1 : IntKind.i64.wrap ((s.length : Int) - (fan : Int)) = (s.length : Int) - (fan : Int) := by rw [IntKind.wrap_i64]; omega
  have hw2 : IntKind.i64.wrap ((s.length : Int) - (fan : Int) + 1) = (s.length : Int) - (fan : Int) + 1 := by rw [IntKind.wrap_i64]; omega
  have HROW : Hid (∀ i, i + fan ≤ s.length → KMet.Rd w (.slice (A.map (fun x => x.add (i * 8))) fan (c - i)) (winM s fan i)) := hid (fun i hi => by
    have h := Kd.Rd.part hR i (i + fan) (by omega) hi
    have e : (s.drop i).take (i + fan - i) = winM s fan i := by unfold winM; rw [Nat.add_sub_cancel_left]
    rw [e] at h
    unfold sliced at h
    rw [if_neg (by omega), Nat.add_sub_cancel_left] at h
    exact h)
  clear hs
  unfold rulesV
  go_enter Try.func51, Try.ntmps51
  go_wp2
  generalize w.alloc (.cells #[.int .i64 (fan : Int), .int .i64 mb, .int .i64 keep] 70) = W1 at *
  have KEEP : ∀ wr, Below W1.heap.size W1 wr → wr.cell? ⟨w.heap.size, 0, none⟩ = some (.int .i64 (fan : Int)) ∧ wr.cell? ⟨w.heap.size, 1, none⟩ = some (.int .i64 mb) := fun wr hw => by
    have h := (Tch.of_below hw (S := fun _ => False)).row r1 (fun h => h)
    exact ⟨held_cell h rfl, held_cell h rfl⟩
  have Z1 := hid z1
  clear r1 z1
  obtain ⟨k00, k01⟩ := KEEP _ (Below.refl _ _)
  go_step3
  go_wp2
  go_step3
  go_wp2
  clear k00 k01
  go_loopw [18] (fun iv wr => ∃ i : Nat, iv = .int .i64 i ∧ (i : Int) ≤ (s.length : Int) ∧ Hid (∀ i' : Nat, i' < i → ¬ goodM s fan mb lv i') ∧ Below W1.heap.size W1 wr) (fun iv _ => s.length + 1 - (intOf iv).toNat)
  case atStart => exact ⟨0, rfl, by omega, hid (fun i' h => by omega), Below.refl _ _⟩
  case round =>
    obtain ⟨i, rfl, hi, HG, hbw⟩ := hrel
    obtain ⟨k0, k1⟩ := KEEP wr hbw
    by_cases hLt : i + fan ≤ s.length
    · have hlt : (i : Int) < (s.length : Int) - (fan : Int) + 1 := by omega
      have hw3 : IntKind.i64.wrap ((i : Int) + (fan : Int)) = ((i + fan : Nat) : Int) := by rw [IntKind.wrap_i64]; omega
      have hrd1 := (HROW.out i hLt).below b1
      have HL := hid hLt
      go_wp2
      generalize A.map (fun x => x.add (i * 8)) = A1 at *
      generalize hc1 : c - i = c1 at *
      have HC1 := hid hc1
      clear hc1
      generalize hwo : wr = wo at *
      go_loopw [9, 30] (fun zv kv ws => ∃ (z : Int) (k : Nat), zv = .int .i64 z ∧ kv = .int .i64 k ∧ k ≤ fan ∧ z ≤ mb ∧ Hid (RunTo s fan lv i k z) ∧ Below W1.heap.size W1 ws) (fun _ kv _ => fan - (intOf kv).toNat)
      case atStart => exact ⟨0, 0, rfl, rfl, by omega, by omega, hid ⟨by simp, by simp [sumB]⟩, hbw⟩
      case round =>
        obtain ⟨z, k, rfl, rfl, hk, hzm, HRT, hb2⟩ := hrel
        obtain ⟨m0, m1⟩ := KEEP wr hb2
        by_cases hkf : k < fan
        · have hrd2 := hrd1.below hb2
          have hkl : (k : Int) < (fan : Int) := by omega
          have hwl := winM_len HL.out
          obtain ⟨b, off, hA, hb, hc⟩ := Kd.Rd.met hrd2 (j := k) (by omega)
          subst hA
          have hbnd := HRT.out.bound HS.out
          have hx := HS.out _ (List.getElem_mem (show i + k < s.length by omega))
          have hge := winM_get HL.out hkf
          rw [hge] at hc
          have HNX : Hid ((s[i + k]'(by omega)).level = lv → RunTo s fan lv i (k + 1) (z + (s[i + k]'(by omega)).bytes)) := hid (fun h => HRT.out.next HL.out hkf h)
          have HNO : Hid ((s[i + k]'(by omega)).level ≠ lv → ¬ goodM s fan mb lv i) := hid (fun h => run_no1 HL.out hkf h)
          have HNO2 : Hid (∀ z', RunTo s fan lv i (k + 1) z' → mb < z' → ¬ goodM s fan mb lv i) := hid (fun z' h h2 => run_no2 h HS.out h2)
          have HNI : Hid (¬ goodM s fan mb lv i → ∀ i' : Nat, i' < i + 1 → ¬ goodM s fan mb lv i') := hid (fun h i' hi' => by
            by_cases e : i' = i
            · subst e; exact h
            · exact HG.out i' (by omega))
          have HKF := hid hkf
          clear hge
          generalize s[i + k]'(by omega) = x at *
          obtain ⟨q0, q1, q2, q3, q4, q5, q6, q7⟩ := hc
          have hwz : IntKind.i64.wrap (z + x.bytes) = z + x.bytes := by rw [IntKind.wrap_i64]; have := hbnd.1; have := hbnd.2; have := hx.1; have := hx.2; omega
          have bz := below_box hb2 hb2.size (.cells #[.int .i64 x.id, .int .i64 x.least, .int .i64 x.most, .int .i64 x.first, .int .i64 x.last, .int .i64 x.rows, .int .i64 x.bytes, .int .i64 x.level] 28)
          have m1b := (KEEP _ bz).2
          have HBN := hid hbnd
          have HXB := hid hx
          clear hbnd hx HRT hrd2 hwl
          by_cases hl : x.level = (lv : Int)
          · have HR1 := hid (HNX.out hl)
            have hd : (x.level != (lv : Int)) = false := by simp [hl]
            have HLV := hid hl
            clear HNX HNO hl
            by_cases hz : mb < z + x.bytes
            · have HN2 := hid (HNI.out (HNO2.out _ HR1.out hz))
              go_wp2
              go_roundw
              case rel => exact ⟨i + 1, by go_num, by omega, HN2, bz⟩
              case measure => have := HL.out; simp [intOf]; omega
            · go_wp2
              go_roundw
              case rel => exact ⟨z + x.bytes, k + 1, rfl, by go_num, HKF.out, by omega, HR1, bz⟩
              case measure => have := HKF.out; simp [intOf]; omega
          · have hd : (x.level != (lv : Int)) = true := by simpa using hl
            have HN2 := hid (HNI.out (HNO.out hl))
            go_wp2
            go_roundw
            case rel => exact ⟨i + 1, by go_num, by omega, HN2, bz⟩
            case measure => have := HL.out; simp [intOf]; omega
        · have hkl : ¬ (k : Int) < (fan : Int) := by omega
          have HA : Hid (RunA s fan mb lv (winM s fan i)) := hid (.inl ⟨i, HL.out, run_yes (z := z) (by have := HRT.out; rwa [show k = fan by omega] at this) HL.out hzm, HG.out, rfl⟩)
          go_wp2
          go_ret
          exact ⟨_, _, rfl, HA.out, hrd1.below hb2, b1.trans (hb2.mono b1.size)⟩
    · have hlt : ¬ (i : Int) < (s.length : Int) - (fan : Int) + 1 := by omega
      have HA : Hid (RunA s fan mb lv []) := hid (.inr ⟨fun i' hi' => HG.out i' (by omega), rfl⟩)
      go_wp2
      go_ret
      exact ⟨_, _, rfl, HA.out, Kd.Rd.nil _, b1.trans (hbw.mono b1.size)⟩
end Go.Proofs.Ytddbmibpnahmnaa
