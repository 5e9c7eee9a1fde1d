/-
  The reference's store: names, Find, Keys, Get. Conditions: those that each theorem names.
-/
import Derived.Test.YtcohpgahffbnlaaOr1
import Derived.Deep.QuietTactic
import Derived.BigQuiet
namespace Go.Icz
open Go.RowKit
/-- Ahead of: text by text. -/
def blt (a b : ByteArray) : Bool := Go.Op.bytesLess a.toList b.toList
/-- A key's place, and whether it is there. -/
def rfind : OM → ByteArray → Nat × Bool
  | [], _ => (0, false)
  | e :: t, k => if blt e.1 k then ((rfind t k).1 + 1, (rfind t k).2) else (0, decide (e.1 = k))
theorem rfind_step {R : OM} {i : Nat} (h : i < R.length) (k : ByteArray) : rfind (R.drop i) k = if blt R[i].1 k then ((rfind (R.drop (i + 1)) k).1 + 1, (rfind (R.drop (i + 1)) k).2) else (0, decide (R[i].1 = k)) := by
  rw [List.drop_eq_getElem_cons h]
  rfl
theorem rfind_le (R : OM) (k : ByteArray) : (rfind R k).1 ≤ R.length := by
  induction R with
  | nil => exact Nat.le_refl _
  | cons e t ih =>
    unfold rfind
    split
    · exact Nat.succ_le_succ ih
    · exact Nat.zero_le _
theorem rfind_there (R : OM) (k : ByteArray) (h : (rfind R k).2 = true) : ∃ hi : (rfind R k).1 < R.length, R[(rfind R k).1].1 = k := by
  induction R with
  | nil => cases h
  | cons e t ih =>
    unfold rfind at h ⊢
    by_cases hb : blt e.1 k = true
    · simp only [hb, if_true] at h ⊢
      obtain ⟨hi, hk⟩ := ih h
      exact ⟨by simpa using hi, by simpa using hk⟩
    · simp only [hb, Bool.false_eq_true, if_false] at h ⊢
      exact ⟨by simp, by simpa using h⟩
end Go.Icz
namespace Go.Proofs.Ytcohpgahffbnlaa
open Go.RowKit Go.Icz Go.Maps Go.ChangeMaps Go.MapKept
set_option maxRecDepth 100000
set_option maxHeartbeats 4000000
theorem fine_is (k : ByteArray) (w : World) (hk : k.size ≤ 9223372036854775807) : Calls Try.prog 42 #[.string k] w fun e w' => e = .returned (.bool (begB k)) ∧ Tch (fun _ => False) w w' := by
  have hsz : k.data.toList.length = k.size := by rw [Array.length_toList]; rfl
  have HSZ := hid hsz
  clear hsz
  go_enter Try.func42, Try.ntmps42
  go_wp2
  go_loopw [3] (fun iv wr => ∃ i : Nat, iv = .int .i64 i ∧ i ≤ k.size ∧ Hid ((k.data.toList.take i).all (fun c => decide (33 ≤ c.toNat ∧ c.toNat ≤ 126)) = true) ∧ Tch (fun _ => False) w wr) (fun iv _ => k.size - (intOf iv).toNat)
  case atStart => exact ⟨0, rfl, by omega, hid rfl, Tch.refl _ _⟩
  case round =>
    obtain ⟨i, rfl, hi, HT, ht⟩ := hrel
    by_cases hLt : i < k.size
    · have hil : (i : Int) < (k.size : Int) := by omega
      have HL := hid hLt
      have hl' : i < k.data.toList.length := by rw [HSZ.out]; exact hLt
      have HS : Hid (decide (33 ≤ (k[i]).toNat ∧ (k[i]).toNat ≤ 126) = true → (k.data.toList.take (i + 1)).all (fun c => decide (33 ≤ c.toNat ∧ c.toNat ≤ 126)) = true) := hid (fun h => by
        rw [List.take_succ_eq_append_getElem hl', List.all_append, HT.out, Bool.true_and, List.all_cons, List.all_nil, Bool.and_true]
        exact h)
      have HB : Hid (decide (33 ≤ (k[i]).toNat ∧ (k[i]).toNat ≤ 126) = false → begB k = false) := hid (fun h => by
        unfold begB
        rw [Bool.and_eq_false_iff]
        right
        rw [List.all_eq_false]
        exact ⟨_, List.getElem_mem hl', by rw [show k.data.toList[i] = k[i] from rfl, h]; simp⟩)
      clear HT
      by_cases c1 : (k[i]).toNat < 33
      · have e1 : decide (((k[i]).toNat : Int) < 33) = true := decide_eq_true (by omega)
        have HB2 := hid (HB.out (decide_eq_false (by omega)))
        clear HS HB c1
        go_wp2
        go_ret
        exact ⟨by rw [HB2.out]; rfl, ht⟩
      · have e1 : decide (((k[i]).toNat : Int) < 33) = false := decide_eq_false (by omega)
        by_cases c2 : 126 < (k[i]).toNat
        · have e2 : decide (126 < ((k[i]).toNat : Int)) = true := decide_eq_true (by omega)
          have HB2 := hid (HB.out (decide_eq_false (by omega)))
          clear HS HB c1 c2
          go_wp2
          go_ret
          exact ⟨by rw [HB2.out]; rfl, ht⟩
        · have e2 : decide (126 < ((k[i]).toNat : Int)) = false := decide_eq_false (by omega)
          have HS2 := hid (HS.out (decide_eq_true (by omega)))
          clear HS HB c1 c2
          go_wp2
          go_roundw
          case rel => exact ⟨i + 1, by go_num, HL.out, HS2, ht⟩
          case measure => have := HL.out; simp [intOf]; omega
    · have hil : ¬ (i : Int) < (k.size : Int) := by omega
      have HY : Hid (begB k = decide (k.size ≤ 64)) := hid (by
        unfold begB
        have := HT.out
        rw [List.take_of_length_le (by rw [HSZ.out]; omega)] at this
        rw [this, Bool.and_true])
      clear HT
      by_cases h1 : k.size ≤ 64
      · have d1 : ((k.size : Int) ≤ 64) := by omega
        have HD := hid (decide_eq_true h1)
        go_wp2
        go_ret
        exact ⟨by rw [HY.out, HD.out]; rfl, ht⟩
      · have d1 : ¬ ((k.size : Int) ≤ 64) := by omega
        have HD := hid (decide_eq_false h1)
        go_wp2
        go_ret
        exact ⟨by rw [HY.out, HD.out]; rfl, ht⟩

theorem kro_at {w : World} {B : Nat} {v : Value} {xs : List OV} (h : KRO.Own w B v xs) : ∃ A c, v = .slice A xs.length c ∧ (0 < xs.length → ∃ b off, A = some ⟨b, off, none⟩ ∧ b < w.heap.size ∧ ∀ j (hj : j < xs.length), w.cell? ⟨b, off + j * 2, none⟩ = some (.string xs[j].k) ∧ w.cell? ⟨b, off + j * 2 + 1, none⟩ = some xs[j].v) := by
  obtain ⟨A, c, hv, _, hr⟩ := h.rd
  refine ⟨A, c, hv, fun h0 => ?_⟩
  obtain ⟨b, off, hA, hlt, hc⟩ := hr h0
  refine ⟨b, off, hA, hlt, fun j hj => ⟨?_, ?_⟩⟩
  · exact hc (j * 2 + 0) _ (KRO.cells_get xs j hj 0 (by decide))
  · rw [Nat.add_assoc]
    refine hc (j * 2 + 1) _ ?_
    exact KRO.cells_get xs j hj 1 (by decide)
variable {w : World} {T : Nat → Prop} {r : Nat} {lv cv : Value} {xs : List OV} {M : SM} {c : Nat}
theorem Find_is (h : Rf w T r lv cv xs M) (k : ByteArray) (hlen : M.L.length ≤ 4096) :
    Calls Try.prog 29 #[.pointer (some ⟨r, 0, none⟩), .string k] w fun e w' => e = .returned (.tuple #[.int .i64 ((rfind M.L k).1 : Int), .bool (rfind M.L k).2]) ∧ Below w.heap.size w w' := by
  have c4 : w.cell? ⟨r, 4, none⟩ = some lv := held_cell h.r_ rfl
  obtain ⟨A, cp, rfl, hat⟩ := kro_at h.lo
  have hrl := row_lt h.r_
  have hxl := h.ob.1
  have HK := hid (fun i (h1 : i < xs.length) (h2 : i < M.L.length) => (h.ob.2 i h1 h2).1)
  have HX := hid hxl
  have hb4 : xs.length ≤ 4096 := by omega
  clear h hxl hlen
  go_enter Try.func29, Try.ntmps29
  go_wp2
  go_loopw [6] (fun iv wr => ∃ i : Nat, iv = .int .i64 i ∧ i ≤ xs.length ∧ Hid (rfind M.L k = ((i + (rfind (M.L.drop i) k).1), (rfind (M.L.drop i) k).2)) ∧ Below w.heap.size w wr) (fun iv _ => xs.length - (intOf iv).toNat)
  case atStart => exact ⟨0, rfl, Nat.zero_le _, hid (by simp), Below.refl _ _⟩
  case round =>
    obtain ⟨i, rfl, hi, HF, hb⟩ := hrel
    have d4 := (hb.cell (p := ⟨r, 4, none⟩) hrl).trans c4
    by_cases hLt : i < xs.length
    · have hil : (i : Int) < (xs.length : Int) := by omega
      obtain ⟨b, off, hA, hlt, hcl⟩ := hat (by omega)
      subst hA
      have hR : i < M.L.length := by rw [← HX.out]; exact hLt
      have x1 := (hb.cell (p := ⟨b, off + i * 2, none⟩) hlt).trans (hcl i hLt).1
      rw [HK.out i hLt hR] at x1
      have HS := hid (rfind_step hR k)
      have HL := hid hLt
      by_cases hbl : blt M.L[i].1 k = true
      · have e1 : Go.Op.bytesLess M.L[i].1.toList k.toList = true := hbl
        have HF2 : Hid (rfind M.L k = (((i + 1) + (rfind (M.L.drop (i + 1)) k).1), (rfind (M.L.drop (i + 1)) k).2)) := hid (by
          rw [HF.out, HS.out, if_pos hbl]
          simp only [Prod.mk.injEq, and_true]
          omega)
        generalize M.L[i].1 = ki at *
        clear hcl hat hR HF HS HK HX hbl hLt
        go_wp2
        go_roundw
        case rel => exact ⟨i + 1, by go_num, HL.out, HF2, hb⟩
        case measure => have := HL.out; simp [intOf]; omega
      · have e1 : Go.Op.bytesLess M.L[i].1.toList k.toList = false := by simpa [blt] using hbl
        have HF2 : Hid (rfind M.L k = (i, decide (M.L[i].1 = k))) := hid (by
          rw [HF.out, HS.out, if_neg hbl]
          simp)
        have HE : Hid ((M.L[i].1.toList == k.toList) = decide (M.L[i].1 = k)) := hid (by
          by_cases e : M.L[i].1 = k
          · rw [e]; simp
          · rw [bstr_neq e, decide_eq_false e])
        generalize M.L[i].1 = ki at *
        clear hcl hat hR HF HS HK HX hbl hLt
        go_wp2
        go_quiet (fail)
        go_wp2
        go_ret2
        exact ⟨by rw [HF2.out, ← HE.out]; rfl, hb.trans ⟨rfl, rfl, rfl, Nat.le_refl _, fun _ _ => rfl⟩⟩
    · have hil : ¬ (i : Int) < (xs.length : Int) := by omega
      have hie : i = xs.length := by omega
      have HF2 : Hid (rfind M.L k = (xs.length, false)) := hid (by rw [HF.out, List.drop_eq_nil_of_le (by rw [← HX.out]; omega), hie]; rfl)
      clear HF hLt hie
      go_wp2
      go_ret2
      exact ⟨by rw [HF2.out]; rfl, hb⟩
theorem infoStrR : (Try.prog.info? KS.e).map (fun i => (i.zero, i.size, i.bytes)) = some (some (.string ⟨#[]⟩), KS.z, 16) := by kernel_rfl
theorem RKeys_is (h : Rf w T r lv cv xs M) (hlen : M.L.length ≤ 4096) :
    Calls Try.prog 31 #[.pointer (some ⟨r, 0, none⟩)] w fun e w' => ∃ v, e = .returned v ∧ KS.Own w' w.heap.size v (akeys M.L) ∧ Below w.heap.size w w' := by
  have c4 : w.cell? ⟨r, 4, none⟩ = some lv := held_cell h.r_ rfl
  obtain ⟨A, cp, rfl, hat⟩ := kro_at h.lo
  have hrl := row_lt h.r_
  have HA : Hid (xs.map (·.k) = akeys M.L) := hid (by
    refine List.ext_getElem (by simpa [akeys] using h.ob.1) fun i h1 h2 => ?_
    simp only [List.getElem_map, akeys]
    exact (h.ob.2 i (by simpa using h1) (by simpa [akeys] using h2)).1)
  have hb4 : xs.length ≤ 4096 := by have := h.ob.1; omega
  clear h hlen
  go_enter Try.func31, Try.ntmps31
  go_wp2
  go_loopw [3, 4] (fun v iv wr => ∃ i : Nat, iv = .int .i64 i ∧ i ≤ xs.length ∧ Hid (KS.Own wr w.heap.size v ((xs.take i).map (·.k))) ∧ Below w.heap.size w wr) (fun _ iv _ => xs.length - (intOf iv).toNat)
  case atStart => exact ⟨0, rfl, Nat.zero_le _, hid (by simpa using Kd.Own.nil (K := KS) _ _), Below.refl _ _⟩
  case round =>
    obtain ⟨i, hiv, hi, HO, hb⟩ := hrel
    subst hiv
    have d4 := (hb.cell (p := ⟨r, 4, none⟩) hrl).trans c4
    by_cases hLt : i < xs.length
    · have hil : (i : Int) < (xs.length : Int) := by omega
      obtain ⟨b, off, hA, hlt, hcl⟩ := hat (by omega)
      subst hA
      have x1 := (hb.cell (p := ⟨b, off + i * 2, none⟩) hlt).trans (hcl i hLt).1
      have HL := hid hLt
      have HE : Hid ((xs.take (i + 1)).map (·.k) = (xs.take i).map (·.k) ++ [xs[i].k]) := hid (by rw [(List.take_append_getElem hLt).symm, List.map_append]; rfl)
      obtain ⟨acc, hacc⟩ : ∃ acc, acc = (xs.take i).map (·.k) := ⟨_, rfl⟩
      have hal : acc.length = i := by rw [hacc]; simp; omega
      rw [← hacc] at HO HE
      have ho := HO.out
      have hmm : acc.length + 1 ≤ maxLen := by have e1 : 8192 ≤ maxLen := (by decide); omega
      have hml : (acc.length + 1) * 16 ≤ 140737488355328 := by omega
      have hz := hb.size
      generalize xs[i].k = ki at *
      clear hcl hat hacc hLt HO hal
      go_wp2_with (at_builtin; refine Kd.wp_app1 (K := KS) rfl (.tmp 14) (.tmp 23) 51 rfl Try.underlying51 infoStrR rfl w.heap.size _ acc ki rfl ho rfl rfl rfl hmm hml hz ?_; intro v6 w6 o6 b6 g6 n6)
      go_roundw
      case rel => exact ⟨i + 1, by go_num, HL.out, hid (by rw [HE.out]; exact o6), hb.trans b6⟩
      case measure => have := HL.out; simp [intOf]; omega
    · have hil : ¬ (i : Int) < (xs.length : Int) := by omega
      have hie : i = xs.length := by omega
      rw [hie, List.take_length, HA.out] at HO
      clear hLt hie
      go_wp2
      go_ret
      exact ⟨_, rfl, HO.out, hb⟩
end Go.Proofs.Ytcohpgahffbnlaa
