/-
  The small steps of a disk: whether New made it, the switches, names that may be, whether one is there, a file synced. Conditions: those that each theorem names.
-/
import Derived.Test.YtjpneohachkheaaSm1
import Derived.BigQuiet
import Derived.BigRegion
import Derived.Deep.QuietTactic
import Derived.Lib.MinMax
namespace Go.Proofs.Ytjpneohachkheaa
open Go.RowKit Go.Icz Go.Maps Go.ChangeMaps Go.MapKept
set_option maxRecDepth 100000
/-- No disk, or one that nobody made. -/
def DiZ (w : World) (v : Value) : Prop := v = .pointer none ∨ ∃ q : Nat, v = .pointer (some ⟨q, 0, none⟩) ∧ w.heap[q]? = some (.cells #[.pointer none] 44 (0, 0))
theorem DiZ.below {w w' : World} {v : Value} (h : DiZ w v) (k : Below w.heap.size w w') : DiZ w' v := by
  rcases h with rfl | ⟨q, rfl, h⟩
  · exact .inl rfl
  · exact .inr ⟨q, rfl, (k.block q (row_lt h)).trans h⟩
theorem made_yes {w : World} {q p : Nat} (h : w.heap[q]? = some (.cells #[.pointer (some ⟨p, 0, none⟩)] 44 (0, 0))) : Calls Try.prog 30 #[.pointer (some ⟨q, 0, none⟩)] w fun e w' => e = .returned (.bool true) ∧ w' = w := by
  have c0 := held_cell (i := 0) h rfl
  clear h
  go_enter Try.func30, Try.ntmps30
  go_wp2
  go_ret
  exact ⟨rfl, rfl⟩
theorem made_no {w : World} {v : Value} (h : DiZ w v) : Calls Try.prog 30 #[v] w fun e w' => e = .returned (.bool false) ∧ w' = w := by
  rcases h with rfl | ⟨q, rfl, h⟩
  · go_enter Try.func30, Try.ntmps30
    go_wp2
    go_ret
    exact ⟨rfl, rfl⟩
  · have c0 := held_cell (i := 0) h rfl
    clear h
    go_enter Try.func30, Try.ntmps30
    go_wp2
    go_ret
    exact ⟨rfl, rfl⟩
theorem looked_yes {w : World} {q p : Nat} (h : w.heap[q]? = some (.cells #[.pointer (some ⟨p, 0, none⟩)] 44 (0, 0))) : Calls Try.prog 28 #[.pointer (some ⟨q, 0, none⟩)] w fun e w' => e = .returned (.pointer (some ⟨p, 0, none⟩)) ∧ w' = w := by
  have c0 := held_cell (i := 0) h rfl
  have hM := made_yes h
  clear h
  go_enter Try.func28, Try.ntmps28
  go_wp2_with (go_at_call 30; refine hM.mono ?_; rintro e w1 ⟨rfl, rfl⟩)
  go_ret
  exact ⟨rfl, rfl⟩
def plZ : Array Value := #[.int .i64 0, .bool false, .bool false, .int .i64 0, .int .i64 0, .map none, .map none, .slice none 0 0]
theorem looked_no {w : World} {v : Value} (h : DiZ w v) : Calls Try.prog 28 #[v] w fun e w' => e = .returned (.pointer (some ⟨w.heap.size, 0, none⟩)) ∧ w' = w.alloc (.cells plZ 69) := by
  have hM := made_no h
  clear h
  unfold plZ
  go_enter Try.func28, Try.ntmps28
  go_wp2_with (go_at_call 30; refine hM.mono ?_; rintro e w1 ⟨rfl, rfl⟩)
  go_ret
  exact ⟨rfl, rfl⟩
theorem ready_no {w : World} {v : Value} (h : DiZ w v) : Calls Try.prog 37 #[v] w fun e w' => e = .returned (.int .i64 1) ∧ w' = w := by
  have hM := made_no h
  clear h
  go_enter Try.func37, Try.ntmps37
  go_wp2_with (go_at_call 30; refine hM.mono ?_; rintro e w1 ⟨rfl, rfl⟩)
  go_ret
  exact ⟨rfl, rfl⟩
theorem ready_yes {w : World} {q p n s : Nat} {cv : Value} {M : DM} (hq : w.heap[q]? = some (.cells #[.pointer (some ⟨p, 0, none⟩)] 44 (0, 0))) (hp : w.heap[p]? = some (.cells (plR M n s cv) 69 (0, 0))) :
    Calls Try.prog 37 #[.pointer (some ⟨q, 0, none⟩)] w fun e w' => e = .returned (.int .i64 (if M.off then 9 else 0)) ∧ w' = w := by
  have c0 := held_cell (i := 0) hq rfl
  have d0 : w.cell? ⟨p, 2, none⟩ = some (.bool M.off) := held_cell hp rfl
  have hM := made_yes hq
  clear hq hp
  cases ho : M.off <;> rw [ho] at d0
  · go_enter Try.func37, Try.ntmps37
    go_wp2_with (go_at_call 30; refine hM.mono ?_; rintro e w1 ⟨rfl, rfl⟩)
    go_ret
    exact ⟨rfl, rfl⟩
  · go_enter Try.func37, Try.ntmps37
    go_wp2_with (go_at_call 30; refine hM.mono ?_; rintro e w1 ⟨rfl, rfl⟩)
    go_ret
    exact ⟨rfl, rfl⟩
/-- How a call fails: whether it is done, what it answers, what is left. -/
def nextF (left : Int) (done : Bool) : Bool × Int × Int := if left = 0 then (true, 0, left) else if 0 < left - 1 then (true, 0, left - 1) else (done, 8, left - 1)
theorem next_is {w : World} {p n s : Nat} {cv : Value} {M : DM} (hp : w.heap[p]? = some (.cells (plR M n s cv) 69 (0, 0))) (hl : 0 ≤ M.fault ∧ M.fault ≤ 9223372036854775807) :
    Calls Try.prog 56 #[.pointer (some ⟨p, 0, none⟩)] w fun e w' => e = .returned (.tuple #[.bool (nextF M.fault M.done).1, .int .i64 (nextF M.fault M.done).2.1]) ∧ w'.heap[p]? = some (.cells (plR { M with fault := (nextF M.fault M.done).2.2 } n s cv) 69 (0, 0)) ∧ Tch (· = p) w w' := by
  have c6 : w.cell? ⟨p, 0, none⟩ = some (.int .i64 M.fault) := held_cell hp rfl
  have c7 : w.cell? ⟨p, 1, none⟩ = some (.bool M.done) := held_cell hp rfl
  have f6 := held_frozen (i := 0) hp
  have hw2 : IntKind.i64.wrap (M.fault - 1) = M.fault - 1 := by rw [IntKind.wrap_i64]; omega
  have HF : Hid ((w.setCell ⟨p, 0, none⟩ (.int .i64 (M.fault - 1))).heap[p]? = some (.cells (plR { M with fault := M.fault - 1 } n s cv) 69 (0, 0))) := hid (by rw [row_set hp]; rfl)
  have HP := hid hp
  clear hp
  by_cases y : M.fault = 0
  · have hA : nextF M.fault M.done = (true, 0, M.fault) := by unfold nextF; rw [if_pos y]
    have HA := hid hA
    rw [y] at c6
    clear hw2 hl y hA
    rw [HA.out]
    go_enter Try.func56, Try.ntmps56
    go_wp2
    go_ret2
    exact ⟨rfl, HP.out, Tch.refl _ _⟩
  · have hy : (M.fault == 0) = false := by simpa using y
    by_cases x : 1 < M.fault
    · have hx : ¬ M.fault ≤ 1 := by omega
      have hA : nextF M.fault M.done = (true, 0, M.fault - 1) := by unfold nextF; rw [if_neg y, if_pos (by omega)]
      have HA := hid hA
      clear hl y hA
      rw [HA.out]
      go_enter Try.func56, Try.ntmps56
      go_wp2
      go_ret2
      exact ⟨rfl, HF.out, Tch.set _ _ _ _ rfl⟩
    · have hx : M.fault ≤ 1 := by omega
      have hA : nextF M.fault M.done = (M.done, 8, M.fault - 1) := by unfold nextF; rw [if_neg y, if_neg (by omega)]
      have HA := hid hA
      clear hl y hA
      rw [HA.out]
      go_enter Try.func56, Try.ntmps56
      go_wp2
      go_ret2
      exact ⟨rfl, HF.out, Tch.set _ _ _ _ rfl⟩
theorem ask_next (M : DM) (z : M.fuse ≠ 0) : askM M = ((nextF M.fault M.done).1, (nextF M.fault M.done).2.1, { M with fuse := if 0 < M.fuse then M.fuse - 1 else M.fuse, fault := (nextF M.fault M.done).2.2 }) := by
  unfold askM nextF
  rw [if_neg z]
  by_cases y : M.fault = 0
  · simp only [if_pos y]
  · by_cases x : 0 < M.fault - 1
    · simp only [if_neg y, if_pos x]
    · simp only [if_neg y, if_neg x]
/-- The switches. -/
theorem ask_is {w : World} {p n s : Nat} {cv : Value} {M : DM} (hp : w.heap[p]? = some (.cells (plR M n s cv) 69 (0, 0))) (hfu : -1 ≤ M.fuse ∧ M.fuse ≤ 9223372036854775807) (hfa : 0 ≤ M.fault ∧ M.fault ≤ 9223372036854775807) :
    Calls Try.prog 47 #[.pointer (some ⟨p, 0, none⟩)] w fun e w' => e = .returned (.tuple #[.bool (askM M).1, .int .i64 (askM M).2.1]) ∧ w'.heap[p]? = some (.cells (plR (askM M).2.2 n s cv) 69 (0, 0)) ∧ Tch (· = p) w w' := by
  have c2 : w.cell? ⟨p, 2, none⟩ = some (.bool M.off) := held_cell hp rfl
  have c3 : w.cell? ⟨p, 3, none⟩ = some (.int .i64 M.fuse) := held_cell hp rfl
  have f2 := held_frozen (i := 2) hp
  have f3 := held_frozen (i := 3) hp
  have HP := hid hp
  by_cases z : M.fuse = 0
  · have HA : Hid (askM M = (false, 9, { M with off := true })) := hid (by unfold askM; rw [if_pos z])
    have HR : Hid ((w.setCell ⟨p, 2, none⟩ (.bool true)).heap[p]? = some (.cells (plR { M with off := true } n s cv) 69 (0, 0))) := hid (by rw [row_set HP.out]; rfl)
    have hz : (M.fuse == 0) = true := by simpa using z
    rw [z] at c3
    clear z HP hp
    go_enter Try.func47, Try.ntmps47
    go_wp2
    go_ret2
    rw [HA.out]
    exact ⟨rfl, HR.out, Tch.set _ _ _ _ rfl⟩
  · have hw1 : IntKind.i64.wrap (M.fuse - 1) = M.fuse - 1 := by rw [IntKind.wrap_i64]; omega
    have hz : (M.fuse == 0) = false := by simpa using z
    have HA := hid (ask_next M z)
    by_cases zp : 0 < M.fuse
    · have hzp : decide (0 < M.fuse) = true := decide_eq_true zp
      have hrow : (w.setCell ⟨p, 3, none⟩ (.int .i64 (M.fuse - 1))).heap[p]? = some (.cells (plR { M with fuse := M.fuse - 1 } n s cv) 69 (0, 0)) := by rw [row_set hp]; rfl
      have HN := next_is (M := { M with fuse := M.fuse - 1 }) hrow hfa
      have HQ : Hid (∀ w', w'.heap[p]? = some (.cells (plR { M with fuse := M.fuse - 1, fault := (nextF M.fault M.done).2.2 } n s cv) 69 (0, 0)) → Tch (· = p) (w.setCell ⟨p, 3, none⟩ (.int .i64 (M.fuse - 1))) w' → w'.heap[p]? = some (.cells (plR (askM M).2.2 n s cv) 69 (0, 0)) ∧ Tch (· = p) w w') := hid (fun w' h1 t => by
        rw [HA.out]
        simp only [if_pos zp]
        exact ⟨h1, (Tch.set (· = p) _ ⟨p, 3, none⟩ _ rfl).trans t⟩)
      have HE : Hid ((askM M).1 = (nextF M.fault M.done).1 ∧ (askM M).2.1 = (nextF M.fault M.done).2.1) := hid (by rw [HA.out]; exact ⟨rfl, rfl⟩)
      rw [HE.out.1, HE.out.2]
      generalize (nextF M.fault M.done).1 = r1 at *
      generalize (nextF M.fault M.done).2.1 = r2 at *
      clear HA HE hrow hp HP hfu hfa z
      go_enter Try.func47, Try.ntmps47
      go_wp2_with (go_at_call 56; refine HN.mono ?_; rintro e w1 ⟨rfl, h1, t1⟩; clear HN)
      go_ret2
      exact ⟨rfl, HQ.out _ h1 t1⟩
    · have hzp : ¬ 0 < M.fuse := zp
      have HN := next_is hp hfa
      have HQ : Hid (∀ w', w'.heap[p]? = some (.cells (plR { M with fault := (nextF M.fault M.done).2.2 } n s cv) 69 (0, 0)) → Tch (· = p) w w' → w'.heap[p]? = some (.cells (plR (askM M).2.2 n s cv) 69 (0, 0)) ∧ Tch (· = p) w w') := hid (fun w' h1 t => by
        rw [HA.out]
        simp only [if_neg zp]
        exact ⟨h1, t⟩)
      have HE : Hid ((askM M).1 = (nextF M.fault M.done).1 ∧ (askM M).2.1 = (nextF M.fault M.done).2.1) := hid (by rw [HA.out]; exact ⟨rfl, rfl⟩)
      rw [HE.out.1, HE.out.2]
      generalize (nextF M.fault M.done).1 = r1 at *
      generalize (nextF M.fault M.done).2.1 = r2 at *
      clear HA HE hp HP hfu hfa z
      go_enter Try.func47, Try.ntmps47
      go_wp2_with (go_at_call 56; refine HN.mono ?_; rintro e w1 ⟨rfl, h1, t1⟩; clear HN)
      go_ret2
      exact ⟨rfl, HQ.out _ h1 t1⟩
/-- A file synced. -/
theorem fsync_is {w : World} {x : FV} (h : Fil w x) (hl : x.m.b.length ≤ 1099511627776) :
    Calls Try.prog 44 #[.pointer (some ⟨x.g, 0, none⟩)] w fun e w' => e = .returned (.tuple #[]) ∧ Fil w' ⟨x.g, x.bv, .slice none 0 0, synF x.m⟩ ∧ Tch (· = x.g) w w' := by
  have c0 : w.cell? ⟨x.g, 0, none⟩ = some x.bv := held_cell h.at_ rfl
  have c1 : w.cell? ⟨x.g, 1, none⟩ = some (.int .i64 (x.m.s : Int)) := held_cell h.at_ rfl
  have c2 : w.cell? ⟨x.g, 2, none⟩ = some x.pv := held_cell h.at_ rfl
  have f1 := held_frozen (i := 1) h.at_
  have f2 := held_frozen (i := 2) h.at_
  have HW : Hid (Fil ((w.setCell ⟨x.g, 1, none⟩ (.int .i64 (x.m.b.length : Int))).setCell ⟨x.g, 2, none⟩ (.slice none 0 0)) ⟨x.g, x.bv, .slice none 0 0, synF x.m⟩) := by
    have t1 : Tch (· = x.g) w ((w.setCell ⟨x.g, 1, none⟩ (.int .i64 (x.m.b.length : Int))).setCell ⟨x.g, 2, none⟩ (.slice none 0 0)) := (Tch.set (· = x.g) _ ⟨x.g, 1, none⟩ _ rfl).trans (Tch.set (· = x.g) _ ⟨x.g, 2, none⟩ _ rfl)
    refine hid ⟨?_, h.b.touch t1 (fun j hj hb => ?_), Kd.Own.nil _ _⟩
    · rw [row_set (row_set h.at_ _)]
      rfl
    · obtain ⟨cur, hc⟩ := h.b.row hb
      exact tag_ne h.at_ hc (by decide) hj.symm
  obtain ⟨A, c, hv, _⟩ := h.b.rd.form
  rw [hv] at c0
  generalize x.m.b.length = L at *
  clear h hv
  go_enter Try.func44, Try.ntmps44
  go_wp2
  go_end0
  exact ⟨rfl, HW.out, (Tch.set (· = x.g) _ ⟨x.g, 1, none⟩ _ rfl).trans (Tch.set (· = x.g) _ ⟨x.g, 2, none⟩ _ rfl)⟩
def begB (k : ByteArray) : Bool := decide (k.size ≤ 64) && k.data.toList.all fun c => decide (33 ≤ c.toNat ∧ c.toNat ≤ 126)
def nameB (k : ByteArray) : Bool := decide (1 ≤ k.size) && begB k
theorem name_right (k : ByteArray) : nameB k = rightB k := by
  unfold nameB begB rightB
  by_cases h1 : 1 ≤ k.size <;> by_cases h2 : k.size ≤ 64 <;> simp [h1, h2]
/-- May a name begin so? -/
theorem beg_is (k : ByteArray) (w : World) (hk : k.size ≤ 9223372036854775807) : Calls Try.prog 63 #[.string k] w fun e w' => e = .returned (.bool (begB k)) ∧ Tch (fun _ => False) w w' := by
  have hsz : k.data.toList.length = k.size := by rw [Array.length_toList]; rfl
  by_cases h1 : k.size ≤ 64
  · have HN : Hid (begB k = k.data.toList.all fun c => decide (33 ≤ c.toNat ∧ c.toNat ≤ 126)) := hid (by simp [begB, h1])
    have HSZ := hid hsz
    clear hsz
    have d2 : decide (64 < (k.size : Int)) = false := decide_eq_false (by omega)
    go_enter Try.func63, Try.ntmps63
    go_wp2
    go_loopw [9] (fun iv wr => ∃ i : Nat, iv = .int .i64 i ∧ i ≤ k.size ∧ Hid ((k.data.toList.take i).all (fun c => decide (33 ≤ c.toNat ∧ c.toNat ≤ 126)) = true) ∧ Tch (fun _ => False) w wr) (fun iv _ => k.size - (intOf iv).toNat)
    case atStart => exact ⟨0, rfl, by omega, hid rfl, Tch.refl _ _⟩
    case round =>
      obtain ⟨i, rfl, hi, HT, ht⟩ := hrel
      by_cases hLt : i < k.size
      · have hil : (i : Int) < (k.size : Int) := by omega
        have HL := hid hLt
        have hl' : i < k.data.toList.length := by rw [HSZ.out]; exact hLt
        have HS : Hid (decide (33 ≤ (k[i]).toNat ∧ (k[i]).toNat ≤ 126) = true → (k.data.toList.take (i + 1)).all (fun c => decide (33 ≤ c.toNat ∧ c.toNat ≤ 126)) = true) := hid (fun h => by
          rw [List.take_succ_eq_append_getElem hl', List.all_append, HT.out, Bool.true_and, List.all_cons, List.all_nil, Bool.and_true]
          exact h)
        have HB : Hid (decide (33 ≤ (k[i]).toNat ∧ (k[i]).toNat ≤ 126) = false → begB k = false) := hid (fun h => by
          rw [HN.out, List.all_eq_false]
          exact ⟨_, List.getElem_mem hl', by rw [show k.data.toList[i] = k[i] from rfl, h]; simp⟩)
        clear HT
        by_cases c1 : (k[i]).toNat < 33
        · have e1 : decide (((k[i]).toNat : Int) < 33) = true := decide_eq_true (by omega)
          have HB2 := hid (HB.out (decide_eq_false (by omega)))
          clear HS HB c1
          go_wp2
          go_ret
          exact ⟨by rw [HB2.out]; rfl, ht⟩
        · have e1 : decide (((k[i]).toNat : Int) < 33) = false := decide_eq_false (by omega)
          by_cases c2 : 126 < (k[i]).toNat
          · have e2 : decide (126 < ((k[i]).toNat : Int)) = true := decide_eq_true (by omega)
            have HB2 := hid (HB.out (decide_eq_false (by omega)))
            clear HS HB c1 c2
            go_wp2
            go_ret
            exact ⟨by rw [HB2.out]; rfl, ht⟩
          · have e2 : decide (126 < ((k[i]).toNat : Int)) = false := decide_eq_false (by omega)
            have HS2 := hid (HS.out (decide_eq_true (by omega)))
            clear HS HB c1 c2
            go_wp2
            go_roundw
            case rel => exact ⟨i + 1, by go_num, HL.out, HS2, ht⟩
            case measure => have := HL.out; simp [intOf]; omega
      · have hil : ¬ (i : Int) < (k.size : Int) := by omega
        have HY : Hid (begB k = true) := hid (by rw [HN.out, ← HT.out, List.take_of_length_le (by rw [HSZ.out]; omega)])
        clear HT
        go_wp2
        go_ret
        exact ⟨by rw [HY.out]; rfl, ht⟩
  · have HN : Hid (begB k = false) := hid (by simp [begB, h1])
    have d2 : decide (64 < (k.size : Int)) = true := decide_eq_true (by omega)
    clear h1 hsz
    go_enter Try.func63, Try.ntmps63
    go_wp2
    go_ret
    exact ⟨by rw [HN.out]; rfl, Tch.refl _ _⟩
theorem name_is (k : ByteArray) (w : World) (hk : k.size ≤ 9223372036854775807) : Calls Try.prog 55 #[.string k] w fun e w' => e = .returned (.bool (nameB k)) ∧ Tch (fun _ => False) w w' := by
  by_cases h : 1 ≤ k.size
  · have HN : Hid (nameB k = begB k) := hid (by simp [nameB, h])
    have hB := beg_is k w hk
    have d : 0 < k.size := h
    rw [HN.out]
    generalize begB k = y at *
    clear h
    go_enter Try.func55, Try.ntmps55
    go_wp2_with (go_at_call 63; refine hB.mono ?_; rintro e w1 ⟨rfl, t1⟩)
    go_ret
    exact ⟨rfl, t1⟩
  · have HN : Hid (nameB k = false) := hid (by simp [nameB, h])
    have d : ¬ 0 < k.size := h
    clear h
    go_enter Try.func55, Try.ntmps55
    go_wp2
    go_ret
    exact ⟨by rw [HN.out]; rfl, Tch.refl _ _⟩
/-- May a name be? -/
theorem right_is (k : ByteArray) (w : World) (hk : k.size ≤ 9223372036854775807) : Calls Try.prog 55 #[.string k] w fun e w' => e = .returned (.bool (rightB k)) ∧ Tch (fun _ => False) w w' := by
  rw [← name_right]
  exact name_is k w hk
/-- Whether a name is there. -/
theorem there_is {w : World} {T : Nat → Prop} {c q p n s : Nat} {cv : Value} {fl : List FV} {M : DM} (h : Pl w T c q p n s cv fl M) (k : ByteArray) (hk : k.size ≤ maxLen) :
    Calls Try.prog 54 #[.pointer (some ⟨p, 0, none⟩), .string k] w fun e w' => e = .returned (.int .i64 (agThere M k)) ∧ w' = w := by
  have c5 : w.cell? ⟨p, 4 + 1, none⟩ = some (.map (some n)) := held_cell h.p_ rfl
  have c5' : w.cell? ⟨p, 5, none⟩ = some (.map (some n)) := held_cell h.p_ rfl
  have hl := h.nm.look1 k hk
  clear h
  unfold agThere
  cases hn : nlook M.names k with
  | none =>
    rw [hn] at hl
    unfold ptO at hl
    go_enter Try.func54, Try.ntmps54
    go_wp2
    go_ret
    exact ⟨rfl, rfl⟩
  | some i =>
    rw [hn] at hl
    unfold ptO at hl
    go_enter Try.func54, Try.ntmps54
    go_wp2
    go_ret
    exact ⟨rfl, rfl⟩
end Go.Proofs.Ytjpneohachkheaa
