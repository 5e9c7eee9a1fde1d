/-
  The small steps of a disk: whether New made it, the switches, names that may be, whether one is there, a file synced. Conditions: those that each theorem names.
-/
import Derived.Test.YtnpffffpahljfaaSm1
import Derived.BigQuiet
import Derived.BigRegion
import Derived.Deep.QuietTactic
import Derived.Lib.MinMax
namespace Go.Proofs.Ytnpffffpahljfaa
open Go.RowKit Go.Icz Go.Maps Go.ChangeMaps Go.MapKept
set_option maxRecDepth 100000
/-- No disk, or one that nobody made. -/
def DiZ (w : World) (v : Value) : Prop := v = .pointer none ∨ ∃ q : Nat, v = .pointer (some ⟨q, 0, none⟩) ∧ w.heap[q]? = some (.cells #[.pointer none] 44 (0, 0))
theorem DiZ.below {w w' : World} {v : Value} (h : DiZ w v) (k : Below w.heap.size w w') : DiZ w' v := by
  rcases h with rfl | ⟨q, rfl, h⟩
  · exact .inl rfl
  · exact .inr ⟨q, rfl, (k.block q (row_lt h)).trans h⟩
theorem made_yes {w : World} {q p : Nat} (h : w.heap[q]? = some (.cells #[.pointer (some ⟨p, 0, none⟩)] 44 (0, 0))) : Calls Try.prog 30 #[.pointer (some ⟨q, 0, none⟩)] w fun e w' => e = .returned (.bool true) ∧ w' = w := by
  have c0 := held_cell (i := 0) h rfl
  clear h
  go_enter Try.func30, Try.ntmps30
  go_wp2
  go_ret
  exact ⟨rfl, rfl⟩
theorem made_no {w : World} {v : Value} (h : DiZ w v) : Calls Try.prog 30 #[v] w fun e w' => e = .returned (.bool false) ∧ w' = w := by
  rcases h with rfl | ⟨q, rfl, h⟩
  · go_enter Try.func30, Try.ntmps30
    go_wp2
    go_ret
    exact ⟨rfl, rfl⟩
  · have c0 := held_cell (i := 0) h rfl
    clear h
    go_enter Try.func30, Try.ntmps30
    go_wp2
    go_ret
    exact ⟨rfl, rfl⟩
theorem looked_yes {w : World} {q p : Nat} (h : w.heap[q]? = some (.cells #[.pointer (some ⟨p, 0, none⟩)] 44 (0, 0))) : Calls Try.prog 28 #[.pointer (some ⟨q, 0, none⟩)] w fun e w' => e = .returned (.pointer (some ⟨p, 0, none⟩)) ∧ w' = w := by
  have c0 := held_cell (i := 0) h rfl
  have hM := made_yes h
  clear h
  go_enter Try.func28, Try.ntmps28
  go_wp2_with (go_at_call 30; refine hM.mono ?_; rintro e w1 ⟨rfl, rfl⟩)
  go_ret
  exact ⟨rfl, rfl⟩
def plZ : Array Value := #[.bool false, .int .i64 0, .int .i64 0, .bool false, .int .i64 0, .map none, .map none, .slice none 0 0]
theorem looked_no {w : World} {v : Value} (h : DiZ w v) : Calls Try.prog 28 #[v] w fun e w' => e = .returned (.pointer (some ⟨w.heap.size, 0, none⟩)) ∧ w' = w.alloc (.cells plZ 67) := by
  have hM := made_no h
  clear h
  unfold plZ
  go_enter Try.func28, Try.ntmps28
  go_wp2_with (go_at_call 30; refine hM.mono ?_; rintro e w1 ⟨rfl, rfl⟩)
  go_ret
  exact ⟨rfl, rfl⟩
theorem ready_no {w : World} {v : Value} (h : DiZ w v) : Calls Try.prog 37 #[v] w fun e w' => e = .returned (.int .i64 1) ∧ w' = w := by
  have hM := made_no h
  clear h
  go_enter Try.func37, Try.ntmps37
  go_wp2_with (go_at_call 30; refine hM.mono ?_; rintro e w1 ⟨rfl, rfl⟩)
  go_ret
  exact ⟨rfl, rfl⟩
theorem ready_yes {w : World} {q p n s : Nat} {cv : Value} {M : DM} (hq : w.heap[q]? = some (.cells #[.pointer (some ⟨p, 0, none⟩)] 44 (0, 0))) (hp : w.heap[p]? = some (.cells (plR M n s cv) 67 (0, 0))) :
    Calls Try.prog 37 #[.pointer (some ⟨q, 0, none⟩)] w fun e w' => e = .returned (.int .i64 (if M.off then 9 else 0)) ∧ w' = w := by
  have c0 := held_cell (i := 0) hq rfl
  have d0 : w.cell? ⟨p, 0, none⟩ = some (.bool M.off) := held_cell hp rfl
  have hM := made_yes hq
  clear hq hp
  cases ho : M.off <;> rw [ho] at d0
  · go_enter Try.func37, Try.ntmps37
    go_wp2_with (go_at_call 30; refine hM.mono ?_; rintro e w1 ⟨rfl, rfl⟩)
    go_ret
    exact ⟨rfl, rfl⟩
  · go_enter Try.func37, Try.ntmps37
    go_wp2_with (go_at_call 30; refine hM.mono ?_; rintro e w1 ⟨rfl, rfl⟩)
    go_ret
    exact ⟨rfl, rfl⟩
/-- The switches. -/
theorem ask_is {w : World} {p n s : Nat} {cv : Value} {M : DM} (hp : w.heap[p]? = some (.cells (plR M n s cv) 67 (0, 0))) (hfu : -1 ≤ M.fuse ∧ M.fuse ≤ 9223372036854775807) (hfa : 0 ≤ M.fault ∧ M.fault ≤ 9223372036854775807) :
    Calls Try.prog 47 #[.pointer (some ⟨p, 0, none⟩)] w fun e w' => e = .returned (.tuple #[.bool (askM M).1, .int .i64 (askM M).2.1]) ∧ w'.heap[p]? = some (.cells (plR (askM M).2.2 n s cv) 67 (0, 0)) ∧ Tch (· = p) w w' := by
  have c0 : w.cell? ⟨p, 0, none⟩ = some (.bool M.off) := held_cell hp rfl
  have c1 : w.cell? ⟨p, 1, none⟩ = some (.int .i64 M.fuse) := held_cell hp rfl
  have c2 : w.cell? ⟨p, 2, none⟩ = some (.int .i64 M.fault) := held_cell hp rfl
  have c3 : w.cell? ⟨p, 3, none⟩ = some (.bool M.done) := held_cell hp rfl
  have f0 := held_frozen (i := 0) hp
  have f1 := held_frozen (i := 1) hp
  have f2 := held_frozen (i := 2) hp
  have hw1 : IntKind.i64.wrap (M.fuse - 1) = M.fuse - 1 ∨ M.fuse = -9223372036854775808 := .inl (by rw [IntKind.wrap_i64]; omega)
  have hw2 : IntKind.i64.wrap (M.fault - 1) = M.fault - 1 := by rw [IntKind.wrap_i64]; omega
  have HP := hid hp
  clear hp
  by_cases z : M.fuse = 0
  · have HA : Hid (askM M = (false, 9, { M with off := true })) := hid (by unfold askM; rw [if_pos z])
    have HR : Hid ((w.setCell ⟨p, 0, none⟩ (.bool true)).heap[p]? = some (.cells (plR { M with off := true } n s cv) 67 (0, 0))) := hid (by rw [row_set HP.out]; rfl)
    have hz : (M.fuse == 0) = true := by simpa using z
    rw [z] at c1
    clear z hw1 HP
    go_enter Try.func47, Try.ntmps47
    go_wp2
    go_ret2
    rw [HA.out]
    exact ⟨rfl, HR.out, Tch.set _ _ _ _ rfl⟩
  · have hw1 : IntKind.i64.wrap (M.fuse - 1) = M.fuse - 1 := by rw [IntKind.wrap_i64]; omega
    have hz : (M.fuse == 0) = false := by simpa using z
    have HZ := hid z
    obtain ⟨fu, hfu'⟩ : ∃ fu : Int, fu = if 0 < M.fuse then M.fuse - 1 else M.fuse := ⟨_, rfl⟩
    obtain ⟨W1, hW1⟩ : ∃ W1 : World, W1 = if 0 < M.fuse then w.setCell ⟨p, 1, none⟩ (.int .i64 (M.fuse - 1)) else w := ⟨_, rfl⟩
    have HT : Hid (Tch (· = p) w W1 ∧ W1.heap[p]? = some (.cells (plR { M with fuse := fu } n s cv) 67 (0, 0))) := by
      refine hid ?_
      subst hW1 hfu'
      split
      · refine ⟨Tch.set _ _ _ _ rfl, ?_⟩
        rw [row_set HP.out]
        rfl
      · exact ⟨Tch.refl _ _, HP.out⟩
    have g2 : W1.cell? ⟨p, 2, none⟩ = some (.int .i64 M.fault) := held_cell HT.out.2 rfl
    have g3 : W1.cell? ⟨p, 3, none⟩ = some (.bool M.done) := held_cell HT.out.2 rfl
    have e2 := held_frozen (i := 2) HT.out.2
    have HF : Hid ((W1.setCell ⟨p, 2, none⟩ (.int .i64 (M.fault - 1))).heap[p]? = some (.cells (plR { M with fuse := fu, fault := M.fault - 1 } n s cv) 67 (0, 0))) := hid (by rw [row_set HT.out.2]; rfl)
    have HA : Hid (askM M = if M.fault = 0 then (true, 0, { M with fuse := fu }) else if 0 < M.fault - 1 then (true, 0, { M with fuse := fu, fault := M.fault - 1 }) else (M.done, 8, { M with fuse := fu, fault := M.fault - 1 })) := hid (by
      unfold askM
      rw [if_neg HZ.out, hfu'])
    clear z HP hfu'
    by_cases zp : 0 < M.fuse
    · have hzp : decide (0 < M.fuse) = true := decide_eq_true zp
      rw [if_pos zp] at hW1
      have HW := hid hW1
      clear hfu
      by_cases y : M.fault = 0
      · have hy : (M.fault == 0) = true := by simpa using y
        have HA2 : Hid (askM M = (true, 0, { M with fuse := fu })) := hid (by rw [HA.out, if_pos y])
        rw [y] at g2
        clear HA y hfa hw2
        go_enter Try.func47, Try.ntmps47
        go_wp2
        rw [← HW.out]
        go_wp2
        go_ret2
        rw [HA2.out]
        exact ⟨rfl, HT.out.2, HT.out.1⟩
      · have hy : (M.fault == 0) = false := by simpa using y
        by_cases x : 1 < M.fault
        · have hx : ¬ M.fault ≤ 1 := by omega
          have HA2 : Hid (askM M = (true, 0, { M with fuse := fu, fault := M.fault - 1 })) := hid (by rw [HA.out, if_neg y, if_pos (by omega)])
          clear HA y hfa
          go_enter Try.func47, Try.ntmps47
          go_wp2
          rw [← HW.out]
          go_wp2
          go_ret2
          rw [HA2.out]
          exact ⟨rfl, HF.out, HT.out.1.trans (Tch.set _ _ _ _ rfl)⟩
        · have hx : M.fault ≤ 1 := by omega
          have HA2 : Hid (askM M = (M.done, 8, { M with fuse := fu, fault := M.fault - 1 })) := hid (by rw [HA.out, if_neg y, if_neg (by omega)])
          clear HA y hfa
          go_enter Try.func47, Try.ntmps47
          go_wp2
          rw [← HW.out]
          go_wp2
          go_ret2
          rw [HA2.out]
          exact ⟨rfl, HF.out, HT.out.1.trans (Tch.set _ _ _ _ rfl)⟩
    · have hzp : ¬ 0 < M.fuse := zp
      rw [if_neg zp] at hW1
      subst hW1
      clear hfu
      by_cases y : M.fault = 0
      · have hy : (M.fault == 0) = true := by simpa using y
        have HA2 : Hid (askM M = (true, 0, { M with fuse := fu })) := hid (by rw [HA.out, if_pos y])
        rw [y] at g2
        clear HA y hfa hw2
        go_enter Try.func47, Try.ntmps47
        go_wp2
        go_ret2
        rw [HA2.out]
        exact ⟨rfl, HT.out.2, HT.out.1⟩
      · have hy : (M.fault == 0) = false := by simpa using y
        by_cases x : 1 < M.fault
        · have hx : ¬ M.fault ≤ 1 := by omega
          have HA2 : Hid (askM M = (true, 0, { M with fuse := fu, fault := M.fault - 1 })) := hid (by rw [HA.out, if_neg y, if_pos (by omega)])
          clear HA y hfa
          go_enter Try.func47, Try.ntmps47
          go_wp2
          go_ret2
          rw [HA2.out]
          exact ⟨rfl, HF.out, HT.out.1.trans (Tch.set _ _ _ _ rfl)⟩
        · have hx : M.fault ≤ 1 := by omega
          have HA2 : Hid (askM M = (M.done, 8, { M with fuse := fu, fault := M.fault - 1 })) := hid (by rw [HA.out, if_neg y, if_neg (by omega)])
          clear HA y hfa
          go_enter Try.func47, Try.ntmps47
          go_wp2
          go_ret2
          rw [HA2.out]
          exact ⟨rfl, HF.out, HT.out.1.trans (Tch.set _ _ _ _ rfl)⟩
/-- A file synced. -/
theorem fsync_is {w : World} {x : FV} (h : Fil w x) (hl : x.m.b.length ≤ 1099511627776) :
    Calls Try.prog 44 #[.pointer (some ⟨x.g, 0, none⟩)] w fun e w' => e = .returned (.tuple #[]) ∧ Fil w' ⟨x.g, x.bv, .slice none 0 0, synF x.m⟩ ∧ Tch (· = x.g) w w' := by
  have c0 : w.cell? ⟨x.g, 0, none⟩ = some x.bv := held_cell h.at_ rfl
  have c1 : w.cell? ⟨x.g, 1, none⟩ = some (.int .i64 (x.m.s : Int)) := held_cell h.at_ rfl
  have c2 : w.cell? ⟨x.g, 2, none⟩ = some x.pv := held_cell h.at_ rfl
  have f1 := held_frozen (i := 1) h.at_
  have f2 := held_frozen (i := 2) h.at_
  have HW : Hid (Fil ((w.setCell ⟨x.g, 1, none⟩ (.int .i64 (x.m.b.length : Int))).setCell ⟨x.g, 2, none⟩ (.slice none 0 0)) ⟨x.g, x.bv, .slice none 0 0, synF x.m⟩) := by
    have t1 : Tch (· = x.g) w ((w.setCell ⟨x.g, 1, none⟩ (.int .i64 (x.m.b.length : Int))).setCell ⟨x.g, 2, none⟩ (.slice none 0 0)) := (Tch.set (· = x.g) _ ⟨x.g, 1, none⟩ _ rfl).trans (Tch.set (· = x.g) _ ⟨x.g, 2, none⟩ _ rfl)
    refine hid ⟨?_, h.b.touch t1 (fun j hj hb => ?_), Kd.Own.nil _ _⟩
    · rw [row_set (row_set h.at_ _)]
      rfl
    · obtain ⟨cur, hc⟩ := h.b.row hb
      exact tag_ne h.at_ hc (by decide) hj.symm
  obtain ⟨A, c, hv, _⟩ := h.b.rd.form
  rw [hv] at c0
  generalize x.m.b.length = L at *
  clear h hv
  go_enter Try.func44, Try.ntmps44
  go_wp2
  go_end0
  exact ⟨rfl, HW.out, (Tch.set (· = x.g) _ ⟨x.g, 1, none⟩ _ rfl).trans (Tch.set (· = x.g) _ ⟨x.g, 2, none⟩ _ rfl)⟩
/-- May a name be? -/
theorem right_is (k : ByteArray) (w : World) (hk : k.size ≤ 9223372036854775807) : Calls Try.prog 55 #[.string k] w fun e w' => e = .returned (.bool (rightB k)) ∧ Tch (fun _ => False) w w' := by
  have hsz : k.data.toList.length = k.size := by rw [Array.length_toList]; rfl
  by_cases h1 : 1 ≤ k.size ∧ k.size ≤ 64
  · have HN : Hid (rightB k = k.data.toList.all fun c => decide (33 ≤ c.toNat ∧ c.toNat ≤ 126)) := hid (by simp [rightB, h1])
    obtain ⟨ha, hb⟩ := h1
    have HSZ := hid hsz
    clear hsz
    have d1 : decide ((k.size : Int) < 1) = false := decide_eq_false (by omega)
    have d2 : decide (64 < (k.size : Int)) = false := decide_eq_false (by omega)
    go_enter Try.func55, Try.ntmps55
    go_wp2
    go_loopw [14] (fun iv wr => ∃ i : Nat, iv = .int .i64 i ∧ i ≤ k.size ∧ Hid ((k.data.toList.take i).all (fun c => decide (33 ≤ c.toNat ∧ c.toNat ≤ 126)) = true) ∧ Tch (fun _ => False) w wr) (fun iv _ => k.size - (intOf iv).toNat)
    case atStart => exact ⟨0, rfl, by omega, hid rfl, Tch.refl _ _⟩
    case round =>
      obtain ⟨i, rfl, hi, HT, ht⟩ := hrel
      by_cases hLt : i < k.size
      · have hil : (i : Int) < (k.size : Int) := by omega
        have HL := hid hLt
        have hl' : i < k.data.toList.length := by rw [HSZ.out]; exact hLt
        have HS : Hid (decide (33 ≤ (k[i]).toNat ∧ (k[i]).toNat ≤ 126) = true → (k.data.toList.take (i + 1)).all (fun c => decide (33 ≤ c.toNat ∧ c.toNat ≤ 126)) = true) := hid (fun h => by
          rw [List.take_succ_eq_append_getElem hl', List.all_append, HT.out, Bool.true_and, List.all_cons, List.all_nil, Bool.and_true]
          exact h)
        have HB : Hid (decide (33 ≤ (k[i]).toNat ∧ (k[i]).toNat ≤ 126) = false → rightB k = false) := hid (fun h => by
          rw [HN.out, List.all_eq_false]
          exact ⟨_, List.getElem_mem hl', by rw [show k.data.toList[i] = k[i] from rfl, h]; simp⟩)
        clear HT
        by_cases c1 : (k[i]).toNat < 33
        · have e1 : decide (((k[i]).toNat : Int) < 33) = true := decide_eq_true (by omega)
          have HB2 := hid (HB.out (decide_eq_false (by omega)))
          clear HS HB c1
          go_wp2
          go_ret
          exact ⟨by rw [HB2.out]; rfl, ht⟩
        · have e1 : decide (((k[i]).toNat : Int) < 33) = false := decide_eq_false (by omega)
          by_cases c2 : 126 < (k[i]).toNat
          · have e2 : decide (126 < ((k[i]).toNat : Int)) = true := decide_eq_true (by omega)
            have HB2 := hid (HB.out (decide_eq_false (by omega)))
            clear HS HB c1 c2
            go_wp2
            go_ret
            exact ⟨by rw [HB2.out]; rfl, ht⟩
          · have e2 : decide (126 < ((k[i]).toNat : Int)) = false := decide_eq_false (by omega)
            have HS2 := hid (HS.out (decide_eq_true (by omega)))
            clear HS HB c1 c2
            go_wp2
            go_roundw
            case rel => exact ⟨i + 1, by go_num, HL.out, HS2, ht⟩
            case measure => have := HL.out; simp [intOf]; omega
      · have hil : ¬ (i : Int) < (k.size : Int) := by omega
        have HY : Hid (rightB k = true) := hid (by rw [HN.out, ← HT.out, List.take_of_length_le (by rw [HSZ.out]; omega)])
        clear HT
        go_wp2
        go_ret
        exact ⟨by rw [HY.out]; rfl, ht⟩
  · have HN : Hid (rightB k = false) := hid (by simp [rightB, h1])
    by_cases h0 : k.size < 1
    · have d1 : decide ((k.size : Int) < 1) = true := decide_eq_true (by omega)
      clear h1 hsz
      go_enter Try.func55, Try.ntmps55
      go_wp2
      go_ret
      exact ⟨by rw [HN.out]; rfl, Tch.refl _ _⟩
    · have d1 : decide ((k.size : Int) < 1) = false := decide_eq_false (by omega)
      have d2 : decide (64 < (k.size : Int)) = true := decide_eq_true (by omega)
      clear h1 hsz
      go_enter Try.func55, Try.ntmps55
      go_wp2
      go_ret
      exact ⟨by rw [HN.out]; rfl, Tch.refl _ _⟩
/-- Whether a name is there. -/
theorem there_is {w : World} {T : Nat → Prop} {c q p n s : Nat} {cv : Value} {fl : List FV} {M : DM} (h : Pl w T c q p n s cv fl M) (k : ByteArray) (hk : k.size ≤ maxLen) :
    Calls Try.prog 54 #[.pointer (some ⟨p, 0, none⟩), .string k] w fun e w' => e = .returned (.int .i64 (agThere M k)) ∧ w' = w := by
  have c5 : w.cell? ⟨p, 4 + 1, none⟩ = some (.map (some n)) := held_cell h.p_ rfl
  have c5' : w.cell? ⟨p, 5, none⟩ = some (.map (some n)) := held_cell h.p_ rfl
  have hl := h.nm.look1 k hk
  clear h
  unfold agThere
  cases hn : nlook M.names k with
  | none =>
    rw [hn] at hl
    unfold ptO at hl
    go_enter Try.func54, Try.ntmps54
    go_wp2
    go_ret
    exact ⟨rfl, rfl⟩
  | some i =>
    rw [hn] at hl
    unfold ptO at hl
    go_enter Try.func54, Try.ntmps54
    go_wp2
    go_ret
    exact ⟨rfl, rfl⟩
end Go.Proofs.Ytnpffffpahljfaa
