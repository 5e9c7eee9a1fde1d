/-
  The small steps of a store: whether New made it, names that may be, the failure, whether an object is there, copies. Conditions: those that each theorem names.
-/
import Derived.Test.YtcohpgahffbnlaaOm1
import Derived.Test.YtcohpgahffbnlaaOsl
import Derived.BigQuiet
import Derived.BigRegion
import Derived.Deep.QuietTactic
import Derived.Lib.MinMax
namespace Go.Proofs.Ytcohpgahffbnlaa
open Go.RowKit Go.Icz Go.Maps Go.ChangeMaps Go.MapKept
set_option maxRecDepth 100000
set_option maxHeartbeats 4000000
theorem infoB : (Try.prog.info? KB.e).map (fun i => (i.zero, i.size, i.bytes)) = some (some (.int .u8 0), KB.z, 1) := by kernel_rfl
/-- No store, or one that nobody made. -/
def StZ (w : World) (v : Value) : Prop := v = .pointer none ∨ ∃ q : Nat, v = .pointer (some ⟨q, 0, none⟩) ∧ w.heap[q]? = some (.cells #[.pointer none] 44 (0, 0))
theorem StZ.below {w w' : World} {v : Value} (h : StZ w v) (k : Below w.heap.size w w') : StZ w' v := by
  rcases h with rfl | ⟨q, rfl, h⟩
  · exact .inl rfl
  · exact .inr ⟨q, rfl, (k.block q (row_lt h)).trans h⟩
theorem made_yes {w : World} {q p : Nat} (h : w.heap[q]? = some (.cells #[.pointer (some ⟨p, 0, none⟩)] 44 (0, 0))) : Calls Try.prog 32 #[.pointer (some ⟨q, 0, none⟩)] w fun e w' => e = .returned (.bool true) ∧ w' = w := by
  have c0 := held_cell (i := 0) h rfl
  clear h
  go_enter Try.func32, Try.ntmps32
  go_wp2
  go_ret
  exact ⟨rfl, rfl⟩
theorem made_no {w : World} {v : Value} (h : StZ w v) : Calls Try.prog 32 #[v] w fun e w' => e = .returned (.bool false) ∧ w' = w := by
  rcases h with rfl | ⟨q, rfl, h⟩
  · go_enter Try.func32, Try.ntmps32
    go_wp2
    go_ret
    exact ⟨rfl, rfl⟩
  · have c0 := held_cell (i := 0) h rfl
    clear h
    go_enter Try.func32, Try.ntmps32
    go_wp2
    go_ret
    exact ⟨rfl, rfl⟩
theorem looked_yes {w : World} {q p : Nat} (h : w.heap[q]? = some (.cells #[.pointer (some ⟨p, 0, none⟩)] 44 (0, 0))) : Calls Try.prog 41 #[.pointer (some ⟨q, 0, none⟩)] w fun e w' => e = .returned (.pointer (some ⟨p, 0, none⟩)) ∧ w' = w := by
  have c0 := held_cell (i := 0) h rfl
  have hM := made_yes h
  clear h
  go_enter Try.func41, Try.ntmps41
  go_wp2_with (go_at_call 32; refine hM.mono ?_; rintro e w1 ⟨rfl, rfl⟩)
  go_ret
  exact ⟨rfl, rfl⟩
def roZ : Array Value := #[.map none, .slice none 0 0, .int .i64 0, .int .i64 0, .int .i64 0, .int .i64 0, .int .i64 0, .bool false]
theorem looked_no {w : World} {v : Value} (h : StZ w v) : Calls Try.prog 41 #[v] w fun e w' => e = .returned (.pointer (some ⟨w.heap.size, 0, none⟩)) ∧ w' = w.alloc (.cells roZ 42) := by
  have hM := made_no h
  clear h
  unfold roZ
  go_enter Try.func41, Try.ntmps41
  go_wp2_with (go_at_call 32; refine hM.mono ?_; rintro e w1 ⟨rfl, rfl⟩)
  go_ret
  exact ⟨rfl, rfl⟩
/-- The failure asked, at an address p, 6. -/
theorem next_is {w : World} {p bO : Nat} {cv : Value} {M : SM} (hp : w.heap[p]? = some (.cells (roR M bO cv) 42 (0, 0))) (hl : 0 ≤ M.left ∧ M.left ≤ 9223372036854775807) :
    Calls Try.prog 53 #[.pointer (some ⟨p, 6, none⟩)] w fun e w' => e = .returned (.tuple #[.bool (okS M), .int .i64 (errS M)]) ∧ w'.heap[p]? = some (.cells (roR { M with left := (nextF M.left M.done).2.2 } bO cv) 42 (0, 0)) ∧ Tch (· = p) w w' := by
  have c6 : w.cell? ⟨p, 6, none⟩ = some (.int .i64 M.left) := held_cell hp rfl
  have c7 : w.cell? ⟨p, 7, none⟩ = some (.bool M.done) := held_cell hp rfl
  have c7' : w.cell? ⟨p, 6 + 1, none⟩ = some (.bool M.done) := held_cell hp rfl
  have f6 := held_frozen (i := 6) hp
  have hw2 : IntKind.i64.wrap (M.left - 1) = M.left - 1 := by rw [IntKind.wrap_i64]; omega
  have HF : Hid ((w.setCell ⟨p, 6, none⟩ (.int .i64 (M.left - 1))).heap[p]? = some (.cells (roR { M with left := M.left - 1 } bO cv) 42 (0, 0))) := hid (by rw [row_set hp]; rfl)
  have HP := hid hp
  clear hp
  by_cases y : M.left = 0
  · have hA : nextF M.left M.done = (true, 0, M.left) := by unfold nextF; rw [if_pos y]
    have HA := hid hA
    rw [y] at c6
    clear hw2 hl y hA
    unfold okS errS
    rw [HA.out]
    go_enter Try.func53, Try.ntmps53
    go_wp2
    go_ret2
    exact ⟨rfl, HP.out, Tch.refl _ _⟩
  · have hy : (M.left == 0) = false := by simpa using y
    by_cases x : 1 < M.left
    · have hx : ¬ M.left ≤ 1 := by omega
      have hA : nextF M.left M.done = (true, 0, M.left - 1) := by unfold nextF; rw [if_neg y, if_pos (by omega)]
      have HA := hid hA
      clear hl y hA
      unfold okS errS
      rw [HA.out]
      go_enter Try.func53, Try.ntmps53
      go_wp2
      go_ret2
      exact ⟨rfl, HF.out, Tch.set _ _ _ _ rfl⟩
    · have hx : M.left ≤ 1 := by omega
      have hA : nextF M.left M.done = (M.done, 8, M.left - 1) := by unfold nextF; rw [if_neg y, if_neg (by omega)]
      have HA := hid hA
      clear hl y hA
      unfold okS errS
      rw [HA.out]
      go_enter Try.func53, Try.ntmps53
      go_wp2
      go_ret2
      exact ⟨rfl, HF.out, Tch.set _ _ _ _ rfl⟩
/-- May a name begin so? -/
theorem beg_is (k : ByteArray) (w : World) (hk : k.size ≤ 9223372036854775807) : Calls Try.prog 39 #[.string k] w fun e w' => e = .returned (.bool (begB k)) ∧ Tch (fun _ => False) w w' := by
  have hsz : k.data.toList.length = k.size := by rw [Array.length_toList]; rfl
  by_cases h1 : k.size ≤ 64
  · have HN : Hid (begB k = k.data.toList.all fun c => decide (33 ≤ c.toNat ∧ c.toNat ≤ 126)) := hid (by simp [begB, h1])
    have HSZ := hid hsz
    clear hsz
    have d2 : decide (64 < (k.size : Int)) = false := decide_eq_false (by omega)
    go_enter Try.func39, Try.ntmps39
    go_wp2
    go_loopw [9] (fun iv wr => ∃ i : Nat, iv = .int .i64 i ∧ i ≤ k.size ∧ Hid ((k.data.toList.take i).all (fun c => decide (33 ≤ c.toNat ∧ c.toNat ≤ 126)) = true) ∧ Tch (fun _ => False) w wr) (fun iv _ => k.size - (intOf iv).toNat)
    case atStart => exact ⟨0, rfl, by omega, hid rfl, Tch.refl _ _⟩
    case round =>
      obtain ⟨i, rfl, hi, HT, ht⟩ := hrel
      by_cases hLt : i < k.size
      · have hil : (i : Int) < (k.size : Int) := by omega
        have HL := hid hLt
        have hl' : i < k.data.toList.length := by rw [HSZ.out]; exact hLt
        have HS : Hid (decide (33 ≤ (k[i]).toNat ∧ (k[i]).toNat ≤ 126) = true → (k.data.toList.take (i + 1)).all (fun c => decide (33 ≤ c.toNat ∧ c.toNat ≤ 126)) = true) := hid (fun h => by
          rw [List.take_succ_eq_append_getElem hl', List.all_append, HT.out, Bool.true_and, List.all_cons, List.all_nil, Bool.and_true]
          exact h)
        have HB : Hid (decide (33 ≤ (k[i]).toNat ∧ (k[i]).toNat ≤ 126) = false → begB k = false) := hid (fun h => by
          rw [HN.out, List.all_eq_false]
          exact ⟨_, List.getElem_mem hl', by rw [show k.data.toList[i] = k[i] from rfl, h]; simp⟩)
        clear HT
        by_cases c1 : (k[i]).toNat < 33
        · have e1 : decide (((k[i]).toNat : Int) < 33) = true := decide_eq_true (by omega)
          have HB2 := hid (HB.out (decide_eq_false (by omega)))
          clear HS HB c1
          go_wp2
          go_ret
          exact ⟨by rw [HB2.out]; rfl, ht⟩
        · have e1 : decide (((k[i]).toNat : Int) < 33) = false := decide_eq_false (by omega)
          by_cases c2 : 126 < (k[i]).toNat
          · have e2 : decide (126 < ((k[i]).toNat : Int)) = true := decide_eq_true (by omega)
            have HB2 := hid (HB.out (decide_eq_false (by omega)))
            clear HS HB c1 c2
            go_wp2
            go_ret
            exact ⟨by rw [HB2.out]; rfl, ht⟩
          · have e2 : decide (126 < ((k[i]).toNat : Int)) = false := decide_eq_false (by omega)
            have HS2 := hid (HS.out (decide_eq_true (by omega)))
            clear HS HB c1 c2
            go_wp2
            go_roundw
            case rel => exact ⟨i + 1, by go_num, HL.out, HS2, ht⟩
            case measure => have := HL.out; simp [intOf]; omega
      · have hil : ¬ (i : Int) < (k.size : Int) := by omega
        have HY : Hid (begB k = true) := hid (by rw [HN.out, ← HT.out, List.take_of_length_le (by rw [HSZ.out]; omega)])
        clear HT
        go_wp2
        go_ret
        exact ⟨by rw [HY.out]; rfl, ht⟩
  · have HN : Hid (begB k = false) := hid (by simp [begB, h1])
    have d2 : decide (64 < (k.size : Int)) = true := decide_eq_true (by omega)
    clear h1 hsz
    go_enter Try.func39, Try.ntmps39
    go_wp2
    go_ret
    exact ⟨by rw [HN.out]; rfl, Tch.refl _ _⟩
theorem name_is (k : ByteArray) (w : World) (hk : k.size ≤ 9223372036854775807) : Calls Try.prog 34 #[.string k] w fun e w' => e = .returned (.bool (nameB k)) ∧ Tch (fun _ => False) w w' := by
  by_cases h : 1 ≤ k.size
  · have HN : Hid (nameB k = begB k) := hid (by simp [nameB, h])
    have hB := beg_is k w hk
    have d : 0 < k.size := h
    rw [HN.out]
    generalize begB k = y at *
    clear h
    go_enter Try.func34, Try.ntmps34
    go_wp2_with (go_at_call 39; refine hB.mono ?_; rintro e w1 ⟨rfl, t1⟩)
    go_ret
    exact ⟨rfl, t1⟩
  · have HN : Hid (nameB k = false) := hid (by simp [nameB, h])
    have d : ¬ 0 < k.size := h
    clear h
    go_enter Try.func34, Try.ntmps34
    go_wp2
    go_ret
    exact ⟨by rw [HN.out]; rfl, Tch.refl _ _⟩
/-- The failure told. -/
theorem sfail_is {w : World} {p bO : Nat} {cv : Value} {M : SM} (hp : w.heap[p]? = some (.cells (roR M bO cv) 42 (0, 0))) (k : Int) (d : Bool) :
    Calls Try.prog 47 #[.pointer (some ⟨p, 6, none⟩), .int .i64 k, .bool d] w fun e w' => e = .returned (.tuple #[]) ∧ w'.heap[p]? = some (.cells (roR (failS M k d) bO cv) 42 (0, 0)) ∧ Tch (· = p) w w' := by
  have c6 : w.cell? ⟨p, 6, none⟩ = some (.int .i64 M.left) := held_cell hp rfl
  have c7 : w.cell? ⟨p, 7, none⟩ = some (.bool M.done) := held_cell hp rfl
  have c7' : w.cell? ⟨p, 6 + 1, none⟩ = some (.bool M.done) := held_cell hp rfl
  have f6 := held_frozen (i := 6) hp
  have f7 := held_frozen (i := 7) hp
  have f7' : w.frozen? ⟨p, 6 + 1, none⟩ = false := held_frozen (i := 7) hp
  have HF : Hid (((w.setCell ⟨p, 6, none⟩ (.int .i64 (max k 0))).setCell ⟨p, 7, none⟩ (.bool d)).heap[p]? = some (.cells (roR (failS M k d) bO cv) 42 (0, 0))) := hid (by rw [row_set (row_set hp _)]; rfl)
  clear hp
  go_enter Try.func47, Try.ntmps47
  go_wp2
  go_end0
  exact ⟨rfl, HF.out, (Tch.set (· = p) _ _ _ rfl).trans (Tch.set (· = p) _ _ _ rfl)⟩
/-- Is it there? -/
theorem has_is {w : World} {T : Nat → Prop} {q p bO : Nat} {cv : Value} {X : List Chg} {M : SM} (R : Ro w T q p bO cv X M) (k : ByteArray) (hk : k.size ≤ maxLen) :
    Calls Try.prog 52 #[.pointer (some ⟨p, 0, none⟩), .string k] w fun e w' => e = .returned (.bool (alook M.L k).isSome) ∧ w' = w := by
  have c0 : w.cell? ⟨p, 0, none⟩ = some (.map (some bO)) := held_cell R.p_ rfl
  obtain ⟨v, hlk, _⟩ := R.ob.look k hk
  generalize (alook M.L k).isSome = y at *
  clear R
  go_enter Try.func52, Try.ntmps52
  go_wp2
  go_ret
  exact ⟨rfl, rfl⟩
theorem full_is {w : World} {T : Nat → Prop} {q p bO : Nat} {cv : Value} {X : List Chg} {M : SM} (R : Ro w T q p bO cv X M) (k : ByteArray) (hk : k.size ≤ maxLen) :
    Calls Try.prog 35 #[.pointer (some ⟨p, 0, none⟩), .string k] w fun e w' => e = .returned (.bool (fullS M k)) ∧ w' = w := by
  have c0 : w.cell? ⟨p, 0, none⟩ = some (.map (some bO)) := held_cell R.p_ rfl
  have hH := has_is R k hk
  have hln := R.ob.len
  unfold fullS
  by_cases h : 4096 ≤ M.L.length
  · have d : decide (4096 ≤ (M.L.length : Int)) = true := decide_eq_true (by omega)
    have HN : Hid (decide (4096 ≤ M.L.length) = true) := hid (decide_eq_true h)
    rw [HN.out]
    generalize (alook M.L k).isSome = y at *
    generalize M.L.length = L at *
    clear R h
    go_enter Try.func35, Try.ntmps35
    go_wp2_with (go_at_call 52; refine hH.mono ?_; rintro e w1 ⟨rfl, rfl⟩)
    go_ret
    exact ⟨by simp, rfl⟩
  · have d : decide (4096 ≤ (M.L.length : Int)) = false := decide_eq_false (by omega)
    have HN : Hid (decide (4096 ≤ M.L.length) = false) := hid (decide_eq_false h)
    rw [HN.out]
    generalize M.L.length = L at *
    clear R h hH
    go_enter Try.func35, Try.ntmps35
    go_wp2
    go_ret
    exact ⟨by simp, rfl⟩
theorem sClone_is (s : ByteArray) (hs : s.size ≤ 281474976710656) (w : World) : Calls Try.prog 57 #[.string s] w fun e w' => e = .returned (.string s) ∧ Below w.heap.size w w' := by
  have hC : ∀ w2 : World, Calls Try.prog 67 #[.string s] w2 fun e w' => e = .returned (.string s) ∧ Below w2.heap.size w2 w' := fun w2 => Any.stringslite_Clone Try.laysM316 s w2 hs
  go_enter Try.func57, Try.ntmps57
  go_wp2_with (go_at_call 67; refine (hC _).mono ?_; rintro e w1 ⟨rfl, b1⟩)
  go_ret
  exact ⟨rfl, b1⟩
theorem bClone_is (v : Value) (l : List Nat) (w : World) (hv : KB.Rd w v l) (hlen : l.length ≤ 1099511627776) :
    Calls Try.prog 48 #[v] w fun e w' => ∃ u, e = .returned u ∧ KB.Own w' w.heap.size u l ∧ Below w.heap.size w w' := by
  have HV := hid hv
  obtain ⟨A, c, rfl, _, hr⟩ := hv
  rcases A with _ | a
  · have hl : l = [] := by
      rcases Nat.eq_zero_or_pos l.length with h | h
      · exact List.eq_nil_of_length_eq_zero h
      · obtain ⟨_, _, h, _⟩ := hr h
        cases h
    subst hl
    clear hr HV
    have hn := Lib.run_eql_slice_nil (P := Try.prog)
    go_enter Try.func48, Try.ntmps48
    go_wp2
    go_ret
    exact ⟨_, rfl, Kd.Own.nil _ _, Below.refl _ _⟩
  · clear hr
    have hn := Lib.run_eql_slice_nil (P := Try.prog)
    have o0 : KB.Own (w.alloc (.cells #[] 5)) w.heap.size (.slice (some ⟨w.heap.size, 0, none⟩) 0 0) [] := Kd.Own.lit (K := KB) (B := w.heap.size) w [] (by decide) (Nat.le_refl _)
    have r0 := HV.out.alloc (.cells #[] 5)
    have hmm : ([] : List Nat).length + l.length ≤ maxLen := by simp; unfold maxLen; omega
    have hml : (([] : List Nat).length + l.length) * 1 ≤ 140737488355328 := by simp; omega
    have hB : w.heap.size ≤ (w.alloc (.cells #[] 5)).heap.size := by rw [World.size_alloc]; omega
    have ba : Below w.heap.size w (w.alloc (.cells #[] 5)) := (Below.refl _ w).alloc (Nat.le_refl _) _
    go_enter Try.func48, Try.ntmps48
    go_wp2_with (at_builtin; refine Kd.wp_app (K := KB) rfl (.tmp 5) (.tmp 6) 32 rfl Try.underlying32 infoB rfl w.heap.size _ _ [] l rfl o0 rfl r0 hmm hml hB ?_; intro v1 w1 o1 b1 g1 n1)
    go_ret
    exact ⟨_, rfl, o1, ba.trans b1⟩
end Go.Proofs.Ytcohpgahffbnlaa
