/-
  What postings' Index answers that is nil, or that New did not make. No condition.
-/
import Derived.Test.YtnlkipgjacgddaaDoorKeysNil
import Derived.Test.YtnlkipgjacgddaaDoorSets
import Derived.WalkSpells
import Derived.Maps.OwnSet
import Derived.Laws.IdiomRangeMap
namespace Go.Proofs.YtnlkipgjacgddaaDoor
open Go.RowKit Go.Maps Go.Icz Go.ChangeMaps Go.MapKept Go.WideShapes
/-- A nil Index, or one whose two maps are nil. -/
def IdxZ (w : World) (v : Value) : Prop :=
  v = .pointer none ∨ ∃ g : Nat, v = .pointer (some ⟨g, 0, none⟩) ∧ g < w.heap.size ∧ w.cell? ⟨g, 0, none⟩ = some (.map none) ∧ w.cell? ⟨g, 1, none⟩ = some (.map none)
set_option maxRecDepth 100000 in
theorem IdxZ.below {w w' : World} {v : Value} {n : Nat} (h : IdxZ w v) (hb : Below n w w') (hn : w.heap.size ≤ n) : IdxZ w' v := by
  rcases h with rfl | ⟨g, rfl, hg, h0, h1⟩
  · exact .inl rfl
  · exact .inr ⟨g, rfl, Nat.lt_of_lt_of_le hg hb.size, (hb.cell (p := ⟨g, 0, none⟩) (Nat.lt_of_lt_of_le hg hn)).trans h0, (hb.cell (p := ⟨g, 1, none⟩) (Nat.lt_of_lt_of_le hg hn)).trans h1⟩
theorem idx_eq (w : World) : (binOp .eql 46 (.map none) (.map none)).run Tryd.prog w = .ok (.bool true) w := run_eql_map_nil w _ _ _ none Tryd.underlying46
set_option maxRecDepth 100000 in
theorem idx_f0 (w : World) : (Instr.field 49 (.agg #[.map none, .map none]) 0).run Tryd.prog w = .ok (.map none) w := by
  simp [Instr.field, run_underlying Tryd.underlying49, Result.andThen]
  rfl
set_option maxRecDepth 100000 in
theorem idx_f1 (w : World) : (Instr.field 49 (.agg #[.map none, .map none]) 1).run Tryd.prog w = .ok (.map none) w := by
  simp [Instr.field, run_underlying Tryd.underlying49, Result.andThen]
  rfl
theorem idx_l1 (a : ByteArray) (ha : a.size ≤ maxLen) (w : World) : (Instr.lookup 47 (.map none) (.string a) false).run Tryd.prog w = .ok (.map none) w :=
  Maps.look_nil false (string_keyed Tryd.underlying9) Tryd.underlying47 (Tryd.zeroValue53 w) (kl := .string a.data.toList) (by simp [keyOf, mapKey, Tryd.underlying9, ha])
theorem idx_l2 (a : ByteArray) (ha : a.size ≤ maxLen) (w : World) : (Instr.lookup 53 (.map none) (.string a) false).run Tryd.prog w = .ok (.map none) w :=
  Maps.look_nil false (string_keyed Tryd.underlying9) Tryd.underlying53 (Tryd.zeroValue54 w) (kl := .string a.data.toList) (by simp [keyOf, mapKey, Tryd.underlying9, ha])
set_option maxRecDepth 100000 in
theorem there_nil (v : Value) (k : Int) (w : World) (h : IdxZ w v) : Calls Tryd.prog 19 #[v, .int .i64 k] w fun e w' => e = .returned (.int .i64 1) ∧ w' = w := by
  have hE := idx_eq
  rcases h with rfl | ⟨g, rfl, hg, h0, h1⟩
  · go_enter Tryd.func19, Tryd.ntmps19
    go_wp2
    go_ret
    exact ⟨rfl, rfl⟩
  · go_enter Tryd.func19, Tryd.ntmps19
    go_wp2
    go_ret
    exact ⟨rfl, rfl⟩
set_option maxRecDepth 100000 in
theorem looked_nil (v : Value) (w : World) (h : IdxZ w v) : Calls Tryd.prog 26 #[v] w fun e w' => e = .returned (.agg #[.map none, .map none]) ∧ Below w.heap.size w w' := by
  rcases h with rfl | ⟨g, rfl, hg, h0, h1⟩
  · go_enter Tryd.func26, Tryd.ntmps26
    go_wp2
    refine bodyPost_ret (results_cell_row rfl _ _ w.heap.size 49 #[.map none, .map none] _ _ rfl (heap_alloc_new w _) Tryd.underlying49 rfl (by kernel_rfl)) rfl ?_
    exact ⟨rfl, (Below.refl _ w).alloc (Nat.le_refl _) _⟩
  · go_enter Tryd.func26, Tryd.ntmps26
    go_wp2
    refine bodyPost_ret (results_cell_row rfl _ _ w.heap.size 49 #[.map none, .map none] _ _ rfl (heap_alloc_new w _) Tryd.underlying49 rfl (by kernel_rfl)) rfl ?_
    exact ⟨rfl, (Below.refl _ w).alloc (Nat.le_refl _) _⟩
set_option maxRecDepth 100000 in
theorem Labels_nil (v : Value) (k : Int) (w : World) (h : IdxZ w v) : Calls Tryd.prog 10 #[v, .int .i64 k] w fun e w' => e = .returned (.tuple #[.slice none 0 0, .int .i64 1]) ∧ Below w.heap.size w w' := by
  have hT := there_nil v
  have hL := looked_nil v w h
  have hF0 := idx_f0
  have hF1 := idx_f1
  go_enter Tryd.func10, Tryd.ntmps10
  go_wp2_with (first
    | (go_at_call 19; refine (hT _ _ h).mono ?_; rintro e w1 ⟨rfl, rfl⟩)
    | (go_at_call 26; refine hL.mono ?_; rintro e w1 ⟨rfl, b1⟩)
    )
  go_ret2
  exact ⟨rfl, Below.refl _ _⟩
set_option maxRecDepth 100000 in
theorem Add_nil (v : Value) (k : Int) (l : Value) (w : World) (h : IdxZ w v) : Calls Tryd.prog 7 #[v, .int .i64 k, l] w fun e w' => e = .returned (.int .i64 1) ∧ Below w.heap.size w w' := by
  have hT := there_nil v
  have hL := looked_nil v w h
  have hF0 := idx_f0
  have hF1 := idx_f1
  go_enter Tryd.func7, Tryd.ntmps7
  go_wp2_with (first
    | (go_at_call 19; refine (hT _ _ h).mono ?_; rintro e w1 ⟨rfl, rfl⟩)
    | (go_at_call 26; refine hL.mono ?_; rintro e w1 ⟨rfl, b1⟩)
    )
  go_ret
  exact ⟨rfl, Below.refl _ _⟩
set_option maxRecDepth 100000 in
theorem Remove_nil (v : Value) (k : Int) (w : World) (h : IdxZ w v) : Calls Tryd.prog 6 #[v, .int .i64 k] w fun e w' => e = .returned (.int .i64 1) ∧ Below w.heap.size w w' := by
  have hT := there_nil v
  have hL := looked_nil v w h
  have hF0 := idx_f0
  have hF1 := idx_f1
  go_enter Tryd.func6, Tryd.ntmps6
  go_wp2_with (first
    | (go_at_call 19; refine (hT _ _ h).mono ?_; rintro e w1 ⟨rfl, rfl⟩)
    | (go_at_call 26; refine hL.mono ?_; rintro e w1 ⟨rfl, b1⟩)
    )
  go_ret
  exact ⟨rfl, Below.refl _ _⟩
set_option maxRecDepth 100000 in
theorem All_nil (v : Value)  (w : World) (h : IdxZ w v) : Calls Tryd.prog 16 #[v] w fun e w' => e = .returned (.slice none 0 0) ∧ Below w.heap.size w w' := by
  have hT := there_nil v
  have hL := looked_nil v w h
  have hF0 := idx_f0
  have hF1 := idx_f1
  go_enter Tryd.func16, Tryd.ntmps16
  go_wp2_with (first
    | (go_at_call 19; refine (hT _ _ h).mono ?_; rintro e w1 ⟨rfl, rfl⟩)
    | (go_at_call 26; refine hL.mono ?_; rintro e w1 ⟨rfl, b1⟩)
    | (go_at_call 32; refine (Tryd.keysA_nil _).mono ?_; rintro e w2 ⟨rfl, b2⟩))
  go_ret
  exact ⟨rfl, b1.trans (b2.mono b1.size)⟩
set_option maxRecDepth 100000 in
theorem Of_nil (v : Value) (a b : ByteArray) (ha : a.size ≤ maxLen) (hb : b.size ≤ maxLen) (w : World) (h : IdxZ w v) : Calls Tryd.prog 9 #[v, .string a, .string b] w fun e w' => e = .returned (.slice none 0 0) ∧ Below w.heap.size w w' := by
  have hT := there_nil v
  have hL := looked_nil v w h
  have hF0 := idx_f0
  have hF1 := idx_f1
  have hL1 := idx_l1 a ha
  have hL2 := idx_l2 b hb
  go_enter Tryd.func9, Tryd.ntmps9
  go_wp2_with (first
    | (go_at_call 19; refine (hT _ _ h).mono ?_; rintro e w1 ⟨rfl, rfl⟩)
    | (go_at_call 26; refine hL.mono ?_; rintro e w1 ⟨rfl, b1⟩)
    | (go_at_call 27; refine (Tryd.keysB_nil _).mono ?_; rintro e w2 ⟨rfl, b2⟩))
  go_ret
  exact ⟨rfl, b1.trans (b2.mono b1.size)⟩
set_option maxRecDepth 100000 in
theorem Values_nil (v : Value) (a : ByteArray) (ha : a.size ≤ maxLen) (w : World) (h : IdxZ w v) : Calls Tryd.prog 8 #[v, .string a] w fun e w' => e = .returned (.slice none 0 0) ∧ Below w.heap.size w w' := by
  have hT := there_nil v
  have hL := looked_nil v w h
  have hF0 := idx_f0
  have hF1 := idx_f1
  have hL1 := idx_l1 a ha
  go_enter Tryd.func8, Tryd.ntmps8
  go_wp2_with (first
    | (go_at_call 19; refine (hT _ _ h).mono ?_; rintro e w1 ⟨rfl, rfl⟩)
    | (go_at_call 26; refine hL.mono ?_; rintro e w1 ⟨rfl, b1⟩)
    | (go_at_call 25; refine (Tryd.keysD_nil _).mono ?_; rintro e w2 ⟨rfl, b2⟩))
  go_ret
  exact ⟨rfl, b1.trans (b2.mono b1.size)⟩
theorem rising_nil (w1 : World) (n : Nat) (hn : w1.heap.size = n) : Calls Tryd.prog 28 #[.slice (some ⟨n, 0, none⟩) 1 1] (w1.alloc (.cells #[.slice none 0 0] 34)) (RiseOut (w1.alloc (.cells #[.slice none 0 0] 34)) (fun x => x ∈ ([[]] : List (List Int)).flatten) 0) := by
  subst hn
  exact rising_is _ [[]] _ (RdSS.one (RdI.nil w1)) (by simp) (by simp)
set_option maxRecDepth 100000 in
theorem With_nil (v : Value) (a : ByteArray) (ha : a.size ≤ maxLen) (w : World) (h : IdxZ w v) : Calls Tryd.prog 14 #[v, .string a] w fun e w' => (∃ x c, e = .returned (.slice x 0 c)) ∧ Below w.heap.size w w' := by
  have hL := looked_nil v w h
  have hF0 := idx_f0
  have hF1 := idx_f1
  have hL1 := idx_l1 a ha
  have hRG := fun w1 => run_range_nilMap (P := Tryd.prog) w1 _ _ _ Tryd.underlying53
  have hNX := run_next_nilMap (P := Tryd.prog)
  have hR := fun w1 n (hn : w1.heap.size = n) => rising_nil w1 n hn
  go_enter Tryd.func14, Tryd.ntmps14
  go_wp2_with (first
    | (go_at_call 26; refine hL.mono ?_; rintro e w1 ⟨rfl, b1⟩)
    | fail)
  go_loopw [5] (fun x wr => x = .slice none 0 0 ∧ wr = w1.alloc (.mapIter none 0 #[] 0)) (fun _ _ => 0)
  case atStart => exact ⟨rfl, rfl⟩
  case round =>
    obtain ⟨rfl, rfl⟩ := hrel
    go_wp2_with (first
      | (go_at_call 28; refine (hR _ _ (by simp)).mono ?_; rintro e w2 ⟨v2, l2, rfl, o2, _, hl2, b2⟩)
      | fail)
    go_ret
    obtain ⟨x, c, rfl, _, _⟩ := o2.rd
    obtain rfl : l2 = [] := List.length_eq_zero_iff.1 (by omega)
    exact ⟨⟨x, c, rfl⟩, b1.trans ((below_push (below_push b2)).mono b1.size)⟩
end Go.Proofs.YtnlkipgjacgddaaDoor
