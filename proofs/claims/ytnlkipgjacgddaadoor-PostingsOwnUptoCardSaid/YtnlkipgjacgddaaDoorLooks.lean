/-
  What an Index that New made answers: there, looked, All, Names. No condition.
  What an Index that New made answers: Values, Of. No condition.
-/
import Derived.Test.YtnlkipgjacgddaaDoorUnder
import Derived.Test.YtnlkipgjacgddaaDoorIdxNil
section
namespace Go.Proofs.YtnlkipgjacgddaaDoor
open Go.RowKit Go.Maps Go.Icz Go.ChangeMaps Go.MapKept Go.WideShapes
/-- An element that is a slice: read as where it lies. -/
def rSl : Value → Option (DataW Unit × List MemPlace)
  | .slice none 0 0 => some (.nil, [])
  | .slice (some ⟨b, o, none⟩) n c => some (.agg [.lit (.int .i64 b), .lit (.int .i64 o), .lit (.int .i64 n), .lit (.int .i64 c)], [])
  | _ => none
theorem keyI {k : Int} (hk : (Lit.int .i64 k).wf = true) : keyOf Tryd.prog 3 (.int .i64 k) = some (.int .i64 k) := keyOf_int_mk Tryd.underlying3 hk
/-- The head of an Index. -/
def IdxAt (w : World) (v : Value) (b0 b1 : Nat) : Prop :=
  ∃ g : Nat, v = .pointer (some ⟨g, 0, none⟩) ∧ g < w.heap.size ∧ w.cell? ⟨g, 0, none⟩ = some (.map (some b0)) ∧ w.cell? ⟨g, 1, none⟩ = some (.map (some b1))
set_option maxRecDepth 100000 in
theorem idx_g0 (b0 b1 : Nat) (w : World) : (Instr.field 49 (.agg #[.map (some b0), .map (some b1)]) 0).run Tryd.prog w = .ok (.map (some b0)) w := by
  simp [Instr.field, run_underlying Tryd.underlying49, Result.andThen]
  rfl
set_option maxRecDepth 100000 in
theorem idx_g1 (b0 b1 : Nat) (w : World) : (Instr.field 49 (.agg #[.map (some b0), .map (some b1)]) 1).run Tryd.prog w = .ok (.map (some b1)) w := by
  simp [Instr.field, run_underlying Tryd.underlying49, Result.andThen]
  rfl
set_option maxRecDepth 100000 in
theorem there_is (v : Value) (k : Int) (b0 b1 n : Nat) (D0 : DataW Unit) (w : World) (hk : (Lit.int .i64 k).wf = true) (h : IdxAt w v b0 b1) (hown : w.ownsMap Tryd.prog 3 rSl b0 n D0) :
    Calls Tryd.prog 19 #[v, .int .i64 k] w fun e w' => e = .returned (.int .i64 (if Maps.has D0 (.int .i64 k) = true then 0 else 3)) ∧ w' = w := by
  have hE := fun w1 => run_eql_map_nil (P := Tryd.prog) w1 _ _ _ (some b0) Tryd.underlying46
  obtain ⟨u, ps, hrun, hu⟩ := hown.look_ok (int_keyed Tryd.underlying3) Tryd.underlying46 (Tryd.zeroValue26 w) (zd := .nil) (zp := []) rfl (keyI hk)
  obtain ⟨g, rfl, hg, h0, h1⟩ := h
  clear hown hu
  cases hh : Maps.has D0 (.int .i64 k) with
  | true =>
    rw [hh] at hrun
    go_enter Tryd.func19, Tryd.ntmps19
    go_wp2
    go_ret
    exact ⟨rfl, rfl⟩
  | false =>
    rw [hh] at hrun
    go_enter Tryd.func19, Tryd.ntmps19
    go_wp2
    go_ret
    exact ⟨rfl, rfl⟩
set_option maxRecDepth 100000 in
theorem looked_is (v : Value) (b0 b1 : Nat) (w : World) (h : IdxAt w v b0 b1) : Calls Tryd.prog 26 #[v] w fun e w' => e = .returned (.agg #[.map (some b0), .map (some b1)]) ∧ Below w.heap.size w w' := by
  obtain ⟨g, rfl, hg, h0, h1⟩ := h
  go_enter Tryd.func26, Tryd.ntmps26
  go_wp2
  refine bodyPost_ret (results_cell_row rfl _ _ w.heap.size 49 #[.map (some b0), .map (some b1)] _ _ rfl (heap_alloc_new w _) Tryd.underlying49 rfl (by kernel_rfl)) rfl ?_
  exact ⟨rfl, (Below.refl _ w).alloc (Nat.le_refl _) _⟩
set_option maxRecDepth 100000 in
theorem All_is (v : Value) (b0 b1 n : Nat) (D0 : DataW Unit) (w : World) (h : IdxAt w v b0 b1) (hown : w.ownsMap Tryd.prog 3 rSl b0 n D0) (hN : Maps.size D0 ≤ 4398046511104) :
    Calls Tryd.prog 16 #[v] w fun e w' => ∃ (u : Value) (ss : List Int), e = .returned u ∧ ss.Perm (intKeys D0) ∧ w'.ownsRow w.heap.size 3 1 u ss.length ((ss.mergeSort (fun x y => decide (x ≤ y))).map encZ) ∧ Below w.heap.size w w' := by
  have hL := looked_is v b0 b1 w h
  have hF0 := idx_g0 b0 b1
  have hK := fun w1 (hb : Below w.heap.size w w1) => Tryd.keysA_of w1 b0 n D0 (ownsMap_below hown hb) hN
  clear hown
  go_enter Tryd.func16, Tryd.ntmps16
  go_wp2_with (first
    | (go_at_call 26; refine hL.mono ?_; rintro e w1 ⟨rfl, b1⟩)
    | (go_at_call 32; refine (hK _ b1).mono ?_; rintro e w2 ⟨u, ss, rfl, hp, hrow, b2⟩))
  go_ret
  exact ⟨u, ss, rfl, hp, ownsRow_less hrow b1.size, b1.trans (b2.mono b1.size)⟩
end Go.Proofs.YtnlkipgjacgddaaDoor
end
section
namespace Go.Proofs.YtnlkipgjacgddaaDoor
open Go.RowKit Go.Maps Go.Icz Go.ChangeMaps Go.MapKept Go.WideShapes
theorem lookN {w : World} {b n : Nat} {D : DataW Unit} {a : ByteArray} {b' : Nat} (ha : a.size ≤ maxLen) (hown : w.ownsMap Tryd.prog 9 rMap b n D) (hx : D.atKey (.string a.data.toList) .nil = .lit (.int .i64 b')) :
    (Instr.lookup 47 (.map (some b)) (.string a) false).run Tryd.prog w = .ok (.map (some b')) w := by
  obtain ⟨v, ps, hrun, hv⟩ := hown.lookup (string_keyed Tryd.underlying9) Tryd.underlying47 (Tryd.zeroValue53 w) (zd := .nil) (zp := []) rfl (keyS ha)
  rw [hx] at hv
  rcases rMap_inv hv with ⟨_, h⟩ | ⟨b2, rfl, h⟩
  · cases h
  · have : (b' : Int) = (b2 : Int) := by simpa using h
    obtain rfl : b' = b2 := by omega
    exact hrun
theorem lookN_no {w : World} {b n : Nat} {D : DataW Unit} {a : ByteArray} (ha : a.size ≤ maxLen) (hown : w.ownsMap Tryd.prog 9 rMap b n D) (hx : D.atKey (.string a.data.toList) .nil = .nil) :
    (Instr.lookup 47 (.map (some b)) (.string a) false).run Tryd.prog w = .ok (.map none) w := by
  obtain ⟨v, ps, hrun, hv⟩ := hown.lookup (string_keyed Tryd.underlying9) Tryd.underlying47 (Tryd.zeroValue53 w) (zd := .nil) (zp := []) rfl (keyS ha)
  rw [hx] at hv
  rcases rMap_inv hv with ⟨rfl, _⟩ | ⟨b2, rfl, h⟩
  · exact hrun
  · cases h
theorem lookV {w : World} {b n : Nat} {D : DataW Unit} {a : ByteArray} {b' : Nat} (ha : a.size ≤ maxLen) (hown : w.ownsMap Tryd.prog 9 rMap b n D) (hx : D.atKey (.string a.data.toList) .nil = .lit (.int .i64 b')) :
    (Instr.lookup 53 (.map (some b)) (.string a) false).run Tryd.prog w = .ok (.map (some b')) w := by
  obtain ⟨v, ps, hrun, hv⟩ := hown.lookup (string_keyed Tryd.underlying9) Tryd.underlying53 (Tryd.zeroValue54 w) (zd := .nil) (zp := []) rfl (keyS ha)
  rw [hx] at hv
  rcases rMap_inv hv with ⟨_, h⟩ | ⟨b2, rfl, h⟩
  · cases h
  · have : (b' : Int) = (b2 : Int) := by simpa using h
    obtain rfl : b' = b2 := by omega
    exact hrun
theorem lookV_no {w : World} {b n : Nat} {D : DataW Unit} {a : ByteArray} (ha : a.size ≤ maxLen) (hown : w.ownsMap Tryd.prog 9 rMap b n D) (hx : D.atKey (.string a.data.toList) .nil = .nil) :
    (Instr.lookup 53 (.map (some b)) (.string a) false).run Tryd.prog w = .ok (.map none) w := by
  obtain ⟨v, ps, hrun, hv⟩ := hown.lookup (string_keyed Tryd.underlying9) Tryd.underlying53 (Tryd.zeroValue54 w) (zd := .nil) (zp := []) rfl (keyS ha)
  rw [hx] at hv
  rcases rMap_inv hv with ⟨rfl, _⟩ | ⟨b2, rfl, h⟩
  · exact hrun
  · cases h
set_option maxRecDepth 100000 in
theorem Values_yes (v : Value) (b0 b1 n : Nat) (D1 : DataW Unit) (w : World) (h : IdxAt w v b0 b1) (hown : w.ownsMap Tryd.prog 9 rMap b1 n D1) (a : ByteArray) (ha : a.size ≤ maxLen) (b2 n2 : Nat) (D : DataW Unit) (hx : D1.atKey (.string a.data.toList) .nil = .lit (.int .i64 b2)) (ho2 : w.ownsMap Tryd.prog 9 rMap b2 n2 D) (hN : Maps.size D ≤ 4398046511104) :
    Calls Tryd.prog 8 #[v, .string a] w fun e w' => ∃ (u : Value) (ss : List (List UInt8)), e = .returned u ∧ ss.Perm (strKeys D) ∧ w'.ownsRow w.heap.size 9 1 u ss.length ((ss.mergeSort (fun x y => decide (x ≤ y))).map encStr) ∧ Below w.heap.size w w' := by
  have hL := looked_is v b0 b1 w h
  have hF1 := idx_g1 b0 b1
  go_enter Tryd.func8, Tryd.ntmps8
  go_wp2_with (first
    | (go_at_call 26; refine hL.mono ?_; rintro e w1 ⟨rfl, c1⟩; have k1 := lookN ha (ownsMap_below hown c1) hx)
    | (go_at_call 25; refine (Tryd.keysD_of _ b2 n2 D (ownsMap_below ho2 c1) hN).mono ?_; rintro e w2 ⟨u, ss, rfl, hp, hrow, c2⟩))
  go_ret
  exact ⟨u, ss, rfl, hp, ownsRow_less hrow c1.size, c1.trans (c2.mono c1.size)⟩
set_option maxRecDepth 100000 in
theorem Values_no (v : Value) (b0 b1 n : Nat) (D1 : DataW Unit) (w : World) (h : IdxAt w v b0 b1) (hown : w.ownsMap Tryd.prog 9 rMap b1 n D1) (a : ByteArray) (ha : a.size ≤ maxLen) (hx : D1.atKey (.string a.data.toList) .nil = .nil) :
    Calls Tryd.prog 8 #[v, .string a] w fun e w' => e = .returned (.slice none 0 0) ∧ Below w.heap.size w w' := by
  have hL := looked_is v b0 b1 w h
  have hF1 := idx_g1 b0 b1
  go_enter Tryd.func8, Tryd.ntmps8
  go_wp2_with (first
    | (go_at_call 26; refine hL.mono ?_; rintro e w1 ⟨rfl, c1⟩; have k1 := lookN_no ha (ownsMap_below hown c1) hx)
    | (go_at_call 25; refine (Tryd.keysD_nil _).mono ?_; rintro e w2 ⟨rfl, c2⟩))
  go_ret
  exact ⟨rfl, c1.trans (c2.mono c1.size)⟩
set_option maxRecDepth 100000 in
theorem Of_yes (v : Value) (b0 b1 n : Nat) (D1 : DataW Unit) (w : World) (h : IdxAt w v b0 b1) (hown : w.ownsMap Tryd.prog 9 rMap b1 n D1) (a : ByteArray) (ha : a.size ≤ maxLen) (a2 : ByteArray) (ha2 : a2.size ≤ maxLen) (b2 n2 : Nat) (D2 : DataW Unit) (hx : D1.atKey (.string a.data.toList) .nil = .lit (.int .i64 b2)) (ho2 : w.ownsMap Tryd.prog 9 rMap b2 n2 D2) (b3 n3 : Nat) (D : DataW Unit) (hx2 : D2.atKey (.string a2.data.toList) .nil = .lit (.int .i64 b3)) {R : Value → Option (DataW Unit × List MemPlace)} (ho3 : w.ownsMap Tryd.prog 3 R b3 n3 D) (hN : Maps.size D ≤ 4398046511104) :
    Calls Tryd.prog 9 #[v, .string a, .string a2] w fun e w' => ∃ (u : Value) (ss : List Int), e = .returned u ∧ ss.Perm (intKeys D) ∧ w'.ownsRow w.heap.size 3 1 u ss.length ((ss.mergeSort (fun x y => decide (x ≤ y))).map encZ) ∧ Below w.heap.size w w' := by
  have hL := looked_is v b0 b1 w h
  have hF1 := idx_g1 b0 b1
  go_enter Tryd.func9, Tryd.ntmps9
  go_wp2_with (first
    | (go_at_call 26; refine hL.mono ?_; rintro e w1 ⟨rfl, c1⟩; have k1 := lookN ha (ownsMap_below hown c1) hx; have k2 := lookV ha2 (ownsMap_below ho2 c1) hx2)
    | (go_at_call 27; refine (Tryd.keysB_of _ b3 n3 D (ownsMap_below ho3 c1) hN).mono ?_; rintro e w2 ⟨u, ss, rfl, hp, hrow, c2⟩))
  go_ret
  exact ⟨u, ss, rfl, hp, ownsRow_less hrow c1.size, c1.trans (c2.mono c1.size)⟩
set_option maxRecDepth 100000 in
theorem Of_no2 (v : Value) (b0 b1 n : Nat) (D1 : DataW Unit) (w : World) (h : IdxAt w v b0 b1) (hown : w.ownsMap Tryd.prog 9 rMap b1 n D1) (a : ByteArray) (ha : a.size ≤ maxLen) (a2 : ByteArray) (ha2 : a2.size ≤ maxLen) (b2 n2 : Nat) (D2 : DataW Unit) (hx : D1.atKey (.string a.data.toList) .nil = .lit (.int .i64 b2)) (ho2 : w.ownsMap Tryd.prog 9 rMap b2 n2 D2) (hx2 : D2.atKey (.string a2.data.toList) .nil = .nil) :
    Calls Tryd.prog 9 #[v, .string a, .string a2] w fun e w' => e = .returned (.slice none 0 0) ∧ Below w.heap.size w w' := by
  have hL := looked_is v b0 b1 w h
  have hF1 := idx_g1 b0 b1
  go_enter Tryd.func9, Tryd.ntmps9
  go_wp2_with (first
    | (go_at_call 26; refine hL.mono ?_; rintro e w1 ⟨rfl, c1⟩; have k1 := lookN ha (ownsMap_below hown c1) hx; have k2 := lookV_no ha2 (ownsMap_below ho2 c1) hx2)
    | (go_at_call 27; refine (Tryd.keysB_nil _).mono ?_; rintro e w2 ⟨rfl, c2⟩))
  go_ret
  exact ⟨rfl, c1.trans (c2.mono c1.size)⟩
set_option maxRecDepth 100000 in
theorem Of_no (v : Value) (b0 b1 n : Nat) (D1 : DataW Unit) (w : World) (h : IdxAt w v b0 b1) (hown : w.ownsMap Tryd.prog 9 rMap b1 n D1) (a : ByteArray) (ha : a.size ≤ maxLen) (a2 : ByteArray) (ha2 : a2.size ≤ maxLen) (hx : D1.atKey (.string a.data.toList) .nil = .nil) :
    Calls Tryd.prog 9 #[v, .string a, .string a2] w fun e w' => e = .returned (.slice none 0 0) ∧ Below w.heap.size w w' := by
  have hL := looked_is v b0 b1 w h
  have hF1 := idx_g1 b0 b1
  go_enter Tryd.func9, Tryd.ntmps9
  go_wp2_with (first
    | (go_at_call 26; refine hL.mono ?_; rintro e w1 ⟨rfl, c1⟩; have k1 := lookN_no ha (ownsMap_below hown c1) hx; have k2 := idx_l2 a2 ha2)
    | (go_at_call 27; refine (Tryd.keysB_nil _).mono ?_; rintro e w2 ⟨rfl, c2⟩))
  go_ret
  exact ⟨rfl, c1.trans (c2.mono c1.size)⟩
end Go.Proofs.YtnlkipgjacgddaaDoor
end
