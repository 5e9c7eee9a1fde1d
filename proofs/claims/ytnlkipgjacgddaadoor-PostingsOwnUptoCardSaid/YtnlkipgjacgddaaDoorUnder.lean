/-
  What postings' under answers, and how an Index's maps of maps are spoken of. No condition.
-/
import Derived.Test.YtnlkipgjacgddaaDoorKeysOf
import Derived.Maps.OwnSet
import Derived.Maps.OwnOps
import Derived.Maps.Views
import Derived.WalkSpells
namespace Go.Proofs.YtnlkipgjacgddaaDoor
open Go.RowKit Go.Maps Go.Icz Go.ChangeMaps Go.MapKept Go.WideShapes
/-- An element that is a map: read as its block's number. -/
def rMap : Value → Option (DataW Unit × List MemPlace)
  | .map none => some (.nil, [])
  | .map (some b) => some (.lit (.int .i64 b), [])
  | _ => none
theorem rMap_inv {v : Value} {d : DataW Unit} {p : List MemPlace} (h : rMap v = some (d, p)) : (v = .map none ∧ d = .nil) ∨ ∃ b : Nat, v = .map (some b) ∧ d = .lit (.int .i64 b) := by
  unfold rMap at h
  split at h
  · simp only [Option.some.injEq, Prod.mk.injEq] at h; exact .inl ⟨rfl, h.1.symm⟩
  · rename_i b; simp only [Option.some.injEq, Prod.mk.injEq] at h; exact .inr ⟨b, rfl, h.1.symm⟩
  · cases h
theorem keyS {a : ByteArray} (ha : a.size ≤ maxLen) : keyOf Tryd.prog 9 (.string a) = some (.string a.data.toList) := by simp [keyOf, mapKey, Tryd.underlying9, ha]
set_option maxRecDepth 100000 in
theorem underV_is (w : World) (b n : Nat) (D : DataW Unit) (a : ByteArray) (ha : a.size ≤ maxLen) (hn : n < maxLen) (hown : w.ownsMap Tryd.prog 9 rMap b n D) :
    Calls Tryd.prog 23 #[.map (some b), .string a] w fun e w' =>
      (∃ b' : Nat, D.atKey (.string a.data.toList) .nil = .lit (.int .i64 b') ∧ e = .returned (.map (some b')) ∧ w' = w) ∨
      (D.atKey (.string a.data.toList) .nil = .nil ∧ e = .returned (.map (some w.heap.size)) ∧ w'.ownsMap Tryd.prog 9 rMap b (n + 1) (D.put (.string a.data.toList) (.lit (.int .i64 w.heap.size))) ∧ (w.alloc (.map #[] 0)).mapTurned w' b) := by
  obtain ⟨v, ps, hrun, hv⟩ := hown.lookup (string_keyed Tryd.underlying9) Tryd.underlying53 (Tryd.zeroValue54 w) (zd := .nil) (zp := []) rfl (keyS ha)
  rcases rMap_inv hv with ⟨rfl, hd⟩ | ⟨b', rfl, hd⟩
  · obtain ⟨w2, hup, hown2, htu⟩ := (hown.alloc (.map #[] 0)).store (string_keyed Tryd.underlying9) Tryd.underlying53 hn (keyS ha) (val := .map (some w.heap.size)) (d := .lit (.int .i64 w.heap.size)) (ps := []) rfl
    obtain ⟨v2, ps2, hrun2, hv2⟩ := hown2.lookup (string_keyed Tryd.underlying9) Tryd.underlying53 (Tryd.zeroValue54 w2) (zd := .nil) (zp := []) rfl (keyS ha)
    have hsame : (D.put (.string a.data.toList) (.lit (.int .i64 w.heap.size))).atKey (.string a.data.toList) .nil = .lit (.int .i64 w.heap.size) := Maps.atKey_put_same hown.isMap (k := .string a.data.toList) trivial _ _
    rw [hsame] at hv2
    obtain rfl : v2 = .map (some w.heap.size) := by
      rcases rMap_inv hv2 with ⟨_, h⟩ | ⟨b2, rfl, h⟩
      · cases h
      · have : (w.heap.size : Int) = (b2 : Int) := by simpa using h
        simp; omega
    have hMM := @run_makeMap Tryd.prog
    have hE := fun w1 => run_eql_map_nil (P := Tryd.prog) w1 _ _ _ none Tryd.underlying54
    go_enter Tryd.func23, Tryd.ntmps23
    go_wp2
    go_ret
    exact .inr ⟨hd, rfl, hown2, htu⟩
  · have hE := fun w1 => run_eql_map_nil (P := Tryd.prog) w1 _ _ _ (some b') Tryd.underlying54
    go_enter Tryd.func23, Tryd.ntmps23
    go_wp2
    go_ret
    exact .inl ⟨b', hd, rfl, rfl⟩
set_option maxRecDepth 100000 in
theorem underN_is (w : World) (b n : Nat) (D : DataW Unit) (a : ByteArray) (ha : a.size ≤ maxLen) (hn : n < maxLen) (hown : w.ownsMap Tryd.prog 9 rMap b n D) :
    Calls Tryd.prog 24 #[.map (some b), .string a] w fun e w' =>
      (∃ b' : Nat, D.atKey (.string a.data.toList) .nil = .lit (.int .i64 b') ∧ e = .returned (.map (some b')) ∧ w' = w) ∨
      (D.atKey (.string a.data.toList) .nil = .nil ∧ e = .returned (.map (some w.heap.size)) ∧ w'.ownsMap Tryd.prog 9 rMap b (n + 1) (D.put (.string a.data.toList) (.lit (.int .i64 w.heap.size))) ∧ (w.alloc (.map #[] 0)).mapTurned w' b) := by
  obtain ⟨v, ps, hrun, hv⟩ := hown.lookup (string_keyed Tryd.underlying9) Tryd.underlying47 (Tryd.zeroValue53 w) (zd := .nil) (zp := []) rfl (keyS ha)
  rcases rMap_inv hv with ⟨rfl, hd⟩ | ⟨b', rfl, hd⟩
  · obtain ⟨w2, hup, hown2, htu⟩ := (hown.alloc (.map #[] 0)).store (string_keyed Tryd.underlying9) Tryd.underlying47 hn (keyS ha) (val := .map (some w.heap.size)) (d := .lit (.int .i64 w.heap.size)) (ps := []) rfl
    obtain ⟨v2, ps2, hrun2, hv2⟩ := hown2.lookup (string_keyed Tryd.underlying9) Tryd.underlying47 (Tryd.zeroValue53 w2) (zd := .nil) (zp := []) rfl (keyS ha)
    have hsame : (D.put (.string a.data.toList) (.lit (.int .i64 w.heap.size))).atKey (.string a.data.toList) .nil = .lit (.int .i64 w.heap.size) := Maps.atKey_put_same hown.isMap (k := .string a.data.toList) trivial _ _
    rw [hsame] at hv2
    obtain rfl : v2 = .map (some w.heap.size) := by
      rcases rMap_inv hv2 with ⟨_, h⟩ | ⟨b2, rfl, h⟩
      · cases h
      · have : (w.heap.size : Int) = (b2 : Int) := by simpa using h
        simp; omega
    have hMM := @run_makeMap Tryd.prog
    have hE := fun w1 => run_eql_map_nil (P := Tryd.prog) w1 _ _ _ none Tryd.underlying53
    go_enter Tryd.func24, Tryd.ntmps24
    go_wp2
    go_ret
    exact .inr ⟨hd, rfl, hown2, htu⟩
  · have hE := fun w1 => run_eql_map_nil (P := Tryd.prog) w1 _ _ _ (some b') Tryd.underlying53
    go_enter Tryd.func24, Tryd.ntmps24
    go_wp2
    go_ret
    exact .inl ⟨b', hd, rfl, rfl⟩
end Go.Proofs.YtnlkipgjacgddaaDoor
