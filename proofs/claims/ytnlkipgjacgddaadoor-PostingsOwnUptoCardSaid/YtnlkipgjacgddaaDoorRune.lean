/-
  What the reference's Rune answers. Conditions: lengths that Go's int holds.
-/
import Derived.Test.YtnlkipgjacgddaaDoorRuneDec
namespace Go.Proofs.YtnlkipgjacgddaaDoor
open Go.RowKit Go.Icz

theorem at_get (s : ByteArray) (i : Nat) (h : i < s.size) : s.get! i = s[i]'h := by
  simp [ByteArray.get!, getElem!_pos, h]
  rfl
end Go.Proofs.YtnlkipgjacgddaaDoor
