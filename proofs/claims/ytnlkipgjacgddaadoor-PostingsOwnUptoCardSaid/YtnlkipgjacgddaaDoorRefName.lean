/-
  What the reference's Name answers. Conditions: the list can be read; lengths that Go's int holds.
-/
import Derived.Test.YtnlkipgjacgddaaDoorRight
namespace Go.Proofs.YtnlkipgjacgddaaDoor
open Go.RowKit Go.Icz

end Go.Proofs.YtnlkipgjacgddaaDoor
