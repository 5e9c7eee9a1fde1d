/-
  What the reference's Name answers. Conditions: the list can be read; lengths that Go's int holds.
-/
import Derived.Test.YtcdepphkocdlnaaDoorRight
namespace Go.Proofs.YtcdepphkocdlnaaDoor
open Go.RowKit Go.Icz

end Go.Proofs.YtcdepphkocdlnaaDoor
