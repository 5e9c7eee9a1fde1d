/-
  What record.Size, Before and the law's knows answer. Conditions: those that each theorem names.
-/
import Derived.Test.YtogahjeeglnogaaDoorEntPut
namespace Go.Proofs.YtogahjeeglnogaaDoor
open Go.RowKit Go.Icz
end Go.Proofs.YtogahjeeglnogaaDoor
