/-
  What record.Size, Before and the law's knows answer. Conditions: those that each theorem names.
-/
import Derived.Test.YtelabmcghahclaaDoorEntPut
namespace Go.Proofs.YtelabmcghahclaaDoor
open Go.RowKit Go.Icz
end Go.Proofs.YtelabmcghahclaaDoor
