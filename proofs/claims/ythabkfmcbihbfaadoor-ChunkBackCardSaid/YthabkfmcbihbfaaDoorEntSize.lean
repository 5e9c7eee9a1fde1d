/-
  What record.Size, Before and the law's knows answer. Conditions: those that each theorem names.
-/
import Derived.Test.YthabkfmcbihbfaaDoorEntPut
namespace Go.Proofs.YthabkfmcbihbfaaDoor
open Go.RowKit Go.Icz
end Go.Proofs.YthabkfmcbihbfaaDoor
