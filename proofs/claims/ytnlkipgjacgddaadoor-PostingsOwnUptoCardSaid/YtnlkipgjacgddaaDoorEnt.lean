/-
  What the law's Own and Same of labels answer. Conditions: the lists can be read; sizes as each theorem names.
  Entries: how they lie in memory, which may be, their bytes; record.Right. Conditions: those that each theorem names.
-/
import Derived.Test.YtnlkipgjacgddaaDoorHeld
import Derived.Deep.RegionHeld3
import Derived.Test.YtnlkipgjacgddaaDoorRBytes
section
namespace Go.Proofs.YtnlkipgjacgddaaDoor
open Go.RowKit Go.Icz
end Go.Proofs.YtnlkipgjacgddaaDoor
end
section
namespace Go.Icz
open Go.RowKit
structure Ent where
  seq : Int
  time : Int
  labs : List Lab
  line : B8
/-- The entry's value; its labels are the slice A. -/
def entV (x : Ent) (A : Option Addr) (c : Nat) : Value := .agg #[.int .i64 x.seq, .int .i64 x.time, .slice A x.labs.length c, .string ⟨x.line.toArray⟩]
def entR (x : Ent) : Bool := (decide (1 ≤ x.seq ∧ x.seq < 1099511627776) && decide (0 ≤ x.time ∧ x.time < 1099511627776)) && decide (x.line.length ≤ 1024) && rightS x.labs
/-- The sizes that Go's memory allows. -/
def entZ (x : Ent) : Prop := x.labs.length * 32 ≤ 140737488351232 ∧ x.line.length ≤ 9223372036854775807 ∧ ∀ y ∈ x.labs, y.1.length ≤ 9223372036854775807 ∧ y.2.length ≤ 9223372036854775807
end Go.Icz
namespace Go.Proofs.YtnlkipgjacgddaaDoor
open Go.RowKit Go.Icz
end Go.Proofs.YtnlkipgjacgddaaDoor
end
