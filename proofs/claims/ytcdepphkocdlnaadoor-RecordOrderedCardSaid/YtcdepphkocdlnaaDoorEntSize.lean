/-
  What record.Size, Before and the law's knows answer. Conditions: those that each theorem names.
-/
import Derived.Test.YtcdepphkocdlnaaDoorEntPut
namespace Go.Proofs.YtcdepphkocdlnaaDoor
open Go.RowKit Go.Icz
theorem num_is (n : Int) (w : World) : Calls Tryd.prog 35 #[.int .i64 n] w fun e w' => e = .returned (.int .i64 n) ∧ w = w' := by
  go_enter Tryd.func35, Tryd.ntmps35
  go_wp2
  go_ret
  exact ⟨rfl, rfl⟩
end Go.Proofs.YtcdepphkocdlnaaDoor
