/-
  What record.Size, Before and the law's knows answer. Conditions: those that each theorem names.
-/
import Derived.Test.YtcdfjkhjdiojbaaDoorEntPut
namespace Go.Proofs.YtcdfjkhjdiojbaaDoor
open Go.RowKit Go.Icz
theorem num_is (n : Int) (w : World) : Calls Tryd.prog 30 #[.int .i64 n] w fun e w' => e = .returned (.int .i64 n) ∧ w = w' := by
  go_enter Tryd.func30, Tryd.ntmps30
  go_wp2
  go_ret
  exact ⟨rfl, rfl⟩
end Go.Proofs.YtcdfjkhjdiojbaaDoor
