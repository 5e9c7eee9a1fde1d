/-
  What Remove answers of an Index that New made of a number that is not there. No condition.
-/
import Derived.Test.YtnlkipgjacgddaaDoorIdxNew
namespace Go.Proofs.YtnlkipgjacgddaaDoor
open Go.RowKit Go.Maps Go.Icz Go.ChangeMaps Go.MapKept Go.WideShapes
set_option maxRecDepth 100000 in
theorem Remove_no (v : Value) (k : Int) (b0 b1 n : Nat) (D0 : DataW Unit) (w : World) (hk : (Lit.int .i64 k).wf = true) (h : IdxAt w v b0 b1) (hown : w.ownsMap Tryd.prog 3 rSl b0 n D0) (hh : Maps.has D0 (.int .i64 k) = false) :
    Calls Tryd.prog 6 #[v, .int .i64 k] w fun e w' => e = .returned (.int .i64 3) ∧ Below w.heap.size w w' := by
  have hT := there_is v k b0 b1 n D0 w hk h hown
  rw [hh, if_neg (by simp)] at hT
  go_enter Tryd.func6, Tryd.ntmps6
  go_wp2_with (first
    | (go_at_call 19; refine hT.mono ?_; rintro e w1 ⟨rfl, rfl⟩)
    | fail)
  go_ret
  exact ⟨rfl, Below.refl _ _⟩
end Go.Proofs.YtnlkipgjacgddaaDoor
