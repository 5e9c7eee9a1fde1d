/-
  What the law's Same of entries and of lists of entries answers where both read as the same. Conditions: the entries can be read; sizes as each theorem names.
-/
import Derived.Test.YtcdfjkhjdiojbaaDoorEntBatch
import Derived.Test.YtcdfjkhjdiojbaaDoorEntOwn
namespace Go.Proofs.YtcdfjkhjdiojbaaDoor
open Go.RowKit Go.Icz
set_option maxHeartbeats 1000000 in
set_option maxRecDepth 100000 in
theorem ESame_refl (x : Ent) (A A' : Option Addr) (c c' : Nat) (w : World) (h1 : RdL w (.slice A x.labs.length c) x.labs) (h2 : RdL w (.slice A' x.labs.length c') x.labs) (hm : x.labs.length ≤ 4611686018427387904) :
    Calls Tryd.prog 13 #[entV x A c, entV x A' c'] w fun e w' => e = .returned (.bool true) ∧ Below w.heap.size w w' := by
  have hS := fun w1 g1 g2 => Same_is (.slice A x.labs.length c) (.slice A' x.labs.length c') x.labs x.labs w1 g1 g2 hm
  rw [decide_eq_true rfl] at hS
  have g1 := fun o o2 => (h1.alloc o).alloc o2
  have g2 := fun o o2 => (h2.alloc o).alloc o2
  have hb : ∀ o o2, Below w.heap.size w ((w.alloc o).alloc o2) := fun o o2 => ((Below.refl _ _).alloc (Nat.le_refl _) o).alloc (by simp) o2
  clear h1 h2 hm
  unfold entV
  go_enter Tryd.func13, Tryd.ntmps13
  go_wp2_with (go_at_call 31; refine (hS _ (g1 _ _) (g2 _ _)).mono ?_; rintro e w1 ⟨rfl, b1⟩)
  go_ret
  exact ⟨rfl, (hb _ _).trans (b1.mono (by simp; omega))⟩
end Go.Proofs.YtcdfjkhjdiojbaaDoor
