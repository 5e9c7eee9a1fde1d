/-
  What record.Size, Before and the law's knows answer. Conditions: those that each theorem names.
-/
import Derived.Test.YtffpphigmdehfaaDoorEntPut
namespace Go.Proofs.YtffpphigmdehfaaDoor
open Go.RowKit Go.Icz
set_option maxRecDepth 100000 in
set_option maxHeartbeats 1000000 in
theorem ESize_is (x : Ent) (A : Option Addr) (c : Nat) (w : World) (hR : RdL w (.slice A x.labs.length c) x.labs) (hT : Tabs w) (hz : entZ x) :
    Calls Tryd.prog 24 #[entV x A c] w fun e w' => e = .returned (.int .i64 ((if entR x = true then entB x else []).length : Int)) ∧ Below w.heap.size w w' := by
  have hP := fun w1 (g : RdL w1 (.slice A x.labs.length c) x.labs) (hT1 : Tabs w1) => EPut_is x A c w1 g hT1 hz
  unfold EPutOut at hP
  have hR1 := fun o => hR.alloc o
  have hT1 := fun o => hT.below ((Below.refl w.heap.size w).alloc (Nat.le_refl _) o)
  clear hR hT hz
  cases hr : entR x with
  | true =>
    rw [hr, if_pos rfl, if_pos rfl] at hP
    rw [if_pos rfl]
    generalize entB x = l at *
    clear hr
    unfold entV at *
    go_enter Tryd.func24, Tryd.ntmps24
    go_wp2_with (go_at_call 16; refine (hP _ (hR1 _) (hT1 _)).mono ?_; rintro e w1 ⟨v1, rfl, r1, b1⟩; obtain ⟨A1, c1, rfl, _, _⟩ := r1; clear hP)
    go_ret
    exact ⟨rfl, below_push b1⟩
  | false =>
    rw [hr, if_neg (by decide), if_neg (by decide)] at hP
    rw [if_neg (by decide)]
    clear hr
    unfold entV at *
    go_enter Tryd.func24, Tryd.ntmps24
    go_wp2_with (go_at_call 16; refine (hP _ (hR1 _) (hT1 _)).mono ?_; rintro e w1 ⟨v1, rfl, r1, b1⟩; clear hP)
    go_ret
    exact ⟨rfl, below_push b1⟩
theorem num_is (n : Int) (w : World) : Calls Tryd.prog 22 #[.int .i64 n] w fun e w' => e = .returned (.int .i64 n) ∧ w = w' := by
  go_enter Tryd.func22, Tryd.ntmps22
  go_wp2
  go_ret
  exact ⟨rfl, rfl⟩
end Go.Proofs.YtffpphigmdehfaaDoor
