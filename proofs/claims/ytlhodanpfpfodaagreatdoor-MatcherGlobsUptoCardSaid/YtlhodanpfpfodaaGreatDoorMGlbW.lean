/-
  The walk of MatcherGlobs. Conditions: sizes; the program's tables are in place.
-/
import Derived.Test.YtlhodanpfpfodaaGreatDoorMGlb4
import Derived.Test.YtlhodanpfpfodaaGreatDoorMTab
namespace Go.Proofs.YtlhodanpfpfodaaGreatDoor
open Go.RowKit Go.Icz
set_option maxHeartbeats 4000000 in
set_option maxRecDepth 100000 in
theorem MatcherGlobs_walk (p s : ByteArray) (w : World) (hp : p.size ≤ 1048576) (hs : s.size ≤ 1048576) (hT : TabsM w) (h9 : 9 ≤ w.heap.size) :
    Calls Tryz.prog 4 #[.string p, .string s] w fun e w' => e = .returned (.bool true) ∧ Below w.heap.size w w' := by
  have hL := Long_is p s w (by omega) (by omega)
  have hK := fun w1 (hb : Below w.heap.size w w1) => knows6_is w1 (hT.below hb) (Nat.le_trans h9 hb.size)
  have hG := fun w1 => Glob_is p s w1 hp hs
  have hR := fun w1 => R6Glob_is p s w1 hp hs
  generalize globS p.data.toList s.data.toList = gb at *
  cases hl : longB p.size s.size with
  | true =>
    rw [hl] at hL
    clear hl
    go_enter Tryz.func4, Tryz.ntmps4
    go_wp2_with (first
      | (go_at_call 18; refine hL.mono ?_; rintro e w1 ⟨rfl, b1⟩; clear hL)
      | (go_at_call 19; refine (hK _ b1).mono ?_; rintro e w2 ⟨rfl, b2⟩))
    go_ret
    exact ⟨rfl, b1.trans (b2.mono b1.size)⟩
  | false =>
    rw [hl] at hL
    clear hl
    cases gb
    all_goals
      go_enter Tryz.func4, Tryz.ntmps4
      go_wp2_with (first
        | (go_at_call 18; refine hL.mono ?_; rintro e w1 ⟨rfl, b1⟩; clear hL)
        | (go_at_call 20; refine (hG _).mono ?_; rintro e w2 ⟨rfl, b2⟩; clear hG; have bt2 := b1.trans (b2.mono b1.size))
        | (go_at_call 21; refine (hR _).mono ?_; rintro e w3 ⟨rfl, b3⟩; clear hR; have bt3 := bt2.trans (b3.mono bt2.size))
        | (go_at_call 19; refine (hK _ bt3).mono ?_; rintro e w4 ⟨rfl, b4⟩))
      go_ret
      exact ⟨rfl, bt3.trans (b4.mono bt3.size)⟩
end Go.Proofs.YtlhodanpfpfodaaGreatDoor
