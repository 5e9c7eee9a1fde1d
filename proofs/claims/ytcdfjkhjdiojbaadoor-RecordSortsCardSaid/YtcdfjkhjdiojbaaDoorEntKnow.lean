/-
  What the law's knows answers. Conditions: the tables of package utf8 are in place.
-/
import Derived.Test.YtcdfjkhjdiojbaaDoorEntCmp
namespace Go.Proofs.YtcdfjkhjdiojbaaDoor
open Go.RowKit Go.Icz
def kx : Ent := ⟨1, 2, [([97], [120])], []⟩
theorem kx_right : entR kx = true := by decide +kernel
theorem kx_bytes : entB kx = [1, 2, 5, 1, 1, 97, 1, 120, 0] := by
  have n1 : num 1 = [1] := num_lo (by omega)
  have n2 : num 2 = [2] := num_lo (by omega)
  have n0 : num 0 = [0] := num_lo (by omega)
  have n5 : num 5 = [5] := num_lo (by omega)
  have a1 : txt ⟨#[97]⟩ = [1, 97] := by
    show num 1 ++ nats ⟨#[97]⟩ = _
    rw [n1]; rfl
  have a2 : txt ⟨#[120]⟩ = [1, 120] := by
    show num 1 ++ nats ⟨#[120]⟩ = _
    rw [n1]; rfl
  have a3 : bytesN kx.labs = [1, 1, 97, 1, 120] := by
    show num 1 ++ ((txt ⟨#[97]⟩ ++ txt ⟨#[120]⟩) ++ []) = _
    rw [n1, a1, a2]; rfl
  have a4 : txt (str [1, 1, 97, 1, 120]) = [5, 1, 1, 97, 1, 120] := by
    show num 5 ++ nats (str [1, 1, 97, 1, 120]) = _
    rw [n5]; rfl
  have a5 : txt ⟨#[]⟩ = [0] := by
    show num 0 ++ nats ⟨#[]⟩ = _
    rw [n0]; rfl
  unfold entB
  rw [a3, a4]
  show num 1 ++ num 2 ++ [5, 1, 1, 97, 1, 120] ++ txt ⟨#[]⟩ = _
  rw [n1, n2, a5]; rfl
theorem kx_before : decide (cmpE ⟨0, 1, [], []⟩ ⟨0, 2, [], []⟩ < 0) = true := by decide +kernel
set_option maxHeartbeats 2000000 in
set_option maxRecDepth 100000 in
theorem knows_is (w : World) (hT : Tabs w) : Calls Tryd.prog 12 #[] w fun e w' => e = .returned (.bool true) ∧ Below w.heap.size w w' := by
  have hP := fun w1 A c (g : RdL w1 (.slice A kx.labs.length c) kx.labs) (hT1 : Tabs w1) => EPut_is kx A c w1 g hT1 ⟨by decide, by decide, by decide⟩
  unfold EPutOut at hP
  rw [kx_right, if_pos rfl, if_pos rfl, kx_bytes] at hP
  have hB := fun w1 => Before_is ⟨0, 1, [], []⟩ ⟨0, 2, [], []⟩ none none 0 0 w1
  rw [kx_before] at hB
  have r1 := (ownL1 w ([97], [120]) (Nat.le_refl _)).rd
  have T1 := hT.below ((Below.refl w.heap.size w).alloc (Nat.le_refl _) (.cells #[.string ⟨#[97]⟩, .string ⟨#[120]⟩] 58))
  go_enter Tryd.func12, Tryd.ntmps12
  go_wp2_with (first
    | (go_at_call 29; go_loud (refine (hP _ _ _ r1 T1).mono ?_; rintro e w1 ⟨v1, rfl, rv, b1⟩; have cx := conv_rd std rv; rw [show str [1, 2, 5, 1, 1, 97, 1, 120, 0] = ⟨#[1, 2, 5, 1, 1, 97, 1, 120, 0]⟩ from rfl] at cx; clear hP))
    | (go_at_call 30; refine (num_is _ _).mono ?_; rintro e w13 ⟨rfl, rfl⟩)
    | (go_at_call 9; refine (hB _).mono ?_; rintro e w2 ⟨rfl, b2⟩; clear hB)
    | fail)
  go_ret
  exact ⟨rfl, (((Below.refl _ w).alloc (Nat.le_refl _) _).trans (b1.mono (by simp))).trans (b2.mono (Nat.le_trans (by simp) b1.size))⟩
end Go.Proofs.YtcdfjkhjdiojbaaDoor
