/-
  What the law's knows answers. Conditions: the tables of package utf8 are in place.
-/
import Derived.Test.YtelabmcghahclaaDoorEntCmp
namespace Go.Proofs.YtelabmcghahclaaDoor
open Go.RowKit Go.Icz
def kx : Ent := ⟨1, 2, [([97], [120])], []⟩
theorem kx_right : entR kx = true := by decide +kernel
theorem kx_bytes : entB kx = [1, 2, 5, 1, 1, 97, 1, 120, 0] := by
  have n1 : num 1 = [1] := num_lo (by omega)
  have n2 : num 2 = [2] := num_lo (by omega)
  have n0 : num 0 = [0] := num_lo (by omega)
  have n5 : num 5 = [5] := num_lo (by omega)
  have a1 : txt ⟨#[97]⟩ = [1, 97] := by
    show num 1 ++ nats ⟨#[97]⟩ = _
    rw [n1]; rfl
  have a2 : txt ⟨#[120]⟩ = [1, 120] := by
    show num 1 ++ nats ⟨#[120]⟩ = _
    rw [n1]; rfl
  have a3 : bytesN kx.labs = [1, 1, 97, 1, 120] := by
    show num 1 ++ ((txt ⟨#[97]⟩ ++ txt ⟨#[120]⟩) ++ []) = _
    rw [n1, a1, a2]; rfl
  have a4 : txt (str [1, 1, 97, 1, 120]) = [5, 1, 1, 97, 1, 120] := by
    show num 5 ++ nats (str [1, 1, 97, 1, 120]) = _
    rw [n5]; rfl
  have a5 : txt ⟨#[]⟩ = [0] := by
    show num 0 ++ nats ⟨#[]⟩ = _
    rw [n0]; rfl
  unfold entB
  rw [a3, a4]
  show num 1 ++ num 2 ++ [5, 1, 1, 97, 1, 120] ++ txt ⟨#[]⟩ = _
  rw [n1, n2, a5]; rfl
theorem kx_before : decide (cmpE ⟨0, 1, [], []⟩ ⟨0, 2, [], []⟩ < 0) = true := by decide +kernel
end Go.Proofs.YtelabmcghahclaaDoor
