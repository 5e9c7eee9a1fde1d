/-
  What the reference's Entry, Bounds and Between of a chunk answer. Conditions: the chunk can be read; sizes as each theorem names.
-/
import Derived.Test.YtaoeabnpmpimgaaDoorHrr
import Derived.Test.YtaoeabnpmpimgaaDoorOrl
import Derived.Test.YtaoeabnpmpimgaaDoorEwf
namespace Go.Icz
open Go.RowKit
def KLb : Kd Lab where
  e := 65
  z := 2
  enc := fun x => [.string ⟨x.1.toArray⟩, .string ⟨x.2.toArray⟩]
  len := fun _ => rfl
  pos := by decide
  one := by
    intro x u hu
    simp only [List.mem_cons, List.not_mem_nil, or_false] at hu
    rcases hu with rfl | rfl <;> rfl
theorem Kd.cells_at {α : Type} {K : Kd α} {w : World} {b off : Nat} {l : List α} (h : ∀ j (hj : j < l.length) i u, i < K.z → (K.enc l[j])[i]? = some u → w.cell? ⟨b, off + (j * K.z + i), none⟩ = some u) : ∀ j u, (K.cells l)[j]? = some u → w.cell? ⟨b, off + j, none⟩ = some u := by
  intro j u hj
  have hjl := (List.getElem?_eq_some_iff.1 hj).1
  rw [K.cells_len] at hjl
  have hq : j / K.z < l.length := by rw [Nat.div_lt_iff_lt_mul K.pos]; exact hjl
  have hr : j % K.z < K.z := Nat.mod_lt _ K.pos
  have hj2 : j = j / K.z * K.z + j % K.z := by rw [Nat.mul_comm]; exact (Nat.div_add_mod j K.z).symm
  have hg := K.cells_get l (j / K.z) hq (j % K.z) hr
  rw [← hj2, hj] at hg
  have := h (j / K.z) hq (j % K.z) u hr hg.symm
  rw [← hj2] at this
  exact this
theorem RdL.klb {w : World} {v : Value} {l : List Lab} (h : RdL w v l) : KLb.Rd w v l := by
  obtain ⟨A, c, hv, hc, hr⟩ := h
  refine ⟨A, c, hv, hc, fun h0 => ?_⟩
  obtain ⟨b, off, hA, hlt, hcell⟩ := hr h0
  refine ⟨b, off, hA, hlt, Kd.cells_at (K := KLb) (fun j hj i u hi hu => ?_)⟩
  obtain ⟨q0, q1⟩ := hcell j hj
  match i, hi, hu with
  | 0, _, hu => injection hu with hu; subst hu; exact q0
  | 1, _, hu => injection hu with hu; subst hu; rw [← Nat.add_assoc]; exact q1
end Go.Icz
namespace Go.Proofs.YtaoeabnpmpimgaaDoor
open Go.RowKit Go.Icz Go.Shelf
attribute [local go_sem] Oper.semAt_some
end Go.Proofs.YtaoeabnpmpimgaaDoor
