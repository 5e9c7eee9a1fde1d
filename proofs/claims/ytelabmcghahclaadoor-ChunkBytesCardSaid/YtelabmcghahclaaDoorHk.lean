/-
  Rows of a chunk, numbers: how they lie in memory. No condition.
-/
import Derived.Test.YtelabmcghahclaaDoorEnt
import Derived.Test.YtelabmcghahclaaDoorGRo
import Derived.Test.YtelabmcghahclaaDoorOrl
import Derived.Test.YtelabmcghahclaaDoorHlp
namespace Go.Icz
open Go.RowKit
structure CRow where
  seq : Int
  time : Int
  line : B8
def rowV (r : CRow) : Value := .agg #[.int .i64 r.seq, .int .i64 r.time, .string ⟨r.line.toArray⟩]
def intV (n : Int) : Value := .int .i64 n
def KRw : Kd CRow where
  e := 60
  z := 3
  enc := fun r => [.int .i64 r.seq, .int .i64 r.time, .string ⟨r.line.toArray⟩]
  len := fun _ => rfl
  pos := by decide
  one := fun r u hu => by simp at hu; rcases hu with rfl | rfl | rfl <;> rfl
def KRr : Kd CRow where
  e := 61
  z := 3
  enc := fun r => [.int .i64 r.seq, .int .i64 r.time, .string ⟨r.line.toArray⟩]
  len := fun _ => rfl
  pos := by decide
  one := fun r u hu => by simp at hu; rcases hu with rfl | rfl | rfl <;> rfl
def KInt : Kd Int where
  e := 3
  z := 1
  enc := fun n => [.int .i64 n]
  len := fun _ => rfl
  pos := by decide
  one := fun r u hu => by simp at hu; subst hu; rfl
/-- From the place k on, each with the one behind it. -/
def prs {α : Type} (l : List α) (k : Nat) : List (α × α) := (l.drop k).zip (l.drop (k + 1))
theorem prs_cons {α : Type} (l : List α) (k : Nat) (h : k + 1 < l.length) : prs l k = (l[k], l[k + 1]) :: prs l (k + 1) := by
  unfold prs
  rw [List.drop_eq_getElem_cons (show k < l.length by omega), List.drop_eq_getElem_cons h, List.zip_cons_cons, ← List.drop_eq_getElem_cons h]
theorem prs_nil {α : Type} (l : List α) (k : Nat) (h : l.length ≤ k + 1) : prs l k = [] := by
  unfold prs
  rw [List.drop_eq_nil_of_le h, List.zip_nil_right]
theorem Kd.Rd.kept {α : Type} {K : Kd α} {n₁ : Nat} {w w' : World} {v : Value} {l : List α} (h : K.Rd w v l) (k : Kept n₁ w w') : K.Rd w' v l := by
  obtain ⟨A, c, hv, hc, hr⟩ := h
  refine ⟨A, c, hv, hc, fun h0 => ?_⟩
  obtain ⟨b, off, hA, hlt, hcell⟩ := hr h0
  exact ⟨b, off, hA, Nat.lt_of_lt_of_le hlt k.size, fun j u hj => k.cell (hcell j u hj)⟩
theorem Kd.Rd.ats {α : Type} {K : Kd α} {w : World} {v : Value} {l : List α} (h : K.Rd w v l) {j : Nat} (hj : j < l.length) : ∃ b off c, v = .slice (some ⟨b, off, none⟩) l.length c ∧ b < w.heap.size ∧ ∀ j (hj : j < l.length) i u, i < K.z → (K.enc l[j])[i]? = some u → w.cell? ⟨b, off + (j * K.z + i), none⟩ = some u := by
  obtain ⟨A, c, rfl, hc, hr⟩ := h
  obtain ⟨b, off, rfl, hlt, hcell⟩ := hr (by omega)
  exact ⟨b, off, c, rfl, hlt, fun j hj i u hi hu => hcell _ u ((Kd.cells_get (K := K) l j hj i hi).trans hu)⟩
theorem tch_drewN (S : Nat → Prop) (w : World) (n : Nat) : Tch S w (w.drewN n) := ⟨rfl, rfl, rfl, Nat.le_refl _, fun _ _ _ => rfl⟩
theorem kept_drewN (n₁ : Nat) (w : World) (n : Nat) : Kept n₁ w (w.drewN n) := ⟨rfl, rfl, rfl, Nat.le_refl _, fun _ _ _ _ h => h, fun _ _ _ => rfl⟩
end Go.Icz
