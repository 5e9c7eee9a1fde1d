/-
  Blocks of a list, each sorted by itself, equals as they stood: how stableCmpFunc makes them longer. Conditions: those that each theorem names.
-/
import Derived.Test.YtcdfjkhjdiojbaaDoorStable
namespace Go.Icz
section
variable {α : Type} {lt : α → α → Bool}
/-- Full blocks of k. -/
inductive SBF (lt : α → α → Bool) (k : Nat) : List α → List α → Prop
  | nil : SBF lt k [] []
  | cons {x r X R : List α} : x.length = k → r.length = k → StableOf lt x r → SBF lt k X R → SBF lt k (x ++ X) (r ++ R)
/-- Full blocks of k, and a last one of at most k. -/
def SB (lt : α → α → Bool) (k : Nat) (X R : List α) : Prop := ∃ X1 X2 R1 R2, X = X1 ++ X2 ∧ R = R1 ++ R2 ∧ SBF lt k X1 R1 ∧ StableOf lt X2 R2 ∧ X2.length ≤ k ∧ R2.length = X2.length
theorem SBF.snoc {k : Nat} {X R x r : List α} (h : SBF lt k X R) (h1 : x.length = k) (h2 : r.length = k) (h3 : StableOf lt x r) : SBF lt k (X ++ x) (R ++ r) := by
  induction h with
  | nil => simpa using SBF.cons h1 h2 h3 SBF.nil
  | cons a b c _ ih => rw [List.append_assoc, List.append_assoc]; exact SBF.cons a b c ih
theorem SBF.length {k : Nat} {X R : List α} (h : SBF lt k X R) : R.length = X.length := by
  induction h with
  | nil => rfl
  | cons a b _ _ ih => rw [List.length_append, List.length_append, a, b, ih]
theorem SB.length {k : Nat} {X R : List α} (h : SB lt k X R) : R.length = X.length := by
  obtain ⟨X1, X2, R1, R2, rfl, rfl, h1, _, _, h2⟩ := h
  rw [List.length_append, List.length_append, h1.length, h2]
theorem SB.nil (k : Nat) : SB lt k [] [] := ⟨[], [], [], [], rfl, rfl, .nil, ⟨.nil, fun _ => rfl⟩, Nat.zero_le _, rfl⟩
/-- The first block. -/
theorem SB.peel {k : Nat} {X R : List α} (h : SB lt k X R) (hk : k ≤ X.length) (h0 : 0 < k) : ∃ x r X' R', X = x ++ X' ∧ R = r ++ R' ∧ x.length = k ∧ r.length = k ∧ StableOf lt x r ∧ SB lt k X' R' := by
  obtain ⟨X1, X2, R1, R2, rfl, rfl, h1, h2, h3, h4⟩ := h
  cases h1 with
  | nil =>
    have e : X2.length = k := by simp only [List.nil_append] at hk; omega
    exact ⟨X2, R2, [], [], by simp, by simp, e, by omega, h2, SB.nil k⟩
  | cons a b c d =>
    rename_i x r X R
    exact ⟨x, r, X ++ X2, R ++ R2, by rw [List.append_assoc], by rw [List.append_assoc], a, b, c, X, X2, R, R2, rfl, rfl, d, h2, h3, h4⟩
/-- One block alone. -/
theorem SB.last {k : Nat} {X R : List α} (h : SB lt k X R) (hk : X.length ≤ k) : StableOf lt X R := by
  obtain ⟨X1, X2, R1, R2, rfl, rfl, h1, h2, h3, h4⟩ := h
  cases h1 with
  | nil => simpa using h2
  | cons a b c d =>
    rename_i x r X R
    have e1 : X2 = [] := by
      simp only [List.length_append] at hk
      exact List.eq_nil_of_length_eq_zero (by omega)
    subst e1
    have e2 : R2 = [] := List.eq_nil_of_length_eq_zero (by simpa using h4)
    subst e2
    have e3 : X = [] := by
      simp only [List.length_append] at hk
      exact List.eq_nil_of_length_eq_zero (by omega)
    subst e3
    have e4 : R = [] := List.eq_nil_of_length_eq_zero (by simpa using d.length)
    subst e4
    simpa using c
theorem SB.done {k : Nat} {X R x r : List α} (h : SBF lt k X R) (h1 : StableOf lt x r) (h2 : x.length ≤ k) (h3 : r.length = x.length) : SB lt k (X ++ x) (R ++ r) := ⟨X, x, R, r, rfl, rfl, h, h1, h2, h3⟩
end
end Go.Icz
