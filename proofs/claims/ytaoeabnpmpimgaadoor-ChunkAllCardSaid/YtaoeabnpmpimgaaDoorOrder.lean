/-
  Orders with three answers: of bytes, of labels, of lists of labels; labels sorted by their names. No conditions.
-/
import Derived.Test.YtaoeabnpmpimgaaDoorText
namespace Go.Icz
open Go.RowKit Go.Lib

/-- -1, 0 or 1: one order. -/
structure Cmp3 {α : Type} (c : α → α → Int) : Prop where
  rng : ∀ x y, c x y = -1 ∨ c x y = 0 ∨ c x y = 1
  neg : ∀ x y, c y x = - c x y
  eq : ∀ x y, c x y = 0 ↔ x = y
  le : ∀ x y z, c x y ≤ 0 → c y z ≤ 0 → c x z ≤ 0

theorem bytes_rng : ∀ a b : B8, compareBytes a b = -1 ∨ compareBytes a b = 0 ∨ compareBytes a b = 1
  | [], [] => .inr (.inl rfl)
  | [], _ :: _ => .inl rfl
  | _ :: _, [] => .inr (.inr rfl)
  | a :: p1, b :: p2 => by
    unfold compareBytes
    split
    · exact .inl rfl
    · split
      · exact .inr (.inr rfl)
      · exact bytes_rng p1 p2
theorem bytes_neg : ∀ a b : B8, compareBytes b a = - compareBytes a b
  | [], [] => rfl
  | [], _ :: _ => rfl
  | _ :: _, [] => rfl
  | a :: p1, b :: p2 => by
    unfold compareBytes
    by_cases h1 : a < b
    · have h2 : ¬ b < a := fun h => by have := UInt8.lt_iff_toNat_lt.1 h; have := UInt8.lt_iff_toNat_lt.1 h1; omega
      simp [h1, h2]
    · by_cases h2 : b < a
      · simp [h1, h2]
      · simp [h1, h2, bytes_neg p1 p2]
theorem bytes_eq : ∀ a b : B8, compareBytes a b = 0 ↔ a = b
  | [], [] => by simp [compareBytes]
  | [], _ :: _ => by simp [compareBytes]
  | _ :: _, [] => by simp [compareBytes]
  | a :: p1, b :: p2 => by
    unfold compareBytes
    by_cases h1 : a < b
    · have : a ≠ b := fun e => by subst e; exact absurd h1 (UInt8.lt_irrefl a)
      simp [h1, this]
    · by_cases h2 : b < a
      · have : a ≠ b := fun e => by subst e; exact absurd h2 (UInt8.lt_irrefl a)
        simp [h1, h2, this]
      · have : a = b := by
          apply UInt8.toNat_inj.1
          have h3 : ¬ a.toNat < b.toNat := fun h => h1 (UInt8.lt_iff_toNat_lt.2 h)
          have h4 : ¬ b.toNat < a.toNat := fun h => h2 (UInt8.lt_iff_toNat_lt.2 h)
          omega
        simp [h1, h2, this, bytes_eq p1 p2]
theorem bytes_le : ∀ a b c : B8, compareBytes a b ≤ 0 → compareBytes b c ≤ 0 → compareBytes a c ≤ 0
  | [], _, [], _, _ => by simp [compareBytes]
  | [], _, _ :: _, _, _ => by simp [compareBytes]
  | _ :: _, [], _, h, _ => by simp [compareBytes] at h
  | _ :: _, _ :: _, [], _, h => by simp [compareBytes] at h
  | a :: p1, b :: p2, c :: p3, h1, h2 => by
    unfold compareBytes at *
    simp only [UInt8.lt_iff_toNat_lt] at *
    split at h1
    · split at h2
      · rw [if_pos (by omega)]; omega
      · split at h2
        · simp at h2
        · rw [if_pos (by omega)]; omega
    · split at h1
      · simp at h1
      · split at h2
        · rw [if_pos (by omega)]; omega
        · split at h2
          · simp at h2
          · rw [if_neg (by omega), if_neg (by omega)]
            exact bytes_le p1 p2 p3 h1 h2
theorem bytesCmp : Cmp3 compareBytes := ⟨bytes_rng, bytes_neg, bytes_eq, bytes_le⟩
theorem less_iff (a b : B8) : Op.bytesLess a b = decide (compareBytes a b < 0) := by
  induction a generalizing b with
  | nil => cases b <;> simp [Op.bytesLess, compareBytes]
  | cons x xs ih =>
    cases b with
    | nil => simp [Op.bytesLess, compareBytes]
    | cons y ys =>
      unfold Op.bytesLess compareBytes
      simp only [ih]
      by_cases h1 : x < y
      · simp [h1]
      · by_cases h2 : y < x
        · have : ¬ x = y := fun e => by subst e; exact absurd h2 (UInt8.lt_irrefl x)
          simp [h1, h2, this]
        · have : x = y := by
            apply UInt8.toNat_inj.1
            have h3 : ¬ x.toNat < y.toNat := fun h => h1 (UInt8.lt_iff_toNat_lt.2 h)
            have h4 : ¬ y.toNat < x.toNat := fun h => h2 (UInt8.lt_iff_toNat_lt.2 h)
            omega
          simp [h1, h2, this]

end Go.Icz
