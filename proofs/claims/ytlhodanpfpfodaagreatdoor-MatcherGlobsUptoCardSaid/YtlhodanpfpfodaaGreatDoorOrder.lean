/-
  Orders with three answers: of bytes, of labels, of lists of labels; labels sorted by their names. No conditions.
-/
import Derived.Test.YtlhodanpfpfodaaGreatDoorText
import Derived.Shelf.SlSortCmp.WholeK
namespace Go.Icz
open Go.RowKit Go.Lib Go.Sort

/-- -1, 0 or 1: one order. -/
structure Cmp3 {α : Type} (c : α → α → Int) : Prop where
  rng : ∀ x y, c x y = -1 ∨ c x y = 0 ∨ c x y = 1
  neg : ∀ x y, c y x = - c x y
  eq : ∀ x y, c x y = 0 ↔ x = y
  le : ∀ x y z, c x y ≤ 0 → c y z ≤ 0 → c x z ≤ 0

theorem bytes_rng : ∀ a b : B8, compareBytes a b = -1 ∨ compareBytes a b = 0 ∨ compareBytes a b = 1
  | [], [] => .inr (.inl rfl)
  | [], _ :: _ => .inl rfl
  | _ :: _, [] => .inr (.inr rfl)
  | a :: p1, b :: p2 => by
    unfold compareBytes
    split
    · exact .inl rfl
    · split
      · exact .inr (.inr rfl)
      · exact bytes_rng p1 p2
theorem bytes_neg : ∀ a b : B8, compareBytes b a = - compareBytes a b
  | [], [] => rfl
  | [], _ :: _ => rfl
  | _ :: _, [] => rfl
  | a :: p1, b :: p2 => by
    unfold compareBytes
    by_cases h1 : a < b
    · have h2 : ¬ b < a := fun h => by have := UInt8.lt_iff_toNat_lt.1 h; have := UInt8.lt_iff_toNat_lt.1 h1; omega
      simp [h1, h2]
    · by_cases h2 : b < a
      · simp [h1, h2]
      · simp [h1, h2, bytes_neg p1 p2]
theorem bytes_eq : ∀ a b : B8, compareBytes a b = 0 ↔ a = b
  | [], [] => by simp [compareBytes]
  | [], _ :: _ => by simp [compareBytes]
  | _ :: _, [] => by simp [compareBytes]
  | a :: p1, b :: p2 => by
    unfold compareBytes
    by_cases h1 : a < b
    · have : a ≠ b := fun e => by subst e; exact absurd h1 (UInt8.lt_irrefl a)
      simp [h1, this]
    · by_cases h2 : b < a
      · have : a ≠ b := fun e => by subst e; exact absurd h2 (UInt8.lt_irrefl a)
        simp [h1, h2, this]
      · have : a = b := by
          apply UInt8.toNat_inj.1
          have h3 : ¬ a.toNat < b.toNat := fun h => h1 (UInt8.lt_iff_toNat_lt.2 h)
          have h4 : ¬ b.toNat < a.toNat := fun h => h2 (UInt8.lt_iff_toNat_lt.2 h)
          omega
        simp [h1, h2, this, bytes_eq p1 p2]
theorem bytes_le : ∀ a b c : B8, compareBytes a b ≤ 0 → compareBytes b c ≤ 0 → compareBytes a c ≤ 0
  | [], _, [], _, _ => by simp [compareBytes]
  | [], _, _ :: _, _, _ => by simp [compareBytes]
  | _ :: _, [], _, h, _ => by simp [compareBytes] at h
  | _ :: _, _ :: _, [], _, h => by simp [compareBytes] at h
  | a :: p1, b :: p2, c :: p3, h1, h2 => by
    unfold compareBytes at *
    simp only [UInt8.lt_iff_toNat_lt] at *
    split at h1
    · split at h2
      · rw [if_pos (by omega)]; omega
      · split at h2
        · simp at h2
        · rw [if_pos (by omega)]; omega
    · split at h1
      · simp at h1
      · split at h2
        · rw [if_pos (by omega)]; omega
        · split at h2
          · simp at h2
          · rw [if_neg (by omega), if_neg (by omega)]
            exact bytes_le p1 p2 p3 h1 h2
theorem bytesCmp : Cmp3 compareBytes := ⟨bytes_rng, bytes_neg, bytes_eq, bytes_le⟩
theorem less_iff (a b : B8) : Op.bytesLess a b = decide (compareBytes a b < 0) := by
  induction a generalizing b with
  | nil => cases b <;> simp [Op.bytesLess, compareBytes]
  | cons x xs ih =>
    cases b with
    | nil => simp [Op.bytesLess, compareBytes]
    | cons y ys =>
      unfold Op.bytesLess compareBytes
      simp only [ih]
      by_cases h1 : x < y
      · simp [h1]
      · by_cases h2 : y < x
        · have : ¬ x = y := fun e => by subst e; exact absurd h2 (UInt8.lt_irrefl x)
          simp [h1, h2, this]
        · have : x = y := by
            apply UInt8.toNat_inj.1
            have h3 : ¬ x.toNat < y.toNat := fun h => h1 (UInt8.lt_iff_toNat_lt.2 h)
            have h4 : ¬ y.toNat < x.toNat := fun h => h2 (UInt8.lt_iff_toNat_lt.2 h)
            omega
          simp [h1, h2, this]

/-- cmp.Or of two. -/
def or2 (x y : Int) : Int := if x ≠ 0 then x else y
def cmpLab (x y : Lab) : Int := or2 (compareBytes x.1 y.1) (compareBytes x.2 y.2)
theorem labCmp : Cmp3 cmpLab := by
  have B := bytesCmp
  refine ⟨fun x y => ?_, fun x y => ?_, fun x y => ?_, fun x y z h1 h2 => ?_⟩
  · unfold cmpLab or2
    split
    · exact B.rng _ _
    · exact B.rng _ _
  · unfold cmpLab or2
    have h := B.neg x.1 y.1
    have h' := B.neg x.2 y.2
    rw [h, h']
    by_cases h0 : compareBytes x.1 y.1 = 0
    · simp [h0]
    · simp [h0]
  · unfold cmpLab or2
    by_cases h0 : compareBytes x.1 y.1 = 0
    · rw [if_neg (by omega), B.eq]
      have := (B.eq _ _).1 h0
      exact ⟨fun h => Prod.ext this h, fun h => by rw [h]⟩
    · rw [if_pos h0]
      exact ⟨fun h => absurd h h0, fun h => absurd ((B.eq _ _).2 (by rw [h])) h0⟩
  · unfold cmpLab or2 at *
    have r1 := B.rng x.1 y.1
    have r2 := B.rng y.1 z.1
    have l1 := B.le x.1 y.1 z.1
    by_cases e1 : compareBytes x.1 y.1 = 0
    · rw [if_neg (by omega)] at h1
      rw [(B.eq _ _).1 e1] at *
      by_cases e2 : compareBytes y.1 z.1 = 0
      · rw [if_neg (by omega)] at h2 ⊢
        exact B.le _ _ _ h1 h2
      · rw [if_pos e2] at h2 ⊢
        exact h2
    · rw [if_pos e1] at h1
      by_cases e2 : compareBytes y.1 z.1 = 0
      · rw [← (B.eq _ _).1 e2] at *
        rw [if_pos e1]
        exact h1
      · rw [if_pos e2] at h2
        have l2 := l1 h1 h2
        have : compareBytes x.1 z.1 ≠ 0 := fun e => by
          have e3 := (B.eq _ _).1 e
          rw [e3] at h1 e1
          have := B.neg z.1 y.1
          omega
        rw [if_pos this]
        exact l2
/-- Lists, by the first place at which they differ. -/
def cmpL : List Lab → List Lab → Int
  | [], [] => 0
  | [], _ :: _ => -1
  | _ :: _, [] => 1
  | a :: p1, b :: p2 => or2 (cmpLab a b) (cmpL p1 p2)
theorem listCmp : Cmp3 cmpL := by
  have L := labCmp
  refine ⟨?_, ?_, ?_, ?_⟩
  · intro x
    induction x with
    | nil => intro y; cases y <;> simp [cmpL]
    | cons a p1 ih =>
      intro y
      cases y with
      | nil => simp [cmpL]
      | cons b p2 =>
        unfold cmpL or2
        split
        · exact L.rng _ _
        · exact ih p2
  · intro x
    induction x with
    | nil => intro y; cases y <;> simp [cmpL]
    | cons a p1 ih =>
      intro y
      cases y with
      | nil => simp [cmpL]
      | cons b p2 =>
        unfold cmpL or2
        rw [L.neg a b, ih p2]
        by_cases h0 : cmpLab a b = 0 <;> simp [h0]
  · intro x
    induction x with
    | nil => intro y; cases y <;> simp [cmpL]
    | cons a p1 ih =>
      intro y
      cases y with
      | nil => simp [cmpL]
      | cons b p2 =>
        unfold cmpL or2
        by_cases h0 : cmpLab a b = 0
        · rw [if_neg (by omega), ih p2]
          have := (L.eq _ _).1 h0
          simp [this]
        · rw [if_pos h0]
          exact ⟨fun h => absurd h h0, fun h => absurd ((L.eq _ _).2 (by simp at h; exact h.1)) h0⟩
  · intro x
    induction x with
    | nil => intro y z _ _; cases z <;> simp [cmpL]
    | cons a p1 ih =>
      intro y z h1 h2
      cases y with
      | nil => simp [cmpL] at h1
      | cons b p2 =>
        cases z with
        | nil => simp [cmpL] at h2
        | cons c p3 =>
          unfold cmpL at h1 h2 ⊢
          unfold or2 at h1 h2 ⊢
          have r1 := L.rng a b
          have r2 := L.rng b c
          have l1 := L.le a b c
          by_cases e1 : cmpLab a b = 0
          · rw [if_neg (by omega)] at h1
            rw [(L.eq _ _).1 e1] at *
            by_cases e2 : cmpLab b c = 0
            · rw [if_neg (by omega)] at h2 ⊢
              exact ih p2 p3 h1 h2
            · rw [if_pos e2] at h2 ⊢
              exact h2
          · rw [if_pos e1] at h1
            by_cases e2 : cmpLab b c = 0
            · rw [← (L.eq _ _).1 e2] at *
              rw [if_pos e1]
              exact h1
            · rw [if_pos e2] at h2
              have l2 := l1 h1 h2
              have : cmpLab a c ≠ 0 := fun e => by
                have e3 := (L.eq _ _).1 e
                rw [e3] at h1 e1
                have := L.neg c b
                omega
              rw [if_pos this]
              exact l2
end Go.Icz
