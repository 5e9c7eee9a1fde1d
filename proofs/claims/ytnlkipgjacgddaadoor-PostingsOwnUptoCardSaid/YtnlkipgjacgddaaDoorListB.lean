/-
  Rising lists of numbers as bytes: which may be, and their bytes, as Lean functions. Conditions: those that each theorem names.
-/
import Derived.Test.YtnlkipgjacgddaaDoorIntsGrow
namespace Go.Icz
open Go.RowKit
/-- Numbers from 0 to 2^40 - 1, rising, each once. -/
def OkI (l : List Int) : Prop := (∀ x ∈ l, 0 ≤ x ∧ x < 1099511627776) ∧ l.Pairwise (· < ·)
instance (l : List Int) : Decidable (OkI l) := by unfold OkI; exact inferInstance
/-- A list that may be. -/
def rightI (l : List Int) : Bool := decide (l.length ≤ 65536 ∧ OkI l)
theorem OkI.nil : OkI [] := ⟨by simp, .nil⟩
theorem OkI.step {l : List Int} {i : Nat} (h : OkI (l.take i)) (hi : i < l.length) (h1 : 0 ≤ l[i] ∧ l[i] < 1099511627776) (h2 : ∀ hj : 0 < i, l[i - 1] < l[i]) : OkI (l.take (i + 1)) := by
  rw [List.take_succ_eq_append_getElem hi]
  refine ⟨fun x hx => ?_, List.pairwise_append.2 ⟨h.2, List.pairwise_singleton _ _, fun x hx y hy => ?_⟩⟩
  · rcases List.mem_append.1 hx with hx | hx
    · exact h.1 x hx
    · obtain rfl := List.mem_singleton.1 hx
      exact h1
  · obtain rfl := List.mem_singleton.1 hy
    obtain ⟨j, hj, ej⟩ := List.mem_iff_getElem.1 hx
    rw [List.length_take] at hj
    have h0 : 0 < i := by omega
    have h3 := h2 h0
    rcases Nat.lt_or_ge j (i - 1) with h4 | h4
    · have h5 := List.pairwise_iff_getElem.1 h.2 j (i - 1) (by rw [List.length_take]; omega) (by rw [List.length_take]; omega) h4
      rw [ej, List.getElem_take] at h5
      omega
    · have h6 : j = i - 1 := by omega
      subst h6
      rw [List.getElem_take] at ej
      omega
theorem OkI.range {l : List Int} (h : OkI l) {i : Nat} (hi : i < l.length) : 0 ≤ l[i] ∧ l[i] < 1099511627776 := h.1 _ (List.getElem_mem hi)
theorem OkI.rise {l : List Int} (h : OkI l) {i j : Nat} (hi : i < j) (hj : j < l.length) : l[i] < l[j] := List.pairwise_iff_getElem.1 h.2 i j (by omega) hj hi
theorem OkI.take {l : List Int} (h : OkI l) (i : Nat) : OkI (l.take i) := ⟨fun x hx => h.1 x (List.mem_of_mem_take hx), h.2.sublist (List.take_sublist _ _)⟩
/-- Each number less the one ahead of it, and less 1. -/
def difs (a : Int) : List Int → List Nat
  | [] => []
  | x :: t => (x - a - 1).toNat :: difs x t
def numsB : List Nat → List Nat
  | [] => []
  | n :: t => num n ++ numsB t
theorem numsB_app : ∀ (l m : List Nat), numsB (l ++ m) = numsB l ++ numsB m
  | [], m => rfl
  | n :: t, m => by simp [numsB, numsB_app t m]
/-- The bytes of a list. -/
def listB (l : List Int) : List Nat := num l.length ++ numsB (difs (-1) l)
/-- The number ahead of the i-th one; -1 ahead of the first. -/
def aheadI (l : List Int) (i : Nat) : Int := if i = 0 then -1 else l.getD (i - 1) 0
theorem difs_take : ∀ (l : List Int) (a : Int) (i : Nat) (hi : i < l.length), difs a (l.take (i + 1)) = difs a (l.take i) ++ [(l[i] - (if i = 0 then a else l.getD (i - 1) 0) - 1).toNat]
  | x :: t, a, 0, _ => by simp [difs]
  | x :: t, a, i + 1, hi => by
    have h := difs_take t x i (by simpa using hi)
    simp only [List.take_succ_cons, difs, List.cons_append, List.getElem_cons_succ]
    rw [h]
    congr 4
    cases i with
    | zero => simp
    | succ k => simp
theorem difs_len : ∀ (l : List Int) (a : Int), (difs a l).length = l.length
  | [], _ => rfl
  | x :: t, a => by simp [difs, difs_len t x]
theorem numsB_len : ∀ (l : List Nat), (∀ n ∈ l, n < 72057594037927936) → (numsB l).length ≤ 8 * l.length
  | [], _ => by simp [numsB]
  | n :: t, h => by
    have h1 := num_len8 (h n (List.mem_cons_self ..))
    have h2 := numsB_len t (fun m hm => h m (List.mem_cons_of_mem _ hm))
    simp only [numsB, List.length_append, List.length_cons]
    omega
theorem numsB_lt : ∀ (l : List Nat), ∀ b ∈ numsB l, b < 256
  | [], b, h => by simp [numsB] at h
  | n :: t, b, h => by
    rcases List.mem_append.1 h with h | h
    · exact num_lt n b h
    · exact numsB_lt t b h
theorem listB_lt (l : List Int) : ∀ b ∈ listB l, b < 256 := fun b h => by
  rcases List.mem_append.1 h with h | h
  · exact num_lt _ b h
  · exact numsB_lt _ b h
/-- The numbers that such differences make. -/
def idsL (a : Int) : List Nat → List Int
  | [] => []
  | n :: t => (a + 1 + n) :: idsL (a + 1 + n) t
theorem idsL_difs : ∀ (l : List Int) (a : Int), (∀ x ∈ l, a < x) → l.Pairwise (· < ·) → idsL a (difs a l) = l
  | [], _, _, _ => rfl
  | x :: t, a, h1, h2 => by
    have h3 := h1 x (List.mem_cons_self ..)
    have h4 : a + 1 + ((x - a - 1).toNat : Int) = x := by omega
    simp only [difs, idsL, h4]
    rw [idsL_difs t x (List.pairwise_cons.1 h2).1 (List.pairwise_cons.1 h2).2]
theorem idsL_len : ∀ (l : List Nat) (a : Int), (idsL a l).length = l.length
  | [], _ => rfl
  | n :: t, a => by simp [idsL, idsL_len t]
/-- The last of them. -/
def idsN (a : Int) : List Nat → Int
  | [] => a
  | n :: t => idsN (a + 1 + n) t
theorem idsL_snoc : ∀ (l : List Nat) (a : Int) (n : Nat), idsL a (l ++ [n]) = idsL a l ++ [idsN a l + 1 + n] ∧ idsN a (l ++ [n]) = idsN a l + 1 + n
  | [], a, n => by simp [idsL, idsN]
  | m :: t, a, n => by
    obtain ⟨h1, h2⟩ := idsL_snoc t (a + 1 + m) n
    exact ⟨by simp [idsL, idsN, h1], by simp [idsN, h2]⟩
theorem idsN_ge : ∀ (l : List Nat) (a : Int), a ≤ idsN a l
  | [], a => Int.le_refl _
  | n :: t, a => by have := idsN_ge t (a + 1 + n); simp only [idsN]; omega
theorem idsL_gt : ∀ (l : List Nat) (a : Int), ∀ x ∈ idsL a l, a < x
  | [], a, x, h => by simp [idsL] at h
  | n :: t, a, x, h => by
    rcases List.mem_cons.1 h with rfl | h
    · omega
    · have := idsL_gt t _ x h; omega
theorem idsL_rises : ∀ (l : List Nat) (a : Int), (idsL a l).Pairwise (· < ·)
  | [], _ => .nil
  | n :: t, a => List.pairwise_cons.2 ⟨fun x hx => idsL_gt t _ x hx, idsL_rises t _⟩
theorem idsL_le : ∀ (l : List Nat) (a : Int), ∀ x ∈ idsL a l, x ≤ idsN a l
  | [], a, x, h => by simp [idsL] at h
  | n :: t, a, x, h => by
    rcases List.mem_cons.1 h with rfl | h
    · exact idsN_ge t _
    · exact idsL_le t _ x h
theorem idsN_mem : ∀ (l : List Nat) (a : Int), l ≠ [] → idsN a l ∈ idsL a l
  | n :: t, a, _ => by
    by_cases ht : t = []
    · subst ht; simp [idsL, idsN]
    · exact List.mem_cons_of_mem _ (idsN_mem t _ ht)
theorem OkI_ids (l : List Nat) : OkI (idsL (-1) l) ↔ idsN (-1) l < 1099511627776 := by
  constructor
  · intro h
    by_cases hl : l = []
    · subst hl; simp [idsN]
    · exact (h.1 _ (idsN_mem l _ hl)).2
  · intro h
    refine ⟨fun x hx => ?_, idsL_rises l _⟩
    have h1 := idsL_gt l _ x hx
    have h2 := idsL_le l _ x hx
    omega
end Go.Icz
