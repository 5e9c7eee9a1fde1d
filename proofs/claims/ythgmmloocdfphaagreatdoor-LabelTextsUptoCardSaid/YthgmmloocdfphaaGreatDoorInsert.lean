/-
  Insertion of a label at its place, as the reference's Sort does it: the same labels, and sorted. Conditions: none.
-/
import Derived.Test.YthgmmloocdfphaaGreatDoorLabMath
namespace Go.Proofs.YthgmmloocdfphaaGreatDoor
open Go.RowKit Go.Icz
theorem sorted_one {l l' d d' : List Lab} (hr : rightS d = true) (hd : Sorts l d) (hd' : Sorts l' d') (hp : l'.Perm l) : d' = d := by
  have hc : chain none d = true := by
    simp only [rightS, Bool.and_eq_true] at hr
    exact hr.2
  have hlt := (chain_lt d none hc).2
  have hperm : d'.Perm d := hd'.1.trans (hp.trans hd.1.symm)
  have names : ∀ x ∈ d, ∀ y ∈ d, Lib.compareBytes x.1 y.1 = 0 → x = y := by
    intro x hx y hy e
    obtain ⟨i, hi, rfl⟩ := List.getElem_of_mem hx
    obtain ⟨j, hj, rfl⟩ := List.getElem_of_mem hy
    rw [List.pairwise_iff_getElem] at hlt
    rcases Nat.lt_trichotomy i j with h | h | h
    · have := hlt i j hi hj h; omega
    · subst h; rfl
    · have h1 := hlt j i hj hi h
      have := bytesCmp.neg (d[i]).1 (d[j]).1
      omega
  refine List.Perm.eq_of_pairwise (le := fun x y => ¬ Lib.compareBytes y.1 x.1 < 0) (fun a b ha hb h1 h2 => ?_) hd'.2 hd.2 hperm
  refine names a (hperm.subset ha) b hb ?_
  have := bytesCmp.neg a.1 b.1
  omega
theorem OwnL_one (w : World) {B : Nat} (x : Lab) (hB : B ≤ w.heap.size) : OwnL (w.alloc (.cells #[.string ⟨x.1.toArray⟩, .string ⟨x.2.toArray⟩] 53)) B (.slice (some ⟨w.heap.size, 0, none⟩) 1 1) [x] :=
  World.ownsRow_lit w #[.string ⟨x.1.toArray⟩, .string ⟨x.2.toArray⟩] 1 hB (by decide) rfl
/-- The place, from n downwards. -/
def downK (o : List Lab) (x : Lab) : Nat → Nat
  | 0 => 0
  | k + 1 => if Op.bytesLess x.1 (o.getD k ([], [])).1 = true then downK o x k else k + 1
def insL (o : List Lab) (x : Lab) : List Lab := o.take (downK o x o.length) ++ x :: o.drop (downK o x o.length)
def insAll (l : List Lab) : List Lab := l.foldl insL []
theorem downK_spec (o : List Lab) (x : Lab) : ∀ n, downK o x n ≤ n ∧ (∀ j, downK o x n ≤ j → j < n → Op.bytesLess x.1 (o.getD j ([], [])).1 = true) ∧ (0 < downK o x n → Op.bytesLess x.1 (o.getD (downK o x n - 1) ([], [])).1 = false)
  | 0 => ⟨by simp [downK], by intro j h1 h2; omega, by simp [downK]⟩
  | n + 1 => by
    obtain ⟨h1, h2, h3⟩ := downK_spec o x n
    unfold downK
    split
    · rename_i h
      refine ⟨by omega, fun j hj hn => ?_, h3⟩
      by_cases e : j = n
      · subst e; exact h
      · exact h2 j hj (by omega)
    · rename_i h
      exact ⟨by omega, fun j hj hn => by omega, fun _ => by simpa using h⟩
theorem insL_perm (o : List Lab) (x : Lab) : (insL o x).Perm (x :: o) := by
  unfold insL
  refine List.perm_middle.trans ?_
  rw [List.take_append_drop]
theorem insL_sorted (o : List Lab) (x : Lab) (h : o.Pairwise (fun x y => ¬ Lib.compareBytes y.1 x.1 < 0)) : (insL o x).Pairwise (fun x y => ¬ Lib.compareBytes y.1 x.1 < 0) := by
  obtain ⟨h1, h2, h3⟩ := downK_spec o x o.length
  unfold insL
  generalize downK o x o.length = k at *
  have after : ∀ b ∈ o.drop k, Lib.compareBytes x.1 b.1 < 0 := by
    intro b hb
    obtain ⟨j, hj, rfl⟩ := List.getElem_of_mem hb
    rw [List.length_drop] at hj
    have := h2 (k + j) (by omega) (by omega)
    rw [List.getElem_drop]
    simpa [less_iff, List.getD, List.getElem?_eq_getElem (show k + j < o.length by omega)] using this
  have before : ∀ a ∈ o.take k, ¬ Lib.compareBytes x.1 a.1 < 0 := by
    intro a ha
    obtain ⟨j, hj, rfl⟩ := List.getElem_of_mem ha
    rw [List.length_take] at hj
    rw [List.getElem_take]
    have h4 := h3 (by omega)
    have h5 : ¬ Lib.compareBytes x.1 (o[k - 1]'(by omega)).1 < 0 := by
      simpa [less_iff, List.getD, List.getElem?_eq_getElem (show k - 1 < o.length by omega)] using h4
    by_cases e : j = k - 1
    · subst e; exact h5
    · rw [List.pairwise_iff_getElem] at h
      have h6 := h j (k - 1) (by omega) (by omega) (by omega)
      intro h7
      have n1 := bytesCmp.neg x.1 (o[k - 1]'(by omega)).1
      have n2 := bytesCmp.neg (o[j]'(by omega)).1 (o[k - 1]'(by omega)).1
      have h8 := bytesCmp.le x.1 (o[j]'(by omega)).1 (o[k - 1]'(by omega)).1 (by omega) (by omega)
      have h9 := (bytesCmp.eq x.1 (o[k - 1]'(by omega)).1).1 (by omega)
      rw [h9] at h7
      have n3 := bytesCmp.neg (o[k - 1]'(by omega)).1 (o[j]'(by omega)).1
      omega
  rw [List.pairwise_append]
  refine ⟨h.sublist (List.take_sublist _ _), List.pairwise_cons.2 ⟨fun b hb => ?_, h.sublist (List.drop_sublist _ _)⟩, fun a ha b hb => ?_⟩
  · have := after b hb
    have n1 := bytesCmp.neg x.1 b.1
    omega
  · rcases List.mem_cons.1 hb with rfl | hb
    · exact before a ha
    · have g1 := before a ha
      have g2 := after b hb
      intro g3
      have n1 := bytesCmp.neg b.1 a.1
      have g4 := bytesCmp.le x.1 b.1 a.1 (by omega) (by omega)
      have g5 := (bytesCmp.eq x.1 a.1).1 (by omega)
      rw [g5] at g2
      omega
theorem insAll_from : ∀ (l o : List Lab), o.Pairwise (fun x y => ¬ Lib.compareBytes y.1 x.1 < 0) → (l.foldl insL o).Perm (l ++ o) ∧ (l.foldl insL o).Pairwise (fun x y => ¬ Lib.compareBytes y.1 x.1 < 0)
  | [], o, h => ⟨.refl _, h⟩
  | x :: t, o, h => by
    obtain ⟨h1, h2⟩ := insAll_from t (insL o x) (insL_sorted o x h)
    refine ⟨h1.trans ?_, h2⟩
    refine ((insL_perm o x).append_left t).trans ?_
    exact List.perm_middle
theorem insAll_sorts (l : List Lab) : Sorts l (insAll l) := by
  obtain ⟨h1, h2⟩ := insAll_from l [] List.Pairwise.nil
  exact ⟨by simpa [insAll] using h1, h2⟩
/-- Where one sorted list may be, the other is that list; where it may not, neither may the other. -/
theorem right_both {l d d' : List Lab} (hd : Sorts l d) (hd' : Sorts l d') : (rightS d = true ∧ d' = d) ∨ (rightS d = false ∧ rightS d' = false) := by
  cases h : rightS d with
  | true => exact .inl ⟨rfl, sorted_one h hd hd' (List.Perm.refl _)⟩
  | false =>
    right
    refine ⟨rfl, ?_⟩
    cases h' : rightS d' with
    | false => rfl
    | true =>
      have := sorted_one h' hd' hd (List.Perm.refl _)
      rw [this, h'] at h
      cases h
end Go.Proofs.YthgmmloocdfphaaGreatDoor
