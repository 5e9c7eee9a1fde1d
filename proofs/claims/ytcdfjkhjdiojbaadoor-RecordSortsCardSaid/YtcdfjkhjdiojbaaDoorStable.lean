/-
  Stable sorting, of lists: what is sorted, and keeps the order of equals, is one list; how pieces are put together. Conditions: the order is a strict weak one (SWO).
-/
import Derived.Test.YtcdfjkhjdiojbaaDoorText
namespace Go.Icz
section
variable {α : Type}
/-- A strict weak order. -/
structure SWOrd (lt : α → α → Bool) : Prop where
  asym : ∀ x y, lt x y = true → lt y x = false
  neg : ∀ x y z, lt x z = true → lt x y = true ∨ lt y z = true
variable {lt : α → α → Bool}
theorem SWOrd.irr (h : SWOrd lt) (x : α) : lt x x = false := by
  cases e : lt x x with
  | false => rfl
  | true => have := h.asym x x e; rw [e] at this; cases this
theorem SWOrd.trans (h : SWOrd lt) {x y z : α} (h1 : lt x y = true) (h2 : lt y z = true) : lt x z = true := by
  rcases h.neg x z y h1 with h3 | h3
  · exact h3
  · have := h.asym _ _ h2; rw [h3] at this; cases this
/-- Neither stands ahead of the other. -/
def eqv (lt : α → α → Bool) (x y : α) : Bool := !lt x y && !lt y x
theorem eqv_iff {x y : α} : eqv lt x y = true ↔ lt x y = false ∧ lt y x = false := by unfold eqv; simp
theorem SWOrd.le_trans (h : SWOrd lt) {x y z : α} (h1 : lt y x = false) (h2 : lt z y = false) : lt z x = false := by
  cases e : lt z x with
  | false => rfl
  | true =>
    rcases h.neg z y x e with h3 | h3
    · rw [h2] at h3; cases h3
    · rw [h1] at h3; cases h3
def SortedL (lt : α → α → Bool) (l : List α) : Prop := l.Pairwise fun x y => lt y x = false
/-- The list r is l, sorted; equals stand as they stood. -/
def StableOf (lt : α → α → Bool) (l r : List α) : Prop := SortedL lt r ∧ ∀ x, r.filter (eqv lt x) = l.filter (eqv lt x)
theorem StableOf.refl {l : List α} (h : SortedL lt l) : StableOf lt l l := ⟨h, fun _ => rfl⟩
theorem mem_of_filter (hS : SWOrd lt) {l r : List α} (h : ∀ x, r.filter (eqv lt x) = l.filter (eqv lt x)) {x : α} (hx : x ∈ r) : x ∈ l := by
  have h1 : x ∈ r.filter (eqv lt x) := List.mem_filter.2 ⟨hx, eqv_iff.2 ⟨hS.irr x, hS.irr x⟩⟩
  rw [h x] at h1
  exact (List.mem_filter.1 h1).1
/-- There is but one. -/
theorem StableOf.unique (hS : SWOrd lt) : ∀ {r1 r2 : List α}, SortedL lt r1 → SortedL lt r2 → (∀ x, r1.filter (eqv lt x) = r2.filter (eqv lt x)) → r1 = r2
  | [], [], _, _, _ => rfl
  | [], b :: t, _, _, h => by
    have := mem_of_filter hS (fun x => (h x).symm) (List.mem_cons_self (a := b) (l := t))
    cases this
  | a :: t, [], _, _, h => by
    have := mem_of_filter hS h (List.mem_cons_self (a := a) (l := t))
    cases this
  | a :: t1, b :: t2, h1, h2, h => by
    have m1 : a ∈ b :: t2 := mem_of_filter hS h (List.mem_cons_self ..)
    have m2 : b ∈ a :: t1 := mem_of_filter hS (fun x => (h x).symm) (List.mem_cons_self ..)
    have l1 : lt a b = false := by
      rcases List.mem_cons.1 m1 with rfl | m
      · exact hS.irr _
      · exact (List.pairwise_cons.1 h2).1 a m
    have l2 : lt b a = false := by
      rcases List.mem_cons.1 m2 with rfl | m
      · exact hS.irr _
      · exact (List.pairwise_cons.1 h1).1 b m
    have ha := h a
    rw [List.filter_cons, List.filter_cons, if_pos (eqv_iff.2 ⟨hS.irr a, hS.irr a⟩), if_pos (eqv_iff.2 ⟨l1, l2⟩)] at ha
    injection ha with hab _
    subst hab
    congr 1
    refine StableOf.unique hS (List.pairwise_cons.1 h1).2 (List.pairwise_cons.1 h2).2 fun x => ?_
    have hx := h x
    rw [List.filter_cons, List.filter_cons] at hx
    split at hx
    · injection hx
    · exact hx
theorem StableOf.one (hS : SWOrd lt) {l r1 r2 : List α} (h1 : StableOf lt l r1) (h2 : StableOf lt l r2) : r1 = r2 :=
  StableOf.unique hS h1.1 h2.1 fun x => (h1.2 x).trans (h2.2 x).symm
theorem StableOf.trans {l m r : List α} (h1 : StableOf lt l m) (h2 : StableOf lt m r) : StableOf lt l r := ⟨h2.1, fun x => (h2.2 x).trans (h1.2 x)⟩
/-- Pieces that are sorted by themselves first. -/
theorem StableOf.pieces {l1 l2 r1 r2 m : List α} (h1 : StableOf lt l1 r1) (h2 : StableOf lt l2 r2) (h : StableOf lt (r1 ++ r2) m) : StableOf lt (l1 ++ l2) m :=
  ⟨h.1, fun x => by rw [h.2 x, List.filter_append, List.filter_append, h1.2 x, h2.2 x]⟩
theorem StableOf.mem (hS : SWOrd lt) {l r : List α} (h : StableOf lt l r) {x : α} : x ∈ r ↔ x ∈ l := ⟨mem_of_filter hS h.2, mem_of_filter hS fun y => (h.2 y).symm⟩
theorem filter_none {l : List α} {x : α} (h : ∀ y ∈ l, eqv lt x y = false) : l.filter (eqv lt x) = [] := by
  rw [List.filter_eq_nil_iff]
  intro y hy
  rw [h y hy]
  decide
/-- Where all of r1 stand ahead of all of l2, no class has elements in both. -/
theorem filter_swap (hS : SWOrd lt) {l2 r1 : List α} (h : ∀ y ∈ r1, ∀ x ∈ l2, lt y x = true) (z : α) : r1.filter (eqv lt z) ++ l2.filter (eqv lt z) = l2.filter (eqv lt z) ++ r1.filter (eqv lt z) := by
  by_cases hr : ∃ y ∈ r1, eqv lt z y = true
  · obtain ⟨y, hy, ey⟩ := hr
    have : l2.filter (eqv lt z) = [] := filter_none fun x hx => by
      cases e : eqv lt z x with
      | false => rfl
      | true =>
        obtain ⟨e1, e2⟩ := eqv_iff.1 e
        obtain ⟨e3, e4⟩ := eqv_iff.1 ey
        rcases hS.neg y z x (h y hy x hx) with h5 | h5
        · rw [e4] at h5; cases h5
        · rw [e1] at h5; cases h5
    rw [this]; simp
  · have : r1.filter (eqv lt z) = [] := filter_none fun y hy => by
      cases e : eqv lt z y with
      | false => rfl
      | true => exact absurd ⟨y, hy, e⟩ hr
    rw [this]; simp
theorem SortedL.append_iff {l r : List α} : SortedL lt (l ++ r) ↔ SortedL lt l ∧ SortedL lt r ∧ ∀ x ∈ l, ∀ y ∈ r, lt y x = false := List.pairwise_append
/-- The two halves of a merge: what of the second list stands ahead of the rest of the first one. -/
theorem StableOf.halves (hS : SWOrd lt) {l1 l2 r1 r2 m1 m2 : List α} (hl : SortedL lt (l1 ++ l2)) (hr : SortedL lt (r1 ++ r2)) (h1 : ∀ y ∈ r1, ∀ x ∈ l2, lt y x = true) (h2 : ∀ x ∈ l1, ∀ y ∈ r2, lt y x = false)
    (g1 : StableOf lt (l1 ++ r1) m1) (g2 : StableOf lt (l2 ++ r2) m2) : StableOf lt ((l1 ++ l2) ++ (r1 ++ r2)) (m1 ++ m2) := by
  obtain ⟨hl1, hl2, hl3⟩ := SortedL.append_iff.1 hl
  obtain ⟨hr1, hr2, hr3⟩ := SortedL.append_iff.1 hr
  refine ⟨SortedL.append_iff.2 ⟨g1.1, g2.1, fun x hx y hy => ?_⟩, fun z => ?_⟩
  · have hx := (g1.mem hS).1 hx
    have hy := (g2.mem hS).1 hy
    rcases List.mem_append.1 hx with hx | hx
    · rcases List.mem_append.1 hy with hy | hy
      · exact hl3 x hx y hy
      · exact h2 x hx y hy
    · rcases List.mem_append.1 hy with hy | hy
      · exact hS.asym _ _ (h1 x hx y hy)
      · exact hr3 x hx y hy
  · have := filter_swap hS h1 z
    rw [List.filter_append, g1.2 z, g2.2 z]
    simp only [List.filter_append, List.append_assoc]
    rw [← List.append_assoc (r1.filter _), this, List.append_assoc]
/-- One element ahead of a sorted list, put into its place. -/
theorem StableOf.first (hS : SWOrd lt) {x : α} {r1 r2 : List α} (hr : SortedL lt (r1 ++ r2)) (h1 : ∀ y ∈ r1, lt y x = true) (h2 : ∀ y ∈ r2, lt y x = false) : StableOf lt (x :: (r1 ++ r2)) (r1 ++ x :: r2) := by
  obtain ⟨hr1, hr2, hr3⟩ := SortedL.append_iff.1 hr
  have a := StableOf.halves hS (l1 := []) (l2 := [x]) (m1 := r1) (m2 := x :: r2) (List.pairwise_singleton _ _) hr (fun y hy z hz => by obtain rfl := List.mem_singleton.1 hz; exact h1 y hy) (fun _ h => by cases h) (StableOf.refl hr1) (StableOf.refl (List.pairwise_cons.2 ⟨h2, hr2⟩))
  exact a
/-- One element behind a sorted list, put into its place. -/
theorem StableOf.last (hS : SWOrd lt) {y : α} {l1 l2 : List α} (hl : SortedL lt (l1 ++ l2)) (h1 : ∀ x ∈ l1, lt y x = false) (h2 : ∀ x ∈ l2, lt y x = true) : StableOf lt ((l1 ++ l2) ++ [y]) (l1 ++ y :: l2) := by
  obtain ⟨hl1, hl2, hl3⟩ := SortedL.append_iff.1 hl
  have g1 : SortedL lt (l1 ++ [y]) := SortedL.append_iff.2 ⟨hl1, List.pairwise_singleton _ _, fun x hx z hz => by obtain rfl := List.mem_singleton.1 hz; exact h1 x hx⟩
  have a := StableOf.halves hS (r1 := [y]) (r2 := []) (m1 := l1 ++ [y]) (m2 := l2) hl (List.pairwise_singleton _ _) (fun z hz x hx => by obtain rfl := List.mem_singleton.1 hz; exact h2 x hx) (fun _ _ _ h => by cases h) (StableOf.refl g1) (by rw [List.append_nil]; exact StableOf.refl hl2)
  simpa using a
/-- What is sorted stays. -/
theorem StableOf.same (hS : SWOrd lt) {l r : List α} (hl : SortedL lt l) (h : StableOf lt l r) : r = l := h.one hS (StableOf.refl hl)
end
/-- Two things of a list change places. -/
def lswap {α : Type} (l : List α) (i j : Nat) : List α := match l[i]?, l[j]? with
  | some x, some y => (l.set i y).set j x
  | _, _ => l
theorem lswap_mid {α : Type} (A M B : List α) (x y : α) : lswap (A ++ x :: M ++ y :: B) A.length (A.length + 1 + M.length) = A ++ y :: M ++ x :: B := by
  have h1 : (A ++ x :: M ++ y :: B)[A.length]? = some x := by simp
  have h2 : (A ++ x :: M ++ y :: B)[A.length + 1 + M.length]? = some y := by
    rw [List.getElem?_append_right (by simp; omega)]
    simp
    rw [show A.length + 1 + M.length - (A.length + (M.length + 1)) = 0 by omega]
    rfl
  unfold lswap
  rw [h1, h2]
  simp only
  rw [List.append_assoc, List.set_append_right _ _ (by simp), Nat.sub_self]
  simp only [List.cons_append, List.set_cons_zero]
  rw [List.set_append_right _ _ (by omega)]
  rw [show A.length + 1 + M.length - A.length = M.length + 1 by omega, List.set_cons_succ, List.set_append_right _ _ (by simp), Nat.sub_self]
  simp
/-- A step of swapRange. -/
theorem swap_step {α : Type} (A X M Y B : List α) (i : Nat) (hX : i < X.length) (hY : X.length = Y.length) :
    lswap (A ++ (Y.take i ++ X.drop i) ++ M ++ (X.take i ++ Y.drop i) ++ B) (A.length + i) (A.length + X.length + M.length + i) = A ++ (Y.take (i + 1) ++ X.drop (i + 1)) ++ M ++ (X.take (i + 1) ++ Y.drop (i + 1)) ++ B := by
  have hi : i < Y.length := by omega
  have h := lswap_mid (A ++ Y.take i) (X.drop (i + 1) ++ M ++ X.take i) (Y.drop (i + 1) ++ B) X[i] Y[i]
  have e1 : A ++ (Y.take i ++ X.drop i) ++ M ++ (X.take i ++ Y.drop i) ++ B = A ++ Y.take i ++ X[i] :: (X.drop (i + 1) ++ M ++ X.take i) ++ Y[i] :: (Y.drop (i + 1) ++ B) := by
    rw [List.drop_eq_getElem_cons hX, List.drop_eq_getElem_cons hi]
    simp only [List.append_assoc, List.cons_append]
  have e2 : A ++ Y.take i ++ Y[i] :: (X.drop (i + 1) ++ M ++ X.take i) ++ X[i] :: (Y.drop (i + 1) ++ B) = A ++ (Y.take (i + 1) ++ X.drop (i + 1)) ++ M ++ (X.take (i + 1) ++ Y.drop (i + 1)) ++ B := by
    rw [List.take_succ_eq_append_getElem hX, List.take_succ_eq_append_getElem hi]
    simp only [List.append_assoc, List.cons_append, List.nil_append]
  have n1 : (A ++ Y.take i).length = A.length + i := by simp; omega
  have n2 : A.length + i + 1 + (X.drop (i + 1) ++ M ++ X.take i).length = A.length + X.length + M.length + i := by simp; omega
  rw [n1, n2] at h
  rw [e1, h, e2]
end Go.Icz
