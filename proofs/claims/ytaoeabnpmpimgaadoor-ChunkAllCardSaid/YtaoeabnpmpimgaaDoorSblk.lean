/-
  Stable sorting, of lists: what is sorted, and keeps the order of equals, is one list; how pieces are put together. Conditions: the order is a strict weak one (SWO).
  Entries in a row that is sorted: two of them change places; slices.swapRangeCmpFunc. Conditions: those that each theorem names.
  What slices.rotateCmpFunc does to a row of entries. Conditions: those that the theorem names.
  What slices.insertionSortCmpFunc does to a row of entries. Conditions: those that the theorem names.
  What slices.symMergeCmpFunc does to a row of entries where one of the two lists has one element. Conditions: those that each theorem names.
  What slices.symMergeCmpFunc does to a row of entries where the second list alone has one element. Conditions: those that the theorem names.
  Where slices.symMergeCmpFunc cuts the two lists: what its binary search finds is what the halves ask. Conditions: both lists are sorted.
  A list and the same list sorted are of one length; the two halves of a merge behind the cut. Conditions: those that the theorems name.
  Blocks of a list, each sorted by itself, equals as they stood: how stableCmpFunc makes them longer. Conditions: those that each theorem names.
-/
import Derived.Test.YtaoeabnpmpimgaaDoorText
import Derived.Test.YtaoeabnpmpimgaaDoorEntKnow
import Derived.Test.YtaoeabnpmpimgaaDoorDec
import Derived.Deep.RegionHeld3
section
namespace Go.Icz
section
variable {α : Type}
/-- A strict weak order. -/
structure SWOrd (lt : α → α → Bool) : Prop where
  asym : ∀ x y, lt x y = true → lt y x = false
  neg : ∀ x y z, lt x z = true → lt x y = true ∨ lt y z = true
variable {lt : α → α → Bool}
theorem SWOrd.irr (h : SWOrd lt) (x : α) : lt x x = false := by
  cases e : lt x x with
  | false => rfl
  | true => have := h.asym x x e; rw [e] at this; cases this
theorem SWOrd.trans (h : SWOrd lt) {x y z : α} (h1 : lt x y = true) (h2 : lt y z = true) : lt x z = true := by
  rcases h.neg x z y h1 with h3 | h3
  · exact h3
  · have := h.asym _ _ h2; rw [h3] at this; cases this
/-- Neither stands ahead of the other. -/
def eqv (lt : α → α → Bool) (x y : α) : Bool := !lt x y && !lt y x
theorem eqv_iff {x y : α} : eqv lt x y = true ↔ lt x y = false ∧ lt y x = false := by unfold eqv; simp
theorem SWOrd.le_trans (h : SWOrd lt) {x y z : α} (h1 : lt y x = false) (h2 : lt z y = false) : lt z x = false := by
  cases e : lt z x with
  | false => rfl
  | true =>
    rcases h.neg z y x e with h3 | h3
    · rw [h2] at h3; cases h3
    · rw [h1] at h3; cases h3
def SortedL (lt : α → α → Bool) (l : List α) : Prop := l.Pairwise fun x y => lt y x = false
/-- The list r is l, sorted; equals stand as they stood. -/
def StableOf (lt : α → α → Bool) (l r : List α) : Prop := SortedL lt r ∧ ∀ x, r.filter (eqv lt x) = l.filter (eqv lt x)
theorem StableOf.refl {l : List α} (h : SortedL lt l) : StableOf lt l l := ⟨h, fun _ => rfl⟩
theorem mem_of_filter (hS : SWOrd lt) {l r : List α} (h : ∀ x, r.filter (eqv lt x) = l.filter (eqv lt x)) {x : α} (hx : x ∈ r) : x ∈ l := by
  have h1 : x ∈ r.filter (eqv lt x) := List.mem_filter.2 ⟨hx, eqv_iff.2 ⟨hS.irr x, hS.irr x⟩⟩
  rw [h x] at h1
  exact (List.mem_filter.1 h1).1
/-- There is but one. -/
theorem StableOf.unique (hS : SWOrd lt) : ∀ {r1 r2 : List α}, SortedL lt r1 → SortedL lt r2 → (∀ x, r1.filter (eqv lt x) = r2.filter (eqv lt x)) → r1 = r2
  | [], [], _, _, _ => rfl
  | [], b :: t, _, _, h => by
    have := mem_of_filter hS (fun x => (h x).symm) (List.mem_cons_self (a := b) (l := t))
    cases this
  | a :: t, [], _, _, h => by
    have := mem_of_filter hS h (List.mem_cons_self (a := a) (l := t))
    cases this
  | a :: t1, b :: t2, h1, h2, h => by
    have m1 : a ∈ b :: t2 := mem_of_filter hS h (List.mem_cons_self ..)
    have m2 : b ∈ a :: t1 := mem_of_filter hS (fun x => (h x).symm) (List.mem_cons_self ..)
    have l1 : lt a b = false := by
      rcases List.mem_cons.1 m1 with rfl | m
      · exact hS.irr _
      · exact (List.pairwise_cons.1 h2).1 a m
    have l2 : lt b a = false := by
      rcases List.mem_cons.1 m2 with rfl | m
      · exact hS.irr _
      · exact (List.pairwise_cons.1 h1).1 b m
    have ha := h a
    rw [List.filter_cons, List.filter_cons, if_pos (eqv_iff.2 ⟨hS.irr a, hS.irr a⟩), if_pos (eqv_iff.2 ⟨l1, l2⟩)] at ha
    injection ha with hab _
    subst hab
    congr 1
    refine StableOf.unique hS (List.pairwise_cons.1 h1).2 (List.pairwise_cons.1 h2).2 fun x => ?_
    have hx := h x
    rw [List.filter_cons, List.filter_cons] at hx
    split at hx
    · injection hx
    · exact hx
theorem StableOf.one (hS : SWOrd lt) {l r1 r2 : List α} (h1 : StableOf lt l r1) (h2 : StableOf lt l r2) : r1 = r2 :=
  StableOf.unique hS h1.1 h2.1 fun x => (h1.2 x).trans (h2.2 x).symm
theorem StableOf.trans {l m r : List α} (h1 : StableOf lt l m) (h2 : StableOf lt m r) : StableOf lt l r := ⟨h2.1, fun x => (h2.2 x).trans (h1.2 x)⟩
/-- Pieces that are sorted by themselves first. -/
theorem StableOf.pieces {l1 l2 r1 r2 m : List α} (h1 : StableOf lt l1 r1) (h2 : StableOf lt l2 r2) (h : StableOf lt (r1 ++ r2) m) : StableOf lt (l1 ++ l2) m :=
  ⟨h.1, fun x => by rw [h.2 x, List.filter_append, List.filter_append, h1.2 x, h2.2 x]⟩
theorem StableOf.mem (hS : SWOrd lt) {l r : List α} (h : StableOf lt l r) {x : α} : x ∈ r ↔ x ∈ l := ⟨mem_of_filter hS h.2, mem_of_filter hS fun y => (h.2 y).symm⟩
theorem filter_none {l : List α} {x : α} (h : ∀ y ∈ l, eqv lt x y = false) : l.filter (eqv lt x) = [] := by
  rw [List.filter_eq_nil_iff]
  intro y hy
  rw [h y hy]
  decide
/-- Where all of r1 stand ahead of all of l2, no class has elements in both. -/
theorem filter_swap (hS : SWOrd lt) {l2 r1 : List α} (h : ∀ y ∈ r1, ∀ x ∈ l2, lt y x = true) (z : α) : r1.filter (eqv lt z) ++ l2.filter (eqv lt z) = l2.filter (eqv lt z) ++ r1.filter (eqv lt z) := by
  by_cases hr : ∃ y ∈ r1, eqv lt z y = true
  · obtain ⟨y, hy, ey⟩ := hr
    have : l2.filter (eqv lt z) = [] := filter_none fun x hx => by
      cases e : eqv lt z x with
      | false => rfl
      | true =>
        obtain ⟨e1, e2⟩ := eqv_iff.1 e
        obtain ⟨e3, e4⟩ := eqv_iff.1 ey
        rcases hS.neg y z x (h y hy x hx) with h5 | h5
        · rw [e4] at h5; cases h5
        · rw [e1] at h5; cases h5
    rw [this]; simp
  · have : r1.filter (eqv lt z) = [] := filter_none fun y hy => by
      cases e : eqv lt z y with
      | false => rfl
      | true => exact absurd ⟨y, hy, e⟩ hr
    rw [this]; simp
theorem SortedL.append_iff {l r : List α} : SortedL lt (l ++ r) ↔ SortedL lt l ∧ SortedL lt r ∧ ∀ x ∈ l, ∀ y ∈ r, lt y x = false := List.pairwise_append
/-- The two halves of a merge: what of the second list stands ahead of the rest of the first one. -/
theorem StableOf.halves (hS : SWOrd lt) {l1 l2 r1 r2 m1 m2 : List α} (hl : SortedL lt (l1 ++ l2)) (hr : SortedL lt (r1 ++ r2)) (h1 : ∀ y ∈ r1, ∀ x ∈ l2, lt y x = true) (h2 : ∀ x ∈ l1, ∀ y ∈ r2, lt y x = false)
    (g1 : StableOf lt (l1 ++ r1) m1) (g2 : StableOf lt (l2 ++ r2) m2) : StableOf lt ((l1 ++ l2) ++ (r1 ++ r2)) (m1 ++ m2) := by
  obtain ⟨hl1, hl2, hl3⟩ := SortedL.append_iff.1 hl
  obtain ⟨hr1, hr2, hr3⟩ := SortedL.append_iff.1 hr
  refine ⟨SortedL.append_iff.2 ⟨g1.1, g2.1, fun x hx y hy => ?_⟩, fun z => ?_⟩
  · have hx := (g1.mem hS).1 hx
    have hy := (g2.mem hS).1 hy
    rcases List.mem_append.1 hx with hx | hx
    · rcases List.mem_append.1 hy with hy | hy
      · exact hl3 x hx y hy
      · exact h2 x hx y hy
    · rcases List.mem_append.1 hy with hy | hy
      · exact hS.asym _ _ (h1 x hx y hy)
      · exact hr3 x hx y hy
  · have := filter_swap hS h1 z
    rw [List.filter_append, g1.2 z, g2.2 z]
    simp only [List.filter_append, List.append_assoc]
    rw [← List.append_assoc (r1.filter _), this, List.append_assoc]
/-- One element ahead of a sorted list, put into its place. -/
theorem StableOf.first (hS : SWOrd lt) {x : α} {r1 r2 : List α} (hr : SortedL lt (r1 ++ r2)) (h1 : ∀ y ∈ r1, lt y x = true) (h2 : ∀ y ∈ r2, lt y x = false) : StableOf lt (x :: (r1 ++ r2)) (r1 ++ x :: r2) := by
  obtain ⟨hr1, hr2, hr3⟩ := SortedL.append_iff.1 hr
  have a := StableOf.halves hS (l1 := []) (l2 := [x]) (m1 := r1) (m2 := x :: r2) (List.pairwise_singleton _ _) hr (fun y hy z hz => by obtain rfl := List.mem_singleton.1 hz; exact h1 y hy) (fun _ h => by cases h) (StableOf.refl hr1) (StableOf.refl (List.pairwise_cons.2 ⟨h2, hr2⟩))
  exact a
/-- One element behind a sorted list, put into its place. -/
theorem StableOf.last (hS : SWOrd lt) {y : α} {l1 l2 : List α} (hl : SortedL lt (l1 ++ l2)) (h1 : ∀ x ∈ l1, lt y x = false) (h2 : ∀ x ∈ l2, lt y x = true) : StableOf lt ((l1 ++ l2) ++ [y]) (l1 ++ y :: l2) := by
  obtain ⟨hl1, hl2, hl3⟩ := SortedL.append_iff.1 hl
  have g1 : SortedL lt (l1 ++ [y]) := SortedL.append_iff.2 ⟨hl1, List.pairwise_singleton _ _, fun x hx z hz => by obtain rfl := List.mem_singleton.1 hz; exact h1 x hx⟩
  have a := StableOf.halves hS (r1 := [y]) (r2 := []) (m1 := l1 ++ [y]) (m2 := l2) hl (List.pairwise_singleton _ _) (fun z hz x hx => by obtain rfl := List.mem_singleton.1 hz; exact h2 x hx) (fun _ _ _ h => by cases h) (StableOf.refl g1) (by rw [List.append_nil]; exact StableOf.refl hl2)
  simpa using a
/-- What is sorted stays. -/
theorem StableOf.same (hS : SWOrd lt) {l r : List α} (hl : SortedL lt l) (h : StableOf lt l r) : r = l := h.one hS (StableOf.refl hl)
end
/-- Two things of a list change places. -/
def lswap {α : Type} (l : List α) (i j : Nat) : List α := match l[i]?, l[j]? with
  | some x, some y => (l.set i y).set j x
  | _, _ => l
theorem lswap_mid {α : Type} (A M B : List α) (x y : α) : lswap (A ++ x :: M ++ y :: B) A.length (A.length + 1 + M.length) = A ++ y :: M ++ x :: B := by
  have h1 : (A ++ x :: M ++ y :: B)[A.length]? = some x := by simp
  have h2 : (A ++ x :: M ++ y :: B)[A.length + 1 + M.length]? = some y := by
    rw [List.getElem?_append_right (by simp; omega)]
    simp
    rw [show A.length + 1 + M.length - (A.length + (M.length + 1)) = 0 by omega]
    rfl
  unfold lswap
  rw [h1, h2]
  simp only
  rw [List.append_assoc, List.set_append_right _ _ (by simp), Nat.sub_self]
  simp only [List.cons_append, List.set_cons_zero]
  rw [List.set_append_right _ _ (by omega)]
  rw [show A.length + 1 + M.length - A.length = M.length + 1 by omega, List.set_cons_succ, List.set_append_right _ _ (by simp), Nat.sub_self]
  simp
/-- A step of swapRange. -/
theorem swap_step {α : Type} (A X M Y B : List α) (i : Nat) (hX : i < X.length) (hY : X.length = Y.length) :
    lswap (A ++ (Y.take i ++ X.drop i) ++ M ++ (X.take i ++ Y.drop i) ++ B) (A.length + i) (A.length + X.length + M.length + i) = A ++ (Y.take (i + 1) ++ X.drop (i + 1)) ++ M ++ (X.take (i + 1) ++ Y.drop (i + 1)) ++ B := by
  have hi : i < Y.length := by omega
  have h := lswap_mid (A ++ Y.take i) (X.drop (i + 1) ++ M ++ X.take i) (Y.drop (i + 1) ++ B) X[i] Y[i]
  have e1 : A ++ (Y.take i ++ X.drop i) ++ M ++ (X.take i ++ Y.drop i) ++ B = A ++ Y.take i ++ X[i] :: (X.drop (i + 1) ++ M ++ X.take i) ++ Y[i] :: (Y.drop (i + 1) ++ B) := by
    rw [List.drop_eq_getElem_cons hX, List.drop_eq_getElem_cons hi]
    simp only [List.append_assoc, List.cons_append]
  have e2 : A ++ Y.take i ++ Y[i] :: (X.drop (i + 1) ++ M ++ X.take i) ++ X[i] :: (Y.drop (i + 1) ++ B) = A ++ (Y.take (i + 1) ++ X.drop (i + 1)) ++ M ++ (X.take (i + 1) ++ Y.drop (i + 1)) ++ B := by
    rw [List.take_succ_eq_append_getElem hX, List.take_succ_eq_append_getElem hi]
    simp only [List.append_assoc, List.cons_append, List.nil_append]
  have n1 : (A ++ Y.take i).length = A.length + i := by simp; omega
  have n2 : A.length + i + 1 + (X.drop (i + 1) ++ M ++ X.take i).length = A.length + X.length + M.length + i := by simp; omega
  rw [n1, n2] at h
  rw [e1, h, e2]
end Go.Icz
end
section
namespace Go.Icz
open Go.RowKit
/-- An entry, and where its labels lie. -/
abbrev EV := Ent × Option Addr × Nat
/-- The row in block b holds the entries l. -/
def RowE (w : World) (b : Nat) (l : List EV) : Prop :=
  b < w.heap.size ∧ ∀ j (hj : j < l.length), w.cell? ⟨b, j * 4, none⟩ = some (.int .i64 (l[j]).1.seq) ∧ w.cell? ⟨b, j * 4 + 1, none⟩ = some (.int .i64 (l[j]).1.time) ∧ w.cell? ⟨b, j * 4 + 2, none⟩ = some (.slice (l[j]).2.1 (l[j]).1.labs.length (l[j]).2.2) ∧ w.cell? ⟨b, j * 4 + 3, none⟩ = some (.string ⟨(l[j]).1.line.toArray⟩) ∧
    w.frozen? ⟨b, j * 4, none⟩ = false ∧ w.frozen? ⟨b, j * 4 + 1, none⟩ = false ∧ w.frozen? ⟨b, j * 4 + 2, none⟩ = false ∧ w.frozen? ⟨b, j * 4 + 3, none⟩ = false
theorem RowE.below {w w' : World} {b : Nat} {l : List EV} (h : RowE w b l) (hb : Below w.heap.size w w') : RowE w' b l :=
  ⟨Nat.lt_of_lt_of_le h.1 hb.size, fun j hj => by
    obtain ⟨c0, c1, c2, c3, f0, f1, f2, f3⟩ := h.2 j hj
    exact ⟨(hb.cell (p := ⟨b, j * 4, none⟩) h.1).trans c0, (hb.cell (p := ⟨b, j * 4 + 1, none⟩) h.1).trans c1, (hb.cell (p := ⟨b, j * 4 + 2, none⟩) h.1).trans c2, (hb.cell (p := ⟨b, j * 4 + 3, none⟩) h.1).trans c3,
      (hb.frozen (p := ⟨b, j * 4, none⟩) h.1).trans f0, (hb.frozen (p := ⟨b, j * 4 + 1, none⟩) h.1).trans f1, (hb.frozen (p := ⟨b, j * 4 + 2, none⟩) h.1).trans f2, (hb.frozen (p := ⟨b, j * 4 + 3, none⟩) h.1).trans f3⟩⟩
theorem RowE.put {w : World} {b : Nat} {l : List EV} (h : RowE w b l) (k : Nat) (hk : k < l.length) (p : EV) :
    RowE ((((w.setCell ⟨b, k * 4, none⟩ (.int .i64 p.1.seq)).setCell ⟨b, k * 4 + 1, none⟩ (.int .i64 p.1.time)).setCell ⟨b, k * 4 + 2, none⟩ (.slice p.2.1 p.1.labs.length p.2.2)).setCell ⟨b, k * 4 + 3, none⟩ (.string ⟨p.1.line.toArray⟩)) b (l.set k p) := by
  refine ⟨by simpa [World.setCell] using h.1, fun j hj => ?_⟩
  rw [List.length_set] at hj
  obtain ⟨c0, c1, c2, c3, f0, f1, f2, f3⟩ := h.2 j hj
  simp only [World.frozen?_setCell, f0, f1, f2, f3, and_true, List.getElem_set]
  by_cases e : k = j
  · subst e
    simp only [if_true]
    refine ⟨?_, ?_, ?_, ?_⟩
    · rw [World.cell?_setCell_other _ _ _ _ (by simp), World.cell?_setCell_other _ _ _ _ (by simp), World.cell?_setCell_other _ _ _ _ (by simp)]
      exact World.cell?_setCell_same' _ _ _ (by rw [c0]; rfl)
    · rw [World.cell?_setCell_other _ _ _ _ (by simp), World.cell?_setCell_other _ _ _ _ (by simp)]
      exact World.cell?_setCell_same' _ _ _ (by rw [World.cell?_setCell_other _ _ _ _ (by simp), c1]; rfl)
    · rw [World.cell?_setCell_other _ _ _ _ (by simp)]
      exact World.cell?_setCell_same' _ _ _ (by rw [World.cell?_setCell_other _ _ _ _ (by simp), World.cell?_setCell_other _ _ _ _ (by simp), c2]; rfl)
    · exact World.cell?_setCell_same' _ _ _ (by rw [World.cell?_setCell_other _ _ _ _ (by simp), World.cell?_setCell_other _ _ _ _ (by simp), World.cell?_setCell_other _ _ _ _ (by simp), c3]; rfl)
  · simp only [if_neg e]
    have ne : ∀ r s, r < 4 → s < 4 → (⟨b, k * 4 + r, none⟩ : Addr) ≠ ⟨b, j * 4 + s, none⟩ := fun r s hr hs => by
      intro e2
      injection e2 with _ e3 _
      omega
    have n0 := fun s hs => ne 0 s (by omega) hs
    simp only [Nat.add_zero] at n0
    refine ⟨?_, ?_, ?_, ?_⟩
    · have m := fun r hr => ne r 0 hr (by omega)
      have m0 := n0 0 (by omega)
      simp only [Nat.add_zero] at m m0
      rw [World.cell?_setCell_other _ _ _ _ (m 3 (by omega)), World.cell?_setCell_other _ _ _ _ (m 2 (by omega)), World.cell?_setCell_other _ _ _ _ (m 1 (by omega)), World.cell?_setCell_other _ _ _ _ m0]
      exact c0
    · rw [World.cell?_setCell_other _ _ _ _ (ne 3 1 (by omega) (by omega)), World.cell?_setCell_other _ _ _ _ (ne 2 1 (by omega) (by omega)), World.cell?_setCell_other _ _ _ _ (ne 1 1 (by omega) (by omega)), World.cell?_setCell_other _ _ _ _ (n0 1 (by omega))]
      exact c1
    · rw [World.cell?_setCell_other _ _ _ _ (ne 3 2 (by omega) (by omega)), World.cell?_setCell_other _ _ _ _ (ne 2 2 (by omega) (by omega)), World.cell?_setCell_other _ _ _ _ (ne 1 2 (by omega) (by omega)), World.cell?_setCell_other _ _ _ _ (n0 2 (by omega))]
      exact c2
    · rw [World.cell?_setCell_other _ _ _ _ (ne 3 3 (by omega) (by omega)), World.cell?_setCell_other _ _ _ _ (ne 2 3 (by omega) (by omega)), World.cell?_setCell_other _ _ _ _ (ne 1 3 (by omega) (by omega)), World.cell?_setCell_other _ _ _ _ (n0 3 (by omega))]
      exact c3
theorem lswap_set {α : Type} {l : List α} {i j : Nat} (hi : i < l.length) (hj : j < l.length) : lswap l i j = (l.set i l[j]).set j l[i] := by
  unfold lswap
  rw [List.getElem?_eq_getElem hi, List.getElem?_eq_getElem hj]
theorem lswap_length {α : Type} (l : List α) (i j : Nat) : (lswap l i j).length = l.length := by
  unfold lswap
  split <;> simp
/-- So many swaps, from two places on. -/
def srl {α : Type} (l : List α) (a b : Nat) : Nat → List α
  | 0 => l
  | k + 1 => lswap (srl l a b k) (a + k) (b + k)
theorem srl_length {α : Type} (l : List α) (a b : Nat) : ∀ k, (srl l a b k).length = l.length
  | 0 => rfl
  | k + 1 => by unfold srl; rw [lswap_length, srl_length l a b k]
theorem srl_spec {α : Type} (A X M Y B : List α) (h : X.length = Y.length) : ∀ k, k ≤ X.length →
    srl (A ++ X ++ M ++ Y ++ B) A.length (A.length + X.length + M.length) k = A ++ (Y.take k ++ X.drop k) ++ M ++ (X.take k ++ Y.drop k) ++ B
  | 0, _ => by simp [srl]
  | k + 1, hk => by
    unfold srl
    rw [srl_spec A X M Y B h k (by omega)]
    exact swap_step A X M Y B k (by omega) h
theorem srl_all {α : Type} (A X M Y B : List α) (h : X.length = Y.length) :
    srl (A ++ X ++ M ++ Y ++ B) A.length (A.length + X.length + M.length) X.length = A ++ Y ++ M ++ X ++ B := by
  rw [srl_spec A X M Y B h X.length (Nat.le_refl _)]
  rw [List.drop_length, List.take_length, h, List.take_length, List.drop_length]
  simp
theorem row_drew {w : World} {b : Nat} {l : List EV} (h : RowE w b l) : RowE w.drew b l := h
theorem grown_drew1 (w : World) (row : Option Nat) : w.grownBy w.drew row := ⟨rfl, rfl, rfl, Nat.le_refl _, fun _ _ _ => rfl⟩
theorem put_grown (w : World) (b i j k m : Nat) (a c d e : Value) : w.grownBy ((((w.setCell ⟨b, i, none⟩ a).setCell ⟨b, j, none⟩ c).setCell ⟨b, k, none⟩ d).setCell ⟨b, m, none⟩ e) (some b) :=
  World.grownBy.trans (World.grownBy.trans (World.grownBy.trans (grown_set w b i a) (grown_set _ b j c)) (grown_set _ b k d)) (grown_set _ b m e)
/-- The comparer as a function value. -/
def cmpF (f : Nat) : Value := .func (.func f) #[.agg #[]] #[]
end Go.Icz
namespace Go.Proofs.YtaoeabnpmpimgaaDoor
open Go.RowKit Go.Icz
set_option maxHeartbeats 4000000 in
set_option maxRecDepth 100000 in
theorem swapRange_is (b cap a c n : Nat) (l : List EV) (f : Value) (w : World) (hR : RowE w b l) (ha : a + n ≤ l.length) (hc : c + n ≤ l.length) (hne : a ≠ c) (hlen : l.length ≤ 4611686018427387904) :
    Calls Tryd.prog 97 #[.slice (some ⟨b, 0, none⟩) l.length cap, .int .i64 a, .int .i64 c, .int .i64 n, f] w fun e w' => e = .returned (.tuple #[]) ∧ RowE w' b (srl l a c n) ∧ w.grownBy w' (some b) := by
  go_enter Tryd.func97, Tryd.ntmps97
  go_wp2
  go_loopw [10] (fun iv wr => ∃ i : Nat, iv = .int .i64 i ∧ i ≤ n ∧ RowE wr b (srl l a c i) ∧ w.grownBy wr (some b)) (fun iv _ => n - (intOf iv).toNat)
  case atStart => exact ⟨0, rfl, by omega, hR, World.grownBy.refl _ _⟩
  case round =>
    obtain ⟨i, rfl, hi, hr, hg⟩ := hrel
    by_cases hlt : i < n
    · have hl := srl_length l a c i
      have hp1 : a + i < (srl l a c i).length := by omega
      have hq1 : c + i < (srl l a c i).length := by omega
      have HS : Hid (srl l a c (i + 1) = ((srl l a c i).set (a + i) (srl l a c i)[c + i]).set (c + i) (srl l a c i)[a + i]) := hid (lswap_set hp1 hq1)
      obtain ⟨x0, x1, x2, x3, xf0, xf1, xf2, xf3⟩ := hr.2 (a + i) hp1
      obtain ⟨y0, y1, y2, y3, yf0, yf1, yf2, yf3⟩ := hr.2 (c + i) hq1
      have P2 := fun u u2 => (hr.put (a + i) hp1 u).put (c + i) (by rw [List.length_set]; exact hq1) u2
      have P3 := fun u u2 => (hr.put (c + i) hq1 u2).put (a + i) (by rw [List.length_set]; exact hp1) u
      generalize srl l a c i = l1 at *
      generalize l1[a + i] = x at *
      generalize l1[c + i] = y at *
      have zp : IntKind.i64.wrap ((a : Int) + (i : Int)) = (a : Int) + (i : Int) := by rw [IntKind.wrap_i64]; omega
      have zq : IntKind.i64.wrap ((c : Int) + (i : Int)) = (c : Int) + (i : Int) := by rw [IntKind.wrap_i64]; omega
      have zp0 : (0 : Int) ≤ (a : Int) + (i : Int) := by omega
      have zq0 : (0 : Int) ≤ (c : Int) + (i : Int) := by omega
      have zpl : (a : Int) + (i : Int) < (l.length : Int) := by omega
      have zql : (c : Int) + (i : Int) < (l.length : Int) := by omega
      have zpn : ((a : Int) + (i : Int)).toNat = a + i := by omega
      have zqn : ((c : Int) + (i : Int)).toNat = c + i := by omega
      have hlt' : (i : Int) < (n : Int) := by omega
      go_wp2
      go_region
      go_wp2
      go_roundw
      case rel => exact ⟨i + 1, by go_num, by omega, by rw [HS.out]; exact row_drew (P2 y x), World.grownBy.trans hg (World.grownBy.trans (World.grownBy.trans (put_grown wr b _ _ _ _ _ _ _ _) (put_grown _ b _ _ _ _ _ _ _ _)) (grown_drew1 _ _))⟩
      case measure => simp [intOf]; omega
    · obtain rfl : i = n := by omega
      go_wp2
      go_end0
      exact ⟨rfl, hr, hg⟩
end Go.Proofs.YtaoeabnpmpimgaaDoor
end
section
namespace Go.Proofs.YtaoeabnpmpimgaaDoor
open Go.RowKit Go.Icz
set_option maxHeartbeats 1000000 in
set_option maxRecDepth 100000 in
theorem rotate_is (b cap N a m c : Nat) (A X Y B : List EV) (f : Value) (w : World) (hN : (A ++ X ++ Y ++ B).length = N) (hR : RowE w b (A ++ X ++ Y ++ B)) (ha : a = A.length) (hm : m = A.length + X.length) (hc : c = m + Y.length) (hX : 0 < X.length) (hY : 0 < Y.length) (hlen : N ≤ 4611686018427387904) :
    Calls Tryd.prog 82 #[.slice (some ⟨b, 0, none⟩) N cap, .int .i64 a, .int .i64 m, .int .i64 c, f] w fun e w' => e = .returned (.tuple #[]) ∧ RowE w' b (A ++ Y ++ X ++ B) ∧ w.grownBy w' (some b) := by
  have hNl : A.length + X.length + Y.length + B.length = N := by rw [← hN]; simp only [List.length_append]
  have HNl := hid hNl
  have hcb : c ≤ N := by omega
  have hma : a ≤ m := by omega
  have hmc : m ≤ c := by omega
  have za : (m : Int) - (a : Int) = (X.length : Int) := by omega
  have zc : (c : Int) - (m : Int) = (Y.length : Int) := by omega
  have HM := hid hm
  clear hN hNl ha hm hc
  go_enter Tryd.func82, Tryd.ntmps82
  go_wp2
  go_loopw [10, 11] (fun iv jv wr => ∃ (i j : Nat) (P X' Y' S : List EV), iv = .int .i64 i ∧ jv = .int .i64 j ∧ i = X'.length ∧ j = Y'.length ∧ 0 < i ∧ 0 < j ∧ RowE wr b (A ++ P ++ X' ++ Y' ++ S ++ B) ∧ Hid (P ++ Y' ++ X' ++ S = Y ++ X) ∧ A.length + P.length + i = m ∧ m + j + S.length + B.length = N ∧ w.grownBy wr (some b)) (fun iv jv _ => (intOf iv).toNat + (intOf jv).toNat)
  case atStart => exact ⟨X.length, Y.length, [], X, Y, [], by go_num, by go_num, rfl, rfl, hX, hY, by simpa using hR, hid (by simp), by have := HM.out; simp; omega, by have := HM.out; have := HNl.out; simp; omega, World.grownBy.refl _ _⟩
  case round =>
    obtain ⟨i, j, P, X', Y', S, rfl, rfl, hi, hj, hi0, hj0, hr, HT, hpos, hend, hg⟩ := hrel
    have hb1 : i ≤ m := by omega
    have hb2 : m + j ≤ N := by omega
    have HI := hid hi
    have HJ := hid hj
    have HP := hid hpos
    have HE := hid hend
    clear za zc
    by_cases heq : i = j
    · have hne : ((i : Int) != (j : Int)) = false := by simp [heq]
      have e1 : ((A ++ P) ++ X' ++ ([] : List EV) ++ Y' ++ (S ++ B)).length = N := by simp only [List.length_append, List.length_nil]; omega
      have e2 : (((A ++ P).length : Nat) : Int) = (m : Int) - (i : Int) := by simp only [List.length_append]; omega
      have e3 : ((((A ++ P).length + X'.length + ([] : List EV).length) : Nat) : Int) = (m : Int) := by simp only [List.length_append, List.length_nil]; omega
      have SW := swapRange_is b cap (A ++ P).length ((A ++ P).length + X'.length + ([] : List EV).length) X'.length ((A ++ P) ++ X' ++ [] ++ Y' ++ (S ++ B)) f wr (by simpa only [List.append_assoc, List.nil_append] using hr) (by rw [e1]; simp only [List.length_append]; omega) (by rw [e1]; simp only [List.length_append, List.length_nil]; omega) (by omega) (by omega)
      rw [srl_all (A ++ P) X' [] Y' (S ++ B) (by omega), e1, e2, e3, ← hi] at SW
      have HL : Hid ((A ++ P) ++ Y' ++ [] ++ X' ++ (S ++ B) = A ++ Y ++ X ++ B) := hid (by
        have := HT.out
        simp only [List.append_assoc, List.nil_append] at this ⊢
        rw [← List.append_assoc Y X B, ← this]
        simp only [List.append_assoc])
      subst heq
      clear hr HT e1 e2 e3 hi hj hpos hend
      go_wp2_with (go_at_call 97; refine SW.mono ?_; rintro e w1 ⟨rfl, r1, g1⟩; clear SW)
      go_end0
      exact ⟨rfl, by rw [← HL.out]; exact r1, World.grownBy.trans hg g1⟩
    · have hne : ((i : Int) != (j : Int)) = true := by simp; omega
      by_cases hgt : j < i
      · have hgt' : (j : Int) < (i : Int) := by omega
        have hs : X' = X'.take j ++ X'.drop j := (List.take_append_drop j X').symm
        have l1 : (X'.take j).length = j := by simp; omega
        have l2 : (X'.drop j).length = i - j := by simp; omega
        generalize X'.take j = X1 at *
        generalize X'.drop j = X2 at *
        subst hs
        have e1 : ((A ++ P) ++ X1 ++ X2 ++ Y' ++ (S ++ B)).length = N := by simp only [List.length_append] at hi ⊢; omega
        have e2 : (((A ++ P).length : Nat) : Int) = (m : Int) - (i : Int) := by simp only [List.length_append]; omega
        have e3 : ((((A ++ P).length + X1.length + X2.length) : Nat) : Int) = (m : Int) := by simp only [List.length_append] at hi ⊢; omega
        have SW := swapRange_is b cap (A ++ P).length ((A ++ P).length + X1.length + X2.length) X1.length ((A ++ P) ++ X1 ++ X2 ++ Y' ++ (S ++ B)) f wr (by simpa only [List.append_assoc] using hr) (by rw [e1]; simp only [List.length_append]; omega) (by rw [e1]; simp only [List.length_append]; omega) (by omega) (by omega)
        rw [srl_all (A ++ P) X1 X2 Y' (S ++ B) (by omega), e1, e2, e3, l1] at SW
        have HT2 : Hid ((P ++ Y') ++ X1 ++ X2 ++ S = Y ++ X) := hid (by rw [← HT.out]; simp only [List.append_assoc])
        have L1 := hid l1
        have L2 := hid l2
        clear hr HT e1 e2 e3 hi hj hpos hend l1 l2
        have hil : i ≤ m + j := by omega
        go_wp2_with (go_at_call 97; refine SW.mono ?_; rintro e w1 ⟨rfl, r1, g1⟩; clear SW)
        go_roundw
        case rel =>
          have hi := HI.out
          have hj := HJ.out
          have hpos := HP.out
          have hend := HE.out
          have l1 := L1.out
          have l2 := L2.out
          exact ⟨i - j, j, P ++ Y', X2, X1, S, by go_num, rfl, by omega, by omega, by omega, by omega, by simpa only [List.append_assoc] using r1, HT2, by simp only [List.length_append]; omega, by omega, World.grownBy.trans hg g1⟩
        case measure => simp [intOf]; omega
      · have hgt' : ¬ (j : Int) < (i : Int) := by omega
        have hs : Y' = Y'.take (j - i) ++ Y'.drop (j - i) := (List.take_append_drop (j - i) Y').symm
        have l1 : (Y'.take (j - i)).length = j - i := by simp; omega
        have l2 : (Y'.drop (j - i)).length = i := by simp; omega
        generalize Y'.take (j - i) = Y1 at *
        generalize Y'.drop (j - i) = Y2 at *
        subst hs
        have e1 : ((A ++ P) ++ X' ++ Y1 ++ Y2 ++ (S ++ B)).length = N := by simp only [List.length_append] at hj ⊢; omega
        have e2 : (((A ++ P).length : Nat) : Int) = (m : Int) - (i : Int) := by simp only [List.length_append]; omega
        have e3 : ((((A ++ P).length + X'.length + Y1.length) : Nat) : Int) = (m : Int) + (j : Int) - (i : Int) := by simp only [List.length_append]; omega
        have SW := swapRange_is b cap (A ++ P).length ((A ++ P).length + X'.length + Y1.length) X'.length ((A ++ P) ++ X' ++ Y1 ++ Y2 ++ (S ++ B)) f wr (by simpa only [List.append_assoc] using hr) (by rw [e1]; simp only [List.length_append]; omega) (by rw [e1]; simp only [List.length_append]; omega) (by omega) (by omega)
        rw [srl_all (A ++ P) X' Y1 Y2 (S ++ B) (by omega), e1, e2, e3, ← hi] at SW
        have HT2 : Hid (P ++ Y1 ++ Y2 ++ (X' ++ S) = Y ++ X) := hid (by rw [← HT.out]; simp only [List.append_assoc])
        have L1 := hid l1
        have L2 := hid l2
        clear hr HT e1 e2 e3 hi hj hpos hend l1 l2
        have hil : i ≤ m + j := by omega
        go_wp2_with (go_at_call 97; refine SW.mono ?_; rintro e w1 ⟨rfl, r1, g1⟩; clear SW)
        go_roundw
        case rel =>
          have hi := HI.out
          have hj := HJ.out
          have hpos := HP.out
          have hend := HE.out
          have l1 := L1.out
          have l2 := L2.out
          exact ⟨i, j - i, P, Y2, Y1, X' ++ S, rfl, by go_num, by omega, by omega, by omega, by omega, by simpa only [List.append_assoc] using r1, HT2, by omega, by simp only [List.length_append]; omega, World.grownBy.trans hg g1⟩
        case measure => simp [intOf]; omega
end Go.Proofs.YtaoeabnpmpimgaaDoor
end
section
namespace Go.Icz
open Go.RowKit
/-- The order of entries, of what lies in a row. -/
def ltE (x y : EV) : Bool := decide (cmpE x.1 y.1 < 0)
theorem icmp_cases (a b : Int) : (icmp a b = -1 ∧ a < b) ∨ (icmp a b = 0 ∧ a = b) ∨ (icmp a b = 1 ∧ b < a) := by
  unfold icmp
  split
  · left; exact ⟨rfl, by assumption⟩
  · split
    · right; right; exact ⟨rfl, by assumption⟩
    · right; left; exact ⟨rfl, by omega⟩
theorem ltE_iff (x y : EV) : ltE x y = true ↔ x.1.time < y.1.time ∨ (x.1.time = y.1.time ∧ x.1.seq < y.1.seq) := by
  unfold ltE cmpE or2
  rcases icmp_cases x.1.time y.1.time with ⟨h, h2⟩ | ⟨h, h2⟩ | ⟨h, h2⟩
  · rw [h]; simp; omega
  · rw [h]
    rcases icmp_cases x.1.seq y.1.seq with ⟨g, g2⟩ | ⟨g, g2⟩ | ⟨g, g2⟩
    · rw [g]; simp; omega
    · rw [g]; simp; omega
    · rw [g]; simp; omega
  · rw [h]; simp; omega
theorem ltE_false (x y : EV) : ltE x y = false ↔ ¬ (x.1.time < y.1.time ∨ (x.1.time = y.1.time ∧ x.1.seq < y.1.seq)) := by
  rw [← ltE_iff]; simp
theorem ltE_ord : SWOrd ltE := by
  refine ⟨fun x y h => ?_, fun x y z h => ?_⟩
  · rw [ltE_iff] at h
    rw [ltE_false]
    omega
  · rw [ltE_iff] at h
    rw [ltE_iff, ltE_iff]
    omega
theorem below_grown {w w' : World} (h : Below w.heap.size w w') (row : Option Nat) : w.grownBy w' row := ⟨h.os, h.tape, h.output, h.size, fun k hk _ => h.block k hk⟩
/-- The inner loop has come to its place. -/
theorem StableOf.placed {M1 M2 : List EV} {x : EV} {X : List EV} (hM : StableOf ltE X (M1 ++ M2)) (h2 : ∀ y ∈ M2, ltE x y = true) (h1 : ∀ M0 y, M1 = M0 ++ [y] → ltE x y = false) : StableOf ltE (X ++ [x]) (M1 ++ x :: M2) := by
  have hs := hM.1
  have h3 : ∀ z ∈ M1, ltE x z = false := by
    rcases List.eq_nil_or_concat M1 with rfl | ⟨M0, y, rfl⟩
    · simp
    · have hy := h1 M0 y (by simp)
      intro z hz
      have hs1 := (SortedL.append_iff.1 hs).1
      rw [List.concat_eq_append] at hs1 hz
      have h4 := (SortedL.append_iff.1 hs1).2.2
      rcases List.mem_append.1 hz with hz | hz
      · exact SWOrd.le_trans ltE_ord (h4 z hz y (by simp)) hy
      · obtain rfl := List.mem_singleton.1 hz
        exact hy
  exact StableOf.trans ⟨hM.1, hM.2⟩ (StableOf.refl hM.1) |> fun _ => (StableOf.pieces hM (StableOf.refl (List.pairwise_singleton _ _)) (StableOf.last ltE_ord hs h3 h2))
theorem RowE.at {w : World} {b : Nat} {l : List EV} (h : RowE w b l) {k : Nat} {x : EV} (hk : l[k]? = some x) : w.cell? ⟨b, k * 4, none⟩ = some (.int .i64 x.1.seq) ∧ w.cell? ⟨b, k * 4 + 1, none⟩ = some (.int .i64 x.1.time) ∧ w.cell? ⟨b, k * 4 + 2, none⟩ = some (.slice x.2.1 x.1.labs.length x.2.2) ∧ w.cell? ⟨b, k * 4 + 3, none⟩ = some (.string ⟨x.1.line.toArray⟩) ∧
    w.frozen? ⟨b, k * 4, none⟩ = false ∧ w.frozen? ⟨b, k * 4 + 1, none⟩ = false ∧ w.frozen? ⟨b, k * 4 + 2, none⟩ = false ∧ w.frozen? ⟨b, k * 4 + 3, none⟩ = false := by
  obtain ⟨hlt, e⟩ := List.getElem?_eq_some_iff.1 hk
  rw [← e]
  exact h.2 k hlt
end Go.Icz
namespace Go.Proofs.YtaoeabnpmpimgaaDoor
open Go.RowKit Go.Icz
theorem set_two (P R : List EV) (x y : EV) : ((P ++ y :: x :: R).set (P.length + 1) y).set P.length x = P ++ x :: y :: R := by
  rw [List.set_append_right _ _ (by omega), List.set_append_right _ _ (by omega)]
  simp
theorem cmp_call (x y : EV) (w : World) : Calls Tryd.prog 43 #[.agg #[], .agg #[.int .i64 x.1.seq, .int .i64 x.1.time, .slice x.2.1 x.1.labs.length x.2.2, .string ⟨x.1.line.toArray⟩], .agg #[.int .i64 y.1.seq, .int .i64 y.1.time, .slice y.2.1 y.1.labs.length y.2.2, .string ⟨y.1.line.toArray⟩]] w fun e w' => e = .returned (.int .i64 (cmpE x.1 y.1)) ∧ Below w.heap.size w w' :=
  compare_is x.1 y.1 x.2.1 y.2.1 x.2.2 y.2.2 w
set_option maxHeartbeats 2000000 in
set_option maxRecDepth 100000 in
theorem insertion_is (b cap N a c : Nat) (A X B : List EV) (w : World) (hN : A.length + X.length + B.length = N) (hR : RowE w b (A ++ X ++ B)) (ha : a = A.length) (hc : c = a + X.length) (hlen : N ≤ 4611686018427387904) :
    Calls Tryd.prog 67 #[.slice (some ⟨b, 0, none⟩) N cap, .int .i64 a, .int .i64 c, cmpF 43] w fun e w' => e = .returned (.tuple #[]) ∧ (∃ M, RowE w' b (A ++ M ++ B) ∧ StableOf ltE X M) ∧ w.grownBy w' (some b) := by
  have HN := hid hN
  have HA := hid ha
  have HC := hid hc
  have hcN : c ≤ N := by omega
  have hac : a ≤ c := by omega
  clear hN ha hc
  unfold cmpF
  go_enter Tryd.func67, Tryd.ntmps67
  go_wp2
  go_loopw [8] (fun iv wr => ∃ (t : Nat) (M : List EV), iv = .int .i64 ((a : Int) + (t : Int)) ∧ 1 ≤ t ∧ t ≤ N + 1 ∧ RowE wr b (A ++ M ++ X.drop t ++ B) ∧ Hid (StableOf ltE (X.take t) M) ∧ Hid (M.length = min t X.length) ∧ Hid (t ≤ X.length ∨ t = 1) ∧ w.grownBy wr (some b)) (fun iv _ => (c + 1) - (intOf iv).toNat)
  case atStart =>
    refine ⟨1, X.take 1, by go_num, by omega, by omega, by rw [List.append_assoc A (X.take 1), List.take_append_drop]; exact hR, hid (StableOf.refl ?_), hid (by simp), hid (.inr rfl), World.grownBy.refl _ _⟩
    cases X with
    | nil => exact List.Pairwise.nil
    | cons x r => exact List.pairwise_singleton _ _
  case round =>
    obtain ⟨t, M, rfl, ht1, htN, hr, HM, HL, HT, hg⟩ := hrel
    by_cases hlt : t < X.length
    · have hltz : (a : Int) + (t : Int) < (c : Int) := by have := HC.out; omega
      have hil : a + t < N := by have := HC.out; omega
      have hr2 : RowE wr b (A ++ M ++ X[t] :: X.drop (t + 1) ++ B) := by rw [List.drop_eq_getElem_cons hlt] at hr; exact hr
      have HX : Hid (X.take (t + 1) = X.take t ++ [X[t]]) := hid (List.take_succ_eq_append_getElem hlt)
      have HL2 : Hid (M.length = t) := hid (by have := HL.out; omega)
      have HLT := hid hlt
      generalize X[t] = x at *
      clear hr hlt HT HL
      generalize hD : X.drop (t + 1) = D at *
      have HD := hid hD
      clear hD
      go_wp2
      generalize wr = wo at *
      go_loopw [9] (fun jv wi => ∃ (j : Nat) (M1 M2 : List EV), jv = .int .i64 (j : Int) ∧ Hid (j = a + M1.length) ∧ j ≤ a + t ∧ a ≤ j ∧ Hid (M = M1 ++ M2) ∧ Hid (∀ y ∈ M2, ltE x y = true) ∧ RowE wi b (A ++ M1 ++ x :: M2 ++ D ++ B) ∧ w.grownBy wi (some b)) (fun jv _ => (intOf jv).toNat)
      case atStart => exact ⟨a + t, M, [], by go_num, hid (by rw [HL2.out]), by omega, by omega, hid (by simp), hid (by simp), by simpa using hr2, hg⟩
      case round =>
        obtain ⟨j, M1, M2, rfl, HJ, hjt, haj, HM2, HY, hr3, hg3⟩ := hrel
        generalize wr = wi at *
        have placed : (∀ M0 y, M1 = M0 ++ [y] → ltE x y = false) → ∀ wz, RowE wz b (A ++ M1 ++ x :: M2 ++ D ++ B) → RowE wz b (A ++ (M1 ++ x :: M2) ++ X.drop (t + 1) ++ B) ∧ Hid (StableOf ltE (X.take (t + 1)) (M1 ++ x :: M2)) ∧ Hid ((M1 ++ x :: M2).length = min (t + 1) X.length) := fun h wz hz => by
          refine ⟨by rw [HD.out]; simpa only [List.append_assoc, List.cons_append] using hz, hid (by rw [HX.out]; exact StableOf.placed (by rw [← HM2.out]; exact HM.out) HY.out h), hid ?_⟩
          have h1 := HL2.out
          have h2 := HLT.out
          rw [HM2.out] at h1
          simp only [List.length_append, List.length_cons] at h1 ⊢
          omega
        rcases List.eq_nil_or_concat M1 with hnil | ⟨M0, y, hcon⟩
        · have PL := placed (fun M0 y e => by rw [hnil] at e; simp at e)
          have hja : ¬ (a : Int) < (j : Int) := by have := HJ.out; rw [hnil] at this; simp at this; omega
          have hja2 : decide ((a : Int) < (j : Int)) = false := decide_eq_false hja
          have AP : Hid _ := hid placed
          clear placed hnil
          go_wp2_with fail
          refine wp_region_held_drew (S := fun _ => True) (by kernel_rfl) True.intro (fun hHeld => ?_)
          refine takeAt (i := 0) (d := 18) (v := .int .i64 (j : Int)) rfl rfl (by kernel_rfl) (by kernel_rfl) (by kernel_rfl) (fun _ _ _ h => h) (Or.inl ⟨by rfl, fun w hSw => by go_simp⟩) hHeld ?_
          simp only [List.setIfInBounds_toArray, List.set_cons_zero, List.set_cons_succ]
          refine takeAt (i := 1) (d := 19) (v := .int .i64 (a : Int)) rfl rfl (by kernel_rfl) (by kernel_rfl) (by kernel_rfl) (fun _ _ _ h => h) (Or.inl ⟨by rfl, fun w hSw => by go_simp⟩) hHeld ?_
          simp only [List.setIfInBounds_toArray, List.set_cons_zero, List.set_cons_succ]
          refine takeAt (i := 2) (d := 20) (v := .bool false) rfl rfl (by kernel_rfl) (by kernel_rfl) (by kernel_rfl) (fun _ _ _ h => h) (Or.inl ⟨by rfl, fun w hSw => by go_simp; first | done | exact hja2 | exact hja | omega | (simp; omega)⟩) hHeld ?_
          simp only [List.setIfInBounds_toArray, List.set_cons_zero, List.set_cons_succ]
          refine takeAt (i := 3) (d := 21) (v := .bool false) rfl rfl (by kernel_rfl) (by kernel_rfl) (by kernel_rfl) (fun _ _ _ h => h) (Or.inl ⟨by rfl, fun w hSw => by go_simp⟩) hHeld ?_
          simp only [List.setIfInBounds_toArray, List.set_cons_zero, List.set_cons_succ]
          refine takeAt (i := 4) (d := 22) (v := undef) rfl rfl (by kernel_rfl) (by kernel_rfl) (by kernel_rfl) (fun _ _ _ h => h) (Or.inr ⟨by rfl, rfl⟩) hHeld ?_
          simp only [List.setIfInBounds_toArray, List.set_cons_zero, List.set_cons_succ]
          refine takeAt (i := 5) (d := 23) (v := undef) rfl rfl (by kernel_rfl) (by kernel_rfl) (by kernel_rfl) (fun _ _ _ h => h) (Or.inr ⟨by rfl, rfl⟩) hHeld ?_
          simp only [List.setIfInBounds_toArray, List.set_cons_zero, List.set_cons_succ]
          refine takeAt (i := 6) (d := 24) (v := undef) rfl rfl (by kernel_rfl) (by kernel_rfl) (by kernel_rfl) (fun _ _ _ h => h) (Or.inr ⟨by rfl, rfl⟩) hHeld ?_
          simp only [List.setIfInBounds_toArray, List.set_cons_zero, List.set_cons_succ]
          refine takeAt (i := 7) (d := 25) (v := undef) rfl rfl (by kernel_rfl) (by kernel_rfl) (by kernel_rfl) (fun _ _ _ h => h) (Or.inr ⟨by rfl, rfl⟩) hHeld ?_
          simp only [List.setIfInBounds_toArray, List.set_cons_zero, List.set_cons_succ]
          refine takeAt (i := 8) (d := 26) (v := undef) rfl rfl (by kernel_rfl) (by kernel_rfl) (by kernel_rfl) (fun _ _ _ h => h) (Or.inr ⟨by rfl, rfl⟩) hHeld ?_
          simp only [List.setIfInBounds_toArray, List.set_cons_zero, List.set_cons_succ]
          refine takeAt (i := 9) (d := 27) (v := undef) rfl rfl (by kernel_rfl) (by kernel_rfl) (by kernel_rfl) (fun _ _ _ h => h) (Or.inr ⟨by rfl, rfl⟩) hHeld ?_
          simp only [List.setIfInBounds_toArray, List.set_cons_zero, List.set_cons_succ]
          refine takeAt (i := 10) (d := 28) (v := undef) rfl rfl (by kernel_rfl) (by kernel_rfl) (by kernel_rfl) (fun _ _ _ h => h) (Or.inr ⟨by rfl, rfl⟩) hHeld ?_
          simp only [List.setIfInBounds_toArray, List.set_cons_zero, List.set_cons_succ]
          refine takeAt (i := 11) (d := 29) (v := undef) rfl rfl (by kernel_rfl) (by kernel_rfl) (by kernel_rfl) (fun _ _ _ h => h) (Or.inr ⟨by rfl, rfl⟩) hHeld ?_
          simp only [List.setIfInBounds_toArray, List.set_cons_zero, List.set_cons_succ]
          refine takeAt (i := 12) (d := 30) (v := undef) rfl rfl (by kernel_rfl) (by kernel_rfl) (by kernel_rfl) (fun _ _ _ h => h) (Or.inr ⟨by rfl, rfl⟩) hHeld ?_
          simp only [List.setIfInBounds_toArray, List.set_cons_zero, List.set_cons_succ]
          refine takeAt (i := 13) (d := 31) (v := undef) rfl rfl (by kernel_rfl) (by kernel_rfl) (by kernel_rfl) (fun _ _ _ h => h) (Or.inr ⟨by rfl, rfl⟩) hHeld ?_
          simp only [List.setIfInBounds_toArray, List.set_cons_zero, List.set_cons_succ]
          refine takeAt (i := 14) (d := 32) (v := undef) rfl rfl (by kernel_rfl) (by kernel_rfl) (by kernel_rfl) (fun _ _ _ h => h) (Or.inr ⟨by rfl, rfl⟩) hHeld ?_
          simp only [List.setIfInBounds_toArray, List.set_cons_zero, List.set_cons_succ]
          refine takeAt (i := 15) (d := 33) (v := undef) rfl rfl (by kernel_rfl) (by kernel_rfl) (by kernel_rfl) (fun _ _ _ h => h) (Or.inr ⟨by rfl, rfl⟩) hHeld ?_
          simp only [List.setIfInBounds_toArray, List.set_cons_zero, List.set_cons_succ]
          refine takeAt (i := 16) (d := 34) (v := .bool false) rfl rfl (by kernel_rfl) (by kernel_rfl) (by kernel_rfl) (fun _ _ _ h => h) (Or.inl ⟨by rfl, fun w hSw => by go_simp⟩) hHeld ?_
          simp only [List.setIfInBounds_toArray, List.set_cons_zero, List.set_cons_succ]
          refine wpAnyH_done (by kernel_rfl) ?_ _
          go_wp2_with fail
          go_roundw
          obtain ⟨p1, p2, p3⟩ := PL _ (row_drew hr3)
          case rel => exact ⟨t + 1, M1 ++ x :: M2, by go_num, by omega, by omega, p1, p2, p3, hid (.inl (by have := HLT.out; omega)), World.grownBy.trans hg3 (grown_drew1 _ _)⟩
          case measure => simp [intOf]; omega
        · rw [List.concat_eq_append] at hcon
          subst hcon
          obtain ⟨jp, hjp⟩ : ∃ jp, jp = a + M0.length := ⟨_, rfl⟩
          have hj2 : j = jp + 1 := by have := HJ.out; simp only [List.length_append, List.length_singleton] at this; omega
          subst hj2
          have g1 : (A ++ (M0 ++ [y]) ++ x :: M2 ++ D ++ B)[jp + 1]? = some x := by
            rw [hjp, HA.out]
            simp only [List.append_assoc, List.cons_append, List.nil_append]
            rw [List.getElem?_append_right (by omega), List.getElem?_append_right (by omega), show A.length + M0.length + 1 - A.length - M0.length = 1 by omega]
            rfl
          have g0 : (A ++ (M0 ++ [y]) ++ x :: M2 ++ D ++ B)[jp]? = some y := by
            rw [hjp, HA.out]
            simp only [List.append_assoc, List.cons_append, List.nil_append]
            rw [List.getElem?_append_right (by omega), List.getElem?_append_right (by omega), show A.length + M0.length - A.length - M0.length = 0 by omega]
            rfl
          obtain ⟨x0, x1, x2, x3, xf0, xf1, xf2, xf3⟩ := hr3.at g1
          obtain ⟨y0, y1, y2, y3, yf0, yf1, yf2, yf3⟩ := hr3.at g0
          have hbz := hr3.1
          have mkS : ∀ w', Below wi.heap.size wi w' → Below wi.heap.size wi w' ∧ w'.cell? ⟨b, (jp + 1) * 4, none⟩ = some (.int .i64 x.1.seq) ∧ w'.cell? ⟨b, (jp + 1) * 4 + 1, none⟩ = some (.int .i64 x.1.time) ∧ w'.cell? ⟨b, (jp + 1) * 4 + 2, none⟩ = some (.slice x.2.1 x.1.labs.length x.2.2) ∧ w'.cell? ⟨b, (jp + 1) * 4 + 3, none⟩ = some (.string ⟨x.1.line.toArray⟩) ∧ w'.cell? ⟨b, jp * 4, none⟩ = some (.int .i64 y.1.seq) ∧ w'.cell? ⟨b, jp * 4 + 1, none⟩ = some (.int .i64 y.1.time) ∧ w'.cell? ⟨b, jp * 4 + 2, none⟩ = some (.slice y.2.1 y.1.labs.length y.2.2) ∧ w'.cell? ⟨b, jp * 4 + 3, none⟩ = some (.string ⟨y.1.line.toArray⟩) := fun w' h =>
            ⟨h, (h.cell (p := ⟨b, (jp + 1) * 4, none⟩) hbz).trans x0, (h.cell (p := ⟨b, (jp + 1) * 4 + 1, none⟩) hbz).trans x1, (h.cell (p := ⟨b, (jp + 1) * 4 + 2, none⟩) hbz).trans x2, (h.cell (p := ⟨b, (jp + 1) * 4 + 3, none⟩) hbz).trans x3,
              (h.cell (p := ⟨b, jp * 4, none⟩) hbz).trans y0, (h.cell (p := ⟨b, jp * 4 + 1, none⟩) hbz).trans y1, (h.cell (p := ⟨b, jp * 4 + 2, none⟩) hbz).trans y2, (h.cell (p := ⟨b, jp * 4 + 3, none⟩) hbz).trans y3⟩
          have hk := mkS wi.drew (Below.refl _ _).drew
          have HC2 := fun w1 => cmp_call x y w1
          have hja : (a : Int) < (jp : Int) + 1 := by omega
          have zj : IntKind.i64.wrap (jp : Int) = (jp : Int) := by rw [IntKind.wrap_i64]; omega
          have zj0 : (0 : Int) ≤ (jp : Int) + 1 := by omega
          have zjl : (jp : Int) + 1 < (N : Int) := by omega
          have zjl2 : (jp : Int) < (N : Int) := by omega
          have zjn : ((jp : Int) + 1).toNat = jp + 1 := by omega
          have HG1 := hid g1
          have HG0 := hid g0
          have PLF : ltE x y = false → _ := fun hf => placed (fun M0' y' e => by
            have e2 := List.append_inj_right' e rfl
            injection e2 with e3 _
            rw [← e3]
            exact hf)
          have hset : Hid (((A ++ (M0 ++ [y]) ++ x :: M2 ++ D ++ B).set (jp + 1) y).set jp x = A ++ M0 ++ x :: (y :: M2) ++ D ++ B) := hid (by
            have h9 := set_two (A ++ M0) (M2 ++ D ++ B) x y
            rw [List.length_append, ← HA.out, ← hjp] at h9
            simpa only [List.append_assoc, List.cons_append, List.nil_append] using h9)
          have hk1 : Hid (jp + 1 < (A ++ (M0 ++ [y]) ++ x :: M2 ++ D ++ B).length) := hid (List.getElem?_eq_some_iff.1 g1).1
          have hlx : Hid (ltE x y = decide (cmpE x.1 y.1 < 0)) := hid rfl
          have AR := hid hr3
          have HJP := hid hjp
          clear placed g1 g0 x0 x1 x2 x3 y0 y1 y2 y3 hr3 hjp
          generalize hcv : cmpE x.1 y.1 = cv at *
          by_cases hlt0 : cv < 0
          · go_wp2_with fail
            go_region_held3 (fun w' => Below wi.heap.size wi w' ∧ w'.cell? ⟨b, (jp + 1) * 4, none⟩ = some (.int .i64 x.1.seq) ∧ w'.cell? ⟨b, (jp + 1) * 4 + 1, none⟩ = some (.int .i64 x.1.time) ∧ w'.cell? ⟨b, (jp + 1) * 4 + 2, none⟩ = some (.slice x.2.1 x.1.labs.length x.2.2) ∧ w'.cell? ⟨b, (jp + 1) * 4 + 3, none⟩ = some (.string ⟨x.1.line.toArray⟩) ∧ w'.cell? ⟨b, jp * 4, none⟩ = some (.int .i64 y.1.seq) ∧ w'.cell? ⟨b, jp * 4 + 1, none⟩ = some (.int .i64 y.1.time) ∧ w'.cell? ⟨b, jp * 4 + 2, none⟩ = some (.slice y.2.1 y.1.labs.length y.2.2) ∧ w'.cell? ⟨b, jp * 4 + 3, none⟩ = some (.string ⟨y.1.line.toArray⟩)) (exact hk)
              (first | (go_at_call 43; refine (HC2 _).mono ?_; rintro e w1 ⟨rfl, b1⟩; have hk := mkS _ (hk.1.trans (b1.mono hk.1.size))))
            have hw1 := hk.1
            clear hk mkS
            have hr1 := AR.out.below (show Below wi.heap.size wi _ from hw1)
            obtain ⟨x0, x1, x2, x3, xf0, xf1, xf2, xf3⟩ := hr1.at HG1.out
            obtain ⟨y0, y1, y2, y3, yf0, yf1, yf2, yf3⟩ := hr1.at HG0.out
            have HR1 := hid hr1
            clear hr1
            go_wp2_with fail
            go_region
            go_wp2_with fail
            go_roundw
            case rel =>
              have hk1' := hk1.out
              have P := (HR1.out.put (jp + 1) hk1' y).put jp (by rw [List.length_set]; omega) x
              rw [hset.out] at P
              refine ⟨jp, M0, y :: M2, rfl, HJP, by omega, by omega, hid (by rw [HM2.out]; simp), hid (fun z hz => ?_), row_drew P, World.grownBy.trans hg3 (World.grownBy.trans (below_grown hw1 _) (World.grownBy.trans (World.grownBy.trans (put_grown _ b _ _ _ _ _ _ _ _) (put_grown _ b _ _ _ _ _ _ _ _)) (grown_drew1 _ _)))⟩
              rcases List.mem_cons.1 hz with rfl | hz
              · rw [hlx.out]; exact decide_eq_true hlt0
              · exact HY.out z hz
            case measure => simp [intOf]
          · go_wp2_with fail
            go_region_held3 (fun w' => Below wi.heap.size wi w' ∧ w'.cell? ⟨b, (jp + 1) * 4, none⟩ = some (.int .i64 x.1.seq) ∧ w'.cell? ⟨b, (jp + 1) * 4 + 1, none⟩ = some (.int .i64 x.1.time) ∧ w'.cell? ⟨b, (jp + 1) * 4 + 2, none⟩ = some (.slice x.2.1 x.1.labs.length x.2.2) ∧ w'.cell? ⟨b, (jp + 1) * 4 + 3, none⟩ = some (.string ⟨x.1.line.toArray⟩) ∧ w'.cell? ⟨b, jp * 4, none⟩ = some (.int .i64 y.1.seq) ∧ w'.cell? ⟨b, jp * 4 + 1, none⟩ = some (.int .i64 y.1.time) ∧ w'.cell? ⟨b, jp * 4 + 2, none⟩ = some (.slice y.2.1 y.1.labs.length y.2.2) ∧ w'.cell? ⟨b, jp * 4 + 3, none⟩ = some (.string ⟨y.1.line.toArray⟩)) (exact hk)
              (first | (go_at_call 43; refine (HC2 _).mono ?_; rintro e w1 ⟨rfl, b1⟩; have hk := mkS _ (hk.1.trans (b1.mono hk.1.size))))
            have hw1 := hk.1
            clear hk mkS
            have hr1 := AR.out.below (show Below wi.heap.size wi _ from hw1)
            have HR1 := hid hr1
            clear hr1
            go_wp2_with fail
            go_roundw
            obtain ⟨p1, p2, p3⟩ := PLF (by rw [hlx.out]; exact decide_eq_false (by omega)) _ HR1.out
            case rel => exact ⟨t + 1, (M0 ++ [y]) ++ x :: M2, by go_num, by omega, by omega, p1, p2, p3, hid (.inl (by have := HLT.out; omega)), World.grownBy.trans hg3 (below_grown hw1 _)⟩
            case measure => simp [intOf]; omega
    · have hnl : ¬ (a : Int) + (t : Int) < (c : Int) := by have := HC.out; omega
      have hd : X.drop t = [] := List.drop_eq_nil_of_le (by omega)
      have ht : X.take t = X := List.take_of_length_le (by omega)
      rw [hd, List.append_nil] at hr
      have HM3 := HM.out
      rw [ht] at HM3
      have HM4 := hid HM3
      clear hd ht HM HM3 HL HT hlt
      go_wp2
      go_end0
      exact ⟨rfl, ⟨M, by simpa only [List.append_assoc] using hr, HM4.out⟩, hg⟩
end Go.Proofs.YtaoeabnpmpimgaaDoor
end
section
namespace Go.Proofs.YtaoeabnpmpimgaaDoor
open Go.RowKit Go.Icz
theorem set_two2 (P R : List EV) (x y : EV) : ((P ++ x :: y :: R).set P.length y).set (P.length + 1) x = P ++ y :: x :: R := by
  rw [List.set_append_right _ _ (by omega), List.set_append_right _ _ (by omega)]
  simp
theorem at_len {P R : List EV} {x : EV} {k : Nat} (h : k = P.length) : (P ++ x :: R)[k]? = some x := by subst h; simp
set_option maxHeartbeats 2000000 in
set_option maxRecDepth 100000 in
theorem symMerge_one (b cap N a m c : Nat) (A : List EV) (x : EV) (R B : List EV) (w : World) (hN : A.length + 1 + R.length + B.length = N) (hR : RowE w b (A ++ x :: R ++ B)) (ha : a = A.length) (hm : m = a + 1) (hc : c = m + R.length) (hS : SortedL ltE R) (hlen : N ≤ 1152921504606846976) :
    Calls Tryd.prog 68 #[.slice (some ⟨b, 0, none⟩) N cap, .int .i64 a, .int .i64 m, .int .i64 c, cmpF 43] w fun e w' => e = .returned (.tuple #[]) ∧ (∃ M, RowE w' b (A ++ M ++ B) ∧ StableOf ltE (x :: R) M) ∧ w.grownBy w' (some b) := by
  have HN := hid hN
  have HA := hid ha
  have HC := hid hc
  have hcN : c ≤ N := by omega
  have hmc : m ≤ c := by omega
  have HMM := hid hm
  have hma : (m : Int) - (a : Int) = 1 := by omega
  have ham : a < m := by omega
  have hS := hid hS
  clear hN ha hc hm
  unfold cmpF
  go_enter Tryd.func68, Tryd.ntmps68
  go_wp2
  go_loopw [10, 11] (fun iv jv wr => ∃ (i j : Nat) (R1 Q R2 : List EV), iv = .int .i64 (i : Int) ∧ jv = .int .i64 (j : Int) ∧ Hid (R = R1 ++ Q ++ R2) ∧ Hid (i = m + R1.length) ∧ Hid (j = i + Q.length) ∧ i ≤ j ∧ j ≤ c ∧ Hid (∀ y ∈ R1, ltE y x = true) ∧ Hid (∀ y ∈ R2, ltE y x = false) ∧ RowE wr b (A ++ x :: R ++ B) ∧ w.grownBy wr (some b)) (fun iv jv _ => (intOf jv).toNat - (intOf iv).toNat)
  case atStart => exact ⟨m, c, [], R, [], rfl, rfl, hid (by simp), hid (by simp), hid (by rw [HC.out]), by omega, by omega, hid (by simp), hid (by simp), hR, World.grownBy.refl _ _⟩
  case round =>
    obtain ⟨i, j, R1, Q, R2, rfl, rfl, HQ, HI, HJ, hij, hjc, H1, H2, hr, hg⟩ := hrel
    by_cases hlt : i < j
    · have hlt' : (i : Int) < (j : Int) := by omega
      obtain ⟨h, hh0⟩ : ∃ h, h = (i + j) / 2 := ⟨_, rfl⟩
      have zh : Hid (((i : Int) + (j : Int)) / 2 = (h : Int)) := hid (by omega)
      have hih : i ≤ h := by omega
      have hhj : h < j := by omega
      have hhN : h < N := by omega
      have haN : a < N := by omega
      have hql : h - i < Q.length := by have := HJ.out; omega
      have HQ2 : Hid (Q = Q.take (h - i) ++ Q[h - i] :: Q.drop (h - i + 1)) := hid (by rw [← List.drop_eq_getElem_cons hql, List.take_append_drop])
      have HQL : Hid ((Q.take (h - i)).length = h - i ∧ (Q.drop (h - i + 1)).length = j - h - 1) := hid ⟨by rw [List.length_take]; omega, by rw [List.length_drop]; have := HJ.out; omega⟩
      generalize Q.take (h - i) = Q1 at *
      generalize Q[h - i] = z at *
      generalize Q.drop (h - i + 1) = Q2 at *
      have HRS : Hid (R = (R1 ++ Q1) ++ z :: (Q2 ++ R2)) := hid (by rw [HQ.out, HQ2.out]; simp only [List.append_assoc, List.cons_append])
      have gz : (A ++ x :: R ++ B)[h]? = some z := by
        have e : A ++ x :: R ++ B = (A ++ x :: (R1 ++ Q1)) ++ z :: (Q2 ++ R2 ++ B) := by rw [HRS.out]; simp only [List.append_assoc, List.cons_append]
        rw [e]
        refine at_len ?_
        have h1 := HI.out
        have h2 := HQL.out.1
        have h3 := HA.out
        have h4 := HMM.out
        simp only [List.length_append, List.length_cons]
        omega
      have gx : (A ++ x :: R ++ B)[a]? = some x := by
        rw [List.append_assoc, List.cons_append]
        exact at_len HA.out
      obtain ⟨x0, x1, x2, x3, -, -, -, -⟩ := hr.at gx
      obtain ⟨y0, y1, y2, y3, -, -, -, -⟩ := hr.at gz
      have hbz := hr.1
      have mkS : ∀ w', Below wr.heap.size wr w' → Below wr.heap.size wr w' ∧ w'.cell? ⟨b, h * 4, none⟩ = some (.int .i64 z.1.seq) ∧ w'.cell? ⟨b, h * 4 + 1, none⟩ = some (.int .i64 z.1.time) ∧ w'.cell? ⟨b, h * 4 + 2, none⟩ = some (.slice z.2.1 z.1.labs.length z.2.2) ∧ w'.cell? ⟨b, h * 4 + 3, none⟩ = some (.string ⟨z.1.line.toArray⟩) ∧ w'.cell? ⟨b, a * 4, none⟩ = some (.int .i64 x.1.seq) ∧ w'.cell? ⟨b, a * 4 + 1, none⟩ = some (.int .i64 x.1.time) ∧ w'.cell? ⟨b, a * 4 + 2, none⟩ = some (.slice x.2.1 x.1.labs.length x.2.2) ∧ w'.cell? ⟨b, a * 4 + 3, none⟩ = some (.string ⟨x.1.line.toArray⟩) := fun w' hh => ⟨hh, (hh.cell (p := ⟨b, h * 4, none⟩) hbz).trans y0, (hh.cell (p := ⟨b, h * 4 + 1, none⟩) hbz).trans y1, (hh.cell (p := ⟨b, h * 4 + 2, none⟩) hbz).trans y2, (hh.cell (p := ⟨b, h * 4 + 3, none⟩) hbz).trans y3, (hh.cell (p := ⟨b, a * 4, none⟩) hbz).trans x0, (hh.cell (p := ⟨b, a * 4 + 1, none⟩) hbz).trans x1, (hh.cell (p := ⟨b, a * 4 + 2, none⟩) hbz).trans x2, (hh.cell (p := ⟨b, a * 4 + 3, none⟩) hbz).trans x3⟩
      have hk := mkS wr.drew (Below.refl _ _).drew
      have HC2 := fun w1 => cmp_call z x w1
      have HRR := hid hr
      have hlz : Hid (ltE z x = decide (cmpE z.1 x.1 < 0)) := hid rfl
      clear x0 x1 x2 x3 y0 y1 y2 y3 gx gz hr hql
      generalize cmpE z.1 x.1 = cv at *
      subst hh0
      have z0 : (0 : Int) ≤ ((i : Int) + (j : Int)) / 2 := by omega
      have zl : ((i : Int) + (j : Int)) / 2 < (N : Int) := by omega
      have zn : (((i : Int) + (j : Int)) / 2).toNat = (i + j) / 2 := by omega
      clear zh
      have z2 : (a : Int) < (N : Int) := by omega
      by_cases hcv : cv < 0
      · have HZ : Hid (ltE z x = true) := hid (by rw [hlz.out]; exact decide_eq_true hcv)
        go_wp2_with fail
        go_region_held3 (fun w' => Below wr.heap.size wr w' ∧ w'.cell? ⟨b, ((i + j) / 2) * 4, none⟩ = some (.int .i64 z.1.seq) ∧ w'.cell? ⟨b, ((i + j) / 2) * 4 + 1, none⟩ = some (.int .i64 z.1.time) ∧ w'.cell? ⟨b, ((i + j) / 2) * 4 + 2, none⟩ = some (.slice z.2.1 z.1.labs.length z.2.2) ∧ w'.cell? ⟨b, ((i + j) / 2) * 4 + 3, none⟩ = some (.string ⟨z.1.line.toArray⟩) ∧ w'.cell? ⟨b, a * 4, none⟩ = some (.int .i64 x.1.seq) ∧ w'.cell? ⟨b, a * 4 + 1, none⟩ = some (.int .i64 x.1.time) ∧ w'.cell? ⟨b, a * 4 + 2, none⟩ = some (.slice x.2.1 x.1.labs.length x.2.2) ∧ w'.cell? ⟨b, a * 4 + 3, none⟩ = some (.string ⟨x.1.line.toArray⟩)) (exact hk)
          (first | (go_at_call 43; refine (HC2 _).mono ?_; rintro e w1 ⟨rfl, b1⟩; have hk := mkS _ (hk.1.trans (b1.mono hk.1.size))))
        have hw1 := hk.1
        clear hk mkS
        go_wp2_with fail
        go_roundw
        case rel =>
          refine ⟨(i + j) / 2 + 1, j, R1 ++ Q1 ++ [z], Q2, R2, by go_num, rfl, hid (by rw [HRS.out]; simp only [List.append_assoc, List.cons_append, List.nil_append]), hid ?_, hid ?_, by omega, hjc, hid ?_, H2, HRR.out.below hw1, World.grownBy.trans hg (below_grown hw1 _)⟩
          · have h1 := HI.out
            have h2 := HQL.out.1
            simp only [List.length_append, List.length_singleton]
            omega
          · have h2 := HQL.out.2
            omega
          · have hs := hS.out
            rw [HRS.out] at hs
            intro y hy
            rcases List.mem_append.1 hy with hy | hy
            · rcases List.mem_append.1 hy with hy | hy
              · exact H1.out y hy
              · have h1 := (SortedL.append_iff.1 hs).2.2 y (List.mem_append.2 (.inr hy)) z (List.mem_cons_self ..)
                rcases ltE_ord.neg z y x HZ.out with h5 | h5
                · rw [h1] at h5; cases h5
                · exact h5
            · obtain rfl := List.mem_singleton.1 hy
              exact HZ.out
        case measure => simp [intOf]; omega
      · have HZ : Hid (ltE z x = false) := hid (by rw [hlz.out]; exact decide_eq_false hcv)
        go_wp2_with fail
        go_region_held3 (fun w' => Below wr.heap.size wr w' ∧ w'.cell? ⟨b, ((i + j) / 2) * 4, none⟩ = some (.int .i64 z.1.seq) ∧ w'.cell? ⟨b, ((i + j) / 2) * 4 + 1, none⟩ = some (.int .i64 z.1.time) ∧ w'.cell? ⟨b, ((i + j) / 2) * 4 + 2, none⟩ = some (.slice z.2.1 z.1.labs.length z.2.2) ∧ w'.cell? ⟨b, ((i + j) / 2) * 4 + 3, none⟩ = some (.string ⟨z.1.line.toArray⟩) ∧ w'.cell? ⟨b, a * 4, none⟩ = some (.int .i64 x.1.seq) ∧ w'.cell? ⟨b, a * 4 + 1, none⟩ = some (.int .i64 x.1.time) ∧ w'.cell? ⟨b, a * 4 + 2, none⟩ = some (.slice x.2.1 x.1.labs.length x.2.2) ∧ w'.cell? ⟨b, a * 4 + 3, none⟩ = some (.string ⟨x.1.line.toArray⟩)) (exact hk)
          (first | (go_at_call 43; refine (HC2 _).mono ?_; rintro e w1 ⟨rfl, b1⟩; have hk := mkS _ (hk.1.trans (b1.mono hk.1.size))))
        have hw1 := hk.1
        clear hk mkS
        go_wp2_with fail
        go_roundw
        case rel =>
          refine ⟨i, (i + j) / 2, R1, Q1, z :: Q2 ++ R2, rfl, by go_num, hid (by rw [HRS.out]; simp only [List.append_assoc, List.cons_append]), HI, hid ?_, by omega, by omega, H1, hid ?_, HRR.out.below hw1, World.grownBy.trans hg (below_grown hw1 _)⟩
          · have h2 := HQL.out.1
            omega
          · have hs := hS.out
            rw [HRS.out] at hs
            intro y hy
            have hy' : y = z ∨ y ∈ Q2 ∨ y ∈ R2 := by simpa [or_assoc] using hy
            rcases hy' with rfl | hy | hy
            · exact HZ.out
            · have h1 := (List.pairwise_cons.1 (SortedL.append_iff.1 hs).2.1).1 y (List.mem_append.2 (.inl hy))
              cases e : ltE y x with
              | false => rfl
              | true =>
                rcases ltE_ord.neg y z x e with h5 | h5
                · rw [h1] at h5; cases h5
                · rw [HZ.out] at h5; cases h5
            · exact H2.out y hy
        case measure => simp [intOf]; omega
    · have hn : ¬ (i : Int) < (j : Int) := by omega
      have hq0 : Q = [] := List.eq_nil_of_length_eq_zero (by have := HJ.out; omega)
      have HRS : Hid (R = R1 ++ R2) := hid (by rw [HQ.out, hq0]; simp)
      have hi2 : i = a + 1 + R1.length := by have := HI.out; have := HMM.out; omega
      have HI2 := hid hi2
      have hiN : i ≤ N := by omega
      have hi1 : 1 ≤ i := by omega
      clear hq0 HQ HJ hi2
      go_wp2
      generalize wr = wo at *
      go_loopw [13] (fun kv wi => ∃ (k t : Nat), kv = .int .i64 (k : Int) ∧ Hid (k = a + t) ∧ Hid (t ≤ R1.length) ∧ k + 1 ≤ i ∧ RowE wi b (A ++ R1.take t ++ x :: R1.drop t ++ R2 ++ B) ∧ w.grownBy wi (some b)) (fun kv _ => i - (intOf kv).toNat)
      case atStart => exact ⟨a, 0, rfl, hid (by omega), hid (by omega), by have := HI2.out; omega, by rw [HRS.out] at hr; simpa using hr, hg⟩
      case round =>
        obtain ⟨k, t, rfl, HK, HT, hki, hr3, hg3⟩ := hrel
        generalize wr = wi at *
        by_cases hlt2 : k + 1 < i
        · have hlt2' : (k : Int) < (i : Int) - 1 := by omega
          have ht : t < R1.length := by have := HK.out; have := HI2.out; omega
          have e1 : A ++ R1.take t ++ x :: R1.drop t ++ R2 ++ B = (A ++ R1.take t) ++ x :: R1[t] :: (R1.drop (t + 1) ++ R2 ++ B) := by
            rw [List.drop_eq_getElem_cons ht]
            simp only [List.append_assoc, List.cons_append]
          have e2 : (A ++ R1.take t) ++ R1[t] :: x :: (R1.drop (t + 1) ++ R2 ++ B) = A ++ R1.take (t + 1) ++ x :: R1.drop (t + 1) ++ R2 ++ B := by
            rw [List.take_succ_eq_append_getElem ht]
            simp only [List.append_assoc, List.cons_append, List.nil_append]
          have hpl : k = (A ++ R1.take t).length := by
            have h1 := HK.out
            have h2 := HA.out
            rw [List.length_append, List.length_take]
            omega
          rw [e1] at hr3
          have HS2 := hid (set_two2 (A ++ R1.take t) (R1.drop (t + 1) ++ R2 ++ B) x R1[t])
          rw [← hpl, e2] at HS2
          have gx : ((A ++ R1.take t) ++ x :: R1[t] :: (R1.drop (t + 1) ++ R2 ++ B))[k]? = some x := at_len hpl
          have gy : ((A ++ R1.take t) ++ x :: R1[t] :: (R1.drop (t + 1) ++ R2 ++ B))[k + 1]? = some R1[t] := by
            have e3 : (A ++ R1.take t) ++ x :: R1[t] :: (R1.drop (t + 1) ++ R2 ++ B) = ((A ++ R1.take t) ++ [x]) ++ R1[t] :: (R1.drop (t + 1) ++ R2 ++ B) := by simp only [List.append_assoc, List.cons_append, List.nil_append]
            rw [e3]
            exact at_len (by rw [List.length_append, ← hpl, List.length_singleton])
          have HT2 := hid ht
          generalize R1[t] = y at *
          clear e1 e2 hpl ht
          obtain ⟨x0, x1, x2, x3, xf0, xf1, xf2, xf3⟩ := hr3.at gx
          obtain ⟨y0, y1, y2, y3, yf0, yf1, yf2, yf3⟩ := hr3.at gy
          have hlk : Hid (k < _ ∧ k + 1 < _) := hid ⟨(List.getElem?_eq_some_iff.1 gx).1, (List.getElem?_eq_some_iff.1 gy).1⟩
          have HR3 := hid hr3
          clear gx gy hr3
          have zk : IntKind.i64.wrap ((k : Int) + 1) = (k : Int) + 1 := by rw [IntKind.wrap_i64]; omega
          have zkn : ((k : Int) + 1).toNat = k + 1 := by omega
          have zk0 : (0 : Int) ≤ (k : Int) + 1 := by omega
          have zkl : (k : Int) + 1 < (N : Int) := by omega
          have zkl2 : (k : Int) < (N : Int) := by omega
          go_wp2_with fail
          go_region
          go_wp2_with fail
          go_roundw
          case rel =>
            have P := (HR3.out.put k hlk.out.1 y).put (k + 1) (by rw [List.length_set]; exact hlk.out.2) x
            rw [HS2.out] at P
            exact ⟨k + 1, t + 1, by go_num, hid (by have := HK.out; omega), hid (by have := HT2.out; omega), by omega, row_drew P, World.grownBy.trans hg3 (World.grownBy.trans (World.grownBy.trans (put_grown _ b _ _ _ _ _ _ _ _) (put_grown _ b _ _ _ _ _ _ _ _)) (grown_drew1 _ _))⟩
          case measure => simp [intOf]; omega
        · have hlt2' : ¬ (k : Int) < (i : Int) - 1 := by omega
          have ht : t = R1.length := by have := HK.out; have := HI2.out; have := HT.out; omega
          rw [ht, List.take_length, List.drop_length] at hr3
          have HR4 : Hid (RowE wi b (A ++ (R1 ++ x :: R2) ++ B)) := hid (by simpa only [List.append_assoc, List.cons_append, List.nil_append] using hr3)
          have hs := hS.out
          rw [HRS.out] at hs
          have HF := hid (StableOf.first ltE_ord hs H1.out H2.out)
          clear hr3 hs ht HT
          go_wp2
          refine bodyPost_ret (results_none rfl _ _ _) rfl ?_
          exact ⟨rfl, ⟨R1 ++ x :: R2, by have h9 := HR4.out; simpa only [List.append_assoc, List.cons_append] using h9, by rw [HRS.out]; exact HF.out⟩, hg3⟩
end Go.Proofs.YtaoeabnpmpimgaaDoor
end
section
namespace Go.Proofs.YtaoeabnpmpimgaaDoor
open Go.RowKit Go.Icz
set_option maxHeartbeats 2000000 in
set_option maxRecDepth 100000 in
theorem symMerge_last (b cap N a m c : Nat) (A L : List EV) (y : EV) (B : List EV) (w : World) (hN : A.length + L.length + 1 + B.length = N) (hR : RowE w b (A ++ L ++ y :: B)) (ha : a = A.length) (hm : m = a + L.length) (hc : c = m + 1) (hL : 2 ≤ L.length) (hS : SortedL ltE L) (hlen : N ≤ 1152921504606846976) :
    Calls Tryd.prog 68 #[.slice (some ⟨b, 0, none⟩) N cap, .int .i64 a, .int .i64 m, .int .i64 c, cmpF 43] w fun e w' => e = .returned (.tuple #[]) ∧ (∃ M, RowE w' b (A ++ M ++ B) ∧ StableOf ltE (L ++ [y]) M) ∧ w.grownBy w' (some b) := by
  have HN := hid hN
  have HA := hid ha
  have HMM := hid hm
  have hcN : c ≤ N := by omega
  have ham : a + 2 ≤ m := by omega
  have hma : ((m : Int) - (a : Int) == 1) = false := by simp; omega
  have hcm : (c : Int) - (m : Int) = 1 := by omega
  have hmN : m < N := by omega
  have hS := hid hS
  clear hN ha hc hm hL
  unfold cmpF
  go_enter Tryd.func68, Tryd.ntmps68
  go_wp2
  go_loopw [14, 15] (fun iv jv wr => ∃ (i j : Nat) (L1 Q L2 : List EV), iv = .int .i64 (i : Int) ∧ jv = .int .i64 (j : Int) ∧ Hid (L = L1 ++ Q ++ L2) ∧ Hid (i = a + L1.length) ∧ Hid (j = i + Q.length) ∧ i ≤ j ∧ j ≤ m ∧ Hid (∀ z ∈ L1, ltE y z = false) ∧ Hid (∀ z ∈ L2, ltE y z = true) ∧ RowE wr b (A ++ L ++ y :: B) ∧ w.grownBy wr (some b)) (fun iv jv _ => (intOf jv).toNat - (intOf iv).toNat)
  case atStart => exact ⟨a, m, [], L, [], rfl, rfl, hid (by simp), hid (by simp), hid (by rw [HMM.out]), by omega, by omega, hid (by simp), hid (by simp), hR, World.grownBy.refl _ _⟩
  case round =>
    obtain ⟨i, j, L1, Q, L2, rfl, rfl, HQ, HI, HJ, hij, hjm, H1, H2, hr, hg⟩ := hrel
    by_cases hlt : i < j
    · have hlt' : (i : Int) < (j : Int) := by omega
      obtain ⟨h, hh0⟩ : ∃ h, h = (i + j) / 2 := ⟨_, rfl⟩
      have hih : i ≤ h := by omega
      have hhj : h < j := by omega
      have hhN : h < N := by omega
      have hql : h - i < Q.length := by have := HJ.out; omega
      have HQ2 : Hid (Q = Q.take (h - i) ++ Q[h - i] :: Q.drop (h - i + 1)) := hid (by rw [← List.drop_eq_getElem_cons hql, List.take_append_drop])
      have HQL : Hid ((Q.take (h - i)).length = h - i ∧ (Q.drop (h - i + 1)).length = j - h - 1) := hid ⟨by rw [List.length_take]; omega, by rw [List.length_drop]; have := HJ.out; omega⟩
      generalize Q.take (h - i) = Q1 at *
      generalize Q[h - i] = z at *
      generalize Q.drop (h - i + 1) = Q2 at *
      have HRS : Hid (L = (L1 ++ Q1) ++ z :: (Q2 ++ L2)) := hid (by rw [HQ.out, HQ2.out]; simp only [List.append_assoc, List.cons_append])
      have gz : (A ++ L ++ y :: B)[h]? = some z := by
        have e : A ++ L ++ y :: B = (A ++ (L1 ++ Q1)) ++ z :: (Q2 ++ L2 ++ y :: B) := by rw [HRS.out]; simp only [List.append_assoc, List.cons_append]
        rw [e]
        refine at_len ?_
        have h1 := HI.out
        have h2 := HQL.out.1
        have h3 := HA.out
        simp only [List.length_append]
        omega
      have gy : (A ++ L ++ y :: B)[m]? = some y := at_len (by have h3 := HA.out; have h4 := HMM.out; rw [List.length_append]; omega)
      obtain ⟨x0, x1, x2, x3, -, -, -, -⟩ := hr.at gz
      obtain ⟨y0, y1, y2, y3, -, -, -, -⟩ := hr.at gy
      have hbz := hr.1
      have mkS : ∀ w', Below wr.heap.size wr w' → Below wr.heap.size wr w' ∧ w'.cell? ⟨b, h * 4, none⟩ = some (.int .i64 z.1.seq) ∧ w'.cell? ⟨b, h * 4 + 1, none⟩ = some (.int .i64 z.1.time) ∧ w'.cell? ⟨b, h * 4 + 2, none⟩ = some (.slice z.2.1 z.1.labs.length z.2.2) ∧ w'.cell? ⟨b, h * 4 + 3, none⟩ = some (.string ⟨z.1.line.toArray⟩) ∧ w'.cell? ⟨b, m * 4, none⟩ = some (.int .i64 y.1.seq) ∧ w'.cell? ⟨b, m * 4 + 1, none⟩ = some (.int .i64 y.1.time) ∧ w'.cell? ⟨b, m * 4 + 2, none⟩ = some (.slice y.2.1 y.1.labs.length y.2.2) ∧ w'.cell? ⟨b, m * 4 + 3, none⟩ = some (.string ⟨y.1.line.toArray⟩) := fun w' hh => ⟨hh, (hh.cell (p := ⟨b, h * 4, none⟩) hbz).trans x0, (hh.cell (p := ⟨b, h * 4 + 1, none⟩) hbz).trans x1, (hh.cell (p := ⟨b, h * 4 + 2, none⟩) hbz).trans x2, (hh.cell (p := ⟨b, h * 4 + 3, none⟩) hbz).trans x3, (hh.cell (p := ⟨b, m * 4, none⟩) hbz).trans y0, (hh.cell (p := ⟨b, m * 4 + 1, none⟩) hbz).trans y1, (hh.cell (p := ⟨b, m * 4 + 2, none⟩) hbz).trans y2, (hh.cell (p := ⟨b, m * 4 + 3, none⟩) hbz).trans y3⟩
      have hk := mkS wr.drew (Below.refl _ _).drew
      have HC2 := fun w1 => cmp_call y z w1
      have HRR := hid hr
      have hlz : Hid (ltE y z = decide (cmpE y.1 z.1 < 0)) := hid rfl
      clear x0 x1 x2 x3 y0 y1 y2 y3 gy gz hr hql
      generalize cmpE y.1 z.1 = cv at *
      subst hh0
      have z0 : (0 : Int) ≤ ((i : Int) + (j : Int)) / 2 := by omega
      have zl : ((i : Int) + (j : Int)) / 2 < (N : Int) := by omega
      have zn : (((i : Int) + (j : Int)) / 2).toNat = (i + j) / 2 := by omega
      have z2 : (m : Int) < (N : Int) := by omega
      by_cases hcv : cv < 0
      · have HZ : Hid (ltE y z = true) := hid (by rw [hlz.out]; exact decide_eq_true hcv)
        have hcd : decide (cv < 0) = true := decide_eq_true hcv
        go_wp2_with fail
        go_region_held3 (fun w' => Below wr.heap.size wr w' ∧ w'.cell? ⟨b, ((i + j) / 2) * 4, none⟩ = some (.int .i64 z.1.seq) ∧ w'.cell? ⟨b, ((i + j) / 2) * 4 + 1, none⟩ = some (.int .i64 z.1.time) ∧ w'.cell? ⟨b, ((i + j) / 2) * 4 + 2, none⟩ = some (.slice z.2.1 z.1.labs.length z.2.2) ∧ w'.cell? ⟨b, ((i + j) / 2) * 4 + 3, none⟩ = some (.string ⟨z.1.line.toArray⟩) ∧ w'.cell? ⟨b, m * 4, none⟩ = some (.int .i64 y.1.seq) ∧ w'.cell? ⟨b, m * 4 + 1, none⟩ = some (.int .i64 y.1.time) ∧ w'.cell? ⟨b, m * 4 + 2, none⟩ = some (.slice y.2.1 y.1.labs.length y.2.2) ∧ w'.cell? ⟨b, m * 4 + 3, none⟩ = some (.string ⟨y.1.line.toArray⟩)) (exact hk)
          (first | (go_at_call 43; refine (HC2 _).mono ?_; rintro e w1 ⟨rfl, b1⟩; have hk := mkS _ (hk.1.trans (b1.mono hk.1.size))))
        have hw1 := hk.1
        clear hk mkS
        go_wp2_with fail
        go_roundw
        case rel =>
          refine ⟨i, (i + j) / 2, L1, Q1, z :: Q2 ++ L2, rfl, by go_num, hid (by rw [HRS.out]; simp only [List.append_assoc, List.cons_append]), HI, hid ?_, by omega, by omega, H1, hid ?_, HRR.out.below hw1, World.grownBy.trans hg (below_grown hw1 _)⟩
          · have h2 := HQL.out.1
            omega
          · have hs := hS.out
            rw [HRS.out] at hs
            intro q hq
            have hq' : q = z ∨ q ∈ Q2 ∨ q ∈ L2 := by simpa [or_assoc] using hq
            rcases hq' with rfl | hq | hq
            · exact HZ.out
            · have h1 := (List.pairwise_cons.1 (SortedL.append_iff.1 hs).2.1).1 q (List.mem_append.2 (.inl hq))
              rcases ltE_ord.neg y q z HZ.out with h5 | h5
              · exact h5
              · rw [h1] at h5; cases h5
            · exact H2.out q hq
        case measure => simp [intOf]; omega
      · have HZ : Hid (ltE y z = false) := hid (by rw [hlz.out]; exact decide_eq_false hcv)
        have hcd : decide (cv < 0) = false := decide_eq_false hcv
        go_wp2_with fail
        go_region_held3 (fun w' => Below wr.heap.size wr w' ∧ w'.cell? ⟨b, ((i + j) / 2) * 4, none⟩ = some (.int .i64 z.1.seq) ∧ w'.cell? ⟨b, ((i + j) / 2) * 4 + 1, none⟩ = some (.int .i64 z.1.time) ∧ w'.cell? ⟨b, ((i + j) / 2) * 4 + 2, none⟩ = some (.slice z.2.1 z.1.labs.length z.2.2) ∧ w'.cell? ⟨b, ((i + j) / 2) * 4 + 3, none⟩ = some (.string ⟨z.1.line.toArray⟩) ∧ w'.cell? ⟨b, m * 4, none⟩ = some (.int .i64 y.1.seq) ∧ w'.cell? ⟨b, m * 4 + 1, none⟩ = some (.int .i64 y.1.time) ∧ w'.cell? ⟨b, m * 4 + 2, none⟩ = some (.slice y.2.1 y.1.labs.length y.2.2) ∧ w'.cell? ⟨b, m * 4 + 3, none⟩ = some (.string ⟨y.1.line.toArray⟩)) (exact hk)
          (first | (go_at_call 43; refine (HC2 _).mono ?_; rintro e w1 ⟨rfl, b1⟩; have hk := mkS _ (hk.1.trans (b1.mono hk.1.size))))
        have hw1 := hk.1
        clear hk mkS
        go_wp2_with fail
        go_roundw
        case rel =>
          refine ⟨(i + j) / 2 + 1, j, L1 ++ Q1 ++ [z], Q2, L2, by go_num, rfl, hid (by rw [HRS.out]; simp only [List.append_assoc, List.cons_append, List.nil_append]), hid ?_, hid ?_, by omega, hjm, hid ?_, H2, HRR.out.below hw1, World.grownBy.trans hg (below_grown hw1 _)⟩
          · have h1 := HI.out
            have h2 := HQL.out.1
            simp only [List.length_append, List.length_singleton]
            omega
          · have h2 := HQL.out.2
            omega
          · have hs := hS.out
            rw [HRS.out] at hs
            intro q hq
            rcases List.mem_append.1 hq with hq | hq
            · rcases List.mem_append.1 hq with hq | hq
              · exact H1.out q hq
              · exact SWOrd.le_trans ltE_ord ((SortedL.append_iff.1 hs).2.2 q (List.mem_append.2 (.inr hq)) z (List.mem_cons_self ..)) HZ.out
            · obtain rfl := List.mem_singleton.1 hq
              exact HZ.out
        case measure => simp [intOf]; omega
    · have hn : ¬ (i : Int) < (j : Int) := by omega
      have hq0 : Q = [] := List.eq_nil_of_length_eq_zero (by have := HJ.out; omega)
      have HRS : Hid (L = L1 ++ L2) := hid (by rw [HQ.out, hq0]; simp)
      have HI2 : Hid (i = a + L1.length) := HI
      have HML : Hid (m = i + L2.length) := hid (by have h1 := HMM.out; have h2 := HRS.out; have h3 := HI.out; rw [h2, List.length_append] at h1; omega)
      have hiN : i ≤ m := by have := HML.out; omega
      clear hq0 HQ HJ
      go_wp2
      generalize wr = wo at *
      go_loopw [17] (fun kv wi => ∃ (k s : Nat), kv = .int .i64 (k : Int) ∧ Hid (k = i + s) ∧ Hid (s ≤ L2.length) ∧ i ≤ k ∧ k ≤ m ∧ RowE wi b (A ++ L1 ++ L2.take s ++ y :: L2.drop s ++ B) ∧ w.grownBy wi (some b)) (fun kv _ => (intOf kv).toNat)
      case atStart => exact ⟨m, L2.length, rfl, HML, hid (Nat.le_refl _), hiN, Nat.le_refl _, by rw [HRS.out] at hr; simpa using hr, hg⟩
      case round =>
        obtain ⟨k, s, rfl, HK, HT, hki, hkm, hr3, hg3⟩ := hrel
        generalize wr = wi at *
        by_cases hlt2 : i < k
        · obtain ⟨jp, hjp⟩ : ∃ jp, k = jp + 1 := ⟨k - 1, by omega⟩
          obtain ⟨s', hs'⟩ : ∃ s', s = s' + 1 := ⟨s - 1, by have := HK.out; omega⟩
          subst hjp hs'
          have ht : s' < L2.length := by have := HT.out; omega
          have e1 : A ++ L1 ++ L2.take (s' + 1) ++ y :: L2.drop (s' + 1) ++ B = (A ++ L1 ++ L2.take s') ++ L2[s'] :: y :: (L2.drop (s' + 1) ++ B) := by
            rw [List.take_succ_eq_append_getElem ht]
            simp only [List.append_assoc, List.cons_append, List.nil_append]
          have e2 : (A ++ L1 ++ L2.take s') ++ y :: L2[s'] :: (L2.drop (s' + 1) ++ B) = A ++ L1 ++ L2.take s' ++ y :: L2.drop s' ++ B := by
            rw [List.drop_eq_getElem_cons ht]
            simp only [List.append_assoc, List.cons_append]
          have hpl : jp = (A ++ L1 ++ L2.take s').length := by
            have h1 := HK.out
            have h2 := HA.out
            have h3 := HI2.out
            rw [List.length_append, List.length_append, List.length_take]
            omega
          rw [e1] at hr3
          have HS2 := hid (set_two (A ++ L1 ++ L2.take s') (L2.drop (s' + 1) ++ B) y L2[s'])
          rw [← hpl, e2] at HS2
          have gx : ((A ++ L1 ++ L2.take s') ++ L2[s'] :: y :: (L2.drop (s' + 1) ++ B))[jp]? = some L2[s'] := at_len hpl
          have gy : ((A ++ L1 ++ L2.take s') ++ L2[s'] :: y :: (L2.drop (s' + 1) ++ B))[jp + 1]? = some y := by
            have e3 : (A ++ L1 ++ L2.take s') ++ L2[s'] :: y :: (L2.drop (s' + 1) ++ B) = ((A ++ L1 ++ L2.take s') ++ [L2[s']]) ++ y :: (L2.drop (s' + 1) ++ B) := by simp only [List.append_assoc, List.cons_append, List.nil_append]
            rw [e3]
            exact at_len (by rw [List.length_append, ← hpl, List.length_singleton])
          generalize L2[s'] = z at *
          have HT2 := hid ht
          clear e1 e2 hpl ht
          obtain ⟨x0, x1, x2, x3, xf0, xf1, xf2, xf3⟩ := hr3.at gx
          obtain ⟨y0, y1, y2, y3, yf0, yf1, yf2, yf3⟩ := hr3.at gy
          have hlk : Hid (jp < _ ∧ jp + 1 < _) := hid ⟨(List.getElem?_eq_some_iff.1 gx).1, (List.getElem?_eq_some_iff.1 gy).1⟩
          have HR3 := hid hr3
          clear gx gy hr3
          have hik : (i : Int) < (jp : Int) + 1 := by omega
          have zj : IntKind.i64.wrap (jp : Int) = (jp : Int) := by rw [IntKind.wrap_i64]; omega
          have zj0 : (0 : Int) ≤ (jp : Int) + 1 := by omega
          have zjl : (jp : Int) + 1 < (N : Int) := by omega
          have zjl2 : (jp : Int) < (N : Int) := by omega
          have zjn : ((jp : Int) + 1).toNat = jp + 1 := by omega
          go_wp2_with fail
          go_region
          go_wp2_with fail
          go_roundw
          case rel =>
            have P := (HR3.out.put (jp + 1) hlk.out.2 z).put jp (by rw [List.length_set]; exact hlk.out.1) y
            rw [HS2.out] at P
            exact ⟨jp, s', rfl, hid (by have := HK.out; omega), hid (by have := HT2.out; omega), by omega, by omega, row_drew P, World.grownBy.trans hg3 (World.grownBy.trans (World.grownBy.trans (put_grown _ b _ _ _ _ _ _ _ _) (put_grown _ b _ _ _ _ _ _ _ _)) (grown_drew1 _ _))⟩
          case measure => simp [intOf]
        · have hlt2' : ¬ (i : Int) < (k : Int) := by omega
          have ht : s = 0 := by have := HK.out; omega
          rw [ht, List.take_zero, List.drop_zero, List.append_nil] at hr3
          have HR4 : Hid (RowE wi b (A ++ (L1 ++ y :: L2) ++ B)) := hid (by simpa only [List.append_assoc, List.cons_append, List.nil_append] using hr3)
          have hs := hS.out
          rw [HRS.out] at hs
          have HF := hid (StableOf.last ltE_ord hs H1.out H2.out)
          clear hr3 hs ht HT
          go_wp2
          refine bodyPost_ret (results_none rfl _ _ _) rfl ?_
          exact ⟨rfl, ⟨L1 ++ y :: L2, by have h9 := HR4.out; simpa only [List.append_assoc, List.cons_append] using h9, by rw [HRS.out]; exact HF.out⟩, hg3⟩
end Go.Proofs.YtaoeabnpmpimgaaDoor
end
section
namespace Go.Icz
open Go.RowKit
theorem sorted_at {l : List EV} (h : SortedL ltE l) {i j : Nat} {x y : EV} (hi : l[i]? = some x) (hj : l[j]? = some y) (hij : i ≤ j) : ltE y x = false := by
  rcases Nat.lt_or_ge i j with hlt | hge
  · obtain ⟨h1, e1⟩ := List.getElem?_eq_some_iff.1 hi
    obtain ⟨h2, e2⟩ := List.getElem?_eq_some_iff.1 hj
    have := List.pairwise_iff_getElem.1 h i j h1 h2 hlt
    rw [e1, e2] at this
    exact this
  · obtain rfl : i = j := by omega
    rw [hi] at hj
    injection hj with e
    subst e
    exact ltE_ord.irr _
/-- What the search knows at place u: below it no, from it on yes. -/
theorem cut_halves {L R : List EV} (hL : SortedL ltE L) (hR : SortedL ltE R) {h u lo hi : Nat} (h1 : lo ≤ u) (h2 : u ≤ hi) (h3 : hi ≤ L.length) (h4 : hi ≤ h) (h5 : h ≤ lo + R.length)
    (hlo : u = lo → lo = 0 ∨ h - lo = R.length) (hhi : u = hi → hi = L.length ∨ hi = h)
    (n : ∀ k x y, lo ≤ k → k < u → L[k]? = some x → R[h - 1 - k]? = some y → ltE y x = false)
    (p : ∀ k x y, u ≤ k → k < hi → L[k]? = some x → R[h - 1 - k]? = some y → ltE y x = true) :
    (∀ y ∈ R.take (h - u), ∀ x ∈ L.drop u, ltE y x = true) ∧ (∀ x ∈ L.take u, ∀ y ∈ R.drop (h - u), ltE y x = false) := by
  constructor
  · intro y hy x hx
    obtain ⟨i, hi0, ei⟩ := List.mem_iff_getElem.1 hy
    obtain ⟨j, hj0, ej⟩ := List.mem_iff_getElem.1 hx
    rw [List.length_take] at hi0
    rw [List.length_drop] at hj0
    rw [List.getElem_take] at ei
    rw [List.getElem_drop] at ej
    have hu : u < hi := by
      rcases Nat.lt_or_ge u hi with h6 | h6
      · exact h6
      · have := hhi (by omega)
        omega
    have gL : L[u]? = some L[u] := List.getElem?_eq_getElem (by omega)
    have gR : R[h - 1 - u]? = some R[h - 1 - u] := List.getElem?_eq_getElem (by omega)
    have key := p u _ _ (Nat.le_refl _) hu gL gR
    have a1 := sorted_at hR (i := i) (j := h - 1 - u) (by rw [List.getElem?_eq_getElem (by omega), ei]) gR (by omega)
    have a2 := sorted_at hL (i := u) (j := u + j) gL (by rw [List.getElem?_eq_getElem (by omega), ej]) (by omega)
    rcases ltE_ord.neg _ y _ key with h6 | h6
    · rw [a1] at h6; cases h6
    · rcases ltE_ord.neg _ x _ h6 with h7 | h7
      · exact h7
      · rw [a2] at h7; cases h7
  · intro x hx y hy
    obtain ⟨j, hj0, ej⟩ := List.mem_iff_getElem.1 hx
    obtain ⟨i, hi0, ei⟩ := List.mem_iff_getElem.1 hy
    rw [List.length_take] at hj0
    rw [List.length_drop] at hi0
    rw [List.getElem_take] at ej
    rw [List.getElem_drop] at ei
    have hu : lo < u := by
      rcases Nat.lt_or_ge lo u with h6 | h6
      · exact h6
      · have := hlo (by omega)
        omega
    have gL : L[u - 1]? = some L[u - 1] := List.getElem?_eq_getElem (by omega)
    have gR : R[h - 1 - (u - 1)]? = some R[h - 1 - (u - 1)] := List.getElem?_eq_getElem (by omega)
    have key := n (u - 1) _ _ (by omega) (by omega) gL gR
    have a1 := sorted_at hR (i := h - 1 - (u - 1)) (j := h - u + i) gR (by rw [List.getElem?_eq_getElem (by omega), ei]) (by omega)
    have a2 := sorted_at hL (i := j) (j := u - 1) (by rw [List.getElem?_eq_getElem (by omega), ej]) gL (by omega)
    exact SWOrd.le_trans ltE_ord a2 (SWOrd.le_trans ltE_ord key a1)
/-- One question of the search answers for all on its side. -/
theorem cut_no {L R : List EV} (hL : SortedL ltE L) (hR : SortedL ltE R) {h c : Nat} {x y : EV} (gx : L[c]? = some x) (gy : R[h - 1 - c]? = some y) (hn : ltE y x = false) (hc : c < h) :
    ∀ k x' y', k ≤ c → L[k]? = some x' → R[h - 1 - k]? = some y' → ltE y' x' = false := fun k x' y' hk g1 g2 =>
  SWOrd.le_trans ltE_ord (sorted_at hL g1 gx hk) (SWOrd.le_trans ltE_ord hn (sorted_at hR gy g2 (by omega)))
theorem cut_yes {L R : List EV} (hL : SortedL ltE L) (hR : SortedL ltE R) {h c : Nat} {x y : EV} (gx : L[c]? = some x) (gy : R[h - 1 - c]? = some y) (hp : ltE y x = true) :
    ∀ k x' y', c ≤ k → L[k]? = some x' → R[h - 1 - k]? = some y' → ltE y' x' = true := fun k x' y' hk g1 g2 => by
  have a1 := sorted_at hR g2 gy (by omega)
  have a2 := sorted_at hL gx g1 hk
  rcases ltE_ord.neg _ y' _ hp with h6 | h6
  · rw [a1] at h6; cases h6
  · rcases ltE_ord.neg _ x' _ h6 with h7 | h7
    · exact h7
    · rw [a2] at h7; cases h7
end Go.Icz
namespace Go.Proofs.YtaoeabnpmpimgaaDoor
open Go.RowKit Go.Icz
/-- What symMerge does, of lists of so many elements together. -/
def SymAll (n : Nat) : Prop := ∀ (b cap N a m c : Nat) (A L R B : List EV) (w : World), L.length + R.length ≤ n → A.length + L.length + R.length + B.length = N → RowE w b (A ++ L ++ R ++ B) → a = A.length → m = a + L.length → c = m + R.length → 0 < L.length → 0 < R.length → SortedL ltE L → SortedL ltE R → N ≤ 1152921504606846976 →
  Calls Tryd.prog 68 #[.slice (some ⟨b, 0, none⟩) N cap, .int .i64 a, .int .i64 m, .int .i64 c, cmpF 43] w fun e w' => e = .returned (.tuple #[]) ∧ (∃ M, RowE w' b (A ++ M ++ B) ∧ StableOf ltE (L ++ R) M) ∧ w.grownBy w' (some b)
end Go.Proofs.YtaoeabnpmpimgaaDoor
end
section
namespace Go.Proofs.YtaoeabnpmpimgaaDoor
open Go.RowKit Go.Icz
theorem filter_swap {α : Type} (p q : α → Bool) (m : List α) : (m.filter q).filter p = (m.filter p).filter q := by
  rw [List.filter_filter, List.filter_filter]
  congr 1
  funext y
  exact Bool.and_comm _ _
theorem filter_parts {α : Type} (p : α → Bool) : ∀ m : List α, m.length = (m.filter p).length + (m.filter (fun y => !p y)).length
  | [] => rfl
  | b :: t => by
    have := filter_parts p t
    simp only [List.filter_cons, List.length_cons]
    cases p b <;> simp <;> omega
theorem same_length {α : Type} {lt : α → α → Bool} (hS : SWOrd lt) : ∀ (n : Nat) (l r : List α), l.length ≤ n → (∀ x, r.filter (eqv lt x) = l.filter (eqv lt x)) → r.length = l.length
  | _, [], [], _, _ => rfl
  | _, [], b :: t, _, h => by
    have := mem_of_filter hS h (List.mem_cons_self (a := b) (l := t))
    cases this
  | 0, a :: t, _, hl, _ => by simp at hl
  | n + 1, a :: t, r, hl, h => by
    have k1 := filter_parts (eqv lt a) (a :: t)
    have k2 := filter_parts (eqv lt a) r
    have k3 : 0 < ((a :: t).filter (eqv lt a)).length := List.length_pos_of_mem (List.mem_filter.2 ⟨List.mem_cons_self, eqv_iff.2 ⟨hS.irr a, hS.irr a⟩⟩)
    have k4 := same_length hS n ((a :: t).filter (fun y => !eqv lt a y)) (r.filter (fun y => !eqv lt a y)) (by omega) (fun x => by rw [filter_swap, h x, filter_swap])
    have k5 := congrArg List.length (h a)
    omega
theorem StableOf.length {α : Type} {lt : α → α → Bool} (hS : SWOrd lt) {l r : List α} (h : StableOf lt l r) : r.length = l.length :=
  same_length hS l.length l r (Nat.le_refl _) h.2
end Go.Proofs.YtaoeabnpmpimgaaDoor
end
section
namespace Go.Icz
section
variable {α : Type} {lt : α → α → Bool}
/-- Full blocks of k. -/
inductive SBF (lt : α → α → Bool) (k : Nat) : List α → List α → Prop
  | nil : SBF lt k [] []
  | cons {x r X R : List α} : x.length = k → r.length = k → StableOf lt x r → SBF lt k X R → SBF lt k (x ++ X) (r ++ R)
/-- Full blocks of k, and a last one of at most k. -/
def SB (lt : α → α → Bool) (k : Nat) (X R : List α) : Prop := ∃ X1 X2 R1 R2, X = X1 ++ X2 ∧ R = R1 ++ R2 ∧ SBF lt k X1 R1 ∧ StableOf lt X2 R2 ∧ X2.length ≤ k ∧ R2.length = X2.length
theorem SBF.snoc {k : Nat} {X R x r : List α} (h : SBF lt k X R) (h1 : x.length = k) (h2 : r.length = k) (h3 : StableOf lt x r) : SBF lt k (X ++ x) (R ++ r) := by
  induction h with
  | nil => simpa using SBF.cons h1 h2 h3 SBF.nil
  | cons a b c _ ih => rw [List.append_assoc, List.append_assoc]; exact SBF.cons a b c ih
theorem SBF.length {k : Nat} {X R : List α} (h : SBF lt k X R) : R.length = X.length := by
  induction h with
  | nil => rfl
  | cons a b _ _ ih => rw [List.length_append, List.length_append, a, b, ih]
theorem SB.length {k : Nat} {X R : List α} (h : SB lt k X R) : R.length = X.length := by
  obtain ⟨X1, X2, R1, R2, rfl, rfl, h1, _, _, h2⟩ := h
  rw [List.length_append, List.length_append, h1.length, h2]
theorem SB.nil (k : Nat) : SB lt k [] [] := ⟨[], [], [], [], rfl, rfl, .nil, ⟨.nil, fun _ => rfl⟩, Nat.zero_le _, rfl⟩
/-- The first block. -/
theorem SB.peel {k : Nat} {X R : List α} (h : SB lt k X R) (hk : k ≤ X.length) (h0 : 0 < k) : ∃ x r X' R', X = x ++ X' ∧ R = r ++ R' ∧ x.length = k ∧ r.length = k ∧ StableOf lt x r ∧ SB lt k X' R' := by
  obtain ⟨X1, X2, R1, R2, rfl, rfl, h1, h2, h3, h4⟩ := h
  cases h1 with
  | nil =>
    have e : X2.length = k := by simp only [List.nil_append] at hk; omega
    exact ⟨X2, R2, [], [], by simp, by simp, e, by omega, h2, SB.nil k⟩
  | cons a b c d =>
    rename_i x r X R
    exact ⟨x, r, X ++ X2, R ++ R2, by rw [List.append_assoc], by rw [List.append_assoc], a, b, c, X, X2, R, R2, rfl, rfl, d, h2, h3, h4⟩
/-- One block alone. -/
theorem SB.last {k : Nat} {X R : List α} (h : SB lt k X R) (hk : X.length ≤ k) : StableOf lt X R := by
  obtain ⟨X1, X2, R1, R2, rfl, rfl, h1, h2, h3, h4⟩ := h
  cases h1 with
  | nil => simpa using h2
  | cons a b c d =>
    rename_i x r X R
    have e1 : X2 = [] := by
      simp only [List.length_append] at hk
      exact List.eq_nil_of_length_eq_zero (by omega)
    subst e1
    have e2 : R2 = [] := List.eq_nil_of_length_eq_zero (by simpa using h4)
    subst e2
    have e3 : X = [] := by
      simp only [List.length_append] at hk
      exact List.eq_nil_of_length_eq_zero (by omega)
    subst e3
    have e4 : R = [] := List.eq_nil_of_length_eq_zero (by simpa using d.length)
    subst e4
    simpa using c
theorem SB.done {k : Nat} {X R x r : List α} (h : SBF lt k X R) (h1 : StableOf lt x r) (h2 : x.length ≤ k) (h3 : r.length = x.length) : SB lt k (X ++ x) (R ++ r) := ⟨X, x, R, r, rfl, rfl, h, h1, h2, h3⟩
end
end Go.Icz
end
