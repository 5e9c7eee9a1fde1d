/-
  Where slices.symMergeCmpFunc cuts the two lists: what its binary search finds is what the halves ask. Conditions: both lists are sorted.
-/
import Derived.Test.YtcdfjkhjdiojbaaDoorSym2
namespace Go.Icz
open Go.RowKit
theorem sorted_at {l : List EV} (h : SortedL ltE l) {i j : Nat} {x y : EV} (hi : l[i]? = some x) (hj : l[j]? = some y) (hij : i ≤ j) : ltE y x = false := by
  rcases Nat.lt_or_ge i j with hlt | hge
  · obtain ⟨h1, e1⟩ := List.getElem?_eq_some_iff.1 hi
    obtain ⟨h2, e2⟩ := List.getElem?_eq_some_iff.1 hj
    have := List.pairwise_iff_getElem.1 h i j h1 h2 hlt
    rw [e1, e2] at this
    exact this
  · obtain rfl : i = j := by omega
    rw [hi] at hj
    injection hj with e
    subst e
    exact ltE_ord.irr _
/-- What the search knows at place u: below it no, from it on yes. -/
theorem cut_halves {L R : List EV} (hL : SortedL ltE L) (hR : SortedL ltE R) {h u lo hi : Nat} (h1 : lo ≤ u) (h2 : u ≤ hi) (h3 : hi ≤ L.length) (h4 : hi ≤ h) (h5 : h ≤ lo + R.length)
    (hlo : u = lo → lo = 0 ∨ h - lo = R.length) (hhi : u = hi → hi = L.length ∨ hi = h)
    (n : ∀ k x y, lo ≤ k → k < u → L[k]? = some x → R[h - 1 - k]? = some y → ltE y x = false)
    (p : ∀ k x y, u ≤ k → k < hi → L[k]? = some x → R[h - 1 - k]? = some y → ltE y x = true) :
    (∀ y ∈ R.take (h - u), ∀ x ∈ L.drop u, ltE y x = true) ∧ (∀ x ∈ L.take u, ∀ y ∈ R.drop (h - u), ltE y x = false) := by
  constructor
  · intro y hy x hx
    obtain ⟨i, hi0, ei⟩ := List.mem_iff_getElem.1 hy
    obtain ⟨j, hj0, ej⟩ := List.mem_iff_getElem.1 hx
    rw [List.length_take] at hi0
    rw [List.length_drop] at hj0
    rw [List.getElem_take] at ei
    rw [List.getElem_drop] at ej
    have hu : u < hi := by
      rcases Nat.lt_or_ge u hi with h6 | h6
      · exact h6
      · have := hhi (by omega)
        omega
    have gL : L[u]? = some L[u] := List.getElem?_eq_getElem (by omega)
    have gR : R[h - 1 - u]? = some R[h - 1 - u] := List.getElem?_eq_getElem (by omega)
    have key := p u _ _ (Nat.le_refl _) hu gL gR
    have a1 := sorted_at hR (i := i) (j := h - 1 - u) (by rw [List.getElem?_eq_getElem (by omega), ei]) gR (by omega)
    have a2 := sorted_at hL (i := u) (j := u + j) gL (by rw [List.getElem?_eq_getElem (by omega), ej]) (by omega)
    rcases ltE_ord.neg _ y _ key with h6 | h6
    · rw [a1] at h6; cases h6
    · rcases ltE_ord.neg _ x _ h6 with h7 | h7
      · exact h7
      · rw [a2] at h7; cases h7
  · intro x hx y hy
    obtain ⟨j, hj0, ej⟩ := List.mem_iff_getElem.1 hx
    obtain ⟨i, hi0, ei⟩ := List.mem_iff_getElem.1 hy
    rw [List.length_take] at hj0
    rw [List.length_drop] at hi0
    rw [List.getElem_take] at ej
    rw [List.getElem_drop] at ei
    have hu : lo < u := by
      rcases Nat.lt_or_ge lo u with h6 | h6
      · exact h6
      · have := hlo (by omega)
        omega
    have gL : L[u - 1]? = some L[u - 1] := List.getElem?_eq_getElem (by omega)
    have gR : R[h - 1 - (u - 1)]? = some R[h - 1 - (u - 1)] := List.getElem?_eq_getElem (by omega)
    have key := n (u - 1) _ _ (by omega) (by omega) gL gR
    have a1 := sorted_at hR (i := h - 1 - (u - 1)) (j := h - u + i) gR (by rw [List.getElem?_eq_getElem (by omega), ei]) (by omega)
    have a2 := sorted_at hL (i := j) (j := u - 1) (by rw [List.getElem?_eq_getElem (by omega), ej]) gL (by omega)
    exact SWOrd.le_trans ltE_ord a2 (SWOrd.le_trans ltE_ord key a1)
/-- One question of the search answers for all on its side. -/
theorem cut_no {L R : List EV} (hL : SortedL ltE L) (hR : SortedL ltE R) {h c : Nat} {x y : EV} (gx : L[c]? = some x) (gy : R[h - 1 - c]? = some y) (hn : ltE y x = false) (hc : c < h) :
    ∀ k x' y', k ≤ c → L[k]? = some x' → R[h - 1 - k]? = some y' → ltE y' x' = false := fun k x' y' hk g1 g2 =>
  SWOrd.le_trans ltE_ord (sorted_at hL g1 gx hk) (SWOrd.le_trans ltE_ord hn (sorted_at hR gy g2 (by omega)))
theorem cut_yes {L R : List EV} (hL : SortedL ltE L) (hR : SortedL ltE R) {h c : Nat} {x y : EV} (gx : L[c]? = some x) (gy : R[h - 1 - c]? = some y) (hp : ltE y x = true) :
    ∀ k x' y', c ≤ k → L[k]? = some x' → R[h - 1 - k]? = some y' → ltE y' x' = true := fun k x' y' hk g1 g2 => by
  have a1 := sorted_at hR g2 gy (by omega)
  have a2 := sorted_at hL gx g1 hk
  rcases ltE_ord.neg _ y' _ hp with h6 | h6
  · rw [a1] at h6; cases h6
  · rcases ltE_ord.neg _ x' _ h6 with h7 | h7
    · exact h7
    · rw [a2] at h7; cases h7
end Go.Icz
namespace Go.Proofs.YtcdfjkhjdiojbaaDoor
open Go.RowKit Go.Icz
/-- What symMerge does, of lists of so many elements together. -/
def SymAll (n : Nat) : Prop := ∀ (b cap N a m c : Nat) (A L R B : List EV) (w : World), L.length + R.length ≤ n → A.length + L.length + R.length + B.length = N → RowE w b (A ++ L ++ R ++ B) → a = A.length → m = a + L.length → c = m + R.length → 0 < L.length → 0 < R.length → SortedL ltE L → SortedL ltE R → N ≤ 1152921504606846976 →
  Calls Tryd.prog 73 #[.slice (some ⟨b, 0, none⟩) N cap, .int .i64 a, .int .i64 m, .int .i64 c, cmpF 28] w fun e w' => e = .returned (.tuple #[]) ∧ (∃ M, RowE w' b (A ++ M ++ B) ∧ StableOf ltE (L ++ R) M) ∧ w.grownBy w' (some b)
end Go.Proofs.YtcdfjkhjdiojbaaDoor
