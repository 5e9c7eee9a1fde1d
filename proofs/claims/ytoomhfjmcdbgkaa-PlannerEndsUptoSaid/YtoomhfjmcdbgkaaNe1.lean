/-
  A row of Metas written in place; the beginning of PlannerEnds: mathematics and memory. Conditions: those that each theorem names.
-/
import Derived.Test.YtoomhfjmcdbgkaaNem
namespace Go.Icz
open Go.RowKit
def put3 (y : MV) (r b i : Int) : MV := ⟨i, y.least, y.most, y.first, y.last, r, b, y.level⟩
theorem cells_put3 : ∀ (l : List MV) (k : Nat) (h : k < l.length) (r b i : Int), KMet.cells (l.set k (put3 l[k] r b i)) = (((KMet.cells l).set (k * 8 + 5) (.int .i64 r)).set (k * 8 + 6) (.int .i64 b)).set (k * 8) (.int .i64 i)
  | [], k, h, _, _, _ => by simp at h
  | y :: t, 0, _, r, b, i => rfl
  | y :: t, k + 1, h, r, b, i => by
    have ih := cells_put3 t k (by simpa using h) r b i
    have e : ∀ (z : MV) (m : List MV), KMet.cells (z :: m) = .int .i64 z.id :: .int .i64 z.least :: .int .i64 z.most :: .int .i64 z.first :: .int .i64 z.last :: .int .i64 z.rows :: .int .i64 z.bytes :: .int .i64 z.level :: KMet.cells m := fun _ _ => rfl
    rw [List.set_cons_succ, e, e, List.getElem_cons_succ, ih, show (k + 1) * 8 = k * 8 + 1 + 1 + 1 + 1 + 1 + 1 + 1 + 1 by omega, show k * 8 + 1 + 1 + 1 + 1 + 1 + 1 + 1 + 1 + 5 = (k * 8 + 5) + 1 + 1 + 1 + 1 + 1 + 1 + 1 + 1 by omega, show k * 8 + 1 + 1 + 1 + 1 + 1 + 1 + 1 + 1 + 6 = (k * 8 + 6) + 1 + 1 + 1 + 1 + 1 + 1 + 1 + 1 by omega]
    rfl
theorem own_put3 {w : World} {B g n cap : Nat} {l : List MV} (h : KMet.Own w B (.slice (some ⟨g, 0, none⟩) n cap) l) (k : Nat) (hk : k < l.length) (r b i : Int) :
    KMet.Own (((w.setCell ⟨g, k * 8 + 5, none⟩ (.int .i64 r)).setCell ⟨g, k * 8 + 6, none⟩ (.int .i64 b)).setCell ⟨g, k * 8, none⟩ (.int .i64 i)) B (.slice (some ⟨g, 0, none⟩) n cap) (l.set k (put3 l[k] r b i)) := by
  have hn : n = l.length := by
    obtain ⟨A, c, e, _⟩ := h.rd.form
    injection e
  subst hn
  unfold Kd.Own at *
  rw [cells_put3 l k hk r b i, List.length_set]
  exact (World.ownsRow.stored (World.ownsRow.stored (World.ownsRow.stored h (k * 8 + 5) _).1 (k * 8 + 6) _).1 (k * 8) _).1
theorem own_form {w : World} {B : Nat} {v : Value} {l : List MV} (h : KMet.Own w B v l) (hne : l ≠ []) : ∃ g cap, v = .slice (some ⟨g, 0, none⟩) l.length cap ∧ B ≤ g ∧ g < w.heap.size ∧ (∀ i, w.frozen? ⟨g, i, none⟩ = false) ∧ (∀ j (hj : j < l.length), Mc w g (j * 8) l[j]) := by
  rcases h.2 with ⟨hv, hn⟩ | ⟨g, cap, cur, hv, hg, hh, hnc, r⟩
  · exact absurd (List.eq_nil_of_length_eq_zero hn) hne
  · refine ⟨g, cap, hv, hg, row_lt hh, fun i => held_frozen hh, fun j hj => ?_⟩
    subst hv
    obtain ⟨b, off, hA, _, hc⟩ := Kd.Rd.met h.rd hj
    injection hA with hA
    injection hA with e1 e2
    subst e1 e2
    rwa [Nat.zero_add] at hc
/-- So far, the first i are made small. -/
def PM (l : List MV) (i : Nat) (M : List MV) : Prop := M.length = l.length ∧ ∀ j (h : j < l.length) (h' : j < M.length), M[j] = if j < i then prep j l[j] else l[j]
theorem PM.start (l : List MV) : PM l 0 l := ⟨rfl, fun j _ _ => by rw [if_neg (by omega)]⟩
theorem PM.cur {l : List MV} {i : Nat} {M : List MV} (h : PM l i M) (hi : i < l.length) (hi' : i < M.length) : M[i] = l[i] := by rw [h.2 i hi hi', if_neg (by omega)]
theorem PM.next {l : List MV} {i : Nat} {M : List MV} (h : PM l i M) (hi : i < l.length) (hi' : i < M.length) : PM l (i + 1) (M.set i (put3 M[i] (1 + M[i].rows % 1000) (M[i].bytes % 10000) ((i : Int) + 1))) := by
  refine ⟨by rw [List.length_set]; exact h.1, fun j hj hj' => ?_⟩
  rw [List.getElem_set]
  by_cases e : i = j
  · subst e
    rw [if_pos rfl, if_pos (by omega), h.cur hi hi']
    rfl
  · rw [if_neg e, h.2 j hj (by rw [List.length_set] at hj'; exact hj')]
    by_cases h1 : j < i
    · rw [if_pos h1, if_pos (by omega)]
    · rw [if_neg h1, if_neg (by omega)]
theorem PM.done {l : List MV} {M : List MV} {i : Nat} (hi : l.length ≤ i) (h : PM l i M) : M = prepM 0 l := by
  apply List.ext_getElem (by rw [h.1, prepM_len])
  intro j h1 h2
  rw [h.2 j (by rw [← h.1]; exact h1) h1, if_pos (by have := h.1; omega), prepM_get 0 l j (by rw [← h.1]; exact h1), Nat.zero_add]
theorem sumR_prep {l : List MV} {i : Nat} (hi : i < l.length) : sumR ((prepM 0 l).take (i + 1)) = sumR ((prepM 0 l).take i) + (1 + l[i].rows % 1000) := by
  have h : i < (prepM 0 l).length := by rw [prepM_len]; exact hi
  rw [List.take_succ_eq_append_getElem h, sumR_app, sumR_one, prepM_get 0 l i hi]
  rfl
/-- Two owned rows whose first IDs differ lie in two blocks. -/
theorem own_sep {w : World} {B B' : Nat} {v u : Value} {S L : List MV} (h : KMet.Own w B v S) (k : KMet.Own w B' u L) (hS : S = [] → v = .slice none 0 0) (hL : L = [] → u = .slice none 0 0) (hd : ∀ y ∈ S, ∀ z ∈ L, y.id ≠ z.id) : ∀ b, v.ownBlock = some b → u.ownBlock ≠ some b := by
  intro b hv hu
  cases S with
  | nil => rw [hS rfl] at hv; cases hv
  | cons y s =>
    cases L with
    | nil => rw [hL rfl] at hu; cases hu
    | cons z t =>
      obtain ⟨g1, c1, e1, _, _, _, m1⟩ := own_form h (by simp)
      obtain ⟨g2, c2, e2, _, _, _, m2⟩ := own_form k (by simp)
      rw [e1] at hv
      rw [e2] at hu
      have a1 : g1 = b := by simpa [Value.ownBlock] using hv
      have a2 : g2 = b := by simpa [Value.ownBlock] using hu
      subst a1
      subst a2
      have x1 := (m1 0 (by simp)).c0
      have x2 := (m2 0 (by simp)).c0
      rw [x1] at x2
      injection x2 with x2
      injection x2 with _ x2
      exact hd y (by simp) z (by simp) x2
end Go.Icz
