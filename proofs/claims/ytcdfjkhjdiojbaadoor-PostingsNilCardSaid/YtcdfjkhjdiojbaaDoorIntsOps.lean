/-
  What the library's contracts on rows of ints say of slices that the call itself made. Conditions: those that each theorem names.
-/
import Derived.Test.YtcdfjkhjdiojbaaDoorInts
import Derived.Lib.SlKeysI
import Derived.Shelf.GgClosure.Gives
namespace Go.Icz
open Go.RowKit Go.Lib Go.Sort Go.Proofs
theorem OwnI.block {w : World} {B : Nat} {v : Value} {l : List Int} (h : OwnI w B v l) (hv : v ≠ .slice none 0 0) :
    ∃ g cap cur, v = .slice (some ⟨g, 0, none⟩) l.length cap ∧ B ≤ g ∧ g < w.heap.size ∧ w.heap[g]? = some (.cells cur 3 (0, 0)) ∧ l.length ≤ cap ∧ cap ≤ maxLen ∧ cur.size = cap * 1 ∧ Holds (Value.int .i64) w g 0 l.toArray := by
  obtain ⟨g, cap, e1, e2, e3, e4, e5, e6, e7⟩ := holds_of_ownsRow (enc := Value.int .i64) h hv
  rcases h.2 with ⟨e0, _⟩ | ⟨g', cap', cur, e0, hb, hg, hn, hm, hs, ht⟩
  · exact absurd e0 hv
  · rw [e1] at e0
    injection e0 with q1 _ q3
    injection q1 with q1
    injection q1 with q1
    subst q1 q3
    exact ⟨g, cap, cur, e1, e2, e3, hg, e4, e5, hs, e7⟩
theorem below_grow {B : Nat} {w0 w : World} (h : Below B w0 w) (os : Array Obj) (hB : B ≤ w.heap.size) : Below B w0 (grow w os) :=
  ⟨h.os, h.tape, h.output, by show w0.heap.size ≤ (w.heap ++ os).size; rw [Array.size_append]; exact Nat.le_trans h.size (Nat.le_add_right _ _), fun k hk => by
    rw [← h.block k hk]
    exact heap_grow_old w os (by omega)⟩
theorem mergeSort_len (l : List Int) : (l.mergeSort fun x y => decide (x ≤ y)).length = l.length := List.length_mergeSort _
theorem sort_own {P : Program} {f : Nat} (hS : ∀ (blk off cap : Nat) (zs : List Int) (W : World), Holds (Value.int .i64) W blk off zs.toArray → blk < W.heap.size → zs.length < 4611686018427387904 →
      Calls P f #[.slice (some ⟨blk, off, none⟩) zs.length cap] W fun e w' => e = .returned (.tuple #[]) ∧ ∃ n os, w' = grow (putRow (Value.int .i64) (Sort.ahead W n) blk off (zs.mergeSort fun x y => decide (x ≤ y)).toArray) os)
    (hN : ∀ (p : Option Addr) (cap : Nat) (W : World), Calls P f #[.slice p 0 cap] W fun e w' => e = .returned (.tuple #[]) ∧ w' = W)
    {w : World} {B : Nat} {v : Value} {l : List Int} (h : OwnI w B v l) (hl : l.length < 4611686018427387904) :
    Calls P f #[v] w fun e w' => e = .returned (.tuple #[]) ∧ OwnI w' B v (l.mergeSort fun x y => decide (x ≤ y)) ∧ Below B w w' := by
  by_cases hv : v = .slice none 0 0
  · subst hv
    have h0 : l = [] := by
      rcases h.2 with ⟨_, hn⟩ | ⟨g', cap', cur, e0, _⟩
      · exact List.eq_nil_of_length_eq_zero hn
      · cases e0
    subst h0
    refine (hN none 0 w).mono ?_
    rintro e w' ⟨rfl, rfl⟩
    exact ⟨rfl, by simpa using h, Below.refl _ _⟩
  · obtain ⟨g, cap, cur, rfl, hB, hg, hh, h1, h2, h3, hH⟩ := h.block hv
    refine (hS g 0 cap l w hH hg hl).mono ?_
    rintro e w' ⟨rfl, n, os, rfl⟩
    have o := ownsRow_sorted_i (base := B) (g := g) (n := n) (os := os) (ts := l.mergeSort fun x y => decide (x ≤ y)) (mergeSort_len l) hB hh h1 h2 h3
    refine ⟨rfl, ?_, below_grow (below_putRow (Below.refl B w) hB) os (by simp [putRow, mapBlock, Sort.ahead]; omega)⟩
    unfold OwnI
    rw [mergeSort_len]
    exact o
theorem compact_len (l : List Int) : (Lib.compact l).length ≤ l.length := by
  unfold Lib.compact Lib.compactUpTo
  rw [List.length_map]
  refine Nat.le_trans (List.length_filter_le _ _) ?_
  simp
theorem compact_own {P : Program} {f : Nat} (hS : ∀ (blk off cap : Nat) (zs : List Int) (W : World), Holds (Value.int .i64) W blk off zs.toArray → zs.length ≤ 9223372036854775807 → zs.length ≤ cap →
      Calls P f #[.slice (some ⟨blk, off, none⟩) zs.length cap] W fun e w' => e = .returned (.slice (some ⟨blk, off, none⟩) (Lib.compact zs).length cap) ∧ ∃ q, w' = putRow (Value.int .i64) (Sort.ahead W q) blk off (Lib.compact zs ++ List.replicate (zs.length - (Lib.compact zs).length) 0).toArray)
    (hN : ∀ (p : Option Addr) (cap : Nat) (W : World), Calls P f #[.slice p 0 cap] W fun e w' => e = .returned (.slice p 0 cap) ∧ w' = W)
    {w : World} {B : Nat} {v : Value} {l : List Int} (h : OwnI w B v l) :
    Calls P f #[v] w fun e w' => ∃ v', e = .returned v' ∧ OwnI w' B v' (Lib.compact l) ∧ Below B w w' := by
  by_cases hv : v = .slice none 0 0
  · subst hv
    have h0 : l = [] := by
      rcases h.2 with ⟨_, hn⟩ | ⟨g', cap', cur, e0, _⟩
      · exact List.eq_nil_of_length_eq_zero hn
      · cases e0
    subst h0
    refine (hN none 0 w).mono ?_
    rintro e w' ⟨rfl, rfl⟩
    exact ⟨_, rfl, h, Below.refl _ _⟩
  · obtain ⟨g, cap, cur, rfl, hB, hg, hh, h1, h2, h3, hH⟩ := h.block hv
    have hc := compact_len l
    refine (hS g 0 cap l w hH (by unfold maxLen at h2; omega) h1).mono ?_
    rintro e w' ⟨rfl, q, rfl⟩
    have o := ownsRow_putRow (q := q) (k := (Lib.compact l).length) (ys := Lib.compact l ++ List.replicate (l.length - (Lib.compact l).length) 0) h (by rw [List.length_append, List.length_replicate]; omega) hc
    rw [List.take_left' rfl] at o
    exact ⟨_, rfl, o, below_putRow (Below.refl B w) hB⟩
theorem delete_own {P : Program} {f : Nat} {fv : Value} (p : Int → Bool) {w : World} {B : Nat} {v : Value} {l : List Int} (h : OwnI w B v l)
    (hS : ∀ (blk cap : Nat), v = .slice (some ⟨blk, 0, none⟩) l.length cap → Holds (Value.int .i64) w blk 0 l.toArray → B ≤ blk → blk < w.heap.size → l.length ≤ 9223372036854775807 → l.length ≤ cap →
      Calls P f #[.slice (some ⟨blk, 0, none⟩) l.length cap, fv] w fun e w' => e = .returned (.slice (some ⟨blk, 0, none⟩) (l.filter fun x => !p x).length cap) ∧ ∃ q, w' = putRow (Value.int .i64) (Sort.ahead w q) blk 0 ((l.filter fun x => !p x) ++ List.replicate (l.length - (l.filter fun x => !p x).length) 0).toArray)
    (hN : v = .slice none 0 0 → Calls P f #[.slice none 0 0, fv] w fun e w' => e = .returned (.slice none 0 0) ∧ Below w.heap.size w w') (hBw : B ≤ w.heap.size) :
    Calls P f #[v, fv] w fun e w' => ∃ v', e = .returned v' ∧ OwnI w' B v' (l.filter fun x => !p x) ∧ Below B w w' := by
  by_cases hv : v = .slice none 0 0
  · have h0 : l = [] := by
      subst hv
      rcases h.2 with ⟨_, hn⟩ | ⟨g', cap', cur, e0, _⟩
      · exact List.eq_nil_of_length_eq_zero hn
      · cases e0
    subst h0
    have h9 := hN hv
    subst hv
    refine h9.mono ?_
    rintro e w' ⟨rfl, b⟩
    exact ⟨_, rfl, h.below b, b.mono hBw⟩
  · obtain ⟨g, cap, cur, rfl, hB, hg, hh, h1, h2, h3, hH⟩ := h.block hv
    have hc : (l.filter fun x => !p x).length ≤ l.length := List.length_filter_le _ _
    refine (hS g cap rfl hH hB hg (by unfold maxLen at h2; omega) h1).mono ?_
    rintro e w' ⟨rfl, q, rfl⟩
    have o := ownsRow_putRow (q := q) (k := (l.filter fun x => !p x).length) (ys := (l.filter fun x => !p x) ++ List.replicate (l.length - (l.filter fun x => !p x).length) 0) h (by rw [List.length_append, List.length_replicate]; omega) hc
    rw [List.take_left' rfl] at o
    exact ⟨_, rfl, o, below_putRow (Below.refl B w) hB⟩
/-- Sorted, each once: what rises. -/
theorem sorted_rises (l : List Int) : Rises (Lib.compact (l.mergeSort fun x y => decide (x ≤ y))) (fun x => x ∈ l) := by
  have hs : (l.mergeSort fun x y => decide (x ≤ y)).Pairwise (· ≤ ·) := by
    have := List.pairwise_mergeSort (le := fun x y : Int => decide (x ≤ y)) (fun a b c h1 h2 => by simp at *; omega) (fun a b => by simp; omega) l
    exact this.imp fun h => by simpa using h
  exact (compact_rises _ hs).congr fun x => List.mem_mergeSort
end Go.Icz
