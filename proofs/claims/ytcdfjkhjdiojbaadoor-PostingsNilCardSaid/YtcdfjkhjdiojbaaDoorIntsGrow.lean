/-
  What slices.Grow, of no slice, says of the slice that it makes. Conditions: those that the theorem names.
-/
import Derived.Test.YtcdfjkhjdiojbaaDoorIntsOps
import Derived.Laws.AppendOwn
namespace Go.Icz
open Go.RowKit Go.Lib Go.Sort Go.Proofs
theorem grow_own {P : Program} {f : Nat} (S : StdI P)
    (hR : ∀ (w : World), Calls P f #[.slice none 0 0, .int .i64 ((0 : Nat) : Int)] w fun e w' => e = .returned (.slice none 0 0) ∧ w' = w)
    (hG : ∀ (i0 : TypeInfo) (z : Value), P.info? 3 = some i0 → i0.zero = some z → 0 < i0.size → ∀ (n : Nat) (w : World), 0 < n → n * i0.bytes ≤ 140737488355328 → n ≤ 4611686018427387904 →
      Calls P f #[.slice none 0 0, .int .i64 n] w fun e w' => e = .returned (.slice (some ⟨w.heap.size, 0, none⟩) 0 (grownCap w n 0 3)) ∧
        w' = w.drew.alloc (.cells (#[] ++ Builtin.zeroCells z.cells n ++ Builtin.zeroCells z.cells (grownCap w n 0 3 - n)) 3))
    (n : Nat) (hn : n ≤ 17592186044416) (w : World) :
    Calls P f #[.slice none 0 0, .int .i64 n] w fun e w' => ∃ v, e = .returned v ∧ OwnI w' w.heap.size v [] ∧ Below w.heap.size w w' := by
  obtain ⟨i0, hi, hz0, hz1, hz2⟩ := info_parts S.i
  rcases Nat.eq_zero_or_pos n with rfl | h0
  · refine (hR w).mono ?_
    rintro e w' ⟨rfl, rfl⟩
    exact ⟨_, rfl, OwnI.nil _ _, Below.refl _ _⟩
  · refine (hG i0 _ hi hz0 (by omega) n w h0 (by rw [hz2]; omega) (by omega)).mono ?_
    rintro e w' ⟨rfl, rfl⟩
    have h1 := grownCap_ge w n 0 3
    have h2 := grownCap_le_maxLen w n 0 3 (by unfold maxLen; omega)
    refine ⟨_, rfl, ?_, ((Below.refl _ w).drew).alloc (Nat.le_refl _) _⟩
    refine World.ownsRow_made w.drew _ _ (Nat.le_refl _) h2 ?_
    have hs : ∀ k, (Builtin.zeroCells (Value.int .i64 0).cells k).size = k := fun k => by simp [Builtin.zeroCells, Value.cells]
    rw [Array.size_append, Array.size_append, hs, hs]
    simp
    omega
end Go.Icz
