/-
  What the law's Own of an entry answers. Conditions: the entry can be read; sizes as each theorem names.
-/
import Derived.Test.YtcdfjkhjdiojbaaDoorEnt
import Derived.Test.YtcdfjkhjdiojbaaDoorLRead
namespace Go.Proofs.YtcdfjkhjdiojbaaDoor
open Go.RowKit Go.Icz
theorem two_new {w w1 : World} {o1 o2 : Obj} (b : Below ((w.alloc o1).alloc o2).heap.size ((w.alloc o1).alloc o2) w1) : w1.heap[w.heap.size]? = some o1 ∧ w1.heap[w.heap.size + 1]? = some o2 := by
  have h1 := b.block w.heap.size (by simp; omega)
  have h2 := b.block (w.heap.size + 1) (by simp)
  refine ⟨h1.trans ?_, h2.trans ?_⟩
  · show ((w.heap.push o1).push o2)[w.heap.size]? = some o1
    simp [Array.getElem?_push]
  · have h := heap_alloc_new (w.alloc o1) o2
    rwa [World.size_alloc] at h
/-- It answers an entry that reads as x, in new memory. -/
def EntOut (x : Ent) (w : World) (e : Ending) (w' : World) : Prop :=
  ∃ A c, e = .returned (entV x A c) ∧ OwnL w' w.heap.size (.slice A x.labs.length c) x.labs ∧ Below w.heap.size w w'
set_option maxHeartbeats 2000000 in
set_option maxRecDepth 100000 in
theorem EOwn_is (x : Ent) (A : Option Addr) (c : Nat) (w : World) (hR : RdL w (.slice A x.labs.length c) x.labs) (hz : x.labs.length * 32 ≤ 140737488351232) :
    Calls Tryd.prog 24 #[entV x A c] w (EntOut x w) := by
  have hO := fun w1 (g : RdL w1 (.slice A x.labs.length c) x.labs) => Own_own _ x.labs w1 g (by omega)
  unfold entV
  have hR1 := fun o o2 => (hR.alloc o).alloc o2
  clear hR
  go_enter Tryd.func24, Tryd.ntmps24
  go_wp2_with (go_at_call 49; refine (hO _ (hR1 _ _)).mono ?_; rintro e w1 ⟨v1, rfl, r1, b1⟩; have hh := two_new b1; obtain ⟨A1, c1, rfl, hc1, _⟩ := r1.rd; have q0 := held_cell (i := 0) hh.1 rfl; have q1 := held_cell (i := 1) hh.1 rfl; have q2 := held_cell (i := 2) hh.1 rfl; have q3 := held_cell (i := 3) hh.1 rfl; have p0 := held_cell (i := 0) hh.2 rfl; have p1 := held_cell (i := 1) hh.2 rfl; have p2 := held_cell (i := 2) hh.2 rfl; have p3 := held_cell (i := 3) hh.2 rfl; have fq := held_frozen (i := 2) hh.1; have f0 := held_frozen (i := 0) hh.2; have f1 := held_frozen (i := 1) hh.2; have f2 := held_frozen (i := 2) hh.2; have f3 := held_frozen (i := 3) hh.2; clear hO hR1 hh)
  have gg : ∀ (u0 u1 u2 u3 u4 : Value), OwnL (((((w1.setCell ⟨w.heap.size, 2, none⟩ u0).setCell ⟨w.heap.size + 1, 0, none⟩ u1).setCell ⟨w.heap.size + 1, 1, none⟩ u2).setCell ⟨w.heap.size + 1, 2, none⟩ u3).setCell ⟨w.heap.size + 1, 3, none⟩ u4) w.heap.size (.slice A1 x.labs.length c1) x.labs ∧ Below w.heap.size w (((((w1.setCell ⟨w.heap.size, 2, none⟩ u0).setCell ⟨w.heap.size + 1, 0, none⟩ u1).setCell ⟨w.heap.size + 1, 1, none⟩ u2).setCell ⟨w.heap.size + 1, 2, none⟩ u3).setCell ⟨w.heap.size + 1, 3, none⟩ u4) := by
    intro u0 u1 u2 u3 u4
    have hsz : ((w.alloc (.cells #[.int .i64 x.seq, .int .i64 x.time, .slice A x.labs.length c, .string ⟨x.line.toArray⟩] 27)).alloc (.cells #[.int .i64 0, .int .i64 0, .slice none 0 0, .string ⟨#[]⟩] 27)).heap.size = w.heap.size + 2 := by simp
    rw [hsz] at r1
    refine ⟨(OwnL.grown (OwnL.grown (OwnL.grown (OwnL.grown (OwnL.grown r1 (grown_set _ _ _ u0) (by omega)) (grown_set _ _ _ u1) (by omega)) (grown_set _ _ _ u2) (by omega)) (grown_set _ _ _ u3) (by omega)) (grown_set _ _ _ u4) (by omega)).mono (by omega), ?_⟩
    have b0 : Below w.heap.size w w1 := (((Below.refl _ _).alloc (Nat.le_refl _) _).alloc (by simp) _).trans (b1.mono (by simp; omega))
    exact ((((b0.setCell (Nat.le_refl _) _).setCell (Nat.le_succ _) _).setCell (Nat.le_succ _) _).setCell (Nat.le_succ _) _).setCell (Nat.le_succ _) _
  exact bodyPost_ret (v := entV x A1 c1) (by simp [results, Tryd.results24, go_sem, entV, *]) rfl ⟨A1, c1, rfl, (gg _ _ _ _ _).1, (gg _ _ _ _ _).2⟩
end Go.Proofs.YtcdfjkhjdiojbaaDoor
