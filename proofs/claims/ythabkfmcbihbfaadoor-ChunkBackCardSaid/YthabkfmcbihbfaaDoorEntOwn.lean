/-
  What the law's Own of an entry answers. Conditions: the entry can be read; sizes as each theorem names.
-/
import Derived.Test.YthabkfmcbihbfaaDoorEnt
import Derived.Test.YthabkfmcbihbfaaDoorLRead
namespace Go.Proofs.YthabkfmcbihbfaaDoor
open Go.RowKit Go.Icz
theorem two_new {w w1 : World} {o1 o2 : Obj} (b : Below ((w.alloc o1).alloc o2).heap.size ((w.alloc o1).alloc o2) w1) : w1.heap[w.heap.size]? = some o1 ∧ w1.heap[w.heap.size + 1]? = some o2 := by
  have h1 := b.block w.heap.size (by simp; omega)
  have h2 := b.block (w.heap.size + 1) (by simp)
  refine ⟨h1.trans ?_, h2.trans ?_⟩
  · show ((w.heap.push o1).push o2)[w.heap.size]? = some o1
    simp [Array.getElem?_push]
  · have h := heap_alloc_new (w.alloc o1) o2
    rwa [World.size_alloc] at h
/-- It answers an entry that reads as x, in new memory. -/
def EntOut (x : Ent) (w : World) (e : Ending) (w' : World) : Prop :=
  ∃ A c, e = .returned (entV x A c) ∧ OwnL w' w.heap.size (.slice A x.labs.length c) x.labs ∧ Below w.heap.size w w'
end Go.Proofs.YthabkfmcbihbfaaDoor
