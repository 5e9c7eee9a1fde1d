/-
  Lists that can be read, kept from world to world. No condition.
-/
import Derived.Test.YtcdfjkhjdiojbaaSetKnow
namespace Go.Proofs.Ytcdfjkhjdiojbaa
open Go.RowKit Go.Icz
/-- Lists that can be read. -/
def Kept (w : World) (L : List (Value × List Int)) : Prop := ∀ p ∈ L, RdI w p.1 p.2
theorem Kept.get {w : World} {L : List (Value × List Int)} (h : Kept w L) {v : Value} {l : List Int} (hm : (v, l) ∈ L) : RdI w v l := h _ hm
theorem Kept.keep {w w' : World} {L : List (Value × List Int)} (h : Kept w L) (hb : Below w.heap.size w w') : Kept w' L := fun p hp => (h p hp).below hb
theorem Kept.step {w w' : World} {L : List (Value × List Int)} (h : Kept w L) (hb : Below w.heap.size w w') {v : Value} {l : List Int} (hv : RdI w' v l) : Kept w' ((v, l) :: L) := fun p hp => by
  rcases List.mem_cons.1 hp with rfl | hp
  · exact hv
  · exact (h p hp).below hb
end Go.Proofs.Ytcdfjkhjdiojbaa
