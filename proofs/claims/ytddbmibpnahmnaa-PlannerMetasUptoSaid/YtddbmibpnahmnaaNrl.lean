/-
  What the reference's Look and Over answer. Conditions: the list is no longer than 2^40; a number is one that an int holds.
-/
import Derived.Test.YtddbmibpnahmnaaNfr
namespace Go.Proofs.Ytddbmibpnahmnaa
open Go.RowKit Go.Icz
/-- A list of numbers is answered, in memory of the call's own. -/
def IntsOut (w : World) (a : List Int) (e : Ending) (w' : World) : Prop := ∃ v, e = .returned v ∧ KInt.Own w' w.heap.size v a ∧ Below w.heap.size w w'
end Go.Proofs.Ytddbmibpnahmnaa
