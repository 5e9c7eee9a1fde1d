/-
  PlannerEnds: the walk, put together. Conditions: the list is no longer than 2^40; a number is one that an int holds.
-/
import Derived.Test.YtoomhfjmcdbgkaaNe2
import Derived.Test.YtoomhfjmcdbgkaaNe3
import Derived.Test.YtoomhfjmcdbgkaaNopr
namespace Go.Proofs.Ytoomhfjmcdbgkaa
open Go.RowKit Go.Icz
theorem ends_walk (v : Value) (l : List MV) (f mb keep now : Int) (W : World) (hR : KRm.Rd W v l) (hlen : l.length ≤ 1099511627776) (hwf : ∀ x ∈ l, wfI x.id) (hn : now ≤ 9223372036854775807) :
    Calls Try.prog 7 #[v, rulesV f mb keep, .int .i64 now] W fun e w' => e = .returned (.bool true) ∧ Below W.heap.size W w' := by
  cases hf : fineM l with
  | false => exact ends_bad v l f mb keep now W hR hlen hwf hf
  | true =>
    by_cases h : 60 < l.length
    · exact ends_long v l f mb keep now W hR hlen hwf hf h
    · exact ends_good v l f mb keep now W hR hwf hn hf (by omega)
end Go.Proofs.Ytoomhfjmcdbgkaa
