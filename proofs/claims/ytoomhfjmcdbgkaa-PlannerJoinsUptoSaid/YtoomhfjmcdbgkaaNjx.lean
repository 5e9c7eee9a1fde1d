/-
  PlannerJoins, of any list: the walk. Conditions: the list is no longer than 2^40; a number is one that an int holds.
-/
import Derived.Test.YtoomhfjmcdbgkaaNjw
namespace Go.Proofs.Ytoomhfjmcdbgkaa
open Go.RowKit Go.Icz
theorem joins_walk (v : Value) (l : List MV) (id k : Int) (W : World) (hR : KRm.Rd W v l) (hlen : l.length ≤ 1099511627776) (hwf : ∀ x ∈ l, wfI x.id) (hk : (Lit.int .i64 k).wf = true) :
    Calls Try.prog 8 #[v, .int .i64 id, .int .i64 k] W fun e w' => e = .returned (.bool true) ∧ Below W.heap.size W w' := by
  obtain ⟨p, hp⟩ : ∃ p, joinM l id = p := ⟨_, rfl⟩
  obtain ⟨m, ok⟩ := p
  cases ok with
  | true => exact joins_yes v l id k m W hR hlen hwf hk hp
  | false => exact joins_no v l id k W hR hlen hwf (by rw [hp])
end Go.Proofs.Ytoomhfjmcdbgkaa
