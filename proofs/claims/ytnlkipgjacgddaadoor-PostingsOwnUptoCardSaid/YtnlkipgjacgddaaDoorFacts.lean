/-
  Labels that may be: how long they are. No condition.
-/
import Derived.Test.YtnlkipgjacgddaaDoorOrder
import Derived.Test.YtnlkipgjacgddaaDoorName
namespace Go.Proofs.YtnlkipgjacgddaaDoor
open Go.RowKit Go.Icz
theorem chain_all : ∀ (l : List Lab) (p : Option B8), chain p l = true → ∀ x ∈ l, x.1.length ≤ 64 ∧ x.2.length ≤ 128
  | [], _, _, x, hx => by simp at hx
  | y :: t, p, h, x, hx => by
    simp only [chain, Bool.and_eq_true] at h
    rcases List.mem_cons.1 hx with rfl | hx
    · have h1 := h.1.1.1
      have h2 := h.1.1.2
      simp only [nameS, valueS, Bool.and_eq_true, decide_eq_true_eq] at h1 h2
      omega
    · exact chain_all t _ h.2 x hx
theorem right_all {l : List Lab} (h : rightS l = true) : l.length ≤ 16 ∧ ∀ x ∈ l, x.1.length ≤ 64 ∧ x.2.length ≤ 128 := by
  simp only [rightS, Bool.and_eq_true, decide_eq_true_eq] at h
  exact ⟨h.1.2, chain_all l none h.2⟩
end Go.Proofs.YtnlkipgjacgddaaDoor
