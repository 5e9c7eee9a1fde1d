/-
  Labels that may be rise. No condition.
-/
import Derived.Test.YthgmmloocdfphaaGreatDoorSort
import Derived.Test.YthgmmloocdfphaaGreatDoorPrint
namespace Go.Proofs.YthgmmloocdfphaaGreatDoor
open Go.RowKit Go.Icz
theorem right_lens {l : List Lab} (hr : rightS l = true) : l.length ≤ 16 ∧ ∀ x ∈ l, x.1.length ≤ 128 ∧ x.2.length ≤ 128 := by
  obtain ⟨h16, hal⟩ := right_all hr
  exact ⟨by simp only [rightS, Bool.and_eq_true, decide_eq_true_eq] at hr; omega, fun x hx => by have := hal x hx; omega⟩
theorem chain_lt : ∀ (l : List Lab) (p : Option B8), chain p l = true → (∀ q, p = some q → ∀ x ∈ l, Lib.compareBytes q x.1 < 0) ∧ l.Pairwise (fun x y => Lib.compareBytes x.1 y.1 < 0)
  | [], p, _ => ⟨fun q _ x hx => (by simp at hx), List.Pairwise.nil⟩
  | y :: t, p, h => by
    simp only [chain, Bool.and_eq_true] at h
    obtain ⟨h1, h2⟩ := chain_lt t (some y.1) h.2
    refine ⟨fun q hq x hx => ?_, List.pairwise_cons.2 ⟨fun x hx => h1 y.1 rfl x hx, h2⟩⟩
    have h3 : Lib.compareBytes q y.1 < 0 := by
      have h9 := h.1.2
      rw [hq] at h9
      simpa [less_iff] using h9
    rcases List.mem_cons.1 hx with rfl | hx
    · exact h3
    · have h4 := h1 y.1 rfl x hx
      have h5 := bytesCmp.le q y.1 x.1 (by omega) (by omega)
      have h6 : Lib.compareBytes q x.1 ≠ 0 := fun e => by
        have e2 := (bytesCmp.eq _ _).1 e
        have h7 := bytesCmp.neg q y.1
        rw [← e2] at h4
        omega
      omega
end Go.Proofs.YthgmmloocdfphaaGreatDoor
