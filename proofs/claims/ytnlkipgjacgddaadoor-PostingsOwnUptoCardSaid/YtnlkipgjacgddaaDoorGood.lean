/-
  What the reference's Good and Value answer. Conditions: lengths that Go's int holds.
-/
import Derived.Test.YtnlkipgjacgddaaDoorRuneDec
import Derived.Test.YtnlkipgjacgddaaDoorRune
import Derived.Lib.ValidLaws
namespace Go.Proofs.YtnlkipgjacgddaaDoor
open Go.RowKit Go.Icz
/-- One step of Good. -/
theorem good_step (l : B8) (h : 0 < l.length) :
    (runeN ⟨l.toArray⟩ = (0, 0) ∧ Lib.validD l = false) ∨
    (1 ≤ (runeN ⟨l.toArray⟩).2 ∧ (runeN ⟨l.toArray⟩).2 ≤ l.length ∧ Lib.validD l = Lib.validD (l.drop (runeN ⟨l.toArray⟩).2)) := by
  have hne : l ≠ [] := List.length_pos_iff.1 h
  have hs : 0 < (⟨l.toArray⟩ : ByteArray).size := by rw [Lib.size_mk]; exact h
  have hv := Lib.validD_step l hne
  have hw := Lib.decodeL_width l
  rcases rune_decode ⟨l.toArray⟩ hs with ⟨h1, h2⟩ | ⟨h1, h2⟩
  · left
    refine ⟨h2, ?_⟩
    rw [hv]
    have e : Lib.decodeL l = (65533, 1) := h1
    rw [e]
    simp
  · right
    have e : Utf8.decode ⟨l.toArray⟩ 0 = Lib.decodeL l := rfl
    rw [h2, e]
    refine ⟨hw, ?_, ?_⟩
    · exact Lib.decodeL_le l hne
    · rw [hv, if_neg]
      rintro ⟨q1, q2⟩
      exact h1 (by rw [e]; exact Prod.ext q1 q2)
end Go.Proofs.YtnlkipgjacgddaaDoor
