/-
  What the law's Own and the reference's Compare answer. Conditions: the lists can be read; sizes as each theorem names.
-/
import Derived.Test.YthgmmloocdfphaaGreatDoorCmp
namespace Go.Proofs.YthgmmloocdfphaaGreatDoor
open Go.RowKit Go.Icz

theorem Own_is (v : Value) (l : List Lab) (w : World) (hR : RdL w v l) (hlen : l.length * 32 ≤ 140737488355328) :
    Calls Tryz.prog 10 #[v] w fun e w' => ∃ v', e = .returned v' ∧ RdL w' v' l ∧ Below w.heap.size w w' := by
  have hR2 := fun o => hR.alloc o
  obtain ⟨A, c, rfl, hlc, hcell⟩ := hR
  clear hcell
  go_enter Tryz.func10, Tryz.ntmps10
  go_wp2_with (at_builtin; refine wp_appL rfl (.tmp 3) (.tmp 4) rfl w.heap.size _ _ [] l rfl (OwnL.made w (Nat.le_refl _)) rfl (hR2 _) (by simpa using hlen) (by simp) ?_; intro v' w1 hown hb hn)
  go_ret
  rw [List.nil_append] at hown
  exact ⟨v', rfl, hown.rd, below_alloc (Nat.le_refl _) hb⟩
theorem lab_cases (x y : Lab) : (Op.bytesLess x.1 y.1 = true ∧ cmpLab x y = -1) ∨ (Op.bytesLess x.1 y.1 = false ∧ (x.1 == y.1) = false ∧ cmpLab x y = 1) ∨
    (Op.bytesLess x.1 y.1 = false ∧ (x.1 == y.1) = true ∧ Op.bytesLess x.2 y.2 = true ∧ cmpLab x y = -1) ∨ (Op.bytesLess x.1 y.1 = false ∧ (x.1 == y.1) = true ∧ Op.bytesLess x.2 y.2 = false ∧ (x.2 == y.2) = false ∧ cmpLab x y = 1) ∨
    (Op.bytesLess x.1 y.1 = false ∧ (x.1 == y.1) = true ∧ Op.bytesLess x.2 y.2 = false ∧ (x.2 == y.2) = true ∧ cmpLab x y = 0) := by
  have B := bytesCmp
  simp only [less_iff, decide_eq_true_eq, decide_eq_false_iff_not, beq_iff_eq, beq_eq_false_iff_ne, ne_eq, ← B.eq, cmpLab, or2]
  rcases B.rng x.1 y.1 with h | h | h
  · rw [h]; simp
  · rw [h]
    rcases B.rng x.2 y.2 with g | g | g
    · rw [g]; simp
    · rw [g]; simp
    · rw [g]; simp
  · rw [h]; simp
end Go.Proofs.YthgmmloocdfphaaGreatDoor
