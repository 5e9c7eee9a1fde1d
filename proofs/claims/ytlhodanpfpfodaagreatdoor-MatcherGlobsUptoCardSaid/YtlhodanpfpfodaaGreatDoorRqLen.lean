/-
  How long what is read of a quoted text is. No condition.
-/
import Derived.Test.YtlhodanpfpfodaaGreatDoorQMath
namespace Go.Proofs.YtlhodanpfpfodaaGreatDoor
open Go.RowKit Go.Icz
theorem runq_len : ∀ (f : Nat) (rest acc : B8) (n : Nat) (x : B8) (m : Nat), runq f rest acc n = some (x, m) → acc.length ≤ n → x.length ≤ m ∧ m ≤ n + rest.length
  | 0, _, _, _, _, _, h, _ => by cases h
  | f + 1, [], _, _, _, _, h, _ => by cases h
  | f + 1, b :: t, acc, n, x, m, h, ha => by
    rw [runq_cons] at h
    split at h
    · split at h
      · simp only [Option.some.injEq, Prod.mk.injEq] at h
        obtain ⟨rfl, rfl⟩ := h
        exact ⟨by omega, by simp⟩
      · cases h
    · split at h
      · split at h
        · cases h
        · rename_i c k he
          have hk := escS_lt he
          have := runq_len f _ _ _ _ _ h (by simp; omega)
          rw [List.length_drop] at this
          exact ⟨this.1, by simp; omega⟩
      · split at h
        · cases h
        · have := runq_len f _ _ _ _ _ h (by simp; omega)
          exact ⟨this.1, by simp; omega⟩
theorem runquote_len {l v : B8} {n : Nat} (h : runquoteS l = some (v, n)) : v.length ≤ n ∧ n ≤ l.length := by
  unfold runquoteS at h
  split at h
  · rename_i t
    have := runq_len _ _ _ _ _ _ h (by simp)
    exact ⟨this.1, by simp; omega⟩
  · cases h
end Go.Proofs.YtlhodanpfpfodaaGreatDoor
