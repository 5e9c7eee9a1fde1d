/-
  The stream of merged rows: its length, what is in it; the next one whose number was not met. Mathematics alone. Conditions: those that each theorem names.
-/
import Derived.Test.YtcffagfkpkfgbaaMgm
namespace Go.Icz
section
variable {α : Type} (ky : α → Int × Int)
theorem strm_length (nb : Bool) : ∀ (n : Nat) (R : List (List α)), totR R = n → (strm ky nb R).length = n
  | 0, R, h => by
    rcases strm_cases ky nb R with ⟨_, h1⟩ | ⟨x, t, p, hB, _⟩
    · rw [h1]; rfl
    · have := totR_set R p x t hB.2.1
      omega
  | n + 1, R, h => by
    rcases strm_cases ky nb R with ⟨hN, _⟩ | ⟨x, t, p, hB, h1⟩
    · exfalso
      have : ∀ R : List (List α), (∀ i y u, i < R.length → R[i]? ≠ some (y :: u)) → totR R = 0 := by
        intro R
        induction R with
        | nil => intro _; rfl
        | cons r R ih =>
          intro hn
          have h0 := hn 0
          have ih := ih (fun i y u hi => by have := hn (i + 1) y u (by simpa using hi); simpa using this)
          cases r with
          | nil => simpa [totR] using ih
          | cons y u => exact absurd rfl (h0 y u (by simp))
      have := this R hN
      omega
    · rw [h1, List.length_cons, strm_length nb n _ (by have := totR_set R p x t hB.2.1; omega)]
/-- What is in the stream is in a row. -/
theorem strm_mem (nb : Bool) : ∀ (n : Nat) (R : List (List α)), totR R = n → ∀ x, x ∈ strm ky nb R ↔ ∃ r ∈ R, x ∈ r
  | n, R, h => by
    intro z
    rcases strm_cases ky nb R with ⟨hN, h1⟩ | ⟨x, t, p, hB, h1⟩
    · rw [h1]
      constructor
      · intro h; cases h
      · rintro ⟨r, hr, hz⟩
        obtain ⟨i, hi, e⟩ := List.getElem_of_mem hr
        cases r with
        | nil => cases hz
        | cons y u => exact absurd (by rw [List.getElem?_eq_getElem hi, e]) (hN i y u hi)
    · have ht := totR_set R p x t hB.2.1
      rw [h1, List.mem_cons, strm_mem nb (totR (R.set p t)) (R.set p t) rfl z]
      obtain ⟨hp, hR⟩ := List.getElem?_eq_some_iff.1 hB.2.1
      constructor
      · rintro (rfl | ⟨r, hr, hz⟩)
        · exact ⟨_, List.getElem_mem hp, by rw [hR]; exact List.mem_cons_self ..⟩
        · rcases List.mem_or_eq_of_mem_set hr with h' | rfl
          · exact ⟨r, h', hz⟩
          · exact ⟨_, List.getElem_mem hp, by rw [hR]; exact List.mem_cons_of_mem _ hz⟩
      · rintro ⟨r, hr, hz⟩
        obtain ⟨i, hi, e⟩ := List.getElem_of_mem hr
        by_cases hip : i = p
        · subst hip
          rw [hR] at e
          subst e
          rcases List.mem_cons.1 hz with rfl | hz
          · exact .inl rfl
          · exact .inr ⟨t, List.mem_iff_getElem.2 ⟨i, by simpa using hi, by simp⟩, hz⟩
        · exact .inr ⟨r, List.mem_iff_getElem.2 ⟨i, by simpa using hi, by rw [List.getElem_set_ne (fun h => hip h.symm)]; exact e⟩, hz⟩
termination_by n => n
decreasing_by omega
/-- The next one whose number was not met; what is left; how many were left away. -/
def nx (met : List Int) : List α → Option (α × List α) × Nat
  | [] => (none, 0)
  | x :: S => if (ky x).2 ∈ met then ((nx met S).1, (nx met S).2 + 1) else (some (x, S), 0)
theorem nx_le (met : List Int) : ∀ S : List α, (nx ky met S).2 ≤ S.length ∧ ∀ x T, (nx ky met S).1 = some (x, T) → (nx ky met S).2 + T.length + 1 = S.length ∧ (ky x).2 ∉ met ∧ x ∈ S ∧ ∀ y ∈ T, y ∈ S
  | [] => ⟨Nat.le_refl _, fun x T h => by cases h⟩
  | y :: S => by
    unfold nx
    obtain ⟨h1, h2⟩ := nx_le met S
    split
    · refine ⟨by simpa using h1, fun x T h => ?_⟩
      obtain ⟨a, b, c, d⟩ := h2 x T h
      exact ⟨by simp; omega, b, List.mem_cons_of_mem _ c, fun z hz => List.mem_cons_of_mem _ (d z hz)⟩
    · rename_i hm
      refine ⟨Nat.zero_le _, fun x T h => ?_⟩
      injection h with h
      injection h with e1 e2
      subst e1 e2
      exact ⟨by simp, hm, List.mem_cons_self .., fun z hz => List.mem_cons_of_mem _ hz⟩
end
end Go.Icz
