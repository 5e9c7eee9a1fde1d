/-
  Of ordered rows the answers are ordered. No condition.
-/
import Derived.Test.YtcffagfkpkfgbaaMga
import Derived.Test.YtcffagfkpkfgbaaMgo
namespace Go.Icz
open Go.RowKit
section
variable {α : Type} (ky : α → Int × Int)
/-- The second does not come ahead of the first. -/
def leq (nb : Bool) (x y : α) : Prop := frst ky nb y x = false
theorem leq_trans {nb : Bool} {x y z : α} (h1 : leq ky nb x y) (h2 : leq ky nb y z) : leq ky nb x z := by
  unfold leq frst bef at *
  cases nb <;> simp at * <;> omega
theorem rlt_leq {nb : Bool} {x y : α} {p i : Nat} (h : rlt ky nb (x, p) (y, i) = true) : leq ky nb x y := by
  unfold leq rlt frst bef at *
  cases nb <;> simp at * <;> omega
theorem strm_sorted (nb : Bool) : ∀ (n : Nat) (R : List (List α)), totR R = n → (∀ r ∈ R, r.Pairwise (leq ky nb)) → (strm ky nb R).Pairwise (leq ky nb) := by
  intro n
  induction n with
  | zero =>
    intro R h _
    have := strm_length ky nb 0 R h
    rw [List.eq_nil_of_length_eq_zero this]
    exact List.Pairwise.nil
  | succ n ih =>
    intro R h hp
    rcases strm_cases ky nb R with ⟨_, h1⟩ | ⟨x, t, p, hB, h1⟩
    · rw [h1]; exact List.Pairwise.nil
    · rw [h1]
      have ht := totR_set R p x t hB.2.1
      have hx := hp _ (List.mem_of_getElem? hB.2.1)
      rw [List.pairwise_cons] at hx ⊢
      refine ⟨fun y hy => ?_, ih _ (by omega) (fun r hr => ?_)⟩
      · obtain ⟨r, hr, hyr⟩ := (strm_mem ky nb _ _ rfl y).1 hy
        obtain ⟨i, hi, e⟩ := List.getElem_of_mem hr
        by_cases hip : i = p
        · subst hip
          rw [List.getElem_set_self] at e
          subst e
          exact hx.1 y hyr
        · rw [List.getElem_set_ne (fun e2 => hip e2.symm)] at e
          have hiR : i < R.length := by rwa [List.length_set] at hi
          have hmem : r ∈ R := by rw [← e]; exact List.getElem_mem hiR
          have hri : R[i]? = some r := by rw [List.getElem?_eq_getElem hiR, e]
          cases r with
          | nil => cases hyr
          | cons z u =>
            have h2 := rlt_leq ky (hB.2.2 i z u hiR hip hri)
            have h3 := hp _ hmem
            rw [List.pairwise_cons] at h3
            rcases List.mem_cons.1 hyr with rfl | hyu
            · exact h2
            · exact leq_trans ky h2 (h3.1 y hyu)
      · rcases List.mem_or_eq_of_mem_set hr with hr | rfl
        · exact hp r hr
        · exact hx.2
theorem outs_sub : ∀ (met : List Int) (S : List α), (outs ky met S).Sublist S
  | _, [] => List.Sublist.slnil
  | met, x :: S => by
    rw [outs]
    split
    · exact (outs_sub met S).cons x
    · exact (outs_sub _ S).cons_cons x
/-- What is ordered from one to the next is so throughout. -/
theorem pairwise_of_next {nb : Bool} {l : List α} (h : ∀ j (hj : j + 1 < l.length), leq ky nb (l[j]'(by omega)) l[j + 1]) : l.Pairwise (leq ky nb) := by
  rw [List.pairwise_iff_getElem]
  intro i j hi hj hij
  obtain ⟨d, rfl⟩ : ∃ d, j = i + 1 + d := ⟨j - (i + 1), by omega⟩
  induction d with
  | zero => exact h i (by omega)
  | succ d ih =>
    exact leq_trans ky (ih (by omega) (by omega)) (h (i + 1 + d) (by omega))
theorem pairwise_next {nb : Bool} {l : List α} (h : l.Pairwise (leq ky nb)) : ∀ j (hj : j + 1 < l.length), leq ky nb (l[j]'(by omega)) l[j + 1] := fun j hj => (List.pairwise_iff_getElem.1 h) j (j + 1) (by omega) hj (by omega)
end
theorem ordB_pairwise {nb : Bool} {l : List Ent} : ordB nb l = true ↔ l.Pairwise (leq kyE nb) := by
  rw [ordB_iff]
  exact ⟨fun h => pairwise_of_next kyE h, fun h => pairwise_next kyE h⟩
/-- Of ordered rows the answers are ordered. -/
theorem ordB_outs {nb : Bool} {L : List (List Ent)} (h : ∀ l ∈ L, ordB nb l = true) : ordB nb (outs kyE [] (strm kyE nb L)) = true :=
  ordB_pairwise.2 ((strm_sorted kyE nb _ L rfl (fun r hr => ordB_pairwise.1 (h r hr))).sublist (outs_sub kyE [] _))
end Go.Icz
