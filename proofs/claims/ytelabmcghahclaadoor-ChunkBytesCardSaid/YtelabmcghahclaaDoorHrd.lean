/-
  A region in a round, taken by the laws that know of no fence. Conditions: those that each theorem names.
-/
import Derived.Test.YtelabmcghahclaaDoorOrl
import Derived.OrdersHeld
import Derived.Deep.RegionHeld3
namespace Go.Icz
open Go
section
variable {P : Program} {ops : Array Oper} {md : Region.Mode} {n : Nat}
theorem rowsIn_wide {row : String} {args : Array Value} {w : World} {R : Value → World → Prop} (h : Rows P row args w R) : RowsIn Fence.wide n P row args w R :=
  fun c cs _ => let ⟨v, w', r, s⟩ := h c cs; ⟨v, w', r, stepsIn_wide.2 s⟩
theorem opIn_wide {o : Oper} {a : Act} {w : World} {K : Act → World → Prop} {Q : Exit → Act → World → Prop} (hd : ∀ c, o.op ≠ .defer c) (h : o.wp P a w K Q) : o.wpIn Fence.wide n P a w K Q := by
  unfold Oper.wpIn
  refine ⟨fun _ _ => trivial, ?_⟩
  rw [Oper.semAt_eq _ _ _ hd]
  unfold Oper.wp at h
  generalize (execOp a.eval o).run P w = r at *
  cases r with
  | ok x w' =>
    cases x with
    | enter f args => exact ⟨fun hh => (by cases hh), callsIn_wide.2 h⟩
    | row row args => exact ⟨fun hh => (by cases hh), rowsIn_wide h⟩
    | round l f tmps assign body => exact (show False from h).elim
    | _ => exact h
  | halt x w' => cases x <;> exact h
theorem anyIn_wide {Q : Exit → Act → World → Prop} (hd : noDefer ops = true) (hQ : ¬ LetsOut Q) : ∀ (k : Nat) (listed : Array Bool) (a : Act) (w : World), wpAny P md ops Q k listed a w → wpAnyIn Fence.wide n P md ops Q k listed a w
  | 0, _, _, _, h => h
  | k + 1, listed, a, w, h => ⟨h.1, fun i hi => by
    have h1 := h.2 i hi
    unfold wpOp at h1
    unfold wpOpIn
    cases ho : ops[i]? with
    | none =>
      simp only [ho] at h1 ⊢
      exact anyIn_wide hd hQ k _ _ _ h1
    | some o =>
      simp only [ho] at h1 ⊢
      by_cases hw : Region.wanted o (yielded ops a.tmps) = true
      · simp only [hw, if_true] at h1 ⊢
        rcases h1 with h1 | h1
        · exact Oper.wpIn_mono (fun a' w' h' => anyIn_wide hd hQ k _ a' w' h') (opIn_wide (noDefer_spec hd i o ho) h1)
        · exact absurd h1.2 hQ
      · simp only [hw] at h1 ⊢
        exact ⟨fun _ _ => trivial, anyIn_wide hd hQ k _ _ _ (by simpa using h1)⟩⟩
/-- Q, but nothing where memory is outgrown. -/
def NoOut (Q : Exit → Act → World → Prop) (e : Exit) (a : Act) (w : World) : Prop := e ≠ .outgrown ∧ Q e a w
theorem no_out (Q : Exit → Act → World → Prop) : ¬ LetsOut (NoOut Q) := by
  rintro ⟨a, w, h, _⟩
  exact h rfl
/-- THE LAW: what wpAnyH shows holds in a round too. -/
theorem region_round {id r : Nat} {Q : Exit → Act → World → Prop} (S : World → Prop) {a : Act} {w : World} (hm : P.follows .mixedOrders = true) (hd : noDefer ops = true) (hS : S w.drew)
    (h : S w.drew → wpAnyH P .any ops (NoOut Q) S ops.size (Array.replicate ops.size false) a w.drew) : (Code.region id ops true).wpIn (Fence.wide.inRound r) n P Q a w :=
  wpIn_mono (wpIn_region_any hm (wpAnyIn_round r (noDefer_spec hd) _ _ _ _ (anyIn_wide hd (Q := NoOut Q) (no_out Q) _ _ _ _ (wpAny_of_held _ _ _ _ (h hS))))) (fun _ _ _ h => h.2)
end
end Go.Icz
