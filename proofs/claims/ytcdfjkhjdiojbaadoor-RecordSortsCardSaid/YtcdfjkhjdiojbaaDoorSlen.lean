/-
  A list and the same list sorted are of one length; the two halves of a merge behind the cut. Conditions: those that the theorems name.
-/
import Derived.Test.YtcdfjkhjdiojbaaDoorSymM
import Derived.Test.YtcdfjkhjdiojbaaDoorSrot
namespace Go.Proofs.YtcdfjkhjdiojbaaDoor
open Go.RowKit Go.Icz
theorem filter_swap {α : Type} (p q : α → Bool) (m : List α) : (m.filter q).filter p = (m.filter p).filter q := by
  rw [List.filter_filter, List.filter_filter]
  congr 1
  funext y
  exact Bool.and_comm _ _
theorem filter_parts {α : Type} (p : α → Bool) : ∀ m : List α, m.length = (m.filter p).length + (m.filter (fun y => !p y)).length
  | [] => rfl
  | b :: t => by
    have := filter_parts p t
    simp only [List.filter_cons, List.length_cons]
    cases p b <;> simp <;> omega
theorem same_length {α : Type} {lt : α → α → Bool} (hS : SWOrd lt) : ∀ (n : Nat) (l r : List α), l.length ≤ n → (∀ x, r.filter (eqv lt x) = l.filter (eqv lt x)) → r.length = l.length
  | _, [], [], _, _ => rfl
  | _, [], b :: t, _, h => by
    have := mem_of_filter hS h (List.mem_cons_self (a := b) (l := t))
    cases this
  | 0, a :: t, _, hl, _ => by simp at hl
  | n + 1, a :: t, r, hl, h => by
    have k1 := filter_parts (eqv lt a) (a :: t)
    have k2 := filter_parts (eqv lt a) r
    have k3 : 0 < ((a :: t).filter (eqv lt a)).length := List.length_pos_of_mem (List.mem_filter.2 ⟨List.mem_cons_self, eqv_iff.2 ⟨hS.irr a, hS.irr a⟩⟩)
    have k4 := same_length hS n ((a :: t).filter (fun y => !eqv lt a y)) (r.filter (fun y => !eqv lt a y)) (by omega) (fun x => by rw [filter_swap, h x, filter_swap])
    have k5 := congrArg List.length (h a)
    omega
theorem StableOf.length {α : Type} {lt : α → α → Bool} (hS : SWOrd lt) {l r : List α} (h : StableOf lt l r) : r.length = l.length :=
  same_length hS l.length l r (Nat.le_refl _) h.2
end Go.Proofs.YtcdfjkhjdiojbaaDoor
