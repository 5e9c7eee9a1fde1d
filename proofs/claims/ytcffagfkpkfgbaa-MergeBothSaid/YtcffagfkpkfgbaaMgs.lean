/-
  The heap of heads in memory: Swap, Push, Pop. Conditions: those that each theorem names.
-/
import Derived.Test.YtcffagfkpkfgbaaMgl
namespace Go.Icz
open Go.RowKit
theorem cells_put : ∀ (l : List HR) (k : Nat) (r : HR), k < l.length → KRow.cells (l.set k r) = ((KRow.cells l).set (k * 2) (.slice r.A r.l.length r.c)).set (k * 2 + 1) (.int .i64 (r.p : Int))
  | [], k, r, h => by simp at h
  | x :: t, 0, r, _ => rfl
  | x :: t, k + 1, r, h => by
    have ih := cells_put t k r (by simpa using h)
    have e : ∀ (y : HR) (m : List HR), KRow.cells (y :: m) = .slice y.A y.l.length y.c :: .int .i64 (y.p : Int) :: KRow.cells m := fun _ _ => rfl
    rw [List.set_cons_succ, e, e, ih, show (k + 1) * 2 = k * 2 + 1 + 1 by omega, show k * 2 + 1 + 1 + 1 = (k * 2 + 1) + 1 + 1 by omega]
    rfl
theorem own_put {w : World} {B g cap : Nat} {l : List HR} (h : KRow.Own w B (.slice (some ⟨g, 0, none⟩) l.length cap) l) (k : Nat) (hk : k < l.length) (r : HR) :
    KRow.Own ((w.setCell ⟨g, k * 2, none⟩ (.slice r.A r.l.length r.c)).setCell ⟨g, k * 2 + 1, none⟩ (.int .i64 (r.p : Int))) B (.slice (some ⟨g, 0, none⟩) l.length cap) (l.set k r) := by
  unfold Kd.Own at *
  rw [cells_put l k r hk, List.length_set]
  exact (World.ownsRow.stored (World.ownsRow.stored h (k * 2) _).1 (k * 2 + 1) _).1
theorem Hp.put {W0 w : World} {q g cap n : Nat} {rs : List Value} {nb : Bool} {l : List HR} (h : Hp W0 w q rs nb (.slice (some ⟨g, 0, none⟩) n cap) l) (k : Nat) (hk : k < l.length) (r : HR) (hr : r.l ≠ [] ∧ KEnt.Rd W0 (.slice r.A r.l.length r.c) r.l) :
    Hp W0 ((w.setCell ⟨g, k * 2, none⟩ (.slice r.A r.l.length r.c)).setCell ⟨g, k * 2 + 1, none⟩ (.int .i64 (r.p : Int))) q rs nb (.slice (some ⟨g, 0, none⟩) n cap) (l.set k r) := by
  have hn : n = l.length := by
    obtain ⟨A, c, e⟩ := h.form
    injection e
  subst hn
  have hgq := h.apart g rfl
  have hg := (h.own.lt g rfl).1
  have t := (Tch.set (· = g) w ⟨g, k * 2, none⟩ (.slice r.A r.l.length r.c) rfl).trans (Tch.set (· = g) _ ⟨g, k * 2 + 1, none⟩ (.int .i64 (r.p : Int)) rfl)
  obtain ⟨ty, h1, h2⟩ := h.at_
  refine ⟨⟨ty, t.row h1 (fun e => hgq e.symm), h2⟩, own_put h.own k hk r, h.lo, Tch.below h.bel t (fun j hj => by subst hj; exact hg) h.bel.size, fun x hx => ?_, by rw [List.length_set]; exact h.len⟩
  rcases List.mem_or_eq_of_mem_set hx with h' | rfl
  · exact h.rd x h'
  · exact hr
end Go.Icz
namespace Go.Proofs.Ytcffagfkpkfgbaa
open Go.RowKit Go.Icz
set_option maxRecDepth 100000 in
set_option maxHeartbeats 4000000 in
theorem Swap_is {W0 w : World} {q : Nat} {rs : List Value} {nb : Bool} {v : Value} {l : List HR} (h : Hp W0 w q rs nb v l) (i j : Nat) (hi : i < l.length) (hj : j < l.length) :
    Calls Try.prog 57 #[.pointer (some ⟨q, 0, none⟩), .int .i64 i, .int .i64 j] w fun e w' => e = .returned (.tuple #[]) ∧ Hp W0 w' q rs nb v (swp l i j) ∧ Tch (fun k => v.ownBlock = some k) w w' := by
  obtain ⟨g, cap, rfl, _, _, _, hx⟩ := h.own.block (by omega)
  clear hx
  have c0 := h.c0
  obtain ⟨a0, a1, a2, a3⟩ := h.row hi
  obtain ⟨b0, b1, b2, b3⟩ := h.row hj
  have ri := h.rd _ (List.getElem_mem hi)
  have rj := h.rd _ (List.getElem_mem hj)
  have hgq := h.apart g rfl
  by_cases hne : i = j
  · subst hne
    have P1 := (h.put i hi l[i] rj).put i (by rw [List.length_set]; exact hi) l[i] ri
    rw [swp_set hi hj]
    have hiI : (i : Int) < (l.length : Int) := by omega
    have hjI : (i : Int) < (l.length : Int) := by omega
    have tt : ∀ (p1 p2 p3 p4 : Nat) (u1 u2 u3 u4 : Value), Tch (fun k => (Value.slice (some ⟨g, 0, none⟩) l.length cap).ownBlock = some k) w ((((w.setCell ⟨g, p1, none⟩ u1).setCell ⟨g, p2, none⟩ u2).setCell ⟨g, p3, none⟩ u3).setCell ⟨g, p4, none⟩ u4).drew := fun p1 p2 p3 p4 u1 u2 u3 u4 =>
      (((((Tch.set (· = g) w ⟨g, p1, none⟩ u1 rfl).trans (Tch.set _ _ ⟨g, p2, none⟩ u2 rfl)).trans (Tch.set _ _ ⟨g, p3, none⟩ u3 rfl)).trans (Tch.set _ _ ⟨g, p4, none⟩ u4 rfl)).trans (Tch.drew _ _)).mono (fun k hk => by rw [hk]; rfl)
    clear ri rj h
    generalize l[i] = x at *
    generalize (l.set i x).set i x = l1 at *
    have fin : ∀ (wx : World), Hp W0 wx q rs nb (.slice (some ⟨g, 0, none⟩) l.length cap) l1 → Hp W0 wx.drew q rs nb (.slice (some ⟨g, 0, none⟩) l.length cap) l1 := fun wx h => h.below (Below.refl _ _).drew
    generalize l.length = n at *
    go_enter Try.func57, Try.ntmps57
    go_wp2
    go_region
    go_wp2_with fail
    go_end0
    exact ⟨rfl, fin _ P1, tt _ _ _ _ _ _ _ _⟩
  · have hne' : ¬ j = i := fun e => hne e.symm
    have P1 := (h.put i hi l[j] rj).put j (by rw [List.length_set]; exact hj) l[i] ri
    rw [swp_set hi hj]
    have hiI : (i : Int) < (l.length : Int) := by omega
    have hjI : (j : Int) < (l.length : Int) := by omega
    have tt : ∀ (p1 p2 p3 p4 : Nat) (u1 u2 u3 u4 : Value), Tch (fun k => (Value.slice (some ⟨g, 0, none⟩) l.length cap).ownBlock = some k) w ((((w.setCell ⟨g, p1, none⟩ u1).setCell ⟨g, p2, none⟩ u2).setCell ⟨g, p3, none⟩ u3).setCell ⟨g, p4, none⟩ u4).drew := fun p1 p2 p3 p4 u1 u2 u3 u4 =>
      (((((Tch.set (· = g) w ⟨g, p1, none⟩ u1 rfl).trans (Tch.set _ _ ⟨g, p2, none⟩ u2 rfl)).trans (Tch.set _ _ ⟨g, p3, none⟩ u3 rfl)).trans (Tch.set _ _ ⟨g, p4, none⟩ u4 rfl)).trans (Tch.drew _ _)).mono (fun k hk => by rw [hk]; rfl)
    clear ri rj h
    generalize l[i] = x at *
    generalize l[j] = y at *
    generalize (l.set i y).set j x = l1 at *
    have fin : ∀ (wx : World), Hp W0 wx q rs nb (.slice (some ⟨g, 0, none⟩) l.length cap) l1 → Hp W0 wx.drew q rs nb (.slice (some ⟨g, 0, none⟩) l.length cap) l1 := fun wx h => h.below (Below.refl _ _).drew
    generalize l.length = n at *
    go_enter Try.func57, Try.ntmps57
    go_wp2
    go_region
    go_wp2_with fail
    go_end0
    exact ⟨rfl, fin _ P1, tt _ _ _ _ _ _ _ _⟩
end Go.Proofs.Ytcffagfkpkfgbaa
