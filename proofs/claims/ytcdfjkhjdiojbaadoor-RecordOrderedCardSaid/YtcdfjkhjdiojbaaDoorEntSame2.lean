/-
  What the law's Same of two entries answers; how often an entry is in a list and in it sorted. Conditions: the labels can be read.
-/
import Derived.Test.YtcdfjkhjdiojbaaDoorRefSrt
import Derived.Test.YtcdfjkhjdiojbaaDoorEntSames
namespace Go.Icz
open Go.RowKit
def sameE (x y : Ent) : Bool := x.seq == y.seq && x.time == y.time && x.line == y.line && decide (x.labs = y.labs)
theorem sameE_iff {x y : Ent} : sameE x y = true ↔ x = y := by
  obtain ⟨a, b, c, d⟩ := x
  obtain ⟨a2, b2, c2, d2⟩ := y
  unfold sameE
  simp only [Bool.and_eq_true, beq_iff_eq, decide_eq_true_eq, Ent.mk.injEq]
  constructor
  · rintro ⟨⟨⟨h1, h2⟩, h3⟩, h4⟩; exact ⟨h1, h2, h4, h3⟩
  · rintro ⟨h1, h2, h4, h3⟩; exact ⟨⟨⟨h1, h2⟩, h3⟩, h4⟩
theorem stable_count {l r : List Ent} (h : StableOf ltT l r) (p : Ent) : l.countP (fun y => sameE y p) = r.countP (fun y => sameE y p) := by
  have key : ∀ m : List Ent, m.countP (fun y => sameE y p) = (m.filter (eqv ltT p)).countP (fun y => sameE y p) := fun m => by
    rw [List.countP_filter]
    congr 1
    funext y
    by_cases hy : sameE y p = true
    · have := sameE_iff.1 hy
      subst this
      have h1 : eqv ltT y y = true := eqv_iff.2 ⟨ltT_ord.irr y, ltT_ord.irr y⟩
      simp [hy, h1]
    · have : sameE y p = false := by simpa using hy
      simp [this]
  rw [key l, key r, h.2 p]
theorem count_take {l : List Ent} {i : Nat} (hi : i < l.length) (p : Ent) : (l.take (i + 1)).countP (fun y => sameE y p) = (l.take i).countP (fun y => sameE y p) + (if sameE l[i] p = true then 1 else 0) := by
  rw [List.take_succ_eq_append_getElem hi, List.countP_append]
  congr 1
  cases h : sameE l[i] p <;> simp [List.countP_cons, h]
end Go.Icz
namespace Go.Proofs.YtcdfjkhjdiojbaaDoor
open Go.RowKit Go.Icz
set_option maxHeartbeats 1000000 in
set_option maxRecDepth 100000 in
theorem ESame_is (x y : Ent) (A A' : Option Addr) (c c' : Nat) (w : World) (h1 : RdL w (.slice A x.labs.length c) x.labs) (h2 : RdL w (.slice A' y.labs.length c') y.labs) (hm : x.labs.length ≤ 4611686018427387904) :
    Calls Tryd.prog 13 #[entV x A c, entV y A' c'] w fun e w' => e = .returned (.bool (sameE x y)) ∧ Below w.heap.size w w' := by
  have hS := fun w1 g1 g2 => Same_is (.slice A x.labs.length c) (.slice A' y.labs.length c') x.labs y.labs w1 g1 g2 hm
  have g1 := fun o o2 => (h1.alloc o).alloc o2
  have g2 := fun o o2 => (h2.alloc o).alloc o2
  have hb : ∀ o o2, Below w.heap.size w ((w.alloc o).alloc o2) := fun o o2 => ((Below.refl _ _).alloc (Nat.le_refl _) o).alloc (by simp) o2
  clear h1 h2 hm
  unfold entV sameE
  obtain ⟨xs, xt, xl, xi⟩ := x
  obtain ⟨ys, yt, yl, yi⟩ := y
  simp only at *
  generalize decide (xl = yl) = q at *
  by_cases e1 : xs = ys
  · by_cases e2 : xt = yt
    · by_cases e3 : xi = yi
      · subst e1 e2 e3
        have f1 : (xs == xs && xt == xt && xi == xi && q) = q := by simp
        rw [f1]
        go_enter Tryd.func13, Tryd.ntmps13
        go_wp2_with (go_at_call 31; refine (hS _ (g1 _ _) (g2 _ _)).mono ?_; rintro e w1 ⟨rfl, b1⟩)
        go_ret
        exact ⟨rfl, (hb _ _).trans (b1.mono (by simp; omega))⟩
      · subst e1 e2
        have f1 : (xs == xs && xt == xt && xi == yi && q) = false := by simp [e3]
        rw [f1]
        have f3 : ¬ (⟨xi.toArray⟩ : ByteArray) = ⟨yi.toArray⟩ := by
          intro h
          injection h with h
          exact e3 (by simpa using congrArg Array.toList h)
        go_enter Tryd.func13, Tryd.ntmps13
        go_wp2_with (go_at_call 31; refine (hS _ (g1 _ _) (g2 _ _)).mono ?_; rintro e w1 ⟨rfl, b1⟩)
        go_ret
        exact ⟨rfl, hb _ _⟩
    · subst e1
      have f1 : (xs == xs && xt == yt && xi == yi && q) = false := by simp [e2]
      rw [f1]
      have f2 : (xt == yt) = false := by simp [e2]
      go_enter Tryd.func13, Tryd.ntmps13
      go_wp2_with (go_at_call 31; refine (hS _ (g1 _ _) (g2 _ _)).mono ?_; rintro e w1 ⟨rfl, b1⟩)
      go_ret
      exact ⟨rfl, hb _ _⟩
  · have f1 : (xs == ys && xt == yt && xi == yi && q) = false := by simp [e1]
    rw [f1]
    have f2 : (xs == ys) = false := by simp [e1]
    go_enter Tryd.func13, Tryd.ntmps13
    go_wp2_with (go_at_call 31; refine (hS _ (g1 _ _) (g2 _ _)).mono ?_; rintro e w1 ⟨rfl, b1⟩)
    go_ret
    exact ⟨rfl, hb _ _⟩
end Go.Proofs.YtcdfjkhjdiojbaaDoor
