/-
  The program's store and the reference's beside each other in one memory. Lent bytes. Conditions: those that each theorem names.
-/
import Derived.Test.YtcohpgahffbnlaaOr9
import Derived.Test.YtcohpgahffbnlaaOop
namespace Go.Proofs.Ytcohpgahffbnlaa
open Go.RowKit Go.Icz Go.Maps Go.ChangeMaps Go.MapKept
set_option maxRecDepth 100000
set_option maxHeartbeats 4000000
variable {w w' : World} {T T' : Nat → Prop} {m c q p r : Nat} {lv cv : Value} {xs : List OV} {M N : SM} {L : OM}
theorem Rf.re (h : Rf w T r lv cv xs M) (hT : ∀ k, T k → k < w.heap.size → T' k) : Rf w T' r lv cv xs M :=
  ⟨h.r_, h.lo, ⟨h.ob.1, fun i a b => ⟨(h.ob.2 i a b).1, (h.ob.2 i a b).2.1, fun g hg => hT g ((h.ob.2 i a b).2.2 g hg) ((h.ob.2 i a b).2.1.lt g hg).2⟩⟩, h.ch, hT _ h.tr (row_lt h.r_), fun g hg => hT g (h.tl g hg) (h.lo.lt g hg).2, fun g hg => hT g (h.tc g hg) (h.ch.lt g hg).2⟩
/-- Both stores, apart, in T, and below m. -/
def Half (w : World) (T : Nat → Prop) (m c q p r : Nat) (M N : SM) : Prop :=
  m ≤ w.heap.size ∧ ∃ T1 T2 : Nat → Prop, (∀ k, T1 k → T k ∧ k < m) ∧ (∀ k, T2 k → T k ∧ k < m) ∧ (∀ k, T1 k → ¬ T2 k) ∧ Sto w T1 c q p M ∧ ∃ lv cv xs, Rf w T2 r lv cv xs N
theorem Half.st (h : Half w T m c q p r M N) (hT : ∀ k, w.heap.size ≤ k → T k) : ∃ T1 : Nat → Prop, (∀ k, w.heap.size ≤ k → T1 k) ∧ (∀ k, T1 k → T k) ∧ Sto w T1 c q p M ∧
    ∀ w' c' M', Dn w T1 c' q p M' w' → Half w' T w'.heap.size c' q p r M' N ∧ Tch T w w' := by
  obtain ⟨hm, T1, T2, h1, h2, h12, S, lv, cv, xs, R⟩ := h
  have hs : ∀ k, (T1 k ∨ w.heap.size ≤ k) → T k := fun k a => a.elim (fun b => (h1 k b).1) (hT k)
  refine ⟨fun k => T1 k ∨ w.heap.size ≤ k, fun k hk => .inr hk, hs, S.re (fun k a _ => .inl a), fun w' c' M' D => ?_⟩
  obtain ⟨S', t⟩ := D
  have far : ∀ k, (T1 k ∨ w.heap.size ≤ k) → ¬ T2 k := by
    rintro k (a | a) b
    · exact h12 k a b
    · have := (h2 k b).2; omega
  have hsz := t.size
  exact ⟨⟨Nat.le_refl _, fun k => (T1 k ∨ w.heap.size ≤ k) ∧ k < w'.heap.size, T2, fun k a => ⟨hs k a.1, a.2⟩, fun k a => ⟨(h2 k a).1, by have := (h2 k a).2; omega⟩, fun k a => far k a.1, S'.re (fun k a b => ⟨a, b⟩), _, _, _, R.far t far⟩, t.mono hs⟩
theorem Half.rf (h : Half w T m c q p r M N) (hT : ∀ k, w.heap.size ≤ k → T k) : ∃ (T2 : Nat → Prop) (lv cv : Value) (xs : List OV), (∀ k, w.heap.size ≤ k → T2 k) ∧ (∀ k, T2 k → T k) ∧ Rf w T2 r lv cv xs N ∧
    ∀ w' lv' cv' xs' N', Rf w' T2 r lv' cv' xs' N' → Tch T2 w w' → Half w' T w'.heap.size c q p r M N' ∧ Tch T w w' := by
  obtain ⟨hm, T1, T2, h1, h2, h12, S, lv, cv, xs, R⟩ := h
  have hs : ∀ k, (T2 k ∨ w.heap.size ≤ k) → T k := fun k a => a.elim (fun b => (h2 k b).1) (hT k)
  refine ⟨fun k => T2 k ∨ w.heap.size ≤ k, lv, cv, xs, fun k hk => .inr hk, hs, R.re (fun k a _ => .inl a), fun w' lv' cv' xs' N' R' t => ?_⟩
  have far : ∀ k, (T2 k ∨ w.heap.size ≤ k) → ¬ T1 k := by
    rintro k (a | a) b
    · exact h12 k b a
    · have := (h1 k b).2; omega
  have hsz := t.size
  exact ⟨⟨Nat.le_refl _, T1, fun k => (T2 k ∨ w.heap.size ≤ k) ∧ k < w'.heap.size, fun k a => ⟨(h1 k a).1, by have := (h1 k a).2; omega⟩, fun k a => ⟨hs k a.1, a.2⟩, fun k a b => far k b.1 a, S.far t far, _, _, _, R'.re (fun k a b => ⟨a, b⟩)⟩, t.mono hs⟩
theorem Half.below (h : Half w T m c q p r M N) (b : Below w.heap.size w w') : Half w' T m c q p r M N := by
  obtain ⟨hm, T1, T2, h1, h2, h12, S, lv, cv, xs, R⟩ := h
  exact ⟨Nat.le_trans hm b.size, T1, T2, h1, h2, h12, S.below b, lv, cv, xs, R.below b⟩
theorem Half.far {S : Nat → Prop} (h : Half w T m c q p r M N) (t : Tch S w w') (hS : ∀ k, S k → ¬ T k) : Half w' T m c q p r M N := by
  obtain ⟨hm, T1, T2, h1, h2, h12, S1, lv, cv, xs, R⟩ := h
  exact ⟨Nat.le_trans hm t.size, T1, T2, h1, h2, h12, S1.far t (fun k a b => hS k a (h1 k b).1), lv, cv, xs, R.far t (fun k a b => hS k a (h2 k b).1)⟩
theorem Half.to (h : Half w T m c q p r M N) (hT : ∀ k, T k → k < m → T' k) : Half w T' m c q p r M N := by
  obtain ⟨hm, T1, T2, h1, h2, h12, S, R⟩ := h
  exact ⟨hm, T1, T2, fun k a => ⟨hT k (h1 k a).1 (h1 k a).2, (h1 k a).2⟩, fun k a => ⟨hT k (h2 k a).1 (h2 k a).2, (h2 k a).2⟩, h12, S, R⟩
theorem Half.wf (h : Half w T m c q p r M N) : WfS M c := by
  obtain ⟨hm, T1, T2, h1, h2, h12, S, R⟩ := h
  exact S.2
theorem Half.le {d : Nat} (h : Half w T m c q p r M N) (hd : c ≤ d) (hh : d ≤ 4194304) : Half w T m d q p r M N := by
  obtain ⟨hm, T1, T2, h1, h2, h12, S, R⟩ := h
  exact ⟨hm, T1, T2, h1, h2, h12, S.le hd hh, R⟩
theorem Half.any (h : Half w T m c q p r M N) : ∃ T1 T2 lv cv xs, Sto w T1 c q p M ∧ Rf w T2 r lv cv xs N ∧ (∀ k, T2 k → T k) ∧ ∀ k, T1 k → T k := by
  obtain ⟨hm, T1, T2, h1, h2, h12, S, lv, cv, xs, R⟩ := h
  exact ⟨T1, T2, lv, cv, xs, S, R, fun k a => (h2 k a).1, fun k a => (h1 k a).1⟩
/-- Both stores, which agree. -/
def Pr (w : World) (T : Nat → Prop) (c q p r : Nat) : Prop := ∃ m M L, Half w T m c q p r M (wl M L) ∧ AgrL M L ∧ Tog M
theorem Pr.below (h : Pr w T c q p r) (b : Below w.heap.size w w') : Pr w' T c q p r := by
  obtain ⟨m, M, L, H, a⟩ := h
  exact ⟨m, M, L, H.below b, a⟩
theorem Pr.far {S : Nat → Prop} (h : Pr w T c q p r) (t : Tch S w w') (hS : ∀ k, S k → ¬ T k) : Pr w' T c q p r := by
  obtain ⟨m, M, L, H, a⟩ := h
  exact ⟨m, M, L, H.far t hS, a⟩
theorem Pr.to (h : Pr w T c q p r) (hT : ∀ k, T k → k < w.heap.size → T' k) : Pr w T' c q p r := by
  obtain ⟨m, M, L, H, a⟩ := h
  exact ⟨m, M, L, H.to (fun k x y => hT k x (by have := H.1; omega)), a⟩
theorem Pr.le {d : Nat} (h : Pr w T c q p r) (hd : c ≤ d) (hh : d ≤ 4194304) : Pr w T d q p r := by
  obtain ⟨m, M, L, H, a⟩ := h
  exact ⟨m, M, L, H.le hd hh, a⟩
theorem own_form {α : Type} {K : Kd α} {w : World} {B : Nat} {v : Value} {l : List α} (h : K.Own w B v l) (hn : 0 < l.length) : ∃ g c, v = .slice (some ⟨g, 0, none⟩) l.length c ∧ l.length ≤ c := by
  obtain ⟨g, c, hv, _, _⟩ := World.ownsRow.form h hn
  obtain ⟨A, c2, hv2, hc⟩ := h.rd.form
  rw [hv] at hv2
  injection hv2 with _ _ e
  exact ⟨g, c, hv, by rw [e]; exact hc⟩
/-- Lent bytes: two more behind them. -/
theorem Lent_is (v : Value) (l : List Nat) (w : World) (hv : KB.Rd w v l) (hlen : l.length ≤ 1048576) :
    Calls Try.prog 16 #[v] w fun e w' => ∃ g C, e = .returned (.slice (some ⟨g, 0, none⟩) l.length C) ∧ KB.Own w' w.heap.size (.slice (some ⟨g, 0, none⟩) (l.length + 2) C) (l ++ [77, 78]) ∧ Below w.heap.size w w' := by
  have HV := hid hv
  obtain ⟨A, c, rfl, _, _⟩ := hv
  have o0 : KB.Own (w.alloc (.cells #[] 5)) w.heap.size (.slice (some ⟨w.heap.size, 0, none⟩) 0 0) [] := Kd.Own.lit (K := KB) (B := w.heap.size) w [] (by decide) (Nat.le_refl _)
  have r0 := HV.out.alloc (.cells #[] 5)
  have hmm : ([] : List Nat).length + l.length ≤ maxLen := by simp; unfold maxLen; omega
  have hml : (([] : List Nat).length + l.length) * 1 ≤ 140737488355328 := by simp; omega
  have hB : w.heap.size ≤ (w.alloc (.cells #[] 5)).heap.size := by rw [World.size_alloc]; omega
  have ba : Below w.heap.size w (w.alloc (.cells #[] 5)) := (Below.refl _ w).alloc (Nat.le_refl _) _
  have HL := hid hlen
  have hl2 : l.length + 2 ≤ 1048578 := by omega
  go_enter Try.func16, Try.ntmps16
  go_wp2_with (first
    | (at_builtin; refine Kd.wp_app (K := KB) rfl (.tmp 4) (.tmp 5) 32 rfl Try.underlying32 infoB rfl w.heap.size _ _ [] l rfl o0 rfl r0 hmm hml hB ?_; intro v1 w1 o1 b1 g1 n1; simp only [List.nil_append] at o1; have hs1 : w.heap.size ≤ w1.heap.size := Nat.le_trans hB b1.size; clear o0 r0 hmm hml)
    | (at_builtin; refine Kd.wp_app (K := KB) rfl (.tmp 7) (.tmp 8) 32 rfl Try.underlying32 infoB rfl w.heap.size _ _ l [77, 78] rfl (o1.alloc _) rfl (Kd.Own.lit (K := KB) (B := w1.heap.size) w1 [77, 78] (by decide) (Nat.le_refl _)).rd ?_ ?_ ?_ ?_; (focus (have := HL.out; simp; unfold maxLen; omega)); (focus (have := HL.out; simp; omega)); (focus (rw [World.size_alloc]; omega)); intro v2 w2 o2 b2 g2 n2; clear o1; obtain ⟨g, C, hv2, hC⟩ := own_form o2 (by simp); have hlc : (l ++ [77, 78]).length = l.length + 2 := (by simp); rw [hlc] at hC hv2; subst hv2))
  go_ret
  exact ⟨g, C, rfl, o2, ((ba.trans b1).trans ((Below.refl _ w1).alloc hs1 _)).trans b2⟩
end Go.Proofs.Ytcohpgahffbnlaa
