/-
  The reference's store in memory: objects, rising, its changes; New, fine, call, Tick, SetLag, Fail. Conditions: those that each theorem names.
-/
import Derived.Test.YtcohpgahffbnlaaOtx
namespace Go.Icz
open Go.RowKit
/-- An object as it lies: its key, its bytes' slice. -/
structure OV where
  k : ByteArray
  A : Option Addr
  n : Nat
  c : Nat
def OV.v (x : OV) : Value := .slice x.A x.n x.c
end Go.Icz
namespace Go.Proofs.Ytcohpgahffbnlaa
open Go.RowKit Go.Icz Go.Maps Go.ChangeMaps Go.MapKept
set_option maxRecDepth 100000
set_option maxHeartbeats 4000000
def KRO : Kd OV where
  e := 74
  z := 2
  enc := fun x => [.string x.k, .slice x.A x.n x.c]
  len := fun _ => rfl
  pos := by decide
  one := by
    intro x u hu
    simp only [List.mem_cons, List.not_mem_nil, or_false] at hu
    rcases hu with rfl | rfl <;> rfl
def KRC : Kd Chg where
  e := 84
  z := 3
  enc := fun x => [.string x.k, .int .i64 (x.t : Int), .bool x.c]
  len := fun _ => rfl
  pos := by decide
  one := by
    intro x u hu
    simp only [List.mem_cons, List.not_mem_nil, or_false] at hu
    rcases hu with rfl | rfl | rfl <;> rfl
def rfR (M : SM) (lv cv : Value) : Array Value := #[.int .i64 (M.most : Int), .int .i64 (M.now : Int), .int .i64 (M.lag : Int), .int .i64 (M.calls : Int), lv, cv, .int .i64 M.left, .bool M.done]
/-- The objects x are the pairs L: their keys, and their bytes lie where the objects say. -/
def ObR (w : World) (T : Nat → Prop) (xs : List OV) (L : OM) : Prop := xs.length = L.length ∧ ∀ i (h : i < xs.length) (h' : i < L.length), xs[i].k = L[i].1 ∧ KB.Own w 0 xs[i].v L[i].2 ∧ ∀ g, xs[i].v.ownBlock = some g → T g
/-- A reference's store: its objects M.L, in their order; all its changes. -/
structure Rf (w : World) (T : Nat → Prop) (r : Nat) (lv cv : Value) (xs : List OV) (M : SM) : Prop where
  r_ : w.heap[r]? = some (.cells (rfR M lv cv) 48 (0, 0))
  lo : KRO.Own w 0 lv xs
  ob : ObR w T xs M.L
  ch : KRC.Own w 0 cv M.ch
  tr : T r
  tl : ∀ g, lv.ownBlock = some g → T g
  tc : ∀ g, cv.ownBlock = some g → T g
theorem ObR.touch {S : Nat → Prop} {w w' : World} {T : Nat → Prop} {xs : List OV} {L : OM} (h : ObR w T xs L) (t : Tch S w w') (hS : ∀ j, S j → T j → ∀ cs z, w.heap[j]? ≠ some (.cells cs 5 z)) : ObR w' T xs L := by
  refine ⟨h.1, fun i h1 h2 => ?_⟩
  obtain ⟨a, b, c⟩ := h.2 i h1 h2
  refine ⟨a, b.touch t (fun j hj hb => ?_), c⟩
  obtain ⟨cur, hc⟩ := b.row hb
  exact hS j hj (c j hb) _ _ hc
theorem Rf.far {S : Nat → Prop} {w w' : World} {T : Nat → Prop} {r : Nat} {lv cv : Value} {xs : List OV} {M : SM} (h : Rf w T r lv cv xs M) (t : Tch S w w') (hS : ∀ j, S j → ¬ T j) : Rf w' T r lv cv xs M :=
  ⟨t.row h.r_ (fun hs => hS _ hs h.tr), h.lo.touch t (fun j hj hb => hS j hj (h.tl j hb)), h.ob.touch t (fun j hj ht => absurd ht (hS j hj)), h.ch.touch t (fun j hj hb => hS j hj (h.tc j hb)), h.tr, h.tl, h.tc⟩
theorem Rf.below {w w' : World} {T : Nat → Prop} {r : Nat} {lv cv : Value} {xs : List OV} {M : SM} (h : Rf w T r lv cv xs M) (b : Below w.heap.size w w') : Rf w' T r lv cv xs M :=
  ⟨(Tch.of_below (S := fun _ => False) b).row h.r_ (fun h => h), h.lo.below b, h.ob.touch (Tch.of_below (S := fun _ => False) b) (fun _ h => h.elim), h.ch.below b, h.tr, h.tl, h.tc⟩
/-- The store's own row turned: not what it holds. -/
theorem Rf.set {w w' : World} {T : Nat → Prop} {r : Nat} {lv cv : Value} {xs : List OV} {M M' : SM} (h : Rf w T r lv cv xs M) (t : Tch (· = r) w w') (hr : w'.heap[r]? = some (.cells (rfR M' lv cv) 48 (0, 0))) (hL : M'.L = M.L) (hC : M'.ch = M.ch) : Rf w' T r lv cv xs M' := by
  refine ⟨hr, h.lo.touch t (fun j hj hb => ?_), ?_, ?_, h.tr, h.tl, h.tc⟩
  · obtain ⟨cur, hc⟩ := h.lo.row hb
    subst hj
    exact tag_ne h.r_ hc (by decide) rfl
  · rw [hL]
    exact h.ob.touch t (fun j hj _ cs z e => by subst hj; exact tag_ne h.r_ e (by decide) rfl)
  · rw [hC]
    refine h.ch.touch t (fun j hj hb => ?_)
    obtain ⟨cur, hc⟩ := h.ch.row hb
    subst hj
    exact tag_ne h.r_ hc (by decide) rfl
variable {w : World} {T : Nat → Prop} {r : Nat} {lv cv : Value} {xs : List OV} {M : SM} {c : Nat}
theorem RNew_is (lag : Nat) (w : World) (h : lag ≤ 100) (hT : ∀ k, w.heap.size ≤ k → T k) :
    Calls Try.prog 5 #[.int .i64 (lag : Int)] w fun e w' => ∃ r, e = .returned (.pointer (some ⟨r, 0, none⟩)) ∧ Rf w' T r (.slice none 0 0) (.slice none 0 0) [] (newS lag) ∧ Below w.heap.size w w' := by
  have d1 : ¬ ((lag : Int) < 0) := by omega
  have d2 : ¬ (100 < (lag : Int)) := by omega
  have H : Hid (Rf (w.alloc (.cells (rfR (newS lag) (.slice none 0 0) (.slice none 0 0)) 48)) T w.heap.size (.slice none 0 0) (.slice none 0 0) [] (newS lag) ∧ Below w.heap.size w (w.alloc (.cells (rfR (newS lag) (.slice none 0 0) (.slice none 0 0)) 48))) :=
    hid ⟨⟨heap_alloc_new _ _, Kd.Own.nil _ _, ⟨rfl, fun i h => by simp at h⟩, Kd.Own.nil _ _, hT _ (Nat.le_refl _), fun g hg => (by cases hg), fun g hg => (by cases hg)⟩, (Below.refl _ w).alloc (Nat.le_refl _) _⟩
  unfold rfR newS at H
  clear h hT
  go_enter Try.func5, Try.ntmps5
  go_wp2
  go_ret
  exact ⟨_, rfl, H.out⟩
theorem RNew_no (lag : Int) (w : World) (h : lag < 0 ∨ 100 < lag) : Calls Try.prog 5 #[.int .i64 lag] w fun e w' => e = .returned (.pointer none) ∧ w' = w := by
  by_cases h0 : lag < 0
  · have d1 : decide (lag < 0) = true := decide_eq_true h0
    clear h
    go_enter Try.func5, Try.ntmps5
    go_wp2
    go_ret
    exact ⟨rfl, rfl⟩
  · have d1 : decide (lag < 0) = false := decide_eq_false h0
    have d2 : decide (100 < lag) = true := decide_eq_true (by omega)
    clear h
    go_enter Try.func5, Try.ntmps5
    go_wp2
    go_ret
    exact ⟨rfl, rfl⟩
/-- A call: counted, its failure. -/
theorem Rcall_is (h : Rf w T r lv cv xs M) (hwf : WfS M c) :
    Calls Try.prog 43 #[.pointer (some ⟨r, 0, none⟩)] w fun e w' => e = .returned (.tuple #[.int .i64 (errS M), .bool (okS M)]) ∧ Rf w' T r lv cv xs (askS M) ∧ Tch (· = r) w w' := by
  have c3 : w.cell? ⟨r, 3, none⟩ = some (.int .i64 (M.calls : Int)) := held_cell h.r_ rfl
  have c6 : w.cell? ⟨r, 6, none⟩ = some (.int .i64 M.left) := held_cell h.r_ rfl
  have c7 : w.cell? ⟨r, 7, none⟩ = some (.bool M.done) := held_cell h.r_ rfl
  have f3 := held_frozen (i := 3) h.r_
  have f6 := held_frozen (i := 6) h.r_
  have hca : IntKind.i64.wrap ((M.calls : Int) + 1) = (M.calls : Int) + 1 := by have := hwf.ca; have := hwf.hc; rw [IntKind.wrap_i64]; omega
  have hl := hwf.lf
  have r1 := row_set (i := 3) h.r_ (.int .i64 ((M.calls : Int) + 1))
  have r2 := row_set (i := 6) r1 (.int .i64 (M.left - 1))
  have t1 : Tch (· = r) w (w.setCell ⟨r, 3, none⟩ (.int .i64 ((M.calls : Int) + 1))) := Tch.set _ _ _ _ rfl
  have t2 : Tch (· = r) w ((w.setCell ⟨r, 3, none⟩ (.int .i64 ((M.calls : Int) + 1))).setCell ⟨r, 6, none⟩ (.int .i64 (M.left - 1))) := t1.trans (Tch.set _ _ _ _ rfl)
  have hw2 : IntKind.i64.wrap (M.left - 1) = M.left - 1 := by rw [IntKind.wrap_i64]; omega
  by_cases y : M.left = 0
  · have HA := hid (show nextF M.left M.done = (true, 0, M.left) by unfold nextF; rw [if_pos y])
    have HQ : Hid (Rf (w.setCell ⟨r, 3, none⟩ (.int .i64 ((M.calls : Int) + 1))) T r lv cv xs (askS M)) := hid (h.set t1 (by rw [r1]; unfold askS; rw [HA.out]; rfl) rfl rfl)
    have HT := hid t1
    rw [y] at c6
    unfold okS errS
    rw [HA.out]
    clear y hl r1 r2 t1 t2 hw2 h hwf
    go_enter Try.func43, Try.ntmps43
    go_wp2
    go_ret2
    exact ⟨rfl, HQ.out, HT.out⟩
  · have y0 : 0 < M.left := by omega
    by_cases x : 1 < M.left
    · have HA := hid (show nextF M.left M.done = (true, 0, M.left - 1) by unfold nextF; rw [if_neg y, if_pos (by omega)])
      have HQ : Hid (Rf ((w.setCell ⟨r, 3, none⟩ (.int .i64 ((M.calls : Int) + 1))).setCell ⟨r, 6, none⟩ (.int .i64 (M.left - 1))) T r lv cv xs (askS M)) := hid (h.set t2 (by rw [r2]; unfold askS; rw [HA.out]; rfl) rfl rfl)
      have HT := hid t2
      have hz : ((M.left - 1) == 0) = false := by simp; omega
      have hz2 : ¬ (M.left - 1 = 0) := by omega
      unfold okS errS
      rw [HA.out]
      clear y hl r1 r2 t1 t2 h hwf
      go_enter Try.func43, Try.ntmps43
      go_wp2
      go_ret2
      exact ⟨rfl, HQ.out, HT.out⟩
    · have y1 : M.left = 1 := by omega
      have HA := hid (show nextF M.left M.done = (M.done, 8, M.left - 1) by unfold nextF; rw [if_neg y, if_neg (by omega)])
      have HQ : Hid (Rf ((w.setCell ⟨r, 3, none⟩ (.int .i64 ((M.calls : Int) + 1))).setCell ⟨r, 6, none⟩ (.int .i64 (M.left - 1))) T r lv cv xs (askS M)) := hid (h.set t2 (by rw [r2]; unfold askS; rw [HA.out]; rfl) rfl rfl)
      have HT := hid t2
      unfold okS errS
      rw [HA.out]
      rw [y1] at c6 HQ HT
      have HQ2 : Hid (Rf ((w.setCell ⟨r, 3, none⟩ (.int .i64 ((M.calls : Int) + 1))).setCell ⟨r, 6, none⟩ (.int .i64 0)).drew T r lv cv xs (askS M) ∧ Tch (· = r) w ((w.setCell ⟨r, 3, none⟩ (.int .i64 ((M.calls : Int) + 1))).setCell ⟨r, 6, none⟩ (.int .i64 0)).drew) := hid ⟨HQ.out.below ((Below.refl _ _).drew), HT.out.trans (Tch.of_below ((Below.refl _ _).drew))⟩
      clear y hl r1 r2 t1 t2 h hwf x hw2 y0 y1
      go_enter Try.func43, Try.ntmps43
      go_wp2
      go_region
      all_goals (go_wp2; go_ret2; exact ⟨rfl, HQ2.out⟩)
theorem RFail_is (h : Rf w T r lv cv xs M) (k : Int) (d : Bool) :
    Calls Try.prog 27 #[.pointer (some ⟨r, 0, none⟩), .int .i64 k, .bool d] w fun e w' => e = .returned (.tuple #[]) ∧ Rf w' T r lv cv xs (failS M k d) ∧ Tch (· = r) w w' := by
  have c6 : w.cell? ⟨r, 6, none⟩ = some (.int .i64 M.left) := held_cell h.r_ rfl
  have c7 : w.cell? ⟨r, 7, none⟩ = some (.bool M.done) := held_cell h.r_ rfl
  have f6 := held_frozen (i := 6) h.r_
  have f7 := held_frozen (i := 7) h.r_
  have t2 : Tch (· = r) w ((w.setCell ⟨r, 6, none⟩ (.int .i64 (max k 0))).setCell ⟨r, 7, none⟩ (.bool d)) := (Tch.set (· = r) _ _ _ rfl).trans (Tch.set (· = r) _ _ _ rfl)
  have HQ : Hid (Rf ((w.setCell ⟨r, 6, none⟩ (.int .i64 (max k 0))).setCell ⟨r, 7, none⟩ (.bool d)) T r lv cv xs (failS M k d) ∧ Tch (· = r) w ((w.setCell ⟨r, 6, none⟩ (.int .i64 (max k 0))).setCell ⟨r, 7, none⟩ (.bool d))) := hid ⟨h.set t2 (by rw [row_set (i := 7) (row_set (i := 6) h.r_ (.int .i64 (max k 0))) (.bool d)]; rfl) rfl rfl, t2⟩
  clear h t2
  go_enter Try.func27, Try.ntmps27
  go_wp2
  go_end0
  exact ⟨rfl, HQ.out⟩
theorem RTick_is (h : Rf w T r lv cv xs M) (hwf : WfS M c) (n : Int) :
    Calls Try.prog 24 #[.pointer (some ⟨r, 0, none⟩), .int .i64 n] w fun e w' => e = .returned (.int .i64 (tickM M n).1) ∧ Rf w' T r lv cv xs (tickM M n).2 ∧ Tch (· = r) w w' := by
  have c1 : w.cell? ⟨r, 1, none⟩ = some (.int .i64 (M.now : Int)) := held_cell h.r_ rfl
  have f1 := held_frozen (i := 1) h.r_
  have hnw := hwf.nw
  have w1 : IntKind.i64.wrap (1099511627776 - (M.now : Int)) = 1099511627776 - (M.now : Int) := by rw [IntKind.wrap_i64]; omega
  by_cases hb : 0 ≤ n ∧ n ≤ 1073741824 ∧ (M.now : Int) + n ≤ 1099511627776
  · have e : tickM M n = (0, { M with now := M.now + n.toNat }) := by unfold tickM; rw [if_pos (by unfold tickB; exact decide_eq_true hb)]
    have d1 : ¬ n < 0 := by omega
    have d2 : ¬ 1073741824 < n := by omega
    have d3 : ¬ 1099511627776 - (M.now : Int) < n := by omega
    have w2 : IntKind.i64.wrap ((M.now : Int) + n) = (M.now : Int) + n := by rw [IntKind.wrap_i64]; omega
    have hc : ((M.now + n.toNat : Nat) : Int) = (M.now : Int) + n := by omega
    have t1 : Tch (· = r) w (w.setCell ⟨r, 1, none⟩ (.int .i64 ((M.now : Int) + n))) := Tch.set _ _ _ _ rfl
    have HQ : Hid (Rf (w.setCell ⟨r, 1, none⟩ (.int .i64 ((M.now : Int) + n))) T r lv cv xs { M with now := M.now + n.toNat } ∧ Tch (· = r) w (w.setCell ⟨r, 1, none⟩ (.int .i64 ((M.now : Int) + n)))) := hid ⟨h.set t1 (by rw [row_set (i := 1) h.r_ (.int .i64 ((M.now : Int) + n))]; simp [rfR, hc]) rfl rfl, t1⟩
    rw [e]
    clear h e hb hc t1 hwf hnw
    go_enter Try.func24, Try.ntmps24
    go_wp2
    go_ret
    exact ⟨rfl, HQ.out⟩
  · have e : tickM M n = (1, M) := by unfold tickM; rw [if_neg (by unfold tickB; simp only [decide_eq_true_eq]; exact hb)]
    have HQ := hid h
    rw [e]
    by_cases d1 : n < 0
    · have b1 : decide (n < 0) = true := decide_eq_true d1
      clear h e hb hwf hnw
      go_enter Try.func24, Try.ntmps24
      go_wp2
      go_ret
      exact ⟨rfl, HQ.out, Tch.refl _ _⟩
    · have b1 : decide (n < 0) = false := decide_eq_false d1
      by_cases d2 : 1073741824 < n
      · have b2 : decide (1073741824 < n) = true := decide_eq_true d2
        clear h e hb hwf hnw
        go_enter Try.func24, Try.ntmps24
        go_wp2
        go_ret
        exact ⟨rfl, HQ.out, Tch.refl _ _⟩
      · have b2 : decide (1073741824 < n) = false := decide_eq_false d2
        have d3 : 1099511627776 - (M.now : Int) < n := by omega
        clear h e hb hwf hnw
        go_enter Try.func24, Try.ntmps24
        go_wp2
        go_ret
        exact ⟨rfl, HQ.out, Tch.refl _ _⟩
theorem RLag_is (h : Rf w T r lv cv xs M) (n : Int) :
    Calls Try.prog 25 #[.pointer (some ⟨r, 0, none⟩), .int .i64 n] w fun e w' => e = .returned (.int .i64 (lagM M n).1) ∧ Rf w' T r lv cv xs (lagM M n).2 ∧ Tch (· = r) w w' := by
  have c0 : w.cell? ⟨r, 0, none⟩ = some (.int .i64 (M.most : Int)) := held_cell h.r_ rfl
  have c2 : w.cell? ⟨r, 2, none⟩ = some (.int .i64 (M.lag : Int)) := held_cell h.r_ rfl
  have f2 := held_frozen (i := 2) h.r_
  by_cases hb : 0 ≤ n ∧ n ≤ (M.most : Int)
  · have e : lagM M n = (0, { M with lag := n.toNat }) := by unfold lagM; rw [if_pos hb]
    have d1 : ¬ n < 0 := by omega
    have d2 : ¬ (M.most : Int) < n := by omega
    have hc : ((n.toNat : Nat) : Int) = n := by omega
    have t1 : Tch (· = r) w (w.setCell ⟨r, 2, none⟩ (.int .i64 n)) := Tch.set _ _ _ _ rfl
    have HQ : Hid (Rf (w.setCell ⟨r, 2, none⟩ (.int .i64 n)) T r lv cv xs { M with lag := n.toNat } ∧ Tch (· = r) w (w.setCell ⟨r, 2, none⟩ (.int .i64 n))) := hid ⟨h.set t1 (by rw [row_set (i := 2) h.r_ (.int .i64 n)]; unfold rfR; rw [hc]; rfl) rfl rfl, t1⟩
    rw [e]
    clear h e hb hc t1
    go_enter Try.func25, Try.ntmps25
    go_wp2
    go_ret
    exact ⟨rfl, HQ.out⟩
  · have e : lagM M n = (1, M) := by unfold lagM; rw [if_neg hb]
    have HQ := hid h
    rw [e]
    by_cases d1 : n < 0
    · have b1 : decide (n < 0) = true := decide_eq_true d1
      clear h e hb
      go_enter Try.func25, Try.ntmps25
      go_wp2
      go_ret
      exact ⟨rfl, HQ.out, Tch.refl _ _⟩
    · have b1 : decide (n < 0) = false := decide_eq_false d1
      have d2 : (M.most : Int) < n := by omega
      clear h e hb
      go_enter Try.func25, Try.ntmps25
      go_wp2
      go_ret
      exact ⟨rfl, HQ.out, Tch.refl _ _⟩
end Go.Proofs.Ytcohpgahffbnlaa
