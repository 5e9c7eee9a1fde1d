/-
  What a store's calls do. Conditions: those that each theorem names.
-/
import Derived.Test.YtcohpgahffbnlaaOma
import Derived.Test.YtcohpgahffbnlaaOm5
namespace Go.Proofs.Ytcohpgahffbnlaa
open Go.RowKit Go.Icz Go.Maps Go.ChangeMaps Go.MapKept
set_option maxRecDepth 100000
set_option maxHeartbeats 4000000
variable {w : World} {T : Nat → Prop} {q p c : Nat} {M : SM}
/-- What a call leaves. -/
def Dn (w : World) (T : Nat → Prop) (c q p : Nat) (M : SM) (w' : World) : Prop := Sto w' T c q p M ∧ Tch T w w'
theorem Sto.q_ (h : Sto w T c q p M) : w.heap[q]? = some (.cells #[.pointer (some ⟨p, 0, none⟩)] 44 (0, 0)) := by
  obtain ⟨⟨bO, cv, R⟩, _⟩ := h
  exact R.q_
theorem tch_no {w' : World} (t : Tch (fun _ => False) w w') : Below w.heap.size w w' := ⟨t.os, t.tape, t.output, t.size, fun k hk => t.block k hk (fun h => h)⟩
theorem New_is (lag : Nat) (w : World) (h : lag ≤ 100) (hT : ∀ k, w.heap.size ≤ k → T k) :
    Calls Try.prog 4 #[.int .i64 (lag : Int)] w fun e w' => ∃ q p, e = .returned (.tuple #[.pointer (some ⟨q, 0, none⟩), .int .i64 0]) ∧ Sto w' T 0 q p (newS lag) ∧ Below w.heap.size w w' := by
  have d1 : ¬ ((lag : Int) < 0) := by omega
  have d2 : ¬ (100 < (lag : Int)) := by omega
  have hmm := @run_makeMap Try.prog
  have H : Hid (∀ w', w' = ((w.alloc (.map #[] 0)).alloc (.cells (roR (newS lag) w.heap.size (.slice none 0 0)) 42)).alloc (.cells #[.pointer (some ⟨w.heap.size + 1, 0, none⟩)] 44) → Sto w' T 0 (w.heap.size + 1 + 1) (w.heap.size + 1) (newS lag) ∧ Below w.heap.size w w') := hid (fun w' hw => by
    have b1 : Below w.heap.size w w' := by rw [hw]; exact (((Below.refl _ w).alloc (Nat.le_refl _) _).alloc (by simp) _).alloc (by simp; omega) _
    have h0 := Ob.made w T
    have hp0 := heap_alloc_new (w.alloc (.map #[] 0)) (.cells (roR (newS lag) w.heap.size (.slice none 0 0)) 42)
    have hq0 := heap_alloc_new ((w.alloc (.map #[] 0)).alloc (.cells (roR (newS lag) w.heap.size (.slice none 0 0)) 42)) (.cells #[.pointer (some ⟨w.heap.size + 1, 0, none⟩)] 44)
    simp only [World.size_alloc] at hp0 hq0
    refine ⟨⟨⟨w.heap.size, .slice none 0 0, ?_⟩, WfS.new h⟩, b1⟩
    rw [hw]
    exact ⟨hq0, row_alloc hp0 _, (h0.touch (Tch.alloc (fun _ => False) _ _) (fun h => h) (fun j hj => hj.elim)).touch (Tch.alloc (fun _ => False) _ _) (fun h => h) (fun j hj => hj.elim), Kd.Own.nil _ _, hT _ (by omega), hT _ (by omega), hT _ (by omega), fun g hg => (by cases hg)⟩)
  go_enter Try.func4, Try.ntmps4
  go_wp2
  go_ret2
  obtain ⟨h1, h2⟩ := H.out _ rfl
  exact ⟨_, rfl, ⟨_, h1⟩, h2⟩
theorem New_no (lag : Int) (w : World) (h : lag < 0 ∨ 100 < lag) : Calls Try.prog 4 #[.int .i64 lag] w fun e w' => e = .returned (.tuple #[.pointer none, .int .i64 1]) ∧ w' = w := by
  by_cases h0 : lag < 0
  · have d1 : decide (lag < 0) = true := decide_eq_true h0
    clear h
    go_enter Try.func4, Try.ntmps4
    go_wp2
    go_ret2
    exact ⟨rfl, rfl⟩
  · have d1 : decide (lag < 0) = false := decide_eq_false h0
    have d2 : decide (100 < lag) = true := decide_eq_true (by omega)
    clear h
    go_enter Try.func4, Try.ntmps4
    go_wp2
    go_ret2
    exact ⟨rfl, rfl⟩
/-- An object, without a call. -/
theorem Look_is (h : Sto w T c q p M) (k : ByteArray) (hk : k.size ≤ maxLen) :
    Calls Try.prog 28 #[.pointer (some ⟨q, 0, none⟩), .string k] w fun e w' => ∃ A n C, e = .returned (.tuple #[.slice A n C, .bool (alook M.L k).isSome]) ∧ KB.Own w' w.heap.size (.slice A n C) ((alook M.L k).getD []) ∧ Below w.heap.size w w' := by
  have hL := looked_yes h.q_
  obtain ⟨⟨bO, cv, R⟩, hwf⟩ := h
  have p0 : w.cell? ⟨p, 0, none⟩ = some (.map (some bO)) := held_cell R.p_ rfl
  obtain ⟨v, hlk, hv⟩ := R.ob.look k hk
  have hC : Calls Try.prog 48 #[v] w fun e w' => ∃ A n C, e = .returned (.slice A n C) ∧ KB.Own w' w.heap.size (.slice A n C) ((alook M.L k).getD []) ∧ Below w.heap.size w w' := by
    have hrd : KB.Rd w v ((alook M.L k).getD []) ∧ ((alook M.L k).getD []).length ≤ 1099511627776 := by
      cases hl : alook M.L k with
      | none => rw [hl] at hv; simp only at hv; rw [hv]; exact ⟨Kd.Rd.nil _, by simp⟩
      | some l =>
        rw [hl] at hv
        have := hwf.bz _ (al_mem hl)
        exact ⟨hv.1.rd, by show l.length ≤ _; exact Nat.le_trans this (by omega)⟩
    refine (bClone_is v _ w hrd.1 hrd.2).mono ?_
    rintro e w' ⟨u, rfl, o, b⟩
    obtain ⟨A, C, hu, _⟩ := o.rd.form
    subst hu
    exact ⟨A, _, C, rfl, o, b⟩
  have hvf : ∃ A n C, v = .slice A n C := by
    cases hl : alook M.L k with
    | none => rw [hl] at hv; exact ⟨_, _, _, hv⟩
    | some l =>
      rw [hl] at hv
      obtain ⟨A, C, hu, _⟩ := hv.1.rd.form
      exact ⟨A, _, C, hu⟩
  clear hv R hwf
  obtain ⟨A, n, C, rfl⟩ := hvf
  generalize (alook M.L k).isSome = y at *
  generalize (alook M.L k).getD [] = l at *
  go_enter Try.func28, Try.ntmps28
  go_wp2_with (first
    | (go_at_call 41; refine hL.mono ?_; rintro e1 w1 ⟨rfl, rfl⟩; clear hL)
    | (go_at_call 48; refine hC.mono ?_; rintro e2 w2 ⟨A2, n2, C2, rfl, o2, b2⟩; clear hC))
  go_ret2
  exact ⟨_, _, _, rfl, o2, b2⟩
theorem Now_is (h : Sto w T c q p M) : Calls Try.prog 14 #[.pointer (some ⟨q, 0, none⟩)] w fun e w' => e = .returned (.int .i64 (M.now : Int)) ∧ w' = w := by
  have hL := looked_yes h.q_
  obtain ⟨⟨bO, cv, R⟩, _⟩ := h
  have p2 : w.cell? ⟨p, 2, none⟩ = some (.int .i64 (M.now : Int)) := held_cell R.p_ rfl
  clear R
  go_enter Try.func14, Try.ntmps14
  go_wp2_with (go_at_call 41; refine hL.mono ?_; rintro e1 w1 ⟨rfl, rfl⟩; clear hL)
  go_ret
  exact ⟨rfl, rfl⟩
theorem Calls_is (h : Sto w T c q p M) : Calls Try.prog 15 #[.pointer (some ⟨q, 0, none⟩)] w fun e w' => e = .returned (.int .i64 (M.calls : Int)) ∧ w' = w := by
  have hL := looked_yes h.q_
  obtain ⟨⟨bO, cv, R⟩, _⟩ := h
  have p5 : w.cell? ⟨p, 5, none⟩ = some (.int .i64 (M.calls : Int)) := held_cell R.p_ rfl
  clear R
  go_enter Try.func15, Try.ntmps15
  go_wp2_with (go_at_call 41; refine hL.mono ?_; rintro e1 w1 ⟨rfl, rfl⟩; clear hL)
  go_ret
  exact ⟨rfl, rfl⟩
theorem Keys_is (h : Sto w T c q p M) : Calls Try.prog 30 #[.pointer (some ⟨q, 0, none⟩)] w fun e w' => ∃ v, e = .returned v ∧ KS.Own w' w.heap.size v ((rises M.L).map kb) ∧ Below w.heap.size w w' := by
  have hL := looked_yes h.q_
  obtain ⟨⟨bO, cv, R⟩, hwf⟩ := h
  have p0 : w.cell? ⟨p, 0, none⟩ = some (.map (some bO)) := held_cell R.p_ rfl
  have cK : Calls Try.prog 50 #[.map (some bO)] w fun e w' => e = .returned (.func (.func 66) #[] #[.pointer (some ⟨w.heap.size, 0, none⟩)]) ∧ w' = w.alloc (.cells #[.map (some bO)] 37) := callsIn_wide.1 (keysO_is (some bO) w)
  have cS := callsIn_wide.1 (sortO_is R.ob hwf.nn (by have := hwf.ln; omega))
  clear R hwf
  go_enter Try.func30, Try.ntmps30
  go_wp2_with (first
    | (go_at_call 41; refine hL.mono ?_; rintro e1 w1 ⟨rfl, rfl⟩; clear hL)
    | (go_at_call 50; refine cK.mono ?_; rintro e2 w2 ⟨rfl, rfl⟩; clear cK)
    | (go_at_call 49; refine cS.mono ?_; rintro e3 w3 ⟨v3, rfl, o3, b3⟩; clear cS))
  go_ret
  exact ⟨_, rfl, o3, b3⟩
theorem Fail_is (h : Sto w T c q p M) (k : Int) (d : Bool) (hk : k ≤ 9223372036854775807) : Calls Try.prog 26 #[.pointer (some ⟨q, 0, none⟩), .int .i64 k, .bool d] w fun e w' => e = .returned (.tuple #[]) ∧ Dn w T c q p (failS M k d) w' := by
  have hL := looked_yes h.q_
  obtain ⟨⟨bO, cv, R⟩, hwf⟩ := h
  have hF : Calls Try.prog 47 #[.pointer (some ⟨p, 6, none⟩), .int .i64 k, .bool d] w fun e w' => e = .returned (.tuple #[]) ∧ Dn w T c q p (failS M k d) w' := (sfail_is R.p_ k d).mono (by
    rintro e w' ⟨rfl, hp, t⟩
    exact ⟨rfl, ⟨⟨bO, cv, R.setM (M' := failS M k d) t hp rfl⟩, hwf.fail hk d⟩, t.mono (fun j hj => by rw [hj]; exact R.tp)⟩)
  clear R hwf
  go_enter Try.func26, Try.ntmps26
  go_wp2_with (first
    | (go_at_call 41; refine hL.mono ?_; rintro e1 w1 ⟨rfl, rfl⟩; clear hL)
    | (go_at_call 47; refine hF.mono ?_; rintro e2 w2 ⟨rfl, D2⟩; clear hF))
  go_end0
  exact ⟨rfl, D2⟩
theorem Lag_is (h : Sto w T c q p M) (n : Int) : Calls Try.prog 11 #[.pointer (some ⟨q, 0, none⟩), .int .i64 n] w fun e w' => e = .returned (.int .i64 (lagM M n).1) ∧ Dn w T c q p (lagM M n).2 w' := by
  have hM := made_yes h.q_
  obtain ⟨⟨bO, cv, R⟩, hwf⟩ := h
  have q0 : w.cell? ⟨q, 0, none⟩ = some (.pointer (some ⟨p, 0, none⟩)) := held_cell R.q_ rfl
  have p4 : w.cell? ⟨p, 4, none⟩ = some (.int .i64 (M.most : Int)) := held_cell R.p_ rfl
  have p3 : w.cell? ⟨p, 3, none⟩ = some (.int .i64 (M.lag : Int)) := held_cell R.p_ rfl
  have f3 := held_frozen (i := 3) R.p_
  have HS : Hid (Dn w T c q p M w) := hid ⟨⟨⟨bO, cv, R⟩, hwf⟩, Tch.refl _ _⟩
  by_cases h0 : n < 0
  · have d : decide (n < 0) = true := decide_eq_true h0
    have e : lagM M n = (1, M) := by unfold lagM; rw [if_neg (by omega)]
    rw [e]
    clear R hwf h0 e
    go_enter Try.func11, Try.ntmps11
    go_wp2_with (go_at_call 32; refine hM.mono ?_; rintro e1 w1 ⟨rfl, rfl⟩; clear hM)
    go_ret
    exact ⟨rfl, HS.out⟩
  · have d : decide (n < 0) = false := decide_eq_false h0
    by_cases h1 : (M.most : Int) < n
    · have d2 : decide ((M.most : Int) < n) = true := decide_eq_true h1
      have e : lagM M n = (1, M) := by unfold lagM; rw [if_neg (by omega)]
      rw [e]
      clear R hwf h0 h1 e
      go_enter Try.func11, Try.ntmps11
      go_wp2_with (go_at_call 32; refine hM.mono ?_; rintro e1 w1 ⟨rfl, rfl⟩; clear hM)
      go_ret
      exact ⟨rfl, HS.out⟩
    · have d2 : decide ((M.most : Int) < n) = false := decide_eq_false h1
      obtain ⟨m, rfl⟩ : ∃ m : Nat, n = (m : Int) := ⟨n.toNat, by omega⟩
      have d4 : decide (M.most < m) = false := decide_eq_false (by omega)
      have e : lagM M (m : Int) = (0, { M with lag := m }) := by unfold lagM; rw [if_pos (by omega)]; simp
      have HF : Hid (Dn w T c q p { M with lag := m } (w.setCell ⟨p, 3, none⟩ (.int .i64 (m : Int)))) := hid ⟨⟨⟨bO, cv, R.setM (M' := { M with lag := m }) (Tch.set (· = p) _ _ _ rfl) (by rw [row_set R.p_]; rfl) rfl⟩, hwf.lag (by omega)⟩, Tch.set _ _ _ _ R.tp⟩
      rw [e]
      clear R hwf h0 h1 e
      go_enter Try.func11, Try.ntmps11
      go_wp2_with (go_at_call 32; refine hM.mono ?_; rintro e1 w1 ⟨rfl, rfl⟩; clear hM)
      go_ret
      exact ⟨rfl, HF.out⟩
theorem Tick_is (h : Sto w T c q p M) (hT : ∀ k, w.heap.size ≤ k → T k) (n : Int) : Calls Try.prog 9 #[.pointer (some ⟨q, 0, none⟩), .int .i64 n] w fun e w' => e = .returned (.int .i64 (tickM M n).1) ∧ Dn w T c q p (tickM M n).2 w' := by
  have hM := made_yes h.q_
  obtain ⟨⟨bO, cv, R⟩, hwf⟩ := h
  have q0 : w.cell? ⟨q, 0, none⟩ = some (.pointer (some ⟨p, 0, none⟩)) := held_cell R.q_ rfl
  have p2 : w.cell? ⟨p, 2, none⟩ = some (.int .i64 (M.now : Int)) := held_cell R.p_ rfl
  have f2 := held_frozen (i := 2) R.p_
  have hnw := hwf.nw
  have HS : Hid (Dn w T c q p M w) := hid ⟨⟨⟨bO, cv, R⟩, hwf⟩, Tch.refl _ _⟩
  by_cases h0 : n < 0
  · have d : decide (n < 0) = true := decide_eq_true h0
    have e : tickM M n = (1, M) := by unfold tickM tickB; rw [if_neg (by simp; omega)]
    rw [e]
    clear R hwf h0 e
    go_enter Try.func9, Try.ntmps9
    go_wp2_with (go_at_call 32; refine hM.mono ?_; rintro e1 w1 ⟨rfl, rfl⟩; clear hM)
    go_ret
    exact ⟨rfl, HS.out⟩
  · have d : decide (n < 0) = false := decide_eq_false h0
    by_cases h1 : 1073741824 < n
    · have d2 : decide (1073741824 < n) = true := decide_eq_true h1
      have e : tickM M n = (1, M) := by unfold tickM tickB; rw [if_neg (by simp; omega)]
      rw [e]
      clear R hwf h0 h1 e
      go_enter Try.func9, Try.ntmps9
      go_wp2_with (go_at_call 32; refine hM.mono ?_; rintro e1 w1 ⟨rfl, rfl⟩; clear hM)
      go_ret
      exact ⟨rfl, HS.out⟩
    · have d2 : decide (1073741824 < n) = false := decide_eq_false h1
      have hw : IntKind.i64.wrap ((M.now : Int) + n) = (M.now : Int) + n := by rw [IntKind.wrap_i64]; omega
      by_cases h2 : 1099511627776 < (M.now : Int) + n
      · have d3 : decide (1099511627776 < (M.now : Int) + n) = true := decide_eq_true h2
        have e : tickM M n = (1, M) := by unfold tickM tickB; rw [if_neg (by simp; omega)]
        rw [e]
        clear R hwf e
        go_enter Try.func9, Try.ntmps9
        go_wp2_with (go_at_call 32; refine hM.mono ?_; rintro e1 w1 ⟨rfl, rfl⟩; clear hM)
        go_ret
        exact ⟨rfl, HS.out⟩
      · have d3 : decide (1099511627776 < (M.now : Int) + n) = false := decide_eq_false h2
        have hb : tickB M n = true := by unfold tickB; simp; omega
        obtain ⟨M1, hM1⟩ : ∃ M1 : SM, M1 = { M with now := M.now + n.toNat } := ⟨_, rfl⟩
        have e : tickM M n = (0, M1) := by unfold tickM; rw [if_pos hb, hM1]
        have hwf1 : WfS M1 c := by rw [hM1]; exact hwf.tick hb
        have hn1 : (M1.now : Int) = (M.now : Int) + n := by rw [hM1]; simp; omega
        have t1 := Tch.set (· = p) w ⟨p, 2, none⟩ (.int .i64 ((M.now : Int) + n)) rfl
        have R1 : Ro (w.setCell ⟨p, 2, none⟩ (.int .i64 ((M.now : Int) + n))) T q p bO cv (keptS M) M1 := R.setM t1 (by rw [row_set R.p_, ← hn1, hM1]; rfl) (by rw [hM1])
        have hk : (keptS M).dropWhile (oldB M1) = keptS M1 := by
          have := drop_more (p := oldB M) (q := oldB M1) (fun x hx => by
            unfold oldB at *
            have := of_decide_eq_true hx
            refine decide_eq_true ?_
            rw [hM1]
            simp only
            omega) M.ch []
          rw [List.append_nil, List.append_nil] at this
          unfold keptS
          rw [this, hM1]
        have hG : Calls Try.prog 33 #[.pointer (some ⟨p, 0, none⟩)] (w.setCell ⟨p, 2, none⟩ (.int .i64 ((M.now : Int) + n))) fun e w' => e = .returned (.tuple #[]) ∧ Hid (Dn w T c q p M1 w') := by
          refine (forget_is R1 ?_ hwf1.nw hwf1.mo ?_).mono ?_
          · exact Nat.le_trans ((List.dropWhile_suffix _).length_le) (Nat.le_trans hwf.lc hwf.hc)
          · intro x hx
            have := hwf.ct x ((List.dropWhile_suffix _).subset hx)
            omega
          · rintro e w' ⟨rfl, ⟨cv', R2, _⟩, t2⟩
            rw [hk] at R2
            exact ⟨rfl, hid ⟨⟨⟨bO, cv', R2⟩, hwf1⟩, (t1.mono (fun j hj => by rw [hj]; exact R.tp)).trans (t2.mono (fun j hj => by
              rcases hj with rfl | hj
              · exact R.tp
              · exact R.tc j hj))⟩⟩
        have c2 : (w.setCell ⟨p, 2, none⟩ (.int .i64 ((M.now : Int) + n))).cell? ⟨q, 0, none⟩ = some (.pointer (some ⟨p, 0, none⟩)) := held_cell R1.q_ rfl
        rw [e]
        clear R hwf R1 hk hb hM1 hn1 hwf1 e t1
        go_enter Try.func9, Try.ntmps9
        go_wp2_with (first
          | (go_at_call 32; refine hM.mono ?_; rintro e1 w1 ⟨rfl, rfl⟩; clear hM)
          | (go_at_call 33; refine hG.mono ?_; rintro e2 w2 ⟨rfl, D2⟩; clear hG))
        go_ret
        exact ⟨rfl, D2.out⟩
end Go.Proofs.Ytcohpgahffbnlaa
