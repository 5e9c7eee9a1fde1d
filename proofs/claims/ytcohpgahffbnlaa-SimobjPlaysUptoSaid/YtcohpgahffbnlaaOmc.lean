/-
  Put, Get, Delete and List. Conditions: those that each theorem names.
-/
import Derived.Test.YtcohpgahffbnlaaOmb
import Derived.Deep.RegionHeld3
namespace Go.Proofs.Ytcohpgahffbnlaa
open Go.RowKit Go.Icz Go.Maps Go.ChangeMaps Go.MapKept
set_option maxRecDepth 100000
set_option maxHeartbeats 4000000
variable {w : World} {T : Nat → Prop} {q p c : Nat} {M : SM}
theorem call0_d (h : Sto w T c q p M) (hc : c + 1 ≤ 4194304) : Calls Try.prog 36 #[.pointer (some ⟨p, 0, none⟩), .slice none 0 0] w fun e w' => e = .returned (.int .i64 (errS M)) ∧ Dn w T (c + 1) q p (askS M) w' := by
  obtain ⟨⟨bO, cv, R⟩, hwf⟩ := h
  refine (call0_is R hwf).mono ?_
  rintro e w' ⟨rfl, R', t⟩
  exact ⟨rfl, ⟨⟨bO, cv, R'⟩, hwf.ask hc⟩, t.mono (fun j hj => by rw [hj]; exact R.tp)⟩
theorem Get_is0 (h : Sto w T c q p M) (hc : c + 1 ≤ 4194304) (k : ByteArray) (hk : k.size ≤ maxLen) :
    Calls Try.prog 13 #[.pointer (some ⟨q, 0, none⟩), .string k] w fun e w' => ∃ A n C, e = .returned (.tuple #[.slice A n C, .int .i64 (getM M k).2.1]) ∧ KB.Own w' w.heap.size (.slice A n C) (getM M k).1 ∧ Dn w T (c + 1) q p (getM M k).2.2 w' := by
  have hM := made_yes h.q_
  have hNm := name_is k w hk
  have hle := h.le (Nat.le_succ c) hc
  cases hn : nameB k <;> rw [hn] at hNm
  · have e : getM M k = ([], 1, M) := by unfold getM; rw [if_pos hn]
    have HS : Hid (∀ w1, Tch (fun _ => False) w w1 → Dn w T (c + 1) q p M w1) := hid (fun w1 t => ⟨hle.below (tch_no t), t.mono (fun _ h => h.elim)⟩)
    rw [e]
    clear h hle e hn
    go_enter Try.func13, Try.ntmps13
    go_wp2_with (first
      | (go_at_call 32; refine hM.mono ?_; rintro e1 w1 ⟨rfl, hw1⟩; have hw1 := hw1.symm; subst hw1; clear hM)
      | (go_at_call 34; refine hNm.mono ?_; rintro e2 w2 ⟨rfl, t2⟩; clear hNm))
    go_ret2
    exact ⟨_, _, _, rfl, Kd.Own.nil _ _, HS.out _ t2⟩
  · have q0 : ∀ w1, Tch (fun _ => False) w w1 → w1.cell? ⟨q, 0, none⟩ = some (.pointer (some ⟨p, 0, none⟩)) := fun w1 t => held_cell ((h.below (tch_no t)).q_) rfl
    have hC : ∀ w1, Tch (fun _ => False) w w1 → Calls Try.prog 36 #[.pointer (some ⟨p, 0, none⟩), .slice none 0 0] w1 fun e w' => e = .returned (.int .i64 (errS M)) ∧ Hid (Dn w T (c + 1) q p (askS M) w') := fun w1 t => by
      refine (call0_d (h.below (tch_no t)) hc).mono ?_
      rintro e w' ⟨rfl, h1, t1⟩
      exact ⟨rfl, hid ⟨h1, (t.mono (fun _ h => h.elim)).trans t1⟩⟩
    by_cases he : errS M = 0
    · have hL : ∀ w2, Hid (Dn w T (c + 1) q p (askS M) w2) → Calls Try.prog 28 #[.pointer (some ⟨q, 0, none⟩), .string k] w2 fun e w' => ∃ A n C, e = .returned (.tuple #[.slice A n C, .bool (alook M.L k).isSome]) ∧ Hid (KB.Own w' w.heap.size (.slice A n C) ((alook M.L k).getD []) ∧ Dn w T (c + 1) q p (askS M) w') := fun w2 H => by
        refine (Look_is H.out.1 k hk).mono ?_
        rintro e w' ⟨A, n, C, rfl, o, b⟩
        exact ⟨A, n, C, rfl, hid ⟨o.mono H.out.2.size, H.out.1.below b, H.out.2.out (Tch.of_below (S := fun _ => False) b) (fun j hj => hj.elim)⟩⟩
      have e : getM M k = match alook M.L k with | none => (([] : List Nat), (3 : Int), askS M) | some l => (l, (0 : Int), askS M) := by unfold getM; rw [if_neg (by simp [hn]), if_neg (by simp [he])]; cases alook M.L k <;> rfl
      rw [he] at hC
      rw [e]
      clear h hle e hn he
      cases hl : alook M.L k with
      | none =>
        rw [hl] at hL
        simp only [Option.isSome_none, Option.getD_none] at hL ⊢
        go_enter Try.func13, Try.ntmps13
        go_wp2_with (first
          | (go_at_call 32; refine hM.mono ?_; rintro e1 w1 ⟨rfl, hw1⟩; have hw1 := hw1.symm; subst hw1; clear hM)
          | (go_at_call 34; refine hNm.mono ?_; rintro e2 w2 ⟨rfl, t2⟩; have q2 := q0 _ t2; clear hNm)
          | (go_at_call 36; refine (hC _ t2).mono ?_; rintro e3 w3 ⟨rfl, D3⟩; clear hC)
          | (go_at_call 28; refine (hL _ D3).mono ?_; rintro e4 w4 ⟨A4, n4, C4, rfl, H4⟩; clear hL))
        go_ret2
        exact ⟨_, _, _, rfl, Kd.Own.nil _ _, H4.out.2⟩
      | some l =>
        rw [hl] at hL
        simp only [Option.isSome_some, Option.getD_some] at hL ⊢
        go_enter Try.func13, Try.ntmps13
        go_wp2_with (first
          | (go_at_call 32; refine hM.mono ?_; rintro e1 w1 ⟨rfl, hw1⟩; have hw1 := hw1.symm; subst hw1; clear hM)
          | (go_at_call 34; refine hNm.mono ?_; rintro e2 w2 ⟨rfl, t2⟩; have q2 := q0 _ t2; clear hNm)
          | (go_at_call 36; refine (hC _ t2).mono ?_; rintro e3 w3 ⟨rfl, D3⟩; clear hC)
          | (go_at_call 28; refine (hL _ D3).mono ?_; rintro e4 w4 ⟨A4, n4, C4, rfl, H4⟩; clear hL))
        go_ret2
        exact ⟨_, _, _, rfl, H4.out⟩
    · have e : getM M k = ([], errS M, askS M) := by unfold getM; rw [if_neg (by simp [hn]), if_pos (by simpa using he)]
      have hne : (errS M == 0) = false := by simpa using he
      rw [e]
      clear h hle e hn he
      generalize errS M = er at *
      go_enter Try.func13, Try.ntmps13
      go_wp2_with (first
        | (go_at_call 32; refine hM.mono ?_; rintro e1 w1 ⟨rfl, hw1⟩; have hw1 := hw1.symm; subst hw1; clear hM)
        | (go_at_call 34; refine hNm.mono ?_; rintro e2 w2 ⟨rfl, t2⟩; have q2 := q0 _ t2; clear hNm)
        | (go_at_call 36; refine (hC _ t2).mono ?_; rintro e3 w3 ⟨rfl, D3⟩; clear hC))
      go_ret2
      exact ⟨_, _, _, rfl, Kd.Own.nil _ _, D3.out⟩
theorem Get_is (h : Sto w T c q p M) (hc : c + 1 ≤ 4194304) (_hT : ∀ k, w.heap.size ≤ k → T k) (k : ByteArray) (hk : k.size ≤ maxLen) :
    Calls Try.prog 13 #[.pointer (some ⟨q, 0, none⟩), .string k] w fun e w' => ∃ A n C, e = .returned (.tuple #[.slice A n C, .int .i64 (getM M k).2.1]) ∧ KB.Own w' w.heap.size (.slice A n C) (getM M k).1 ∧ Dn w T (c + 1) q p (getM M k).2.2 w' :=
  Get_is0 h hc k hk
theorem List_is (h : Sto w T c q p M) (hc : c + 1 ≤ 4194304) (_hT : ∀ k, w.heap.size ≤ k → T k) (k : ByteArray) (hk : k.size ≤ maxLen) :
    Calls Try.prog 12 #[.pointer (some ⟨q, 0, none⟩), .string k] w fun e w' => ∃ A n C, e = .returned (.tuple #[.slice A n C, .int .i64 (listM M k).2.1]) ∧ KS.Own w' w.heap.size (.slice A n C) ((listM M k).1.map kb) ∧ Dn w T (c + 1) q p (listM M k).2.2 w' := by
  have hM := made_yes h.q_
  have hNm := beg_is k w hk
  have hle := h.le (Nat.le_succ c) hc
  cases hn : begB k <;> rw [hn] at hNm
  · have e : listM M k = ([], 1, M) := by unfold listM; rw [if_pos hn]
    have HS : Hid (∀ w1, Tch (fun _ => False) w w1 → Dn w T (c + 1) q p M w1) := hid (fun w1 t => ⟨hle.below (tch_no t), t.mono (fun _ h => h.elim)⟩)
    rw [e]
    clear h hle e hn
    go_enter Try.func12, Try.ntmps12
    go_wp2_with (first
      | (go_at_call 32; refine hM.mono ?_; rintro e1 w1 ⟨rfl, hw1⟩; have hw1 := hw1.symm; subst hw1; clear hM)
      | (go_at_call 39; refine hNm.mono ?_; rintro e2 w2 ⟨rfl, t2⟩; clear hNm))
    go_ret2
    exact ⟨_, _, _, rfl, Kd.Own.nil _ _, HS.out _ t2⟩
  · have q0 : ∀ w1, Tch (fun _ => False) w w1 → w1.cell? ⟨q, 0, none⟩ = some (.pointer (some ⟨p, 0, none⟩)) := fun w1 t => held_cell ((h.below (tch_no t)).q_) rfl
    have hC : ∀ w1, Tch (fun _ => False) w w1 → Calls Try.prog 36 #[.pointer (some ⟨p, 0, none⟩), .slice none 0 0] w1 fun e w' => e = .returned (.int .i64 (errS M)) ∧ w'.cell? ⟨q, 0, none⟩ = some (.pointer (some ⟨p, 0, none⟩)) ∧ Hid (Dn w T (c + 1) q p (askS M) w') := fun w1 t => by
      refine (call0_d (h.below (tch_no t)) hc).mono ?_
      rintro e w' ⟨rfl, h1, t1⟩
      exact ⟨rfl, held_cell h1.q_ rfl, hid ⟨h1, (t.mono (fun _ h => h.elim)).trans t1⟩⟩
    by_cases he : errS M = 0
    · have hL : ∀ w2, Hid (Dn w T (c + 1) q p (askS M) w2) → Calls Try.prog 40 #[.pointer (some ⟨p, 0, none⟩), .string k] w2 fun e w' => ∃ A n C, e = .returned (.slice A n C) ∧ Hid (KS.Own w' w.heap.size (.slice A n C) ((rises (listed M k)).map kb) ∧ Dn w T (c + 1) q p (askS M) w') := fun w2 H => by
        obtain ⟨⟨bO, cv, R⟩, hwf⟩ := H.out.1
        refine (listed_is R hwf k).mono ?_
        rintro e w' ⟨v, rfl, o, b⟩
        obtain ⟨A, C, hv, _⟩ := o.rd.form
        subst hv
        exact ⟨A, _, C, rfl, hid ⟨o.mono H.out.2.size, H.out.1.below b, H.out.2.out (Tch.of_below (S := fun _ => False) b) (fun j hj => hj.elim)⟩⟩
      have e : listM M k = (rises (listed M k), 0, askS M) := by unfold listM; rw [if_neg (by simp [hn]), if_neg (by simp [he])]
      rw [he] at hC
      rw [e]
      clear h hle e hn he
      generalize (rises (listed M k)).map kb = rl at *
      go_enter Try.func12, Try.ntmps12
      go_wp2_with (first
        | (go_at_call 32; refine hM.mono ?_; rintro e1 w1 ⟨rfl, hw1⟩; have hw1 := hw1.symm; subst hw1; clear hM)
        | (go_at_call 39; refine hNm.mono ?_; rintro e2 w2 ⟨rfl, t2⟩; have q2 := q0 _ t2; clear hNm)
        | (go_at_call 36; refine (hC _ t2).mono ?_; rintro e3 w3 ⟨rfl, q3, D3⟩; clear hC)
        | (go_at_call 40; refine (hL _ D3).mono ?_; rintro e4 w4 ⟨A4, n4, C4, rfl, H4⟩; clear hL))
      go_ret2
      exact ⟨_, _, _, rfl, H4.out⟩
    · have e : listM M k = ([], errS M, askS M) := by unfold listM; rw [if_neg (by simp [hn]), if_pos (by simpa using he)]
      have hne : (errS M == 0) = false := by simpa using he
      rw [e]
      clear h hle e hn he
      generalize errS M = er at *
      go_enter Try.func12, Try.ntmps12
      go_wp2_with (first
        | (go_at_call 32; refine hM.mono ?_; rintro e1 w1 ⟨rfl, hw1⟩; have hw1 := hw1.symm; subst hw1; clear hM)
        | (go_at_call 39; refine hNm.mono ?_; rintro e2 w2 ⟨rfl, t2⟩; have q2 := q0 _ t2; clear hNm)
        | (go_at_call 36; refine (hC _ t2).mono ?_; rintro e3 w3 ⟨rfl, q3, D3⟩; clear hC))
      go_ret2
      exact ⟨_, _, _, rfl, Kd.Own.nil _ _, D3.out⟩
end Go.Proofs.Ytcohpgahffbnlaa
