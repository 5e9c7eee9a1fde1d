/-
  The reference's All. Conditions: those that each theorem names.
-/
import Derived.Test.YtbebhcdnnfgchaaMrn
namespace Go.Proofs.Ytbebhcdnnfgchaa
open Go.RowKit Go.Icz Go.Maps
theorem RIt.reLt {W0 w : World} {q m : Nat} {vr : Value} {nb : Bool} {L : List SR} {met : List Int} {sk : Nat} (h : RIt W0 w q m vr nb L met sk) : ∀ k, RE q m vr k → k < w.heap.size := by
  rintro k (rfl | rfl | hk)
  · exact row_lt h.at_
  · exact h.mp.lt
  · exact (h.own.lt k hk).2
/-- A row of entries of the call's own has grown. -/
theorem RIt.grown {W0 w w' : World} {q m B : Nat} {vr : Value} {nb : Bool} {L : List SR} {met : List Int} {sk : Nat} {v : Value} {l : List EV} (h : RIt W0 w q m vr nb L met sk) (ho : KEnt.Own w B v l) (hq : ∀ k, RE q m vr k → k < B) (hlo : W0.heap.size ≤ B) (g : w.grownBy w' v.ownBlock) : RIt W0 w' q m vr nb L met sk := by
  refine h.touch (Tch.grown (S := fun k => v.ownBlock = some k) g (fun _ h => h)) (fun k e hr => ?_) (fun k e => ?_)
  · have h1 := hq k hr
    have h2 := (ho.lt k e).1
    omega
  · have h2 := (ho.lt k e).1
    omega
theorem RNext_no {W0 w : World} {q m : Nat} {vr : Value} {nb : Bool} {L : List SR} {met : List Int} {sk : Nat} (h : RIt W0 w q m vr nb L met sk) (hn : (nx kyV met (strm kyV nb (rowsOf L))).1 = none) :
    Calls Try.prog 17 #[.pointer (some ⟨q, 0, none⟩)] w fun e w' => e = .returned (.tuple #[.agg zeroE, .bool false]) ∧ ∃ L2, RIt W0 w' q m vr nb L2 met (sk + (nx kyV met (strm kyV nb (rowsOf L))).2) ∧ Tch (RE q m vr) w w' :=
  (RNext_is h).mono fun e w' ⟨f, h2⟩ => by
    rw [hn] at h2
    obtain ⟨h3, L2, h4, _⟩ := h2
    exact ⟨h3, L2, h4, f⟩
theorem RNext_yes {W0 w : World} {q m : Nat} {vr : Value} {nb : Bool} {L : List SR} {T : List EV} {x : EV} {met : List Int} {sk : Nat} (h : RIt W0 w q m vr nb L met sk) (hn : (nx kyV met (strm kyV nb (rowsOf L))).1 = some (x, T)) :
    Calls Try.prog 17 #[.pointer (some ⟨q, 0, none⟩)] w fun e w' => e = .returned (.tuple #[entV x, .bool true]) ∧ GoodE W0 x ∧ ∃ L2, RIt W0 w' q m vr nb L2 (x.1.seq :: met) (sk + (nx kyV met (strm kyV nb (rowsOf L))).2) ∧ strm kyV nb (rowsOf L2) = T ∧ Tch (RE q m vr) w w' :=
  (RNext_is h).mono fun e w' ⟨f, h2⟩ => by
    rw [hn] at h2
    obtain ⟨h3, h4, L2, h5, h6⟩ := h2
    exact ⟨h3, h4, L2, h5, h6, f⟩
/-- It answers what Next answers, up to most of them. -/
def RAllOut (S : List EV) (most : Int) (w : World) (e : Ending) (w' : World) : Prop := ∃ u M, e = .returned u ∧ RdE w' u M ∧ M = takeM most (outs kyV [] S) ∧ Below w.heap.size w w'
set_option maxRecDepth 100000 in
set_option maxHeartbeats 8000000 in
theorem RAll_is (v : Value) (nb : Bool) (most : Int) (R : List SR) (W0 : World) (hR : RdR W0 v R) (hz : SzR R) :
    Calls Try.prog 22 #[v, .bool nb, .int .i64 most] W0 (RAllOut (strm kyV nb (rowsOf R)) most W0) := by
  have hO := RNew_is v nb R W0 hR hz
  have hSl := strm_length kyV nb _ (rowsOf R) rfl
  have hol := outs_le kyV [] (strm kyV nb (rowsOf R))
  have htot : totR (rowsOf R) ≤ 1099511627776 := hz.2
  generalize hS0 : strm kyV nb (rowsOf R) = S0 at *
  have HOL : Hid ((outs kyV [] S0).length ≤ 1099511627776) := hid (by omega)
  have HS0 := hid hS0
  clear hSl hol hR hz htot hS0
  go_enter Try.func22, Try.ntmps22
  go_wp2_with (go_at_call 13; refine hO.mono ?_; rintro e w1 ⟨q, m, vr, rfl, hI, hb⟩; clear hO)
  have hRE := hI.reLt
  have hz1 := hb.size
  go_loopw [8] (fun ov wr => ∃ (M S : List EV) (met : List Int) (sk : Nat) (L : List SR), RIt W0 wr q m vr nb L met sk ∧ Hid (strm kyV nb (rowsOf L) = S) ∧ KEnt.Own wr w1.heap.size ov M ∧ Hid (M ++ outs kyV met S = outs kyV [] S0) ∧ Hid (most ≠ 0 → (M.length : Int) ≤ max most 0) ∧ w1.heap.size ≤ wr.heap.size ∧ ∀ y ∈ M, GoodE W0 y) (fun ov _ => (outs kyV [] S0).length - lenV ov)
  case atStart => exact ⟨[], S0, [], 0, R, hI, hid HS0.out, Kd.Own.nil _ _, hid (by simp), hid (fun _ => by simp; omega), Nat.le_refl _, fun y hy => by cases hy⟩
  case round =>
    obtain ⟨M, S, met, sk, L, hT, HS, ho, HM, HL, hsz, hM⟩ := hrel
    obtain ⟨A, c, rfl, _⟩ := ho.rd.form
    have hOR : ∀ k, RE q m vr k → ¬ (Value.slice A M.length c).ownBlock = some k := fun k hk e => by have h1 := hRE k hk; have h2 := (ho.lt k e).1; omega
    have HML : Hid (M.length + (outs kyV met S).length = (outs kyV [] S0).length) := hid (by have := congrArg List.length HM.out; simpa using this)
    have hMl : (M.length : Int) ≤ 1099511627776 := by have := HML.out; have := HOL.out; omega
    by_cases h0 : most = 0
    · subst h0
      have LT : (0 : Int) ≠ 0 → (M.length : Int) < 0 := fun h => absurd rfl h
      have TK : ∀ M' : List EV, M' = M → takeM 0 M' = M' := fun M' _ => by unfold takeM; rw [if_pos rfl]
      cases hnx : (nx kyV met S).1 with
      | none =>
        have FIN : ∀ w2 L2, RIt W0 w2 q m vr nb L2 met (sk + (nx kyV met S).2) → Tch (RE q m vr) wr w2 → ∀ o, RAllOut S0 (0 : Int) W0 (.returned (.slice A M.length c)) (w2.alloc o) := by
          intro w2 L2 i2 f2 o
          have hb2 : Below w2.heap.size w2 (w2.alloc o) := (Below.refl _ w2).alloc (Nat.le_refl _) o
          have bel := (i2.below hb2).bel
          refine ⟨_, M, rfl, ⟨((ho.touch f2 hOR).below hb2).rd, fun y hy => ((hM y hy).1).below bel⟩, ?_, bel⟩
          have h3 := HM.out
          rw [outs_no kyV met S hnx, List.append_nil] at h3
          rw [← h3]
          exact (TK M rfl).symm
        have N1 := RNext_no hT (by rw [HS.out]; exact hnx)
        rw [HS.out] at N1
        unfold zeroE at N1
        clear hT ho HM hnx hM hOR
        go_wp2_with (go_at_call 17; refine N1.mono ?_; rintro e w2 ⟨rfl, L2, i2, f2⟩; have FN := FIN _ _ i2 f2; clear FIN)
        go_ret
        exact FN _
      | some z =>
        obtain ⟨⟨x, A1, c1⟩, T⟩ := z
        have N1 := RNext_yes hT (x := (x, A1, c1)) (T := T) (by rw [HS.out]; exact hnx)
        rw [HS.out] at N1
        unfold entV at N1
        simp only at N1
        have HM2 : Hid ((M ++ [(x, A1, c1)]) ++ outs kyV (x.seq :: met) T = outs kyV [] S0) := hid (by
          have h3 := HM.out
          rw [outs_yes kyV met S (x, A1, c1) T hnx] at h3
          rw [← h3, List.append_assoc]
          rfl)
        have HL2 : Hid ((0 : Int) ≠ 0 → ((M.length + 1 : Nat) : Int) ≤ max (0 : Int) 0) := hid (fun h => by have := LT h; omega)
        have HM3 : Hid (M.length < (outs kyV [] S0).length) := hid (by have := HML.out; rw [outs_yes kyV met S (x, A1, c1) T hnx] at this; simp at this; omega)
        have hmm : M.length + 1 ≤ maxLen := by unfold maxLen; omega
        have hby : (M.length + 1) * 56 ≤ 140737488355328 := by omega
        have KEEP : ∀ w2 L2, RIt W0 w2 q m vr nb L2 (x.seq :: met) (sk + (nx kyV met S).2) → Tch (RE q m vr) wr w2 → ∀ o, KEnt.Own (w2.alloc o) w1.heap.size (.slice A M.length c) M ∧ RIt W0 (w2.alloc o) q m vr nb L2 (x.seq :: met) (sk + (nx kyV met S).2) ∧ w1.heap.size ≤ (w2.alloc o).heap.size := by
          intro w2 L2 i2 f2 o
          have hb2 : Below w2.heap.size w2 (w2.alloc o) := (Below.refl _ w2).alloc (Nat.le_refl _) o
          exact ⟨(ho.touch f2 hOR).below hb2, i2.below hb2, by have := f2.size; simp; omega⟩
        clear hT ho HM hnx HML hOR HS
        go_wp2_with (first
          | (go_at_call 17; refine N1.mono ?_; rintro e w2 ⟨rfl, hg, L2, i2, hs2, f2⟩; obtain ⟨o3, i3, z3⟩ := KEEP _ _ i2 f2 (.cells #[.int .i64 x.seq, .int .i64 x.time, .slice A1 x.labs.length c1, .string ⟨x.line.toArray⟩] 33); clear KEEP N1)
          | (at_builtin; go_loud (refine Kd.wp_app1 (K := KEnt) (n := w2.heap.size + 1) rfl (.tmp 30) (.tmp 32) 30 rfl Try.underlying30 infoE rfl w1.heap.size _ M (x, A1, c1) rfl o3 (World.size_alloc _ _) rfl rfl hmm hby z3 ?_); intro v5 w5 o5 b5 g5 n5))
        obtain ⟨A5, c5, rfl, _⟩ := o5.rd.form
        have i6 := RIt.grown (i3.below ((Below.refl _ _).alloc (Nat.le_refl _) _)) (o3.below ((Below.refl _ _).alloc (Nat.le_refl _) _)) hRE hz1 g5
        go_roundw
        case rel => exact ⟨M ++ [(x, A1, c1)], T, x.seq :: met, _, L2, i6, hid hs2, o5, hid HM2.out, hid (by rw [List.length_append]; exact HL2.out), Nat.le_trans z3 b5.size, fun y hy => by rcases List.mem_append.1 hy with hy | hy; exact hM y hy; rw [List.mem_singleton.1 hy]; exact hg⟩
        case measure => have := HM3.out; simp [lenV]; omega
    · have hd0 : (most == 0) = false := by simpa using h0
      by_cases hlt : (M.length : Int) < most
      · have LT : most ≠ 0 → (M.length : Int) < most := fun _ => hlt
        have TK : ∀ M' : List EV, M' = M → takeM most M' = M' := fun M' e => by subst e; unfold takeM; rw [if_neg h0, List.take_of_length_le (by omega)]
        cases hnx : (nx kyV met S).1 with
        | none =>
          have FIN : ∀ w2 L2, RIt W0 w2 q m vr nb L2 met (sk + (nx kyV met S).2) → Tch (RE q m vr) wr w2 → ∀ o, RAllOut S0 most W0 (.returned (.slice A M.length c)) (w2.alloc o) := by
            intro w2 L2 i2 f2 o
            have hb2 : Below w2.heap.size w2 (w2.alloc o) := (Below.refl _ w2).alloc (Nat.le_refl _) o
            have bel := (i2.below hb2).bel
            refine ⟨_, M, rfl, ⟨((ho.touch f2 hOR).below hb2).rd, fun y hy => ((hM y hy).1).below bel⟩, ?_, bel⟩
            have h3 := HM.out
            rw [outs_no kyV met S hnx, List.append_nil] at h3
            rw [← h3]
            exact (TK M rfl).symm
          have N1 := RNext_no hT (by rw [HS.out]; exact hnx)
          rw [HS.out] at N1
          unfold zeroE at N1
          clear hT ho HM hnx hM hOR
          go_wp2_with (go_at_call 17; refine N1.mono ?_; rintro e w2 ⟨rfl, L2, i2, f2⟩; have FN := FIN _ _ i2 f2; clear FIN)
          go_ret
          exact FN _
        | some z =>
          obtain ⟨⟨x, A1, c1⟩, T⟩ := z
          have N1 := RNext_yes hT (x := (x, A1, c1)) (T := T) (by rw [HS.out]; exact hnx)
          rw [HS.out] at N1
          unfold entV at N1
          simp only at N1
          have HM2 : Hid ((M ++ [(x, A1, c1)]) ++ outs kyV (x.seq :: met) T = outs kyV [] S0) := hid (by
            have h3 := HM.out
            rw [outs_yes kyV met S (x, A1, c1) T hnx] at h3
            rw [← h3, List.append_assoc]
            rfl)
          have HL2 : Hid (most ≠ 0 → ((M.length + 1 : Nat) : Int) ≤ max most 0) := hid (fun h => by have := LT h; omega)
          have HM3 : Hid (M.length < (outs kyV [] S0).length) := hid (by have := HML.out; rw [outs_yes kyV met S (x, A1, c1) T hnx] at this; simp at this; omega)
          have hmm : M.length + 1 ≤ maxLen := by unfold maxLen; omega
          have hby : (M.length + 1) * 56 ≤ 140737488355328 := by omega
          have KEEP : ∀ w2 L2, RIt W0 w2 q m vr nb L2 (x.seq :: met) (sk + (nx kyV met S).2) → Tch (RE q m vr) wr w2 → ∀ o, KEnt.Own (w2.alloc o) w1.heap.size (.slice A M.length c) M ∧ RIt W0 (w2.alloc o) q m vr nb L2 (x.seq :: met) (sk + (nx kyV met S).2) ∧ w1.heap.size ≤ (w2.alloc o).heap.size := by
            intro w2 L2 i2 f2 o
            have hb2 : Below w2.heap.size w2 (w2.alloc o) := (Below.refl _ w2).alloc (Nat.le_refl _) o
            exact ⟨(ho.touch f2 hOR).below hb2, i2.below hb2, by have := f2.size; simp; omega⟩
          clear hT ho HM hnx HML hOR HS
          go_wp2_with (first
            | (go_at_call 17; refine N1.mono ?_; rintro e w2 ⟨rfl, hg, L2, i2, hs2, f2⟩; obtain ⟨o3, i3, z3⟩ := KEEP _ _ i2 f2 (.cells #[.int .i64 x.seq, .int .i64 x.time, .slice A1 x.labs.length c1, .string ⟨x.line.toArray⟩] 33); clear KEEP N1)
            | (at_builtin; go_loud (refine Kd.wp_app1 (K := KEnt) (n := w2.heap.size + 1) rfl (.tmp 30) (.tmp 32) 30 rfl Try.underlying30 infoE rfl w1.heap.size _ M (x, A1, c1) rfl o3 (World.size_alloc _ _) rfl rfl hmm hby z3 ?_); intro v5 w5 o5 b5 g5 n5))
          obtain ⟨A5, c5, rfl, _⟩ := o5.rd.form
          have i6 := RIt.grown (i3.below ((Below.refl _ _).alloc (Nat.le_refl _) _)) (o3.below ((Below.refl _ _).alloc (Nat.le_refl _) _)) hRE hz1 g5
          go_roundw
          case rel => exact ⟨M ++ [(x, A1, c1)], T, x.seq :: met, _, L2, i6, hid hs2, o5, hid HM2.out, hid (by rw [List.length_append]; exact HL2.out), Nat.le_trans z3 b5.size, fun y hy => by rcases List.mem_append.1 hy with hy | hy; exact hM y hy; rw [List.mem_singleton.1 hy]; exact hg⟩
          case measure => have := HM3.out; simp [lenV]; omega
      · have FIN : RAllOut S0 most W0 (.returned (.slice A M.length c)) wr := by
          refine ⟨_, M, rfl, ⟨ho.rd, fun y hy => ((hM y hy).1).below hT.bel⟩, ?_, hT.bel⟩
          have h3 := HL.out h0
          unfold takeM
          rw [if_neg h0, ← HM.out, List.take_append_of_le_length (by omega), List.take_of_length_le (by omega)]
        clear hT ho HM HML hM hOR HS
        go_wp2
        go_ret
        exact FIN
end Go.Proofs.Ytbebhcdnnfgchaa
