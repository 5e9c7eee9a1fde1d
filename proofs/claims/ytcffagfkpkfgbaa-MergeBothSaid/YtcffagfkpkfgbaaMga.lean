/-
  merge's Skipped and All. Conditions: those that each theorem names.
-/
import Derived.Test.YtcffagfkpkfgbaaMgi
namespace Go.Icz
open Go.RowKit
section
variable {α : Type} (ky : α → Int × Int)
/-- Each number once, the first of it. -/
def outs : List Int → List α → List α
  | _, [] => []
  | met, x :: S => if (ky x).2 ∈ met then outs met S else x :: outs ((ky x).2 :: met) S
theorem outs_in {met : List Int} {x : α} (h : (ky x).2 ∈ met) (S : List α) : outs ky met (x :: S) = outs ky met S := by rw [outs, if_pos h]
theorem outs_out {met : List Int} {x : α} (h : ¬ (ky x).2 ∈ met) (S : List α) : outs ky met (x :: S) = x :: outs ky ((ky x).2 :: met) S := by rw [outs, if_neg h]
theorem outs_no : ∀ (met : List Int) (S : List α), (nx ky met S).1 = none → outs ky met S = []
  | _, [], _ => rfl
  | met, x :: S, h => by
    unfold nx at h
    by_cases hm : (ky x).2 ∈ met
    · rw [if_pos hm] at h
      rw [outs_in ky hm]
      exact outs_no met S h
    · rw [if_neg hm] at h
      cases h
theorem outs_yes : ∀ (met : List Int) (S : List α) (x : α) (T : List α), (nx ky met S).1 = some (x, T) → outs ky met S = x :: outs ky ((ky x).2 :: met) T
  | _, [], _, _, h => by cases h
  | met, y :: S, x, T, h => by
    unfold nx at h
    by_cases hm : (ky y).2 ∈ met
    · rw [if_pos hm] at h
      rw [outs_in ky hm]
      exact outs_yes met S x T h
    · rw [if_neg hm] at h
      rw [outs_out ky hm]
      injection h with h
      injection h with e1 e2
      subst e1 e2
      rfl
theorem outs_le : ∀ (met : List Int) (S : List α), (outs ky met S).length ≤ S.length
  | _, [] => Nat.le_refl _
  | met, x :: S => by
    have h1 := outs_le met S
    have h2 := outs_le ((ky x).2 :: met) S
    unfold outs
    split <;> simp <;> omega
theorem outs_map {β : Type} (ky' : β → Int × Int) (g : α → β) (hg : ∀ x, ky' (g x) = ky x) : ∀ (met : List Int) (S : List α), outs ky' met (S.map g) = (outs ky met S).map g
  | _, [] => rfl
  | met, x :: S => by
    have h1 := outs_map ky' g hg met S
    have h2 := outs_map ky' g hg ((ky x).2 :: met) S
    simp only [List.map_cons, outs, hg]
    split
    · exact h1
    · rw [h2]; rfl
end
/-- So many of a list; all, if most is 0. -/
def takeM {α : Type} (most : Int) (l : List α) : List α := if most = 0 then l else l.take most.toNat
theorem takeM_map {α β : Type} (g : α → β) (most : Int) (l : List α) : takeM most (l.map g) = (takeM most l).map g := by
  unfold takeM
  split
  · rfl
  · rw [List.map_take]
def lenV : Value → Nat
  | .slice _ n _ => n
  | _ => 0
end Go.Icz
namespace Go.Proofs.Ytcffagfkpkfgbaa
open Go.RowKit Go.Icz Go.Maps
theorem Kd.Own.fr {α : Type} {K : Kd α} (hK : K.e ≠ 58) {w w' : World} {B q m : Nat} {v : Value} {l : List α} (h : K.Own w B v l) (f : Fr (ItE q m) w w') (hq : q < B) (hm : m < B) : K.Own w' B v l := by
  refine Kd.Own.touch h f (fun j hj e => ?_)
  have hl := h.lt j e
  rcases hj with (hj | hj) | ⟨cur, z, hc⟩
  · omega
  · omega
  · rcases h.2 with ⟨rfl, _⟩ | ⟨g, cap, cur', rfl, _, hh, _⟩
    · cases e
    · injection e with e
      have e : g = j := e
      subst e
      rw [hh] at hc
      injection hc with hc
      injection hc with _ h2 _
      exact hK h2
theorem owE_fr {w w' : World} {B q m : Nat} {v : Value} {l : List EV} (h : OwE w B v l) (f : Fr (ItE q m) w w') (hq : q < B) (hm : m < B) : OwE w' B v l :=
  ⟨Kd.Own.fr (by decide) h.1 f hq hm, fun x hx => Kd.Own.fr (by decide) (h.2 x hx) f hq hm⟩
theorem It.lt {W0 w : World} {q m : Nat} {nb : Bool} {S : List EV} {met : List Int} {sk : Nat} (h : It W0 w q m nb S met sk) : q < w.heap.size ∧ m < w.heap.size ∧ W0.heap.size ≤ q ∧ Below W0.heap.size W0 w := by
  obtain ⟨_, _, h1, _, h2, h3⟩ := h.tk.at_
  exact ⟨row_lt h1, h.mp.lt, h2, h3⟩
/-- A row of entries of the call's own has grown. -/
theorem It.grown {W0 w w' : World} {q m B : Nat} {nb : Bool} {S l : List EV} {met : List Int} {sk : Nat} {v : Value} (h : It W0 w q m nb S met sk) (ho : KEnt.Own w B v l) (hq : q < B) (hm : m < B) (hlo : W0.heap.size ≤ B) (g : w.grownBy w' v.ownBlock) : It W0 w' q m nb S met sk := by
  refine h.touch (Tch.grown (S := fun k => v.ownBlock = some k) g (fun _ h => h)) (fun e => by have := (ho.lt q e).1; omega) (fun e => by have := (ho.lt m e).1; omega) (fun k e hr => ?_) (fun k e => by have := (ho.lt k e).1; omega)
  rcases ho.2 with ⟨rfl, _⟩ | ⟨g', cap, cur', rfl, _, hh, _⟩
  · cases e
  · injection e with e
    have e : g' = k := e
    subst e
    obtain ⟨cur, z, hc⟩ := hr
    rw [hh] at hc
    injection hc with hc
    injection hc with _ h2 _
    exact absurd h2 (by decide)
theorem Next_no {W0 w : World} {q m : Nat} {nb : Bool} {S : List EV} {met : List Int} {sk : Nat} (h : It W0 w q m nb S met sk) (hn : (nx kyV met S).1 = none) :
    Calls Try.prog 16 #[.pointer (some ⟨q, 0, none⟩)] w fun e w' => e = .returned (.tuple #[.agg zeroE, .bool false]) ∧ It W0 w' q m nb [] met (sk + (nx kyV met S).2) ∧ Fr (ItE q m) w w' :=
  (Next_is h).mono fun e w' ⟨f, h2⟩ => by
    rw [hn] at h2
    exact ⟨h2.1, h2.2, f⟩
theorem Next_yes {W0 w : World} {q m : Nat} {nb : Bool} {S T : List EV} {x : EV} {met : List Int} {sk : Nat} (h : It W0 w q m nb S met sk) (hn : (nx kyV met S).1 = some (x, T)) :
    Calls Try.prog 16 #[.pointer (some ⟨q, 0, none⟩)] w fun e w' => ∃ A c, e = .returned (.tuple #[entV (x.1, A, c), .bool true]) ∧ KLab.Own w' w.heap.size (.slice A x.1.labs.length c) x.1.labs ∧ It W0 w' q m nb T (x.1.seq :: met) (sk + (nx kyV met S).2) ∧ Fr (ItE q m) w w' :=
  (Next_is h).mono fun e w' ⟨f, h2⟩ => by
    rw [hn] at h2
    obtain ⟨A, c, h3, h4, h5⟩ := h2
    exact ⟨A, c, h3, h4, h5, f⟩
/-- It answers what Next answers, up to most of them. -/
def GAllOut (S : List EV) (most : Int) (w : World) (e : Ending) (w' : World) : Prop := ∃ u M, e = .returned u ∧ OwE w' w.heap.size u M ∧ M.map (·.1) = takeM most ((outs kyV [] S).map (·.1)) ∧ Below w.heap.size w w'
set_option maxRecDepth 100000 in
set_option maxHeartbeats 8000000 in
theorem GAll_is (v : Value) (nb : Bool) (most : Int) (R : List SR) (W0 : World) (hR : RdR W0 v R) (hlen : R.length ≤ 1099511627776) (htot : totR (rowsOf R) ≤ 1099511627776) :
    Calls Try.prog 9 #[v, .bool nb, .int .i64 most] W0 (GAllOut (strm kyV nb (rowsOf R)) most W0) := by
  have hO := over_is v nb R W0 hR hlen htot
  have hSl := strm_length kyV nb _ (rowsOf R) rfl
  have hol := outs_le kyV [] (strm kyV nb (rowsOf R))
  generalize strm kyV nb (rowsOf R) = S0 at *
  have HOL : Hid ((outs kyV [] S0).length ≤ 1099511627776) := hid (by omega)
  clear hSl hol hR hlen htot
  go_enter Try.func9, Try.ntmps9
  go_wp2_with (go_at_call 15; refine hO.mono ?_; rintro e w1 ⟨q, m, rfl, hI, hb⟩; clear hO)
  have hq1 := hI.lt.1
  have hm1 := hI.lt.2.1
  have hz1 := hb.size
  go_loopw [7] (fun ov wr => ∃ (M S : List EV) (met : List Int) (sk : Nat), It W0 wr q m nb S met sk ∧ OwE wr w1.heap.size ov M ∧ Hid (M.map (·.1) ++ (outs kyV met S).map (·.1) = (outs kyV [] S0).map (·.1)) ∧ Hid (most ≠ 0 → (M.length : Int) ≤ max most 0) ∧ w1.heap.size ≤ wr.heap.size) (fun ov _ => (outs kyV [] S0).length - lenV ov)
  case atStart => exact ⟨[], S0, [], 0, hI, OwE.nil _ _, hid (by simp), hid (fun _ => by simp; omega), Nat.le_refl _⟩
  case round =>
    obtain ⟨M, S, met, sk, hT, ho, HM, HL, hsz⟩ := hrel
    obtain ⟨A, c, rfl, _⟩ := ho.1.rd.form
    have HML : Hid (M.length + (outs kyV met S).length = (outs kyV [] S0).length) := hid (by have := congrArg List.length HM.out; simpa using this)
    have hMl : (M.length : Int) ≤ 1099511627776 := by have := HML.out; have := HOL.out; omega
    by_cases h0 : most = 0
    · subst h0
      have LT : (0 : Int) ≠ 0 → (M.length : Int) < 0 := fun h => absurd rfl h
      have TK : ∀ M' : List EV, takeM 0 (M'.map (·.1)) = M'.map (·.1) := fun M' => by unfold takeM; rw [if_pos rfl]
      cases hnx : (nx kyV met S).1 with
      | none =>
        have FIN : ∀ w2, It W0 w2 q m nb [] met (sk + (nx kyV met S).2) → Fr (ItE q m) wr w2 → ∀ o, GAllOut S0 (0 : Int) W0 (.returned (.slice A M.length c)) (w2.alloc o) := by
          intro w2 i2 f2 o
          have hb2 : Below w2.heap.size w2 (w2.alloc o) := (Below.refl _ w2).alloc (Nat.le_refl _) o
          refine ⟨_, M, rfl, ((owE_fr ho f2 hq1 hm1).below hb2).mono hz1, ?_, (i2.below hb2).lt.2.2.2⟩
          have h3 := HM.out
          rw [outs_no kyV met S hnx, List.map_nil, List.append_nil] at h3
          rw [← h3]
          exact (TK M).symm
        have N1 := Next_no hT hnx
        unfold zeroE at N1
        clear hT ho HM hnx
        go_wp2_with (go_at_call 16; refine N1.mono ?_; rintro e w2 ⟨rfl, i2, f2⟩; have FN := FIN _ i2 f2; clear FIN)
        go_ret
        exact FN _
      | some z =>
        obtain ⟨x, T⟩ := z
        have N1 := Next_yes hT hnx
        unfold entV at N1
        have HM2 : Hid ((M.map (·.1) ++ [x.1]) ++ (outs kyV (x.1.seq :: met) T).map (·.1) = (outs kyV [] S0).map (·.1)) := hid (by
          have h3 := HM.out
          rw [outs_yes kyV met S x T hnx] at h3
          rw [← h3, List.append_assoc]
          rfl)
        have HL2 : Hid ((0 : Int) ≠ 0 → ((M.length + 1 : Nat) : Int) ≤ max (0 : Int) 0) := hid (fun h => by have := LT h; omega)
        have HM3 : Hid (M.length < (outs kyV [] S0).length) := hid (by have := HML.out; rw [outs_yes kyV met S x T hnx] at this; simp at this; omega)
        have hmm : M.length + 1 ≤ maxLen := by unfold maxLen; omega
        have hby : (M.length + 1) * 56 ≤ 140737488355328 := by omega
        have KEEP : ∀ w2 A1 c1, KLab.Own w2 wr.heap.size (.slice A1 x.1.labs.length c1) x.1.labs → It W0 w2 q m nb T (x.1.seq :: met) (sk + (nx kyV met S).2) → Fr (ItE q m) wr w2 → ∀ o, OwE (w2.alloc o) w1.heap.size (.slice A M.length c) M ∧ KLab.Own (w2.alloc o) w1.heap.size (.slice A1 x.1.labs.length c1) x.1.labs ∧ It W0 (w2.alloc o) q m nb T (x.1.seq :: met) (sk + (nx kyV met S).2) ∧ w1.heap.size ≤ (w2.alloc o).heap.size := by
          intro w2 A1 c1 o2 i2 f2 o
          have hb2 : Below w2.heap.size w2 (w2.alloc o) := (Below.refl _ w2).alloc (Nat.le_refl _) o
          exact ⟨(owE_fr ho f2 hq1 hm1).below hb2, (o2.below hb2).mono hsz, i2.below hb2, by have := f2.size; simp; omega⟩
        clear hT ho HM hnx HML
        go_wp2_with (first
          | (go_at_call 16; refine N1.mono ?_; rintro e w2 ⟨A1, c1, rfl, o2, i2, f2⟩; obtain ⟨o3, l3, i3, z3⟩ := KEEP _ _ _ o2 i2 f2 (.cells #[.int .i64 x.1.seq, .int .i64 x.1.time, .slice A1 x.1.labs.length c1, .string ⟨x.1.line.toArray⟩] 34); clear KEEP N1)
          | (at_builtin; go_loud (refine Kd.wp_app1 (K := KEnt) (n := w2.heap.size + 1) rfl (.tmp 29) (.tmp 31) 22 rfl Try.underlying22 infoE rfl w1.heap.size _ M (x.1, A1, c1) rfl o3.1 (World.size_alloc _ _) rfl rfl hmm hby z3 ?_); intro v5 w5 o5 b5 g5 n5))
        have o6 := o3.snoc (p := (x.1, A1, c1)) l3 ((Below.refl _ _).alloc (Nat.le_refl _) _) o5 g5
        obtain ⟨A5, c5, rfl, _⟩ := o6.1.rd.form
        have i6 := It.grown (i3.below ((Below.refl _ _).alloc (Nat.le_refl _) _)) (o3.below ((Below.refl _ _).alloc (Nat.le_refl _) _)).1 hq1 hm1 hz1 g5
        go_roundw
        case rel => exact ⟨M ++ [(x.1, A1, c1)], T, x.1.seq :: met, _, i6, o6, hid (by rw [List.map_append]; exact HM2.out), hid (by rw [List.length_append]; exact HL2.out), Nat.le_trans z3 b5.size⟩
        case measure => have := HM3.out; simp [lenV]; omega
    · have hd0 : (most == 0) = false := by simpa using h0
      by_cases hlt : (M.length : Int) < most
      · have LT : most ≠ 0 → (M.length : Int) < most := fun _ => hlt
        have TK : ∀ M' : List EV, M' = M → takeM most (M'.map (·.1)) = M'.map (·.1) := fun M' e => by subst e; unfold takeM; rw [if_neg h0, List.take_of_length_le (by rw [List.length_map]; omega)]
        have TK := fun M' => TK M'
        cases hnx : (nx kyV met S).1 with
        | none =>
          have FIN : ∀ w2, It W0 w2 q m nb [] met (sk + (nx kyV met S).2) → Fr (ItE q m) wr w2 → ∀ o, GAllOut S0 most W0 (.returned (.slice A M.length c)) (w2.alloc o) := by
            intro w2 i2 f2 o
            have hb2 : Below w2.heap.size w2 (w2.alloc o) := (Below.refl _ w2).alloc (Nat.le_refl _) o
            refine ⟨_, M, rfl, ((owE_fr ho f2 hq1 hm1).below hb2).mono hz1, ?_, (i2.below hb2).lt.2.2.2⟩
            have h3 := HM.out
            rw [outs_no kyV met S hnx, List.map_nil, List.append_nil] at h3
            rw [← h3]
            exact (TK M rfl).symm
          have N1 := Next_no hT hnx
          unfold zeroE at N1
          clear hT ho HM hnx
          go_wp2_with (go_at_call 16; refine N1.mono ?_; rintro e w2 ⟨rfl, i2, f2⟩; have FN := FIN _ i2 f2; clear FIN)
          go_ret
          exact FN _
        | some z =>
          obtain ⟨x, T⟩ := z
          have N1 := Next_yes hT hnx
          unfold entV at N1
          have HM2 : Hid ((M.map (·.1) ++ [x.1]) ++ (outs kyV (x.1.seq :: met) T).map (·.1) = (outs kyV [] S0).map (·.1)) := hid (by
            have h3 := HM.out
            rw [outs_yes kyV met S x T hnx] at h3
            rw [← h3, List.append_assoc]
            rfl)
          have HL2 : Hid (most ≠ 0 → ((M.length + 1 : Nat) : Int) ≤ max most 0) := hid (fun h => by have := LT h; omega)
          have HM3 : Hid (M.length < (outs kyV [] S0).length) := hid (by have := HML.out; rw [outs_yes kyV met S x T hnx] at this; simp at this; omega)
          have hmm : M.length + 1 ≤ maxLen := by unfold maxLen; omega
          have hby : (M.length + 1) * 56 ≤ 140737488355328 := by omega
          have KEEP : ∀ w2 A1 c1, KLab.Own w2 wr.heap.size (.slice A1 x.1.labs.length c1) x.1.labs → It W0 w2 q m nb T (x.1.seq :: met) (sk + (nx kyV met S).2) → Fr (ItE q m) wr w2 → ∀ o, OwE (w2.alloc o) w1.heap.size (.slice A M.length c) M ∧ KLab.Own (w2.alloc o) w1.heap.size (.slice A1 x.1.labs.length c1) x.1.labs ∧ It W0 (w2.alloc o) q m nb T (x.1.seq :: met) (sk + (nx kyV met S).2) ∧ w1.heap.size ≤ (w2.alloc o).heap.size := by
            intro w2 A1 c1 o2 i2 f2 o
            have hb2 : Below w2.heap.size w2 (w2.alloc o) := (Below.refl _ w2).alloc (Nat.le_refl _) o
            exact ⟨(owE_fr ho f2 hq1 hm1).below hb2, (o2.below hb2).mono hsz, i2.below hb2, by have := f2.size; simp; omega⟩
          clear hT ho HM hnx HML
          go_wp2_with (first
            | (go_at_call 16; refine N1.mono ?_; rintro e w2 ⟨A1, c1, rfl, o2, i2, f2⟩; obtain ⟨o3, l3, i3, z3⟩ := KEEP _ _ _ o2 i2 f2 (.cells #[.int .i64 x.1.seq, .int .i64 x.1.time, .slice A1 x.1.labs.length c1, .string ⟨x.1.line.toArray⟩] 34); clear KEEP N1)
            | (at_builtin; go_loud (refine Kd.wp_app1 (K := KEnt) (n := w2.heap.size + 1) rfl (.tmp 29) (.tmp 31) 22 rfl Try.underlying22 infoE rfl w1.heap.size _ M (x.1, A1, c1) rfl o3.1 (World.size_alloc _ _) rfl rfl hmm hby z3 ?_); intro v5 w5 o5 b5 g5 n5))
          have o6 := o3.snoc (p := (x.1, A1, c1)) l3 ((Below.refl _ _).alloc (Nat.le_refl _) _) o5 g5
          obtain ⟨A5, c5, rfl, _⟩ := o6.1.rd.form
          have i6 := It.grown (i3.below ((Below.refl _ _).alloc (Nat.le_refl _) _)) (o3.below ((Below.refl _ _).alloc (Nat.le_refl _) _)).1 hq1 hm1 hz1 g5
          go_roundw
          case rel => exact ⟨M ++ [(x.1, A1, c1)], T, x.1.seq :: met, _, i6, o6, hid (by rw [List.map_append]; exact HM2.out), hid (by rw [List.length_append]; exact HL2.out), Nat.le_trans z3 b5.size⟩
          case measure => have := HM3.out; simp [lenV]; omega
      · have FIN : GAllOut S0 most W0 (.returned (.slice A M.length c)) wr := by
          refine ⟨_, M, rfl, ho.mono hz1, ?_, hT.lt.2.2.2⟩
          have h3 := HL.out h0
          unfold takeM
          rw [if_neg h0, ← HM.out, List.take_append_of_le_length (by rw [List.length_map]; omega), List.take_of_length_le (by rw [List.length_map]; omega)]
        clear hT ho HM HML
        go_wp2
        go_ret
        exact FIN
end Go.Proofs.Ytcffagfkpkfgbaa
