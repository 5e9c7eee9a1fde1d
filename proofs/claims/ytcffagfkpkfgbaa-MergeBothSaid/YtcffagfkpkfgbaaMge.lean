/-
  The library's heap over the heads: up, Init, Pop, Push. Conditions: those that each theorem names.
-/
import Derived.Test.YtcffagfkpkfgbaaMgd
namespace Go.Proofs.Ytcffagfkpkfgbaa
open Go.RowKit Go.Icz
set_option maxRecDepth 100000 in
set_option maxHeartbeats 4000000 in
theorem up_is {W0 w : World} {q : Nat} {rs : List Value} {nb : Bool} {v : Value} {l : List HR} (h : Hp W0 w q rs nb v l) (j0 : Nat) (hj0 : j0 < l.length) (hu : HpU (hlt nb) l l.length j0) :
    Calls Try.prog 33 #[hpI q, .int .i64 j0] w fun e w' => e = .returned (.tuple #[]) ∧ Sunk W0 w q rs nb v l l.length 0 w' := by
  have hlen := h.len
  have HU := hid hu
  clear hu
  unfold hpI
  have m1 := mLess
  have m2 := mSwap
  go_enter Try.func33, Try.ntmps33
  go_wp2
  go_loopw [1] (fun jv wr => ∃ (j : Nat) (m : List HR), jv = .int .i64 j ∧ j < l.length ∧ Hp W0 wr q rs nb v m ∧ Hid (m.Perm l ∧ HpU (hlt nb) m l.length j) ∧ Fr (· = q) w wr) (fun jv _ => (intOf jv).toNat)
  case atStart => exact ⟨j0, l, rfl, hj0, h, hid ⟨List.Perm.refl _, HU.out⟩, Fr.refl _ _⟩
  case round =>
    obtain ⟨j, m, rfl, hjl, hm, HM, hf⟩ := hrel
    have hml : m.length = l.length := HM.out.1.length_eq
    have bj : (j : Int) ≤ 1099511627776 := by omega
    by_cases h0 : j = 0
    · subst h0
      have FIN : Hid (HpF (hlt nb) m l.length 0) := hid (HM.out.2.stop (x := ⟨none, 0, [], 0⟩) (List.getElem?_eq_getElem (by omega)) (fun h => absurd h (by omega)))
      clear hml
      go_wp2
      go_end0
      exact ⟨rfl, m, hm, HM.out.1, FIN.out, fun k hk => by rw [List.getElem?_eq_none hk, List.getElem?_eq_none (by rw [HM.out.1.length_eq]; exact hk)], hf⟩
    · obtain ⟨i, hi⟩ : ∃ i, i = (j - 1) / 2 := ⟨_, rfl⟩
      obtain ⟨j', hj'⟩ : ∃ j', j' = j - 1 := ⟨_, rfl⟩
      have e0 : (j : Int) - 1 = (j' : Int) := by omega
      have e1 : (j' : Int) / 2 = (i : Int) := by omega
      have bj' : (j' : Int) ≤ 1099511627776 := by omega
      have hne : ((i : Int) == (j : Int)) = false := by simp; omega
      have him : i < m.length := by omega
      have hjm : j < m.length := by omega
      have GI := hid (List.getElem?_eq_getElem him)
      have GJ := hid (List.getElem?_eq_getElem hjm)
      have L1 := Less_is hm j i hjm him
      have Sw := fun w1 (hw : Hp W0 w1 q rs nb v m) => Swap_is hw i j him hjm
      have rowS := fun w1 (hw : Hp W0 w1 q rs nb v m) k (hk : v.ownBlock = some k) => hw.isRow hk
      have PJ := hid (show 0 < j ∧ (j - 1) / 2 = i ∧ i < j from ⟨by omega, by omega, by omega⟩)
      cases hr : hlt nb m[j] m[i] with
      | false =>
        rw [hr] at L1
        have FIN : Hid (HpF (hlt nb) m l.length 0) := hid (HM.out.2.stop GJ.out (fun _ => ⟨by rw [PJ.out.2.1]; exact GI.out, hr⟩))
        clear hr hi hj' hml
        go_wp2_with (go_at_call 54; refine L1.mono ?_; rintro e w1 ⟨rfl, b1⟩; have hm1 := hm.below b1; have f1 := hf.trans (Fr.of_below b1); clear L1)
        go_end0
        exact ⟨rfl, m, hm1, HM.out.1, FIN.out, fun k hk => by rw [List.getElem?_eq_none hk, List.getElem?_eq_none (by rw [HM.out.1.length_eq]; exact hk)], f1⟩
      | true =>
        rw [hr] at L1
        have FIN : Hid (HpU (hlt nb) (swp m i j) l.length i) := hid (HM.out.2.step (ord_hlt nb) PJ.out.1 PJ.out.2.1 hjl GI.out GJ.out hr)
        clear hr hi hj' hml
        go_wp2_with (first
          | (go_at_call 54; refine L1.mono ?_; rintro e w1 ⟨rfl, b1⟩; have hm1 := hm.below b1; have f1 := hf.trans (Fr.of_below b1); clear L1)
          | (go_at_call 57; refine (Sw _ hm1).mono ?_; rintro e w3 ⟨rfl, hm3, t3⟩; have f3 := f1.trans (Fr.of_tch t3 (fun k hk => .inr (rowS _ hm1 k hk))); clear Sw))
        go_roundw
        case rel => exact ⟨i, swp m i j, rfl, by have := PJ.out; omega, hm3, hid ⟨(swp_perm _ _ _).trans HM.out.1, FIN.out⟩, f3⟩
        case measure => have := PJ.out; simp [intOf]; omega
set_option maxRecDepth 100000 in
set_option maxHeartbeats 4000000 in
theorem Init_is {W0 w : World} {q : Nat} {rs : List Value} {nb : Bool} {v : Value} {l : List HR} (h : Hp W0 w q rs nb v l) :
    Calls Try.prog 27 #[hpI q] w fun e w' => e = .returned (.tuple #[]) ∧ Sunk W0 w q rs nb v l l.length 0 w' := by
  have hlen := h.len
  have hL := Len_is h
  have D := fun w1 m (hw : Hp W0 w1 q rs nb v m) s n h1 h2 h3 => down_is hw s n h1 h2 h3
  unfold hpI at *
  have m3 := mLen
  obtain ⟨k0, hk0⟩ : ∃ k0, k0 = l.length / 2 := ⟨_, rfl⟩
  have e0 : (l.length : Int) / 2 = (k0 : Int) := by omega
  have bl : (l.length : Int) ≤ 1099511627776 := by omega
  have K0 := hid hk0
  have bk : (k0 : Int) ≤ 1099511627776 := by omega
  clear hk0
  go_enter Try.func27, Try.ntmps27
  go_wp2_with (go_at_call 22; refine hL.mono ?_; rintro e w1 ⟨rfl, hw⟩; have hw := hw.symm; subst hw)
  go_loopw [3] (fun iv wr => ∃ (k : Nat) (m : List HR), iv = .int .i64 ((k : Int) - 1) ∧ k ≤ k0 ∧ Hp W0 wr q rs nb v m ∧ Hid (m.Perm l ∧ HpF (hlt nb) m l.length k) ∧ Fr (· = q) w wr) (fun iv _ => (intOf iv + 1).toNat)
  case atStart => exact ⟨k0, l, rfl, Nat.le_refl _, h, hid ⟨List.Perm.refl _, by have := HpF.none (lt := hlt nb) l 0; rw [K0.out]; exact this⟩, Fr.refl _ _⟩
  case round =>
    obtain ⟨k, m, rfl, hk, hm, HM, hf⟩ := hrel
    have HML := hid HM.out.1.length_eq
    by_cases h0 : k = 0
    · subst h0
      go_wp2
      go_end0
      exact ⟨rfl, m, hm, HM.out.1, HM.out.2, fun k hk => by rw [List.getElem?_eq_none hk, List.getElem?_eq_none (by rw [HM.out.1.length_eq]; exact hk)], hf⟩
    · obtain ⟨j, rfl⟩ : ∃ j, k = j + 1 := ⟨k - 1, by omega⟩
      have e1 : ((j + 1 : Nat) : Int) - 1 = (j : Int) := by omega
      rw [e1]
      have bj : (j : Int) ≤ 1099511627776 := by omega
      have D1 := D _ m hm j l.length (by have := HML.out; omega) (by have := K0.out; omega) HM.out.2
      clear e1 D
      go_wp2_with (go_at_call 32; refine D1.mono ?_; rintro e w1 ⟨⟨b, rfl⟩, m1, hm1, p1, f1, o1, fr1⟩; clear D1)
      go_roundw
      case rel => exact ⟨j, m1, rfl, by omega, hm1, hid ⟨p1.trans HM.out.1, f1⟩, hf.trans fr1⟩
      case measure => simp [intOf]
/-- A heap of rows in memory. -/
structure Hq (W0 w : World) (q : Nat) (rs : List Value) (nb : Bool) (l : List HR) : Prop where
  hp : ∃ v, Hp W0 w q rs nb v l
  hf : HpF (hlt nb) l l.length 0
theorem Hq.below {W0 w w' : World} {q : Nat} {rs : List Value} {nb : Bool} {l : List HR} (h : Hq W0 w q rs nb l) (hb : Below w.heap.size w w') : Hq W0 w' q rs nb l := by
  obtain ⟨⟨v, h1⟩, h2⟩ := h
  exact ⟨⟨v, h1.below hb⟩, h2⟩
set_option maxRecDepth 100000 in
set_option maxHeartbeats 4000000 in
theorem cPop_is {W0 w : World} {q : Nat} {rs : List Value} {nb : Bool} {r : HR} {l : List HR} (h : Hq W0 w q rs nb (r :: l)) :
    Calls Try.prog 28 #[hpI q] w fun e w' => e = .returned (rowI r) ∧ ∃ m, Hq W0 w' q rs nb m ∧ m.Perm l ∧ Fr (· = q) w w' := by
  obtain ⟨⟨v, h⟩, hf⟩ := h
  have hL := Len_is h
  have hlen := h.len
  rw [List.length_cons] at hL hlen hf
  have g0 : (r :: l)[0]? = some r := rfl
  have hln : l.length < (r :: l).length := by simp
  have gn : (r :: l)[l.length]? = some (r :: l)[l.length] := List.getElem?_eq_getElem hln
  have S1 := Swap_is h 0 l.length (by simp) hln
  have D1 := fun w1 (hw : Hp W0 w1 q rs nb v (swp (r :: l) 0 l.length)) => down_is hw 0 l.length (by rw [swp_length, List.length_cons]; omega) (Nat.zero_le _) (hf.swap g0 gn)
  have SG : Hid ((swp (r :: l) 0 l.length)[l.length]? = some r) := hid (by rw [swp_get g0 gn, if_pos rfl])
  simp only [show ((0 : Nat) : Int) = 0 from rfl] at S1 D1
  have SP := hid (swp_perm (r :: l) 0 l.length)
  have rowS := fun k (hk : v.ownBlock = some k) => h.isRow hk
  have PP := fun w1 v1 x (hw : Hp W0 w1 q rs nb v1 (x ++ [r])) => Pop_is hw
  unfold hpI at *
  have m1 := mLen
  have m2 := mSwap
  have m3 := mPop
  have fin : ∀ m : List HR, m.Perm (swp (r :: l) 0 l.length) → HpF (hlt nb) m l.length 0 → (∀ k, l.length ≤ k → m[k]? = (swp (r :: l) 0 l.length)[k]?) → m = m.take l.length ++ [r] ∧ (m.take l.length).Perm l ∧ HpF (hlt nb) (m.take l.length) (m.take l.length).length 0 := by
    intro m hp hh ho
    have hml : m.length = l.length + 1 := by rw [hp.length_eq, swp_length, List.length_cons]
    have e1 : m[l.length]? = some r := by rw [ho _ (Nat.le_refl _), SG.out]
    have e2 : m = m.take l.length ++ [r] := by
      have := List.take_append_drop l.length m
      rw [List.drop_eq_getElem_cons (by omega), List.drop_eq_nil_of_le (by omega)] at this
      rw [List.getElem?_eq_getElem (by omega)] at e1
      injection e1 with e1
      rw [e1] at this
      exact this.symm
    refine ⟨e2, ?_, ?_⟩
    · have p1 : (m.take l.length ++ [r]).Perm (r :: l) := by rw [← e2]; exact hp.trans SP.out
      have p2 : (r :: m.take l.length).Perm (r :: l) := (List.perm_append_comm (l₁ := [r])).trans p1
      exact (List.perm_cons r).1 p2
    · have : (m.take l.length).length = l.length := by rw [List.length_take]; omega
      rw [this]
      exact hh.take
  clear hln gn g0 hf h
  generalize swp (r :: l) 0 l.length = l1 at *
  have hlen' : (l.length : Int) ≤ 1099511627776 := by omega
  go_enter Try.func28, Try.ntmps28
  go_wp2_with (first
    | (go_at_call 22; refine hL.mono ?_; rintro e w1 ⟨rfl, hw⟩; have hw := hw.symm; subst hw)
    | (go_at_call 57; refine S1.mono ?_; rintro e w2 ⟨rfl, h2, t2⟩; have f2 : Fr (· = q) w w2 := Fr.of_tch t2 (fun k hk => .inr (rowS k hk)); clear S1)
    | (go_at_call 32; refine (D1 _ h2).mono ?_; rintro e w3 ⟨⟨b, rfl⟩, m3l, h3, p3, q3, o3, f3⟩; obtain ⟨em, pm, hm⟩ := fin _ p3 q3 o3; have EM := hid em; rw [em] at h3; clear em fin D1 o3 p3 q3; have f3' := f2.trans f3)
    | (go_at_call 55; refine (PP _ _ _ h3).mono ?_; rintro e w4 ⟨rfl, v4, h4, f4⟩))
  go_ret
  exact ⟨rfl, _, ⟨⟨v4, h4⟩, hm⟩, pm, f3'.trans f4⟩
set_option maxRecDepth 100000 in
set_option maxHeartbeats 4000000 in
theorem cPush_is {W0 w : World} {q : Nat} {rs : List Value} {nb : Bool} {r : HR} {l : List HR} (h : Hq W0 w q rs nb l) (hr : r.l ≠ [] ∧ KEnt.Rd W0 (.slice r.A r.l.length r.c) r.l) (hl : l.length < 1099511627776) :
    Calls Try.prog 29 #[hpI q, rowI r] w fun e w' => e = .returned (.tuple #[]) ∧ ∃ m, Hq W0 w' q rs nb m ∧ m.Perm (r :: l) ∧ Fr (· = q) w w' := by
  obtain ⟨⟨v, h⟩, hf⟩ := h
  have P := Push_is h hr hl
  have hL := fun w1 v1 (hw : Hp W0 w1 q rs nb v1 (l ++ [r])) => Len_is hw
  have U := fun w1 v1 (hw : Hp W0 w1 q rs nb v1 (l ++ [r])) => up_is hw l.length (by simp) (by have := HpU.start (x := r) rfl hf; rw [List.length_append, List.length_singleton]; exact this)
  simp only [List.length_append, List.length_singleton] at hL
  have pp : ∀ m : List HR, m.Perm (l ++ [r]) → m.Perm (r :: l) := fun m hm => hm.trans (List.perm_append_comm (l₂ := [r]))
  have hh : ∀ m : List HR, m.Perm (l ++ [r]) → HpF (hlt nb) m (l ++ [r]).length 0 → HpF (hlt nb) m m.length 0 := fun m hm h => by rw [hm.length_eq]; exact h
  unfold hpI at *
  have m1 := mLen
  have m2 := mPush
  clear hf h
  have hlen' : (l.length : Int) < 1099511627776 := by omega
  go_enter Try.func29, Try.ntmps29
  go_wp2_with (first
    | (go_at_call 56; refine P.mono ?_; rintro e w1 ⟨rfl, v1, h1, f1⟩; have hL1 := hL _ _ h1; have U1 := U _ _ h1; clear P hL U)
    | (go_at_call 22; refine hL1.mono ?_; rintro e w2 ⟨rfl, hw⟩; have hw := hw.symm; subst hw)
    | (go_at_call 33; refine U1.mono ?_; rintro e w3 ⟨rfl, m3l, h3, p3, q3, o3, f3⟩))
  go_end0
  exact ⟨rfl, m3l, ⟨⟨v1, h3⟩, hh _ p3 q3⟩, pp _ p3, f1.trans f3⟩
end Go.Proofs.Ytcffagfkpkfgbaa
