/-
  The reference's Find, by what is held; its Get. Conditions: those that each theorem names.
-/
import Derived.Test.YtcohpgahffbnlaaOr5
namespace Go.Icz
open Go.RowKit
theorem alook_cons (e : ByteArray × List Nat) (t : OM) (k : ByteArray) : alook (e :: t) k = if e.1 = k then some e.2 else alook t k := by
  unfold alook
  rw [List.find?_cons]
  by_cases h : e.1 = k
  · simp [h]
  · simp [h]
theorem rise_none {e : ByteArray × List Nat} {t : OM} {k : ByteArray} (hr : Rise (akeys (e :: t))) (hb : blt e.1 k = false) (hn : e.1 ≠ k) : alook (e :: t) k = none := by
  have hlt := blt_tot hb hn
  rw [alook_cons, if_neg hn, al_not]
  intro hk
  have := (List.pairwise_cons.1 hr).1 k hk
  have h2 := blt_trans hlt this
  rw [blt_irr] at h2
  cases h2
/-- A key that is found: its place. -/
theorem rfind_yes : ∀ {R : OM} {k : ByteArray}, (rfind R k).2 = true → Rise (akeys R) → ∃ hi : (rfind R k).1 < R.length, R[(rfind R k).1].1 = k ∧ alook R k = some R[(rfind R k).1].2
  | [], k, h, _ => by cases h
  | e :: t, k, h, hr => by
    unfold rfind at h ⊢
    by_cases hb : blt e.1 k = true
    · simp only [hb, if_true] at h ⊢
      obtain ⟨hi, hk, ha⟩ := rfind_yes h (List.pairwise_cons.1 hr).2
      refine ⟨by simpa using hi, by simpa using hk, ?_⟩
      have hn : e.1 ≠ k := fun e' => by rw [e', blt_irr] at hb; cases hb
      rw [alook_cons, if_neg hn, ha]
      simp
    · simp only [hb, Bool.false_eq_true, if_false] at h ⊢
      have hk : e.1 = k := by simpa using h
      exact ⟨by simp, by simpa using hk, by rw [alook_cons, if_pos hk]; simp⟩
theorem rfind_no : ∀ {R : OM} {k : ByteArray}, (rfind R k).2 = false → Rise (akeys R) → alook R k = none
  | [], k, _, _ => rfl
  | e :: t, k, h, hr => by
    unfold rfind at h
    by_cases hb : blt e.1 k = true
    · simp only [hb, if_true] at h
      have hn : e.1 ≠ k := fun e' => by rw [e', blt_irr] at hb; cases hb
      rw [alook_cons, if_neg hn]
      exact rfind_no h (List.pairwise_cons.1 hr).2
    · simp only [hb, Bool.false_eq_true, if_false] at h
      have hk : e.1 ≠ k := by simpa using h
      exact rise_none hr (by simpa using hb) hk
theorem rfind_some {R : OM} (hr : Rise (akeys R)) (k : ByteArray) : (rfind R k).2 = (alook R k).isSome := by
  cases h : (rfind R k).2
  · rw [rfind_no h hr]; rfl
  · obtain ⟨_, _, ha⟩ := rfind_yes h hr
    rw [ha]; rfl
end Go.Icz
namespace Go.Proofs.Ytcohpgahffbnlaa
open Go.RowKit Go.Icz Go.Maps Go.ChangeMaps Go.MapKept
set_option maxRecDepth 100000
set_option maxHeartbeats 4000000
variable {w : World} {T : Nat → Prop} {r : Nat} {lv cv : Value} {xs : List OV} {M : SM} {c : Nat}
theorem nil_no {k : ByteArray} (h : 1 ≤ k.size) : (k.toList == []) = false ∧ k.toList.isEmpty = false ∧ ¬ k.toList = [] := by
  have e2 : k.data.toList.length = k.size := by rw [Array.length_toList]; rfl
  rw [ByteArray.toList_eq]
  cases hd : k.data.toList with
  | nil => rw [hd] at e2; simp at e2; omega
  | cons a t => simp
theorem nil_yes {k : ByteArray} (h : ¬ 1 ≤ k.size) : (k.toList == []) = true ∧ k.toList.isEmpty = true ∧ k.toList = [] := by
  have e2 : k.data.toList.length = k.size := by rw [Array.length_toList]; rfl
  rw [ByteArray.toList_eq]
  have : k.data.toList = [] := List.eq_nil_of_length_eq_zero (by omega)
  rw [this]
  simp
/-- The object that a key finds. -/
theorem Rf.found (h : Rf w T r lv cv xs M) (hr : Rise (akeys M.L)) (k : ByteArray) (hf : (rfind M.L k).2 = true) : ∃ A cp b off l A2 C2, lv = .slice A xs.length cp ∧ A = some ⟨b, off, none⟩ ∧ (rfind M.L k).1 < xs.length ∧ w.cell? ⟨b, off + (rfind M.L k).1 * 2 + 1, none⟩ = some (.slice A2 l.length C2) ∧ alook M.L k = some l ∧ KB.Own w 0 (.slice A2 l.length C2) l ∧ (∀ g, (Value.slice A2 l.length C2).ownBlock = some g → T g) := by
  obtain ⟨hi, hk, ha⟩ := rfind_yes hf hr
  obtain ⟨A, cp, hv, hat⟩ := kro_at h.lo
  have hx : (rfind M.L k).1 < xs.length := by rw [h.ob.1]; exact hi
  obtain ⟨b, off, hA, _, hc⟩ := hat (by omega)
  obtain ⟨o1, o2, o3⟩ := h.ob.2 _ hx hi
  obtain ⟨A2, C2, h2, _⟩ := o2.rd.form
  have hc2 := (hc _ hx).2
  rw [h2] at hc2 o2 o3
  exact ⟨A, cp, b, off, _, A2, C2, hv, hA, hx, hc2, ha, o2, o3⟩
theorem RGet_is (h : Rf w T r lv cv xs M) (hwf : WfS M c) (hr : Rise (akeys M.L)) (k : ByteArray) (hk : k.size ≤ 9223372036854775807) :
    Calls Try.prog 19 #[.pointer (some ⟨r, 0, none⟩), .string k] w fun e w' => ∃ A n C, e = .returned (.tuple #[.slice A n C, .int .i64 (getM M k).2.1]) ∧ KB.Rd w' (.slice A n C) (getM M k).1 ∧ (∀ g, (Value.slice A n C).ownBlock = some g → T g) ∧ Rf w' T r lv cv xs (getM M k).2.2 ∧ Tch T w w' := by
  have hF := fine_is k w hk
  have hTr := h.tr
  have hC := fun w1 (t : Tch (fun _ => False) w w1) => Rcall_is (h.far t (fun _ h => h.elim)) hwf
  have hno : ∀ g, (Value.slice none 0 0).ownBlock = some g → T g := fun g hg => by cases hg
  cases hb : nameB k
  · have e : getM M k = ([], 1, M) := by unfold getM; rw [if_pos hb]
    have HQ := hid (fun w1 (t : Tch (fun _ => False) w w1) => h.far t (fun _ h => h.elim))
    rw [e]
    by_cases h1 : 1 ≤ k.size
    · have hbg : begB k = false := by unfold nameB at hb; rw [decide_eq_true h1, Bool.true_and] at hb; exact hb
      rw [hbg] at hF
      obtain ⟨n1, n2, n3⟩ := nil_no h1
      clear h e hb hwf hC h1 hbg
      go_enter Try.func19, Try.ntmps19
      go_wp2_with (go_at_call 42; refine hF.mono ?_; rintro e w1 ⟨rfl, t1⟩; clear hF)
      go_ret2
      exact ⟨_, _, _, rfl, Kd.Rd.nil (K := KB) _, hno, HQ.out _ t1, t1.mono (fun _ h => h.elim)⟩
    · obtain ⟨n1, n2, n3⟩ := nil_yes h1
      have HQ2 := HQ.out w (Tch.refl _ _)
      clear h e hb hwf hC h1 hF HQ
      go_enter Try.func19, Try.ntmps19
      go_wp2
      go_ret2
      exact ⟨_, _, _, rfl, Kd.Rd.nil (K := KB) _, hno, HQ2, Tch.refl _ _⟩
  · have hb2 : 1 ≤ k.size ∧ begB k = true := by unfold nameB at hb; rw [Bool.and_eq_true, decide_eq_true_eq] at hb; exact hb
    rw [hb2.2] at hF
    obtain ⟨n1, n2, n3⟩ := nil_no hb2.1
    by_cases he : errS M ≠ 0
    · have e : getM M k = ([], errS M, askS M) := by unfold getM; rw [if_neg (by rw [hb]; decide), if_pos he]
      rw [e]
      have hne : (errS M == 0) = false := by simpa using he
      generalize errS M = er at *
      generalize okS M = okk at *
      clear h e hb hb2 hwf
      go_enter Try.func19, Try.ntmps19
      go_wp2_with (first
        | (go_at_call 42; refine hF.mono ?_; rintro e w1 ⟨rfl, t1⟩; clear hF)
        | (go_at_call 43; refine (hC _ t1).mono ?_; rintro e w2 ⟨rfl, R2, t2⟩; clear hC))
      go_ret2
      exact ⟨_, _, _, rfl, Kd.Rd.nil (K := KB) _, hno, R2, (t1.mono (fun _ h => h.elim)).trans (t2.mono (fun j hj => by rw [hj]; exact hTr))⟩
    · have he : errS M = 0 := by simpa using he
      have hln := hwf.ln
      have hFi := fun w2 (R2 : Rf w2 T r lv cv xs (askS M)) => Find_is R2 k hln
      have hLA : (askS M).L = M.L := rfl
      rw [hLA] at hFi
      rw [he] at hC
      generalize okS M = okk at *
      cases hf : (rfind M.L k).2
      · have ha := rfind_no hf hr
        have e : getM M k = ([], 3, askS M) := by unfold getM; rw [if_neg (by rw [hb]; decide), if_neg (by rw [he]; decide), ha]
        rw [e]
        rw [hf] at hFi
        generalize (rfind M.L k).1 = ix at *
        clear h e hb hb2 hwf ha hf he hLA
        go_enter Try.func19, Try.ntmps19
        go_wp2_with (first
          | (go_at_call 42; refine hF.mono ?_; rintro e w1 ⟨rfl, t1⟩; clear hF)
          | (go_at_call 43; refine (hC _ t1).mono ?_; rintro e w2 ⟨rfl, R2, t2⟩; clear hC)
          | (go_at_call 29; refine (hFi _ R2).mono ?_; rintro e w3 ⟨rfl, b3⟩; clear hFi))
        go_ret2
        exact ⟨_, _, _, rfl, Kd.Rd.nil (K := KB) _, hno, R2.below b3, ((t1.mono (fun _ h => h.elim)).trans (t2.mono (fun j hj => by rw [hj]; exact hTr))).trans (Tch.of_below b3)⟩
      · obtain ⟨_, _, ha⟩ := rfind_yes hf hr
        obtain ⟨l0, hl0⟩ : ∃ l0, alook M.L k = some l0 := ⟨_, ha⟩
        have e : getM M k = (l0, 0, askS M) := by unfold getM; rw [if_neg (by rw [hb]; decide), if_neg (by rw [he]; decide), hl0]
        rw [e]
        have hG := fun w3 (R3 : Rf w3 T r lv cv xs (askS M)) => R3.found (by rw [hLA]; exact hr) k (by rw [hLA]; exact hf)
        rw [hLA, hl0] at hG
        rw [hf] at hFi
        have hix : (rfind M.L k).1 ≤ 4096 := Nat.le_trans (rfind_le _ _) hln
        have hFG : ∀ w2, Rf w2 T r lv cv xs (askS M) → Calls Try.prog 29 #[.pointer (some ⟨r, 0, none⟩), .string k] w2 fun e w' => e = .returned (.tuple #[.int .i64 ((rfind M.L k).1 : Int), .bool true]) ∧ Below w2.heap.size w2 w' ∧ ∃ cp b off A2 C2, w'.cell? ⟨r, 4, none⟩ = some (.slice (some ⟨b, off, none⟩) xs.length cp) ∧ ((rfind M.L k).1 : Int) < (xs.length : Int) ∧ w'.cell? ⟨b, off + (rfind M.L k).1 * 2 + 1, none⟩ = some (.slice A2 l0.length C2) ∧ Hid (KB.Own w' 0 (.slice A2 l0.length C2) l0) ∧ (∀ g, (Value.slice A2 l0.length C2).ownBlock = some g → T g) := fun w2 R2 => by
          refine (hFi w2 R2).mono ?_
          rintro e w3 ⟨rfl, b3⟩
          have R3 := R2.below b3
          obtain ⟨A, cp, b, off, l, A2, C2, hlv, hA, hx, hc, hal, hO, hOT⟩ := hG _ R3
          injection hal with hal
          subst hal hA
          refine ⟨rfl, b3, cp, b, off, A2, C2, ?_, by omega, hc, hid hO, hOT⟩
          rw [← hlv]
          exact held_cell R3.r_ rfl
        clear hFi hG
        generalize (rfind M.L k).1 = ix at *
        clear h e hb hb2 hwf ha hf he hLA hl0
        go_enter Try.func19, Try.ntmps19
        go_wp2_with (first
          | (go_at_call 42; refine hF.mono ?_; rintro e w1 ⟨rfl, t1⟩; clear hF)
          | (go_at_call 43; refine (hC _ t1).mono ?_; rintro e w2 ⟨rfl, R2, t2⟩; clear hC)
          | (go_at_call 29; refine (hFG _ R2).mono ?_; rintro e w3 ⟨rfl, b3, cp, b, off, A2, C2, c4, hxI, hc, HO3, hOT⟩; clear hFG))
        go_ret2
        exact ⟨_, _, _, rfl, HO3.out.rd, hOT, R2.below b3, ((t1.mono (fun _ h => h.elim)).trans (t2.mono (fun j hj => by rw [hj]; exact hTr))).trans (Tch.of_below b3)⟩
end Go.Proofs.Ytcohpgahffbnlaa
