/-
  Put and Delete. Conditions: those that each theorem names.
-/
import Derived.Test.YtcohpgahffbnlaaOmc
import Derived.Deep.RegionHeld3
namespace Go.Proofs.Ytcohpgahffbnlaa
open Go.RowKit Go.Icz Go.Maps Go.ChangeMaps Go.MapKept
set_option maxRecDepth 100000
set_option maxHeartbeats 4000000
variable {w : World} {T : Nat → Prop} {q p c : Nat} {M : SM}
/-- What the boxes of noting's closure hold. -/
def FA (w : World) (k : ByteArray) (p : Nat) (b : Bool) (w1 : World) (a0 a1 a2 : Nat) : Prop :=
  w1.cell? ⟨a0, 0, none⟩ = some (.pointer (some ⟨p, 0, none⟩)) ∧ w1.cell? ⟨a1, 0, none⟩ = some (.string k) ∧ w1.cell? ⟨a2, 0, none⟩ = some (.bool b) ∧ (w.heap.size ≤ a0 ∧ a0 < w1.heap.size) ∧ (w.heap.size ≤ a1 ∧ a1 < w1.heap.size) ∧ (w.heap.size ≤ a2 ∧ a2 < w1.heap.size)
theorem cell_bel {w1 w2 : World} {j : Nat} {u : Value} (h : w1.cell? ⟨j, 0, none⟩ = some u) (b : Below w1.heap.size w1 w2) (hj : j < w1.heap.size) : w2.cell? ⟨j, 0, none⟩ = some u := (b.cell (p := ⟨j, 0, none⟩) hj).trans h
theorem FA.below {w w1 w2 : World} {k : ByteArray} {p a0 a1 a2 : Nat} {b : Bool} (h : FA w k p b w1 a0 a1 a2) (hb : Below w1.heap.size w1 w2) : FA w k p b w2 a0 a1 a2 := by
  obtain ⟨h0, h1, h2, g0, g1, g2⟩ := h
  have := hb.size
  exact ⟨cell_bel h0 hb g0.2, cell_bel h1 hb g1.2, cell_bel h2 hb g2.2, ⟨g0.1, by omega⟩, ⟨g1.1, by omega⟩, ⟨g2.1, by omega⟩⟩
def FBP (w : World) (k : ByteArray) (p : Nat) (A : Option Addr) (n cp : Nat) (w1 : World) (b0 b1 b2 : Nat) : Prop :=
  w1.cell? ⟨b0, 0, none⟩ = some (.slice A n cp) ∧ w1.cell? ⟨b1, 0, none⟩ = some (.pointer (some ⟨p, 0, none⟩)) ∧ w1.cell? ⟨b2, 0, none⟩ = some (.string k) ∧ (w.heap.size ≤ b0 ∧ b0 < w1.heap.size) ∧ (w.heap.size ≤ b1 ∧ b1 < w1.heap.size) ∧ (w.heap.size ≤ b2 ∧ b2 < w1.heap.size)
theorem FBP.below {w w1 w2 : World} {k : ByteArray} {p n cp b0 b1 b2 : Nat} {A : Option Addr} (h : FBP w k p A n cp w1 b0 b1 b2) (hb : Below w1.heap.size w1 w2) : FBP w k p A n cp w2 b0 b1 b2 := by
  obtain ⟨h0, h1, h2, g0, g1, g2⟩ := h
  have := hb.size
  exact ⟨cell_bel h0 hb g0.2, cell_bel h1 hb g1.2, cell_bel h2 hb g2.2, ⟨g0.1, by omega⟩, ⟨g1.1, by omega⟩, ⟨g2.1, by omega⟩⟩
def FBD (w : World) (k : ByteArray) (p : Nat) (w1 : World) (b0 b1 : Nat) : Prop :=
  w1.cell? ⟨b0, 0, none⟩ = some (.pointer (some ⟨p, 0, none⟩)) ∧ w1.cell? ⟨b1, 0, none⟩ = some (.string k) ∧ (w.heap.size ≤ b0 ∧ b0 < w1.heap.size) ∧ (w.heap.size ≤ b1 ∧ b1 < w1.heap.size)
theorem FBD.below {w w1 w2 : World} {k : ByteArray} {p b0 b1 : Nat} (h : FBD w k p w1 b0 b1) (hb : Below w1.heap.size w1 w2) : FBD w k p w2 b0 b1 := by
  obtain ⟨h0, h1, g0, g1⟩ := h
  have := hb.size
  exact ⟨cell_bel h0 hb g0.2, cell_bel h1 hb g1.2, ⟨g0.1, by omega⟩, ⟨g1.1, by omega⟩⟩
theorem Put_is (h : Sto w T c q p M) (hc : c + 2 ≤ 4194304) (hT : ∀ k, w.heap.size ≤ k → T k) (k : ByteArray) (hk : k.size ≤ maxLen) {A : Option Addr} {cp : Nat} {l : List Nat} (hv : KB.Rd w (.slice A l.length cp) l) (hfar : 0 < l.length → ∀ g, (Value.slice A l.length cp).ownBlock = some g → ¬ T g) (hlm : l.length ≤ 1125899906842624) :
    Calls Try.prog 10 #[.pointer (some ⟨q, 0, none⟩), .string k, .slice A l.length cp] w fun e w' => e = .returned (.int .i64 (putM M k l).1) ∧ Dn w T (c + 2) q p (putM M k l).2 w' := by
  have hM := made_yes h.q_
  have hNm := name_is k w hk
  have hle := h.le (show c ≤ c + 2 by omega) hc
  have HS : Hid (∀ w1, Tch (fun _ => False) w w1 → Dn w T (c + 2) q p M w1) := hid (fun w1 t => ⟨hle.below (tch_no t), t.mono (fun _ h => h.elim)⟩)
  cases hn : nameB k <;> rw [hn] at hNm
  · have e : putM M k l = (1, M) := by unfold putM; rw [if_pos hn]
    rw [e]
    clear h hle e hn
    go_enter Try.func10, Try.ntmps10
    go_wp2_with (first
      | (go_at_call 32; refine hM.mono ?_; rintro e1 w1 ⟨rfl, hw1⟩; have hw1 := hw1.symm; subst hw1; clear hM)
      | (go_at_call 34; refine hNm.mono ?_; rintro e2 w2 ⟨rfl, t2⟩; clear hNm))
    go_ret
    exact ⟨rfl, HS.out _ t2⟩
  · by_cases hsz : 1048576 < l.length
    · have e : putM M k l = (6, M) := by unfold putM; rw [if_neg (by simp [hn]), if_pos hsz]
      have d : decide (1048576 < (l.length : Int)) = true := decide_eq_true (by omega)
      rw [e]
      clear h hle e hn hv hfar
      generalize l.length = L at *
      go_enter Try.func10, Try.ntmps10
      go_wp2_with (first
        | (go_at_call 32; refine hM.mono ?_; rintro e1 w1 ⟨rfl, hw1⟩; have hw1 := hw1.symm; subst hw1; clear hM)
        | (go_at_call 34; refine hNm.mono ?_; rintro e2 w2 ⟨rfl, t2⟩; clear hNm))
      go_ret
      exact ⟨rfl, HS.out _ t2⟩
    · have d : decide (1048576 < (l.length : Int)) = false := decide_eq_false (by omega)
      have q0 : ∀ w1, Tch (fun _ => False) w w1 → w1.cell? ⟨q, 0, none⟩ = some (.pointer (some ⟨p, 0, none⟩)) := fun w1 t => held_cell ((h.below (tch_no t)).q_) rfl
      have hFu : ∀ w1, Tch (fun _ => False) w w1 → Calls Try.prog 35 #[.pointer (some ⟨p, 0, none⟩), .string k] w1 fun e w' => e = .returned (.bool (fullS M k)) ∧ w' = w1 := fun w1 t => by
        obtain ⟨⟨bO, cv, R⟩, _⟩ := h.below (tch_no t)
        exact full_is R k hk
      cases hf : fullS M k
      rotate_left
      · have e : putM M k l = (7, M) := by unfold putM; rw [if_neg (by simp [hn]), if_neg hsz, if_pos hf]
        rw [hf] at hFu
        rw [e]
        clear h hle e hn hv hfar
        generalize l.length = L at *
        go_enter Try.func10, Try.ntmps10
        go_wp2_with (first
          | (go_at_call 32; refine hM.mono ?_; rintro e1 w1 ⟨rfl, hw1⟩; have hw1 := hw1.symm; subst hw1; clear hM)
          | (go_at_call 34; refine hNm.mono ?_; rintro e2 w2 ⟨rfl, t2⟩; have q2 := q0 _ t2; clear hNm)
          | (go_at_call 35; refine (hFu _ t2).mono ?_; rintro e3 w3 ⟨rfl, hw3⟩; have hw3 := hw3.symm; subst hw3; clear hFu))
        go_ret
        exact ⟨rfl, HS.out _ t2⟩
      · rw [hf] at hFu
        have e : putM M k l = (errS M, if okS M then actPut (askS M) k l else askS M) := by unfold putM; rw [if_neg (by simp [hn]), if_neg hsz, if_neg (by simp [hf])]
        obtain ⟨MF, hMF⟩ : ∃ MF : SM, MF = if okS M then actPut (askS M) k l else askS M := ⟨_, rfl⟩
        rw [← hMF] at e
        rw [e]
        have HQ : Hid (∀ w1, Below w.heap.size w w1 → w1.cell? ⟨q, 0, none⟩ = some (.pointer (some ⟨p, 0, none⟩))) := hid (fun w1 b => held_cell ((h.below b).q_) rfl)
        have hNo : ∀ w0, Hid (Below w.heap.size w w0) → Calls Try.prog 37 #[.pointer (some ⟨p, 0, none⟩), .string k, .bool true] w0 fun e w1 => ∃ a0 a1 a2, e = .returned (.func (.func 54) #[] #[.pointer (some ⟨a0, 0, none⟩), .pointer (some ⟨a1, 0, none⟩), .pointer (some ⟨a2, 0, none⟩)]) ∧ Below w0.heap.size w0 w1 ∧ Hid (FA w k p true w1 a0 a1 a2) := fun w0 hb => by
          refine (noting_is p k true w0).mono ?_
          rintro e w1 ⟨rfl, rfl⟩
          have hs := hb.out.size
          refine ⟨_, _, _, rfl, (((Below.refl _ w0).alloc (Nat.le_refl _) _).alloc (by simp) _).alloc (by simp; omega) _, hid ⟨held_cell (i := 0) (row_alloc (row_alloc (heap_alloc_new w0 _) _) _) rfl, ?_, ?_, ⟨hs, by simp; omega⟩, ⟨by omega, by simp⟩, ⟨by omega, by simp⟩⟩⟩
          · have := held_cell (i := 0) (row_alloc (heap_alloc_new (w0.alloc (.cells #[.pointer (some ⟨p, 0, none⟩)] 36)) (.cells #[.string k] 9)) (.cells #[.bool true] 4)) rfl
            simpa [World.size_alloc] using this
          · have := held_cell (i := 0) (heap_alloc_new ((w0.alloc (.cells #[.pointer (some ⟨p, 0, none⟩)] 36)).alloc (.cells #[.string k] 9)) (.cells #[.bool true] 4)) rfl
            simpa [World.size_alloc] using this
        have hHo : ∀ w0, Hid (Below w.heap.size w w0) → Calls Try.prog 38 #[.pointer (some ⟨p, 0, none⟩), .string k, .slice A l.length cp] w0 fun e w1 => ∃ b0 b1 b2, e = .returned (.func (.func 56) #[] #[.pointer (some ⟨b0, 0, none⟩), .pointer (some ⟨b1, 0, none⟩), .pointer (some ⟨b2, 0, none⟩)]) ∧ Below w0.heap.size w0 w1 ∧ Hid (FBP w k p A l.length cp w1 b0 b1 b2) := fun w0 hb => by
          refine (holding_is p k A l.length cp w0).mono ?_
          rintro e w1 ⟨rfl, rfl⟩
          have hs := hb.out.size
          refine ⟨_, _, _, rfl, (((Below.refl _ w0).alloc (Nat.le_refl _) _).alloc (by simp) _).alloc (by simp; omega) _, hid ⟨?_, held_cell (i := 0) (row_alloc (row_alloc (heap_alloc_new w0 _) _) _) rfl, ?_, ⟨by omega, by simp⟩, ⟨hs, by simp; omega⟩, ⟨by omega, by simp⟩⟩⟩
          · have := held_cell (i := 0) (heap_alloc_new ((w0.alloc (.cells #[.pointer (some ⟨p, 0, none⟩)] 36)).alloc (.cells #[.string k] 9)) (.cells #[.slice A l.length cp] 32)) rfl
            simpa [World.size_alloc] using this
          · have := held_cell (i := 0) (row_alloc (heap_alloc_new (w0.alloc (.cells #[.pointer (some ⟨p, 0, none⟩)] 36)) (.cells #[.string k] 9)) (.cells #[.slice A l.length cp] 32)) rfl
            simpa [World.size_alloc] using this
        have hCa : ∀ w2 a0 a1 a2 b0 b1 b2, Hid (Below w.heap.size w w2) → Hid (FA w k p true w2 a0 a1 a2) → Hid (FBP w k p A l.length cp w2 b0 b1 b2) → Calls Try.prog 36 #[.pointer (some ⟨p, 0, none⟩), .slice (some ⟨w2.heap.size, 0, none⟩) 2 2] (w2.alloc (.cells #[.func (.func 54) #[] #[.pointer (some ⟨a0, 0, none⟩), .pointer (some ⟨a1, 0, none⟩), .pointer (some ⟨a2, 0, none⟩)], .func (.func 56) #[] #[.pointer (some ⟨b0, 0, none⟩), .pointer (some ⟨b1, 0, none⟩), .pointer (some ⟨b2, 0, none⟩)]] 1)) fun e w' => e = .returned (.int .i64 (errS M)) ∧ w'.cell? ⟨q, 0, none⟩ = some (.pointer (some ⟨p, 0, none⟩)) ∧ Hid (Dn w T (c + 2) q p MF w') := fun w2 a0 a1 a2 b0 b1 b2 hb HA HB => by
          have hb3 : Below w.heap.size w (w2.alloc (.cells #[.func (.func 54) #[] #[.pointer (some ⟨a0, 0, none⟩), .pointer (some ⟨a1, 0, none⟩), .pointer (some ⟨a2, 0, none⟩)], .func (.func 56) #[] #[.pointer (some ⟨b0, 0, none⟩), .pointer (some ⟨b1, 0, none⟩), .pointer (some ⟨b2, 0, none⟩)]] 1)) := hb.out.alloc hb.out.size _
          have ba : Below w2.heap.size w2 (w2.alloc (.cells #[.func (.func 54) #[] #[.pointer (some ⟨a0, 0, none⟩), .pointer (some ⟨a1, 0, none⟩), .pointer (some ⟨a2, 0, none⟩)], .func (.func 56) #[] #[.pointer (some ⟨b0, 0, none⟩), .pointer (some ⟨b1, 0, none⟩), .pointer (some ⟨b2, 0, none⟩)]] 1)) := (Below.refl _ _).alloc (Nat.le_refl _) _
          obtain ⟨⟨bO, cv, R⟩, hwf⟩ := h
          have A3 := HA.out.below ba
          have B3 := HB.out.below ba
          have hs := hb.out.size
          refine (callP_is (R.below hb3) (fun j hj => hT j (Nat.le_trans hb3.size hj)) hwf hc k hn w.heap.size R.lt (hv.below hb3) hfar (by omega) hf (heap_alloc_new w2 _) A3.1 A3.2.1 A3.2.2.1 B3.1 B3.2.1 B3.2.2.1 (fun j hj => ?_)).mono ?_
          · have ha := A3.2.2.2
            have hb' := B3.2.2.2
            have hsz : (w2.alloc (.cells #[.func (.func 54) #[] #[.pointer (some ⟨a0, 0, none⟩), .pointer (some ⟨a1, 0, none⟩), .pointer (some ⟨a2, 0, none⟩)], .func (.func 56) #[] #[.pointer (some ⟨b0, 0, none⟩), .pointer (some ⟨b1, 0, none⟩), .pointer (some ⟨b2, 0, none⟩)]] 1)).heap.size = w2.heap.size + 1 := World.size_alloc _ _
            rcases hj with rfl | rfl | rfl | rfl | rfl | rfl | rfl <;> omega
          · rintro e w' ⟨rfl, h1, t1⟩
            rw [← hMF] at h1
            exact ⟨rfl, held_cell h1.q_ rfl, hid ⟨h1, (Tch.of_below (S := T) hb3).trans t1⟩⟩
        have HKA : Hid (∀ w1 w2 a0 a1 a2, Hid (FA w k p true w1 a0 a1 a2) → Below w1.heap.size w1 w2 → FA w k p true w2 a0 a1 a2) := hid (fun _ _ _ _ _ H b => H.out.below b)
        have HKB : Hid (∀ w1 w2 b0 b1 b2, Hid (FBP w k p A l.length cp w1 b0 b1 b2) → Below w1.heap.size w1 w2 → FBP w k p A l.length cp w2 b0 b1 b2) := hid (fun _ _ _ _ _ H b => H.out.below b)
        have tA := True.intro
        have tB := True.intro
        clear h hle e hn hv hfar hf hT HS hMF
        generalize errS M = er at *
        generalize l.length = L at *
        go_enter Try.func10, Try.ntmps10
        go_wp2_with (first
          | (go_at_call 32; refine hM.mono ?_; rintro e1 w1 ⟨rfl, hw1⟩; have hw1 := hw1.symm; subst hw1; clear hM)
          | (go_at_call 34; refine hNm.mono ?_; rintro e2 w2 ⟨rfl, t2⟩; have q2 := q0 _ t2; clear hNm)
          | (go_at_call 35; refine (hFu _ t2).mono ?_; rintro e3 w3 ⟨rfl, hw3⟩; have hw3 := hw3.symm; subst hw3; clear hFu))
        have hbb : Hid (Below w.heap.size w w2.drew) := hid ((tch_no t2).trans (Below.refl _ _).drew)
        have hkk := HQ.out _ hbb.out
        go_region_held3 (fun w' => w'.cell? ⟨q, 0, none⟩ = some (.pointer (some ⟨p, 0, none⟩))) (first | exact hk5 | exact hk4 | exact hkk) (first
          | (have tB2 := tB; go_at_call 37; refine (hNo _ hbb).mono ?_; rintro e4 w4 ⟨a0, a1, a2, rfl, b4, HA⟩; have hbb := hid (hbb.out.trans (b4.mono hbb.out.size)); have hkk := HQ.out _ hbb.out; clear tA)
          | (go_at_call 37; refine (hNo _ hbb).mono ?_; rintro e4 w4 ⟨a0, a1, a2, rfl, b4, HA⟩; have hbb := hid (hbb.out.trans (b4.mono hbb.out.size)); have hkk := HQ.out _ hbb.out; have HB := hid (HKB.out _ _ _ _ _ HB b4); have hk4 := HQ.out (w4.alloc (.cells #[.func (.func 54) #[] #[.pointer (some ⟨a0, 0, none⟩), .pointer (some ⟨a1, 0, none⟩), .pointer (some ⟨a2, 0, none⟩)], .func (.func 56) #[] #[.pointer (some ⟨b0, 0, none⟩), .pointer (some ⟨b1, 0, none⟩), .pointer (some ⟨b2, 0, none⟩)]] 1)) (hbb.out.alloc hbb.out.size _); clear tA)
          | (have tA2 := tA; go_at_call 38; refine (hHo _ hbb).mono ?_; rintro e4 w4 ⟨b0, b1, b2, rfl, b4, HB⟩; have hbb := hid (hbb.out.trans (b4.mono hbb.out.size)); have hkk := HQ.out _ hbb.out; clear tB)
          | (go_at_call 38; refine (hHo _ hbb).mono ?_; rintro e4 w4 ⟨b0, b1, b2, rfl, b4, HB⟩; have hbb := hid (hbb.out.trans (b4.mono hbb.out.size)); have hkk := HQ.out _ hbb.out; have HA := hid (HKA.out _ _ _ _ _ HA b4); have hk4 := HQ.out (w4.alloc (.cells #[.func (.func 54) #[] #[.pointer (some ⟨a0, 0, none⟩), .pointer (some ⟨a1, 0, none⟩), .pointer (some ⟨a2, 0, none⟩)], .func (.func 56) #[] #[.pointer (some ⟨b0, 0, none⟩), .pointer (some ⟨b1, 0, none⟩), .pointer (some ⟨b2, 0, none⟩)]] 1)) (hbb.out.alloc hbb.out.size _); clear tB)
          | (go_at_call 36; refine (hCa _ _ _ _ _ _ _ hbb HA HB).mono ?_; rintro e5 w5 ⟨rfl, hk5, H5⟩))
        all_goals go_wp2
        all_goals go_ret
        all_goals exact ⟨rfl, H5.out⟩
end Go.Proofs.Ytcohpgahffbnlaa
