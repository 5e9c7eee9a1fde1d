/-
  Delete. Conditions: those that each theorem names.
-/
import Derived.Test.YtcohpgahffbnlaaOmd
import Derived.Deep.RegionHeld3
namespace Go.Proofs.Ytcohpgahffbnlaa
open Go.RowKit Go.Icz Go.Maps Go.ChangeMaps Go.MapKept
set_option maxRecDepth 100000
set_option maxHeartbeats 4000000
variable {w : World} {T : Nat → Prop} {q p c : Nat} {M : SM}
theorem Delete_is (h : Sto w T c q p M) (hc : c + 2 ≤ 4194304) (hT : ∀ k, w.heap.size ≤ k → T k) (k : ByteArray) (hk : k.size ≤ maxLen) :
    Calls Try.prog 20 #[.pointer (some ⟨q, 0, none⟩), .string k] w fun e w' => e = .returned (.int .i64 (delM M k).1) ∧ Dn w T (c + 2) q p (delM M k).2 w' := by
  have hM := made_yes h.q_
  have hNm := name_is k w hk
  have hle := h.le (show c ≤ c + 2 by omega) hc
  have HS : Hid (∀ w1, Tch (fun _ => False) w w1 → Dn w T (c + 2) q p M w1) := hid (fun w1 t => ⟨hle.below (tch_no t), t.mono (fun _ h => h.elim)⟩)
  cases hn : nameB k <;> rw [hn] at hNm
  · have e : delM M k = (1, M) := by unfold delM; rw [if_pos hn]
    rw [e]
    clear h hle e hn
    go_enter Try.func20, Try.ntmps20
    go_wp2_with (first
      | (go_at_call 32; refine hM.mono ?_; rintro e1 w1 ⟨rfl, hw1⟩; have hw1 := hw1.symm; subst hw1; clear hM)
      | (go_at_call 34; refine hNm.mono ?_; rintro e2 w2 ⟨rfl, t2⟩; clear hNm))
    go_ret
    exact ⟨rfl, HS.out _ t2⟩
  · have e : delM M k = (errS M, if okS M then actDel (askS M) k else askS M) := by unfold delM; rw [if_neg (by simp [hn])]
    obtain ⟨MF, hMF⟩ : ∃ MF : SM, MF = if okS M then actDel (askS M) k else askS M := ⟨_, rfl⟩
    rw [← hMF] at e
    rw [e]
    have q0 : ∀ w1, Tch (fun _ => False) w w1 → w1.cell? ⟨q, 0, none⟩ = some (.pointer (some ⟨p, 0, none⟩)) := fun w1 t => held_cell ((h.below (tch_no t)).q_) rfl
    have HQ : Hid (∀ w1, Below w.heap.size w w1 → w1.cell? ⟨q, 0, none⟩ = some (.pointer (some ⟨p, 0, none⟩))) := hid (fun w1 b => held_cell ((h.below b).q_) rfl)
    have hNo : ∀ w0, Hid (Below w.heap.size w w0) → Calls Try.prog 37 #[.pointer (some ⟨p, 0, none⟩), .string k, .bool false] w0 fun e w1 => ∃ a0 a1 a2, e = .returned (.func (.func 54) #[] #[.pointer (some ⟨a0, 0, none⟩), .pointer (some ⟨a1, 0, none⟩), .pointer (some ⟨a2, 0, none⟩)]) ∧ Below w0.heap.size w0 w1 ∧ Hid (FA w k p false w1 a0 a1 a2) := fun w0 hb => by
      refine (noting_is p k false w0).mono ?_
      rintro e w1 ⟨rfl, rfl⟩
      have hs := hb.out.size
      refine ⟨_, _, _, rfl, (((Below.refl _ w0).alloc (Nat.le_refl _) _).alloc (by simp) _).alloc (by simp; omega) _, hid ⟨held_cell (i := 0) (row_alloc (row_alloc (heap_alloc_new w0 _) _) _) rfl, ?_, ?_, ⟨hs, by simp; omega⟩, ⟨by omega, by simp⟩, ⟨by omega, by simp⟩⟩⟩
      · have := held_cell (i := 0) (row_alloc (heap_alloc_new (w0.alloc (.cells #[.pointer (some ⟨p, 0, none⟩)] 36)) (.cells #[.string k] 9)) (.cells #[.bool false] 4)) rfl
        simpa [World.size_alloc] using this
      · have := held_cell (i := 0) (heap_alloc_new ((w0.alloc (.cells #[.pointer (some ⟨p, 0, none⟩)] 36)).alloc (.cells #[.string k] 9)) (.cells #[.bool false] 4)) rfl
        simpa [World.size_alloc] using this
    have hHo : ∀ w0, Hid (Below w.heap.size w w0) → Calls Try.prog 44 #[.pointer (some ⟨p, 0, none⟩), .string k] w0 fun e w1 => ∃ b0 b1, e = .returned (.func (.func 63) #[] #[.pointer (some ⟨b0, 0, none⟩), .pointer (some ⟨b1, 0, none⟩)]) ∧ Below w0.heap.size w0 w1 ∧ Hid (FBD w k p w1 b0 b1) := fun w0 hb => by
      refine (dropping_is p k w0).mono ?_
      rintro e w1 ⟨rfl, rfl⟩
      have hs := hb.out.size
      refine ⟨_, _, rfl, ((Below.refl _ w0).alloc (Nat.le_refl _) _).alloc (by simp) _, hid ⟨held_cell (i := 0) (row_alloc (heap_alloc_new w0 _) _) rfl, ?_, ⟨hs, by simp; omega⟩, ⟨by omega, by simp⟩⟩⟩
      simp
    have hCa : ∀ w2 a0 a1 a2 b0 b1, Hid (Below w.heap.size w w2) → Hid (FA w k p false w2 a0 a1 a2) → Hid (FBD w k p w2 b0 b1) → Calls Try.prog 36 #[.pointer (some ⟨p, 0, none⟩), .slice (some ⟨w2.heap.size, 0, none⟩) 2 2] (w2.alloc (.cells #[.func (.func 54) #[] #[.pointer (some ⟨a0, 0, none⟩), .pointer (some ⟨a1, 0, none⟩), .pointer (some ⟨a2, 0, none⟩)], .func (.func 63) #[] #[.pointer (some ⟨b0, 0, none⟩), .pointer (some ⟨b1, 0, none⟩)]] 1)) fun e w' => e = .returned (.int .i64 (errS M)) ∧ w'.cell? ⟨q, 0, none⟩ = some (.pointer (some ⟨p, 0, none⟩)) ∧ Hid (Dn w T (c + 2) q p MF w') := fun w2 a0 a1 a2 b0 b1 hb HA HB => by
      have hb3 : Below w.heap.size w (w2.alloc (.cells #[.func (.func 54) #[] #[.pointer (some ⟨a0, 0, none⟩), .pointer (some ⟨a1, 0, none⟩), .pointer (some ⟨a2, 0, none⟩)], .func (.func 63) #[] #[.pointer (some ⟨b0, 0, none⟩), .pointer (some ⟨b1, 0, none⟩)]] 1)) := hb.out.alloc hb.out.size _
      have ba : Below w2.heap.size w2 (w2.alloc (.cells #[.func (.func 54) #[] #[.pointer (some ⟨a0, 0, none⟩), .pointer (some ⟨a1, 0, none⟩), .pointer (some ⟨a2, 0, none⟩)], .func (.func 63) #[] #[.pointer (some ⟨b0, 0, none⟩), .pointer (some ⟨b1, 0, none⟩)]] 1)) := (Below.refl _ _).alloc (Nat.le_refl _) _
      obtain ⟨⟨bO, cv, R⟩, hwf⟩ := h
      have A3 := HA.out.below ba
      have B3 := HB.out.below ba
      have hs := hb.out.size
      refine (callD_is (R.below hb3) (fun j hj => hT j (Nat.le_trans hb3.size hj)) hwf hc k hn w.heap.size R.lt (heap_alloc_new w2 _) A3.1 A3.2.1 A3.2.2.1 B3.1 B3.2.1 (fun j hj => ?_)).mono ?_
      · have ha := A3.2.2.2
        have hb' := B3.2.2
        have hsz : (w2.alloc (.cells #[.func (.func 54) #[] #[.pointer (some ⟨a0, 0, none⟩), .pointer (some ⟨a1, 0, none⟩), .pointer (some ⟨a2, 0, none⟩)], .func (.func 63) #[] #[.pointer (some ⟨b0, 0, none⟩), .pointer (some ⟨b1, 0, none⟩)]] 1)).heap.size = w2.heap.size + 1 := World.size_alloc _ _
        rcases hj with rfl | rfl | rfl | rfl | rfl | rfl <;> omega
      · rintro e w' ⟨rfl, h1, t1⟩
        rw [← hMF] at h1
        exact ⟨rfl, held_cell h1.q_ rfl, hid ⟨h1, (Tch.of_below (S := T) hb3).trans t1⟩⟩
    have HKA : Hid (∀ w1 w2 a0 a1 a2, Hid (FA w k p false w1 a0 a1 a2) → Below w1.heap.size w1 w2 → FA w k p false w2 a0 a1 a2) := hid (fun _ _ _ _ _ H b => H.out.below b)
    have HKB : Hid (∀ w1 w2 b0 b1, Hid (FBD w k p w1 b0 b1) → Below w1.heap.size w1 w2 → FBD w k p w2 b0 b1) := hid (fun _ _ _ _ H b => H.out.below b)
    have tA := True.intro
    have tB := True.intro
    clear h hle e hn hT HS hMF
    generalize errS M = er at *
    go_enter Try.func20, Try.ntmps20
    go_wp2_with (first
      | (go_at_call 32; refine hM.mono ?_; rintro e1 w1 ⟨rfl, hw1⟩; have hw1 := hw1.symm; subst hw1; clear hM)
      | (go_at_call 34; refine hNm.mono ?_; rintro e2 w2 ⟨rfl, t2⟩; have q2 := q0 _ t2; clear hNm))
    have hbb : Hid (Below w.heap.size w w2.drew) := hid ((tch_no t2).trans (Below.refl _ _).drew)
    have hkk := HQ.out _ hbb.out
    go_region_held3 (fun w' => w'.cell? ⟨q, 0, none⟩ = some (.pointer (some ⟨p, 0, none⟩))) (first | exact hk5 | exact hk4 | exact hkk) (first
      | (have tB2 := tB; go_at_call 37; refine (hNo _ hbb).mono ?_; rintro e4 w4 ⟨a0, a1, a2, rfl, b4, HA⟩; have hbb := hid (hbb.out.trans (b4.mono hbb.out.size)); have hkk := HQ.out _ hbb.out; clear tA)
      | (go_at_call 37; refine (hNo _ hbb).mono ?_; rintro e4 w4 ⟨a0, a1, a2, rfl, b4, HA⟩; have hbb := hid (hbb.out.trans (b4.mono hbb.out.size)); have hkk := HQ.out _ hbb.out; have HB := hid (HKB.out _ _ _ _ HB b4); have hk4 := HQ.out (w4.alloc (.cells #[.func (.func 54) #[] #[.pointer (some ⟨a0, 0, none⟩), .pointer (some ⟨a1, 0, none⟩), .pointer (some ⟨a2, 0, none⟩)], .func (.func 63) #[] #[.pointer (some ⟨b0, 0, none⟩), .pointer (some ⟨b1, 0, none⟩)]] 1)) (hbb.out.alloc hbb.out.size _); clear tA)
      | (have tA2 := tA; go_at_call 44; refine (hHo _ hbb).mono ?_; rintro e4 w4 ⟨b0, b1, rfl, b4, HB⟩; have hbb := hid (hbb.out.trans (b4.mono hbb.out.size)); have hkk := HQ.out _ hbb.out; clear tB)
      | (go_at_call 44; refine (hHo _ hbb).mono ?_; rintro e4 w4 ⟨b0, b1, rfl, b4, HB⟩; have hbb := hid (hbb.out.trans (b4.mono hbb.out.size)); have hkk := HQ.out _ hbb.out; have HA := hid (HKA.out _ _ _ _ _ HA b4); have hk4 := HQ.out (w4.alloc (.cells #[.func (.func 54) #[] #[.pointer (some ⟨a0, 0, none⟩), .pointer (some ⟨a1, 0, none⟩), .pointer (some ⟨a2, 0, none⟩)], .func (.func 63) #[] #[.pointer (some ⟨b0, 0, none⟩), .pointer (some ⟨b1, 0, none⟩)]] 1)) (hbb.out.alloc hbb.out.size _); clear tB)
      | (go_at_call 36; refine (hCa _ _ _ _ _ _ hbb HA HB).mono ?_; rintro e5 w5 ⟨rfl, hk5, H5⟩))
    all_goals go_wp2
    all_goals go_ret
    all_goals exact ⟨rfl, H5.out⟩
end Go.Proofs.Ytcohpgahffbnlaa
