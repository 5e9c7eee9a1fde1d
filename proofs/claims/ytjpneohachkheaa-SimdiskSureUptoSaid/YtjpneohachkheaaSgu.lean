/-
  SimdiskSure's walk: what is sure, and not touched, stays behind any crash. Conditions: the lists are no longer than 2^20.
-/
import Derived.Test.YtjpneohachkheaaSgp
namespace Go.Icz
open Go.RowKit
theorem kb_take {w : World} {A : Option Addr} {n c : Nat} {l : List Nat} (h : KB.Rd w (.slice A n c) l) (m : Nat) (hm : m ≤ l.length) : KB.Rd w (.slice A m c) (l.take m) := by
  have e : l = l.take m ++ l.drop m := (List.take_append_drop m l).symm
  rw [e] at h
  have hl : (l.take m).length = m := by rw [List.length_take]; omega
  have := Kd.Rd.front (K := KB) h
  rwa [hl] at this
end Go.Icz
namespace Go.Proofs.Ytjpneohachkheaa
open Go.RowKit Go.Icz Go.Maps Go.ChangeMaps Go.MapKept
set_option maxRecDepth 100000
set_option maxHeartbeats 4000000
theorem slice_take {A : Option Addr} {n c e : Nat} (hs : ∀ a, A = some a → a.spot = none) (he : e ≤ c) (wx : World) : (Instr.slice 22 (.slice A n c) none (some (.int .i64 (e : Int))) none).run Try.prog wx = .ok (.slice A e c) wx := by
  have := run_slice_h (P := Try.prog) (w := wx) 22 A n c Try.underlying22 .i64 (e : Int) (by omega) (by omega)
  rw [this]
  have hz : (sizeOf (Try.prog.elem 22)).run Try.prog wx = .ok 1 wx := by go_simp
  rw [hz]
  simp only [Result.andThen, sliced]
  cases A with
  | none => simp
  | some a =>
    obtain ⟨b, off, spot⟩ := a
    have hsp := hs _ rfl
    simp only at hsp
    subst hsp
    simp [add_flat]
theorem sure_walk (v0 v1 v2 : Value) (b : List Nat) (l : List OpD) (ks : List Bool) (W : World) (h0 : KB.Rd W v0 b) (hb0 : b.length ≤ 1048576) (h1 : RdO W W.heap.size v1 l) (h2 : KBo.Rd W v2 ks) (hf2 : 0 < ks.length → ∀ x, v2.ownBlock = some x → x < W.heap.size) :
    Calls Try.prog 4 #[v0, v1, v2] W fun e W' => e = .returned (.bool true) ∧ Below W.heap.size W W' := by
  obtain ⟨A0, C0, rfl, hC0⟩ := h0.form
  obtain ⟨A1, C1, rfl, hlb, hrow⟩ := h1
  obtain ⟨A2, C2, rfl, hC2⟩ := h2.form
  obtain ⟨T, hTd⟩ : ∃ T : Nat → Prop, T = fun k => W.heap.size ≤ k := ⟨_, rfl⟩
  have hTW : ∀ w1, Below W.heap.size W w1 → ∀ k, w1.heap.size ≤ k → T k := fun w1 b1 k hk => by rw [hTd]; exact Nat.le_trans b1.size hk
  have bel : ∀ w1 w2, Below W.heap.size W w1 → Tch T w1 w2 → Below W.heap.size W w2 := fun w1 w2 b1 t => b1.trans (tch_up (by rw [hTd] at t; exact t) b1.size)
  -- the bytes that are written
  obtain ⟨b', hb', hL⟩ : ∃ b' : List Nat, b' = b.take 1000 ∧ b'.length ≤ 1000 := ⟨_, rfl, by rw [List.length_take]; omega⟩
  have hr' : KB.Rd W (.slice A0 b'.length C0) b' := by
    by_cases h : 1000 ≤ b.length
    · have := kb_take h0 1000 h
      have e : b'.length = 1000 := by rw [hb', List.length_take]; omega
      rw [e, hb']
      exact this
    · have e : b' = b := by rw [hb', List.take_of_length_le (by omega)]
      rw [e]
      exact h0
  have hN : Calls Try.prog 24 #[.int .i64 1048576] W fun e w' => ∃ q p, e = .returned (.tuple #[.pointer (some ⟨q, 0, none⟩), .int .i64 0]) ∧ Dsk w' T 0 q p (newM 1048576) ∧ Below W.heap.size W w' := New_d 1048576 W (by decide) (by decide) (hTW W (Below.refl _ _))
  have PK : ∀ w1 q p, Dsk w1 T 0 q p (newM 1048576) → Below W.heap.size W w1 → Calls Try.prog 23 #[] w1 fun e w' => e = .returned (.bool true) ∧ Dsk w' T 0 q p (newM 1048576) ∧ Below W.heap.size W w' := fun w1 q p h bb => by
    refine (knows_is w1).mono ?_
    rintro e w2 ⟨rfl, b2⟩
    exact ⟨rfl, h.below b2, bb.trans (b2.mono bb.size)⟩
  have P1 : ∀ w1 q p, Dsk w1 T 0 q p (newM 1048576) → Below W.heap.size W w1 → Calls Try.prog 13 #[.pointer (some ⟨q, 0, none⟩), .string ⟨#[115, 117, 114, 101]⟩] w1 fun e w' => e = .returned (.int .i64 0) ∧ Dsk w' T 2 q p g1 ∧ Below W.heap.size W w' := fun w1 q p h bb => by
    refine (Create_d h (hTW w1 bb) kS (by decide) (by decide)).mono ?_
    rw [gstep1]
    rintro e w2 ⟨rfl, D, t⟩
    exact ⟨rfl, D, bel _ _ bb t⟩
  have P2 : ∀ w1 q p, Dsk w1 T 2 q p g1 → Below W.heap.size W w1 → Calls Try.prog 14 #[.pointer (some ⟨q, 0, none⟩), .string ⟨#[115, 117, 114, 101]⟩, .slice A0 b'.length C0] w1 fun e w' => e = .returned (.int .i64 0) ∧ Dsk w' T 4 q p (g2 b') ∧ Below W.heap.size W w' := fun w1 q p h bb => by
    have hp := h.tp.1
    rw [hTd] at hp
    refine (Append_d h (hTW w1 bb) kS (by decide) (l := b') (hr'.below bb) (by omega) (fun hl x hx e => ?_) (by decide)).mono ?_
    · obtain ⟨A, c, hv, _, hr⟩ := hr'
      obtain ⟨b2, off, hA, hlt, _⟩ := hr hl
      injection hv with hv _ _
      rw [hv, hA] at hx
      injection hx with hx
      have hx : b2 = x := hx
      have hp : W.heap.size ≤ p := hp
      omega
    rw [gstep2 b' hL]
    rintro e w2 ⟨rfl, D, t⟩
    exact ⟨rfl, D, bel _ _ bb t⟩
  have P3 : ∀ w1 q p, Dsk w1 T 4 q p (g2 b') → Below W.heap.size W w1 → Calls Try.prog 17 #[.pointer (some ⟨q, 0, none⟩), .string ⟨#[115, 117, 114, 101]⟩] w1 fun e w' => e = .returned (.int .i64 0) ∧ Dsk w' T 6 q p (g3 b') ∧ Below W.heap.size W w' := fun w1 q p h bb => by
    refine (Sync_d h (hTW w1 bb) kS (by decide) (by decide)).mono ?_
    rw [gstep3]
    rintro e w2 ⟨rfl, D, t⟩
    exact ⟨rfl, D, bel _ _ bb t⟩
  have P4 : ∀ w1 q p, Dsk w1 T 6 q p (g3 b') → Below W.heap.size W w1 → Calls Try.prog 18 #[.pointer (some ⟨q, 0, none⟩)] w1 fun e w' => e = .returned (.int .i64 0) ∧ Hid (Dsk w' T 8 q p (g4 b')) ∧ Hid (Below W.heap.size W w') := fun w1 q p h bb => by
    refine (SyncDir_d h (hTW w1 bb) (by decide)).mono ?_
    rw [gstep4]
    rintro e w2 ⟨rfl, D, t⟩
    exact ⟨rfl, hid D, hid (bel _ _ bb t)⟩
  have PD : ∀ w1 w2 q p M i (o : OpD), Dsk w1 T (8 + 2 * i) q p M → Below W.heap.size W w1 → OpOk W W.heap.size o → i ≤ 200 → Below w1.heap.size w1 w2 → Calls Try.prog 25 #[.pointer (some ⟨q, 0, none⟩), .agg o.cells] w2 fun e w' => e = .returned (.tuple #[]) ∧ Hid (Dsk w' T (8 + 2 * (i + 1)) q p (doO o M)) ∧ Hid (Below W.heap.size W w') := fun w1 w2 q p M i o h bb ok hi b2 => by
    have bb2 := bb.trans (b2.mono bb.size)
    refine (do_is (h.below b2) (hTW w2 bb2) o (ok.touch (S := fun k => W.heap.size ≤ k) ⟨bb2.os, bb2.tape, bb2.output, bb2.size, fun k hk hn => bb2.block k (by have : ¬ W.heap.size ≤ k := hn; omega)⟩ (fun k hk => hk)) (fun k hk => by rw [hTd] at hk; exact hk) (by omega)).mono ?_
    rintro e w3 ⟨rfl, D, t⟩
    exact ⟨rfl, hid D, hid (bel _ _ bb2 t)⟩
  have PC : ∀ w1 q p M i, Dsk w1 T (8 + 2 * i) q p M → Below W.heap.size W w1 → SureI b' M → i ≤ 200 → Calls Try.prog 10 #[.pointer (some ⟨q, 0, none⟩), .slice A2 ks.length C2] w1 fun e w' => e = .returned (.tuple #[]) ∧ ∃ M', Dsk w' T (8 + 2 * i) q p M' ∧ Below W.heap.size W w' ∧ readM M' kS = (b', 0) ∧ M'.off = false := fun w1 q p M i h bb hI hi => by
    refine (Crash_d h (hTW w1 bb) (by omega) (h2.below bb) (fun h0 x hx hT => by have := hf2 h0 x hx; rw [hTd] at hT; have hT : W.heap.size ≤ x := hT; omega)).mono ?_
    rintro e w2 ⟨rfl, D, t⟩
    exact ⟨rfl, _, D, bel _ _ bb t, (hI.crash ks).1, (hI.crash ks).2⟩
  have PR : ∀ w1 q p M c, Dsk w1 T c q p M → Below W.heap.size W w1 → readM M kS = (b', 0) → M.off = false → Calls Try.prog 11 #[.pointer (some ⟨q, 0, none⟩), .string ⟨#[115, 117, 114, 101]⟩] w1 fun e w' => ∃ A C, e = .returned (.tuple #[.slice A b'.length C, .int .i64 0]) ∧ (∀ w2, Below w'.heap.size w' w2 → (convert 22 9 (.slice A b'.length C)).run Try.prog w2 = .ok (.string (strB b')) w2) ∧ (∀ w2, Below w'.heap.size w' w2 → (convert 22 9 (.slice A0 b'.length C0)).run Try.prog w2 = .ok (.string (strB b')) w2) ∧ Calls Try.prog 22 #[.pointer (some ⟨q, 0, none⟩)] w' (fun e w3 => e = .returned (.bool false) ∧ w3 = w') ∧ Below W.heap.size W w' := fun w1 q p M c h bb hr ho => by
    refine (Read_d h kS (by decide)).mono ?_
    rw [hr]
    rintro e w2 ⟨A, C, rfl, ow, b2⟩
    have bb2 := bb.trans (b2.mono bb.size)
    refine ⟨A, C, rfl, fun w3 b3 => conv_kb (ow.rd.below b3), fun w3 b3 => conv_kb ((hr'.below bb2).below b3), ?_, bb2⟩
    have := Down_d (h.below b2)
    rwa [ho] at this
  have ROW : Hid (∀ i (hi : i < l.length), ∃ b1 off, A1 = some ⟨b1, off, none⟩ ∧ OpOk W W.heap.size l[i] ∧ ∀ wr, Below W.heap.size W wr → ∀ k u, k < 7 → l[i].cells[k]? = some u → wr.cell? ⟨b1, off + i * 7 + k, none⟩ = some u) := hid (fun i hi => by
    obtain ⟨b1, off, hA, hlt, hlt2, hc⟩ := hrow (by omega)
    obtain ⟨c1, c2⟩ := hc i hi
    exact ⟨b1, off, hA, c2, fun wr bb k u hk hu => (bb.cell (p := ⟨b1, off + i * 7 + k, none⟩) hlt2).trans (by rw [Nat.add_assoc]; exact c1 k u hk hu)⟩)
  have hbL : (b.length : Int) > 1000 → b'.length = 1000 := fun h => by rw [hb', List.length_take]; omega
  have hbS : ¬ (1000 : Int) < (b.length : Int) → b'.length = b.length := fun h => by rw [hb', List.length_take]; omega
  have hsl : ∀ wx : World, 1000 < b.length → (Instr.slice 22 (.slice A0 b.length C0) none (some (.int .i64 1000)) none).run Try.prog wx = .ok (.slice A0 1000 C0) wx := fun wx hl => by
    have := slice_take (A := A0) (n := b.length) (c := C0) (e := 1000) (fun a ha => by
      obtain ⟨A, c, hv, _, hr⟩ := h0
      obtain ⟨b2, off, hA, _⟩ := hr (by omega)
      injection hv with hv _ _
      rw [hv, hA] at ha
      injection ha with ha
      rw [← ha]) (by omega) wx
    simpa using this
  have hI0 := hid (g4_sure b')
  have HLB := hid hlb
  clear hrow h0 hr' h2 hf2 hb' hTW bel
  by_cases hb : 1000 < b.length
  · have hbi : (1000 : Int) < (b.length : Int) := by omega
    have hsl := fun wx => hsl wx hb
    have e1 := hbL hbi
    rw [e1] at P2 PR
    clear hbL hbS hb e1
    have tk2 := True.intro
    go_enter Try.func4, Try.ntmps4
    go_wp2_with (first
      | (go_at_call 24; refine hN.mono ?_; rintro e w1 ⟨q, p, rfl, D1, b1⟩; clear hN)
      | (go_at_call 23; refine (PK _ q p D1 b1).mono ?_; rintro e w2 ⟨rfl, D2, b2⟩; clear PK)
      | (go_at_call 13; refine (P1 _ q p D2 b2).mono ?_; rintro e w3 ⟨rfl, D3, b3⟩; clear P1)
      | (go_at_call 14; refine (P2 _ q p D3 b3).mono ?_; rintro e w4 ⟨rfl, D4, b4⟩; clear P2)
      | (go_at_call 17; refine (P3 _ q p D4 b4).mono ?_; rintro e w5 ⟨rfl, D5, b5⟩; clear P3)
      | (go_at_call 18; refine (P4 _ q p D5 b5).mono ?_; rintro e w6 ⟨rfl, D6, b6⟩; clear P4)
      | (go_at_call 12; refine (num_is _ _).mono ?_; rintro e w0 ⟨rfl, hw0⟩; have hw0 := hw0.symm; subst hw0))
    go_loopw [9] (fun iv wr => ∃ (i : Nat) (M : DM), iv = .int .i64 i ∧ i ≤ l.length ∧ i ≤ 200 ∧ Hid (SureI b' M) ∧ Hid (Dsk wr T (8 + 2 * i) q p M) ∧ Hid (Below W.heap.size W wr)) (fun iv _ => l.length - (intOf iv).toNat)
    case atStart => exact ⟨0, _, rfl, by omega, by omega, hI0, D6, b6⟩
    case round =>
      obtain ⟨i, M, rfl, hi, hi2, HI, HD, HB⟩ := hrel
      by_cases hLt : i < l.length ∧ i < 200
      · have hil : (i : Int) < (l.length : Int) := by omega
        have hil2 : (i : Int) < 200 := by omega
        obtain ⟨b7, off, hA, ok, hc⟩ := ROW.out i hLt.1
        subst hA
        obtain ⟨ol, hol⟩ : ∃ ol, l[i]'hLt.1 = ol := ⟨_, rfl⟩
        rw [hol] at ok hc
        have HL := hid hLt
        have q0 : wr.cell? ⟨b7, off + i * 7, none⟩ = some (.int .i64 ol.kd) := hc wr HB.out 0 (.int .i64 ol.kd) (by decide) rfl
        have q1 := hc wr HB.out 1 (.string ol.nm) (by decide) rfl
        have q2 := hc wr HB.out 2 (.string ol.to) (by decide) rfl
        have q3 := hc wr HB.out 3 (.slice ol.A ol.bs.length ol.C) (by decide) rfl
        have q4 := hc wr HB.out 4 (.int .i64 ol.n) (by decide) rfl
        have q5 := hc wr HB.out 5 (.bool ol.y) (by decide) rfl
        have q6 := hc wr HB.out 6 (.slice ol.A2 ol.ks.length ol.C2) (by decide) rfl
        have ba := (Below.refl wr.heap.size wr).alloc (Nat.le_refl _) (.cells ol.cells 25)
        have HBA := hid (HB.out.alloc HB.out.size (.cells ol.cells 25))
        have hDo := PD wr (wr.alloc (.cells ol.cells 25)) q p M i ol HD.out HB.out ok hi2 ba
        have HDA := hid ((HD.out.below ba).up (c' := 8 + 2 * (i + 1)) (by omega) (by omega))
        clear hc hol hLt ok ba
        unfold OpD.cells at hDo HDA HBA
        have hkS : kS.toList = [115, 117, 114, 101] := by rw [ByteArray.toList_eq]; rfl
        by_cases hn : ol.nm = kS
        · rw [hn] at q1 HDA HBA
          unfold kS at q1 HDA HBA
          clear hDo hn hkS PD PC PR
          go_wp2
          go_roundw
          case rel => exact ⟨i + 1, M, by go_num, HL.out.1, HL.out.2, HI, HDA, HBA⟩
          case measure => have := HL.out.1; simp [intOf]; omega
        · by_cases ht : ol.to = kS
          · have e1 : (ol.nm.toList == [115, 117, 114, 101]) = false := by rw [← hkS]; exact str_ne hn
            rw [ht] at q2 HDA HBA
            unfold kS at q2 HDA HBA
            clear hDo hn ht hkS PD PC PR
            go_wp2
            go_roundw
            case rel => exact ⟨i + 1, M, by go_num, HL.out.1, HL.out.2, HI, HDA, HBA⟩
            case measure => have := HL.out.1; simp [intOf]; omega
          · have e1 : (ol.nm.toList == [115, 117, 114, 101]) = false := by rw [← hkS]; exact str_ne hn
            have e2 : (ol.to.toList == [115, 117, 114, 101]) = false := by rw [← hkS]; exact str_ne ht
            have HI2 : Hid (SureI b' (doO ol M)) := hid (HI.out.do ol.kd ol.nm ol.to ol.bs ol.n ol.y hn ht)
            clear hn ht hkS PD PC PR HDA HBA
            go_wp2_with (go_at_call 25; refine hDo.mono ?_; rintro e w7 ⟨rfl, D7, b7⟩; clear hDo)
            go_roundw
            case rel => exact ⟨i + 1, _, by go_num, HL.out.1, HL.out.2, HI2, D7, b7⟩
            case measure => have := HL.out.1; simp [intOf]; omega
      · by_cases h1 : i < l.length
        · have hil : (i : Int) < (l.length : Int) := by omega
          have hil2 : ¬ (i : Int) < 200 := by omega
          clear hLt PD ROW
          go_wp2_with (first
            | (go_at_call 10; refine (PC _ q p M i HD.out HB.out HI.out hi2).mono ?_; rintro e w7 ⟨rfl, M', D7, b7, hr7, ho7⟩; clear PC)
            | (go_at_call 11; refine (PR _ q p M' _ D7 b7 hr7 ho7).mono ?_; rintro e w8 ⟨A8, C8, rfl, cv1, cv2, hDw, b8⟩; have cv10 := cv1 w8 (Below.refl _ _); have cv20 := cv2 w8 (Below.refl _ _); clear PR cv1 cv2)
            | (go_at_call 12; refine (num_is _ _).mono ?_; rintro e w0 ⟨rfl, hw0⟩; have hw0 := hw0.symm; subst hw0)
            | (go_at_call 22; refine hDw.mono ?_; rintro e w0 ⟨rfl, hw0⟩; have hw0 := hw0.symm; subst hw0))
          go_ret
          exact ⟨rfl, b8⟩
        · have hil : ¬ (i : Int) < (l.length : Int) := by omega
          clear hLt PD ROW
          go_wp2_with (first
            | (go_at_call 10; refine (PC _ q p M i HD.out HB.out HI.out hi2).mono ?_; rintro e w7 ⟨rfl, M', D7, b7, hr7, ho7⟩; clear PC)
            | (go_at_call 11; refine (PR _ q p M' _ D7 b7 hr7 ho7).mono ?_; rintro e w8 ⟨A8, C8, rfl, cv1, cv2, hDw, b8⟩; have cv10 := cv1 w8 (Below.refl _ _); have cv20 := cv2 w8 (Below.refl _ _); clear PR cv1 cv2)
            | (go_at_call 12; refine (num_is _ _).mono ?_; rintro e w0 ⟨rfl, hw0⟩; have hw0 := hw0.symm; subst hw0)
            | (go_at_call 22; refine hDw.mono ?_; rintro e w0 ⟨rfl, hw0⟩; have hw0 := hw0.symm; subst hw0))
          go_ret
          exact ⟨rfl, b8⟩
  · have hbi : ¬ (1000 : Int) < (b.length : Int) := by omega
    have e1 := hbS hbi
    rw [e1] at P2 PR
    clear hbL hbS hb e1 hsl
    have tk2 := True.intro
    go_enter Try.func4, Try.ntmps4
    go_wp2_with (first
      | (go_at_call 24; refine hN.mono ?_; rintro e w1 ⟨q, p, rfl, D1, b1⟩; clear hN)
      | (go_at_call 23; refine (PK _ q p D1 b1).mono ?_; rintro e w2 ⟨rfl, D2, b2⟩; clear PK)
      | (go_at_call 13; refine (P1 _ q p D2 b2).mono ?_; rintro e w3 ⟨rfl, D3, b3⟩; clear P1)
      | (go_at_call 14; refine (P2 _ q p D3 b3).mono ?_; rintro e w4 ⟨rfl, D4, b4⟩; clear P2)
      | (go_at_call 17; refine (P3 _ q p D4 b4).mono ?_; rintro e w5 ⟨rfl, D5, b5⟩; clear P3)
      | (go_at_call 18; refine (P4 _ q p D5 b5).mono ?_; rintro e w6 ⟨rfl, D6, b6⟩; clear P4)
      | (go_at_call 12; refine (num_is _ _).mono ?_; rintro e w0 ⟨rfl, hw0⟩; have hw0 := hw0.symm; subst hw0))
    go_loopw [9] (fun iv wr => ∃ (i : Nat) (M : DM), iv = .int .i64 i ∧ i ≤ l.length ∧ i ≤ 200 ∧ Hid (SureI b' M) ∧ Hid (Dsk wr T (8 + 2 * i) q p M) ∧ Hid (Below W.heap.size W wr)) (fun iv _ => l.length - (intOf iv).toNat)
    case atStart => exact ⟨0, _, rfl, by omega, by omega, hI0, D6, b6⟩
    case round =>
      obtain ⟨i, M, rfl, hi, hi2, HI, HD, HB⟩ := hrel
      by_cases hLt : i < l.length ∧ i < 200
      · have hil : (i : Int) < (l.length : Int) := by omega
        have hil2 : (i : Int) < 200 := by omega
        obtain ⟨b7, off, hA, ok, hc⟩ := ROW.out i hLt.1
        subst hA
        obtain ⟨ol, hol⟩ : ∃ ol, l[i]'hLt.1 = ol := ⟨_, rfl⟩
        rw [hol] at ok hc
        have HL := hid hLt
        have q0 : wr.cell? ⟨b7, off + i * 7, none⟩ = some (.int .i64 ol.kd) := hc wr HB.out 0 (.int .i64 ol.kd) (by decide) rfl
        have q1 := hc wr HB.out 1 (.string ol.nm) (by decide) rfl
        have q2 := hc wr HB.out 2 (.string ol.to) (by decide) rfl
        have q3 := hc wr HB.out 3 (.slice ol.A ol.bs.length ol.C) (by decide) rfl
        have q4 := hc wr HB.out 4 (.int .i64 ol.n) (by decide) rfl
        have q5 := hc wr HB.out 5 (.bool ol.y) (by decide) rfl
        have q6 := hc wr HB.out 6 (.slice ol.A2 ol.ks.length ol.C2) (by decide) rfl
        have ba := (Below.refl wr.heap.size wr).alloc (Nat.le_refl _) (.cells ol.cells 25)
        have HBA := hid (HB.out.alloc HB.out.size (.cells ol.cells 25))
        have hDo := PD wr (wr.alloc (.cells ol.cells 25)) q p M i ol HD.out HB.out ok hi2 ba
        have HDA := hid ((HD.out.below ba).up (c' := 8 + 2 * (i + 1)) (by omega) (by omega))
        clear hc hol hLt ok ba
        unfold OpD.cells at hDo HDA HBA
        have hkS : kS.toList = [115, 117, 114, 101] := by rw [ByteArray.toList_eq]; rfl
        by_cases hn : ol.nm = kS
        · rw [hn] at q1 HDA HBA
          unfold kS at q1 HDA HBA
          clear hDo hn hkS PD PC PR
          go_wp2
          go_roundw
          case rel => exact ⟨i + 1, M, by go_num, HL.out.1, HL.out.2, HI, HDA, HBA⟩
          case measure => have := HL.out.1; simp [intOf]; omega
        · by_cases ht : ol.to = kS
          · have e1 : (ol.nm.toList == [115, 117, 114, 101]) = false := by rw [← hkS]; exact str_ne hn
            rw [ht] at q2 HDA HBA
            unfold kS at q2 HDA HBA
            clear hDo hn ht hkS PD PC PR
            go_wp2
            go_roundw
            case rel => exact ⟨i + 1, M, by go_num, HL.out.1, HL.out.2, HI, HDA, HBA⟩
            case measure => have := HL.out.1; simp [intOf]; omega
          · have e1 : (ol.nm.toList == [115, 117, 114, 101]) = false := by rw [← hkS]; exact str_ne hn
            have e2 : (ol.to.toList == [115, 117, 114, 101]) = false := by rw [← hkS]; exact str_ne ht
            have HI2 : Hid (SureI b' (doO ol M)) := hid (HI.out.do ol.kd ol.nm ol.to ol.bs ol.n ol.y hn ht)
            clear hn ht hkS PD PC PR HDA HBA
            go_wp2_with (go_at_call 25; refine hDo.mono ?_; rintro e w7 ⟨rfl, D7, b7⟩; clear hDo)
            go_roundw
            case rel => exact ⟨i + 1, _, by go_num, HL.out.1, HL.out.2, HI2, D7, b7⟩
            case measure => have := HL.out.1; simp [intOf]; omega
      · by_cases h1 : i < l.length
        · have hil : (i : Int) < (l.length : Int) := by omega
          have hil2 : ¬ (i : Int) < 200 := by omega
          clear hLt PD ROW
          go_wp2_with (first
            | (go_at_call 10; refine (PC _ q p M i HD.out HB.out HI.out hi2).mono ?_; rintro e w7 ⟨rfl, M', D7, b7, hr7, ho7⟩; clear PC)
            | (go_at_call 11; refine (PR _ q p M' _ D7 b7 hr7 ho7).mono ?_; rintro e w8 ⟨A8, C8, rfl, cv1, cv2, hDw, b8⟩; have cv10 := cv1 w8 (Below.refl _ _); have cv20 := cv2 w8 (Below.refl _ _); clear PR cv1 cv2)
            | (go_at_call 12; refine (num_is _ _).mono ?_; rintro e w0 ⟨rfl, hw0⟩; have hw0 := hw0.symm; subst hw0)
            | (go_at_call 22; refine hDw.mono ?_; rintro e w0 ⟨rfl, hw0⟩; have hw0 := hw0.symm; subst hw0))
          go_ret
          exact ⟨rfl, b8⟩
        · have hil : ¬ (i : Int) < (l.length : Int) := by omega
          clear hLt PD ROW
          go_wp2_with (first
            | (go_at_call 10; refine (PC _ q p M i HD.out HB.out HI.out hi2).mono ?_; rintro e w7 ⟨rfl, M', D7, b7, hr7, ho7⟩; clear PC)
            | (go_at_call 11; refine (PR _ q p M' _ D7 b7 hr7 ho7).mono ?_; rintro e w8 ⟨A8, C8, rfl, cv1, cv2, hDw, b8⟩; have cv10 := cv1 w8 (Below.refl _ _); have cv20 := cv2 w8 (Below.refl _ _); clear PR cv1 cv2)
            | (go_at_call 12; refine (num_is _ _).mono ?_; rintro e w0 ⟨rfl, hw0⟩; have hw0 := hw0.symm; subst hw0)
            | (go_at_call 22; refine hDw.mono ?_; rintro e w0 ⟨rfl, hw0⟩; have hw0 := hw0.symm; subst hw0))
          go_ret
          exact ⟨rfl, b8⟩
end Go.Proofs.Ytjpneohachkheaa
