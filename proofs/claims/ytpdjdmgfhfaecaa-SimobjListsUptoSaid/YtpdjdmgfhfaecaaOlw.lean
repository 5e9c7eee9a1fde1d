/-
  SimobjLists' walk: what a list tells, by when each name came and went last. Conditions: the list is no longer than 2^20.
-/
import Derived.Test.YtpdjdmgfhfaecaaOln
import Derived.Deep.DeepCutAuto
import Derived.Deep.CutBlock
import Derived.Deep.CutRange
import Derived.Deep.RegionLaw
import Derived.Deep.QuietTactic
import Derived.BigQuiet
namespace Go.Proofs.Ytpdjdmgfhfaecaa
open Go.RowKit Go.Icz Go.Maps Go.ChangeMaps Go.MapKept
set_option maxRecDepth 100000
set_option maxHeartbeats 8000000
theorem Io.upd {W w : World} {q p b1 b2 ob c n : Nat} {o : OpD} {M : SM} {fc fw : ByteArray → Nat} (h : Io W w q p b1 b2 ob c n o M fc fw) (ok : OpOk W W.heap.size o) (hn : n ≤ 1000) (hm : M.now ≤ 10000) :
    Hid (Calls Try.prog 21 #[.pointer (some ⟨q, 0, none⟩)] w.drew fun e w' => e = .returned (.int .i64 (M.now : Int)) ∧ w' = w.drew) ∧ w.drew.cell? ⟨ob, 1, none⟩ = some (.string o.nm) ∧ IntKind.i64.wrap ((M.now : Int) + 1) = (M.now : Int) + 1 ∧
    (∃ w', (Instr.mapUpdate 56 (.map (some b1)) (.string o.nm) (.int .i64 ((M.now : Int) + 1))).run Try.prog w.drew = .ok () w' ∧ Hid (Io W w' q p b1 b2 ob c (n + 1) o M (Go.Icz.upd fc o.nm (M.now + 1)) fw)) ∧
    (∃ w', (Instr.mapUpdate 56 (.map (some b2)) (.string o.nm) (.int .i64 ((M.now : Int) + 1))).run Try.prog w.drew = .ok () w' ∧ Hid (Io W w' q p b1 b2 ob c (n + 1) o M fc (Go.Icz.upd fw o.nm (M.now + 1)))) := by
  have hd : Below w.heap.size w w.drew := (Below.refl _ _).drew
  have h2 := h.below hd
  have hr := h2.ro
  refine ⟨hid (Now_is h2.il.st), h2.cells.1, by rw [IntKind.wrap_i64]; omega, ?_, ?_⟩
  · obtain ⟨w', h3, h4, t⟩ := h2.il.came o.nm ok.nm (M.now + 1) (by omega) (by omega)
    exact ⟨w', h3, hid ⟨h4, t.row hr (fun e => by obtain ⟨D, ⟨es, cl, hb, _⟩, _⟩ := h2.il.mc; exact map_ne hr hb e)⟩⟩
  · obtain ⟨w', h3, h4, t⟩ := h2.il.went o.nm ok.nm (M.now + 1) (by omega) (by omega)
    exact ⟨w', h3, hid ⟨h4, t.row hr (fun e => by obtain ⟨D, ⟨es, cl, hb, _⟩, _⟩ := h2.il.mw; exact map_ne hr hb e)⟩⟩
theorem lag_new (n : Nat) (h : n ≤ 20) : lagM (newS 20) (n : Int) = (0, { newS 20 with lag := n }) := by
  unfold lagM
  rw [if_pos (by show 0 ≤ (n : Int) ∧ (n : Int) ≤ (20 : Nat); omega)]
  rfl
theorem lists_walk (v : Value) (l : List OpD) (lag : Int) (W : World) (h1 : RdO W W.heap.size v l) :
    Calls Try.prog 6 #[v, .int .i64 lag] W fun e W' => e = .returned (.bool true) ∧ Below W.heap.size W W' := by
  obtain ⟨A1, C1, rfl, hlb, hrow⟩ := h1
  obtain ⟨Lg, r2, q1, q2, hLg⟩ : ∃ (Lg : Nat) (r2 : Int), IntKind.i64.wrap (lag.tmod 20 + 20) = r2 ∧ r2.tmod 20 = (Lg : Int) ∧ Lg < 20 := by
    have h1 := Int.tmod_lt_of_pos lag (show (0 : Int) < 20 by omega)
    have h2 := Int.lt_tmod_of_pos lag (show (0 : Int) < 20 by omega)
    have h3 := Int.tmod_lt_of_pos (lag.tmod 20 + 20) (show (0 : Int) < 20 by omega)
    have h4 := Int.tmod_nonneg 20 (show 0 ≤ lag.tmod 20 + 20 by omega)
    refine ⟨((lag.tmod 20 + 20).tmod 20).toNat, lag.tmod 20 + 20, ?_, by omega, by omega⟩
    rw [IntKind.wrap_i64]; omega
  generalize hr1 : lag.tmod 20 = r1 at *
  obtain ⟨M0, hM0⟩ : ∃ M0 : SM, M0 = { newS 20 with lag := Lg } := ⟨_, rfl⟩
  have hN : Calls Try.prog 7 #[.int .i64 20] W fun e w' => ∃ q p, e = .returned (.tuple #[.pointer (some ⟨q, 0, none⟩), .int .i64 0]) ∧ Sto w' (fun k => W.heap.size ≤ k) 0 q p (newS 20) ∧ Below W.heap.size W w' := New_is 20 W (by decide) (fun _ h => h)
  have PL : ∀ w1 q p, Sto w1 (fun k => W.heap.size ≤ k) 0 q p (newS 20) → Below W.heap.size W w1 → Calls Try.prog 19 #[.pointer (some ⟨q, 0, none⟩), .int .i64 (Lg : Int)] w1 fun e w' => e = .returned (.int .i64 0) ∧ Sto w' (fun k => W.heap.size ≤ k) 0 q p M0 ∧ Below W.heap.size W w' := fun w1 q p h bb => by
    refine (Lag_is h (Lg : Int)).mono ?_
    rw [lag_new Lg (by omega), ← hM0]
    rintro e w2 ⟨rfl, D, t⟩
    exact ⟨rfl, D, bb.trans (t.to_below (fun _ h => h) bb.size)⟩
  have PK : ∀ w1 q p, Sto w1 (fun k => W.heap.size ≤ k) 0 q p M0 → Below W.heap.size W w1 → Calls Try.prog 10 #[] w1 fun e w' => e = .returned (.bool true) ∧ Hid (Il W ((w'.alloc (.map #[] 0)).alloc (.map #[] 0)) q p w'.heap.size (w'.heap.size + 1) (fun _ => False) 0 0 M0 (fun _ => 0) (fun _ => 0)) := fun w1 q p h bb => by
    refine (knows_is w1).mono ?_
    rintro e w2 ⟨rfl, b2⟩
    have bb2 := bb.trans (b2.mono bb.size)
    have ba := (Below.refl w2.heap.size w2).alloc (Nat.le_refl _) (.map #[] 0)
    have ba2 := (Below.refl (w2.alloc (.map #[] 0)).heap.size (w2.alloc (.map #[] 0))).alloc (Nat.le_refl _) (.map #[] 0)
    have bb3 := ba.trans (ba2.mono ba.size)
    have hs := bb2.size
    have m2 := MI.made (w2.alloc (.map #[] 0))
    rw [World.size_alloc] at m2
    exact ⟨rfl, hid ⟨((h.below b2).re (T' := fun k => W.heap.size ≤ k ∧ k ≠ w2.heap.size ∧ k ≠ w2.heap.size + 1 ∧ ¬ False) (fun k hk hlt => ⟨hk, by omega, by omega, fun h => h⟩)).below bb3, (MI.made w2).touch (Tch.of_below (S := fun _ => False) ba2) (fun h => h), m2, by omega, bb2.trans (bb3.mono bb2.size), ⟨by omega, by omega⟩⟩⟩
  have ROW : Hid (∀ i (hi : i < l.length), ∃ b1 off, A1 = some ⟨b1, off, none⟩ ∧ OpOk W W.heap.size l[i] ∧ ∀ wr, Below W.heap.size W wr → ∀ k u, k < 5 → l[i].cells[k]? = some u → wr.cell? ⟨b1, off + i * 5 + k, none⟩ = some u) := hid (fun i hi => by
    obtain ⟨b1, off, hA, hlt, hlt2, hc⟩ := hrow (by omega)
    obtain ⟨c1, c2⟩ := hc i hi
    exact ⟨b1, off, hA, c2, fun wr bb k u hk hu => (bb.cell (p := ⟨b1, off + i * 5 + k, none⟩) hlt2).trans (by rw [Nat.add_assoc]; exact c1 k u hk hu)⟩)
  have HLB := hid hlb
  have HLg := hid hLg
  have HM0 : Hid (CwI M0 (fun _ => 0) (fun _ => 0) ∧ M0.lag = Lg ∧ M0.most = 20 ∧ M0.now = 0) := hid (by
    subst hM0
    exact ⟨(CwI.new 20).same (M' := { newS 20 with lag := Lg }) (fun _ => Iff.rfl) rfl (Nat.le_refl _), rfl, rfl, rfl⟩)
  clear hrow hM0 hLg
  have hmm := @run_makeMap Try.prog
  go_enter Try.func6, Try.ntmps6
  go_wp2_with (first
    | (go_at_call 7; refine hN.mono ?_; rintro e w1 ⟨q, p, rfl, D1, b1⟩; clear hN)
    | (go_at_call 19; refine (PL _ q p D1 b1).mono ?_; rintro e w2 ⟨rfl, D2, b2⟩; clear PL D1 b1)
    | (go_at_call 10; refine (PK _ q p D2 b2).mono ?_; rintro e w3 ⟨rfl, J3⟩; clear PK D2 b2)
    | (go_at_call 9; refine (num_is _ _).mono ?_; rintro e w0 ⟨rfl, hw0⟩; have hw0 := hw0.symm; subst hw0))
  clear q1 q2 hr1
  go_loopw [9] (fun iv wr => ∃ (i : Nat) (M : SM) (fc fw : ByteArray → Nat), iv = .int .i64 i ∧ i ≤ l.length ∧ i ≤ 150 ∧ Hid (CwI M fc fw) ∧ Hid (Il W wr q p w3.heap.size (w3.heap.size + 1) (fun _ => False) (3 * i) i M fc fw) ∧ Hid (M.lag = Lg ∧ M.now ≤ 30 * i)) (fun iv _ => l.length - (intOf iv).toNat)
  case atStart => exact ⟨0, _, _, _, rfl, by omega, by omega, hid HM0.out.1, J3, hid ⟨HM0.out.2.1, by rw [HM0.out.2.2.2]; exact Nat.le_refl _⟩⟩
  case round =>
    obtain ⟨i, M, fc, fw, rfl, hi, hi2, HC, HJ, HM⟩ := hrel
    by_cases hLt : i < l.length ∧ i < 150
    · have hil : (i : Int) < (l.length : Int) := by omega
      have hil2 : (i : Int) < 150 := by omega
      obtain ⟨b7, off, hA, ok, hc⟩ := ROW.out i hLt.1
      subst hA
      obtain ⟨ol, hol⟩ : ∃ ol, l[i]'hLt.1 = ol := ⟨_, rfl⟩
      rw [hol] at ok hc
      have HL := hid hLt
      have HB := HJ.out.bel
      have q0 : wr.cell? ⟨b7, off + i * 5, none⟩ = some (.int .i64 ol.kd) := hc wr HB 0 (.int .i64 ol.kd) (by decide) rfl
      have q1 := hc wr HB 1 (.string ol.nm) (by decide) rfl
      have q2 := hc wr HB 2 (.slice ol.A ol.bs.length ol.C) (by decide) rfl
      have q3 := hc wr HB 3 (.int .i64 ol.n) (by decide) rfl
      have q4 := hc wr HB 4 (.bool ol.y) (by decide) rfl
      have HI := hid (HJ.out.fresh ol)
      have ct : 3 * i + 2 ≤ 4194304 := by omega
      have HO := hid ok
      have hct : ∀ x ∈ M.ch, x.t ≤ M.now := HJ.out.st.2.ct
      have hMn : M.now ≤ 30 * i := HM.out.2
      have hMl : M.lag = Lg := HM.out.1
      have hio : i ≤ 1000 ∧ 30 * i ≤ 9000 := by omega
      clear hc hol hLt HB HJ HM
      go_upto_block 2 with fail
      go_cut [11, 12, 13, 14, 15, 16, 17, 18, 72] (fun _ _ _ _ _ _ _ _ _ wx => ∃ (M' : SM) (fc' fw' : ByteArray → Nat), Hid (CwI M' fc' fw' ∧ Il W wx q p w3.heap.size (w3.heap.size + 1) (fun _ => False) (3 * i + 2) (i + 1) M' fc' fw' ∧ M'.lag = Lg ∧ M'.now ≤ 30 * i + 29))
      case first =>
        by_cases k0 : ol.kd = 0
        · rw [k0] at q0
          have hL1 := HI.out.look ok (alook M.L ol.nm).isSome rfl
          have hPt := fun (w4 : World) (I4 : Hid (Io W w4 q p w3.heap.size (w3.heap.size + 1) wr.heap.size (3 * i) i ol M fc fw)) => I4.out.put HO.out ct
          have hw := HC.out.put hct ol.nm ol.bs
          have hnw := put_now M ol.nm ol.bs
          unfold OpD.cells at hL1
          rw [k0] at hL1 ⊢
          generalize (putM M ol.nm ol.bs).2 = M' at hPt hw hnw
          have hL2 := fun (w5 : World) (I5 : Hid (Io W w5 q p w3.heap.size (w3.heap.size + 1) wr.heap.size (3 * i + 2) i ol M' fc fw)) => I5.out.look HO.out (alook M'.L ol.nm).isSome rfl
          have hUp := fun (w5 : World) (I5 : Hid (Io W w5 q p w3.heap.size (w3.heap.size + 1) wr.heap.size (3 * i + 2) i ol M' fc fw)) => I5.out.upd HO.out hio.1 (by omega)
          have HN := hid hnw
          have HMl := hid hMl
          have HMn := hid hMn
          clear HI HC hct ok ct hnw hMl hMn hio
          rcases hw with ⟨h1, hC⟩ | ⟨h1, h2, hC⟩ | ⟨h1, h2, hC⟩
          · rw [h1] at hL1
            have HC' := hid hC
            clear hC h1 hUp
            generalize (alook M'.L ol.nm).isSome = y at hL2
            cases y with
            | false =>
              as_aux_lemma =>
                go_wp2_with (first
                  | (go_at_call 15; refine hL1.mono ?_; rintro e w4 ⟨A4, m4, C4, rfl, a1, a2, I4⟩; clear hL1)
                  | (go_at_call 16; refine (hPt _ I4).mono ?_; rintro e w5 ⟨f5, rfl, d1, I5⟩; clear hPt a1 a2 I4)
                  | (go_at_call 15; refine (hL2 _ I5).mono ?_; rintro e w6 ⟨A6, m6, C6, rfl, g1, g2, I6⟩; clear hL2 d1 I5)
                  | (go_at_call 9; refine (num_is _ _).mono ?_; rintro e w0 ⟨rfl, hw0⟩; have hw0 := hw0.symm; subst hw0))
                go_meet
                exact ⟨M', fc, fw, hid ⟨HC'.out, I6.out.back.up (Nat.le_succ _), by rw [HN.out.2.1]; exact HMl.out, by rw [HN.out.1]; have := HMn.out; omega⟩⟩
            | true =>
              as_aux_lemma =>
                go_wp2_with (first
                  | (go_at_call 15; refine hL1.mono ?_; rintro e w4 ⟨A4, m4, C4, rfl, a1, a2, I4⟩; clear hL1)
                  | (go_at_call 16; refine (hPt _ I4).mono ?_; rintro e w5 ⟨f5, rfl, d1, I5⟩; clear hPt a1 a2 I4)
                  | (go_at_call 15; refine (hL2 _ I5).mono ?_; rintro e w6 ⟨A6, m6, C6, rfl, g1, g2, I6⟩; clear hL2 d1 I5)
                  | (go_at_call 9; refine (num_is _ _).mono ?_; rintro e w0 ⟨rfl, hw0⟩; have hw0 := hw0.symm; subst hw0))
                go_meet
                exact ⟨M', fc, fw, hid ⟨HC'.out, I6.out.back.up (Nat.le_succ _), by rw [HN.out.2.1]; exact HMl.out, by rw [HN.out.1]; have := HMn.out; omega⟩⟩
          · rw [h1] at hL1
            rw [h2] at hL2
            have HC' := hid hC
            clear hC h1 h2 hUp
            as_aux_lemma =>
              go_wp2_with (first
                | (go_at_call 15; refine hL1.mono ?_; rintro e w4 ⟨A4, m4, C4, rfl, a1, a2, I4⟩; clear hL1)
                | (go_at_call 16; refine (hPt _ I4).mono ?_; rintro e w5 ⟨f5, rfl, d1, I5⟩; clear hPt a1 a2 I4)
                | (go_at_call 15; refine (hL2 _ I5).mono ?_; rintro e w6 ⟨A6, m6, C6, rfl, g1, g2, I6⟩; clear hL2 d1 I5)
                | (go_at_call 9; refine (num_is _ _).mono ?_; rintro e w0 ⟨rfl, hw0⟩; have hw0 := hw0.symm; subst hw0))
              go_meet
              exact ⟨M', fc, fw, hid ⟨HC'.out, I6.out.back.up (Nat.le_succ _), by rw [HN.out.2.1]; exact HMl.out, by rw [HN.out.1]; have := HMn.out; omega⟩⟩
          · rw [h1] at hL1
            rw [h2] at hL2
            have HC' := hid hC
            clear hC h1 h2
            as_aux_lemma =>
              go_upto_region 17 with (first
                | (go_at_call 15; refine hL1.mono ?_; rintro e w4 ⟨A4, m4, C4, rfl, a1, a2, I4⟩; clear hL1)
                | (go_at_call 16; refine (hPt _ I4).mono ?_; rintro e w5 ⟨f5, rfl, d1, I5⟩; clear hPt a1 a2 I4)
                | (go_at_call 15; refine (hL2 _ I5).mono ?_; rintro e w6 ⟨A6, m6, C6, rfl, g1, g2, I6⟩; clear hL2 d1 I5))
              obtain ⟨nw, g3, hwr, ⟨w7, up1, I7⟩, ⟨w8, up2, I8⟩⟩ := hUp w6 I6
              clear hUp g1 g2 I6
              clear up2 I8
              go_region_law (first | (go_simp; go_at_call 21; refine nw.out.mono ?_; rintro e w0 ⟨rfl, hw0⟩; subst hw0))
              all_goals go_wp2_with fail
              all_goals go_meet
              all_goals exact ⟨M', (upd fc ol.nm (M'.now + 1)), fw, hid ⟨by rw [HN.out.1]; exact HC'.out, I7.out.back, by rw [HN.out.2.1]; exact HMl.out, by rw [HN.out.1]; have := HMn.out; omega⟩⟩
        by_cases k2 : ol.kd = 2
        · rw [k2] at q0
          have hL1 := HI.out.look ok (alook M.L ol.nm).isSome rfl
          have hPt := fun (w4 : World) (I4 : Hid (Io W w4 q p w3.heap.size (w3.heap.size + 1) wr.heap.size (3 * i) i ol M fc fw)) => I4.out.del HO.out ct
          have hw := HC.out.del hct ol.nm
          have hnw := del_now M ol.nm
          unfold OpD.cells at hL1
          rw [k2] at hL1 ⊢
          generalize (delM M ol.nm).2 = M' at hPt hw hnw
          have hL2 := fun (w5 : World) (I5 : Hid (Io W w5 q p w3.heap.size (w3.heap.size + 1) wr.heap.size (3 * i + 2) i ol M' fc fw)) => I5.out.look HO.out (alook M'.L ol.nm).isSome rfl
          have hUp := fun (w5 : World) (I5 : Hid (Io W w5 q p w3.heap.size (w3.heap.size + 1) wr.heap.size (3 * i + 2) i ol M' fc fw)) => I5.out.upd HO.out hio.1 (by omega)
          have HN := hid hnw
          have HMl := hid hMl
          have HMn := hid hMn
          clear HI HC hct ok ct hnw hMl hMn hio k0 k2
          rcases hw with ⟨h1, hC⟩ | ⟨h1, h2, hC⟩ | ⟨h1, h2, hC⟩
          · rw [h1] at hL1
            have HC' := hid hC
            clear hC h1 hUp
            generalize (alook M'.L ol.nm).isSome = y at hL2
            cases y with
            | false =>
              as_aux_lemma =>
                go_wp2_with (first
                  | (go_at_call 15; refine hL1.mono ?_; rintro e w4 ⟨A4, m4, C4, rfl, a1, a2, I4⟩; clear hL1)
                  | (go_at_call 17; refine (hPt _ I4).mono ?_; rintro e w5 ⟨f5, rfl, d1, I5⟩; clear hPt a1 a2 I4)
                  | (go_at_call 15; refine (hL2 _ I5).mono ?_; rintro e w6 ⟨A6, m6, C6, rfl, g1, g2, I6⟩; clear hL2 d1 I5)
                  | (go_at_call 9; refine (num_is _ _).mono ?_; rintro e w0 ⟨rfl, hw0⟩; have hw0 := hw0.symm; subst hw0))
                go_meet
                exact ⟨M', fc, fw, hid ⟨HC'.out, I6.out.back.up (Nat.le_succ _), by rw [HN.out.2.1]; exact HMl.out, by rw [HN.out.1]; have := HMn.out; omega⟩⟩
            | true =>
              as_aux_lemma =>
                go_wp2_with (first
                  | (go_at_call 15; refine hL1.mono ?_; rintro e w4 ⟨A4, m4, C4, rfl, a1, a2, I4⟩; clear hL1)
                  | (go_at_call 17; refine (hPt _ I4).mono ?_; rintro e w5 ⟨f5, rfl, d1, I5⟩; clear hPt a1 a2 I4)
                  | (go_at_call 15; refine (hL2 _ I5).mono ?_; rintro e w6 ⟨A6, m6, C6, rfl, g1, g2, I6⟩; clear hL2 d1 I5)
                  | (go_at_call 9; refine (num_is _ _).mono ?_; rintro e w0 ⟨rfl, hw0⟩; have hw0 := hw0.symm; subst hw0))
                go_meet
                exact ⟨M', fc, fw, hid ⟨HC'.out, I6.out.back.up (Nat.le_succ _), by rw [HN.out.2.1]; exact HMl.out, by rw [HN.out.1]; have := HMn.out; omega⟩⟩
          · rw [h1] at hL1
            rw [h2] at hL2
            have HC' := hid hC
            clear hC h1 h2 hUp
            as_aux_lemma =>
              go_wp2_with (first
                | (go_at_call 15; refine hL1.mono ?_; rintro e w4 ⟨A4, m4, C4, rfl, a1, a2, I4⟩; clear hL1)
                | (go_at_call 17; refine (hPt _ I4).mono ?_; rintro e w5 ⟨f5, rfl, d1, I5⟩; clear hPt a1 a2 I4)
                | (go_at_call 15; refine (hL2 _ I5).mono ?_; rintro e w6 ⟨A6, m6, C6, rfl, g1, g2, I6⟩; clear hL2 d1 I5)
                | (go_at_call 9; refine (num_is _ _).mono ?_; rintro e w0 ⟨rfl, hw0⟩; have hw0 := hw0.symm; subst hw0))
              go_meet
              exact ⟨M', fc, fw, hid ⟨HC'.out, I6.out.back.up (Nat.le_succ _), by rw [HN.out.2.1]; exact HMl.out, by rw [HN.out.1]; have := HMn.out; omega⟩⟩
          · rw [h1] at hL1
            rw [h2] at hL2
            have HC' := hid hC
            clear hC h1 h2
            as_aux_lemma =>
              go_upto_region 23 with (first
                | (go_at_call 15; refine hL1.mono ?_; rintro e w4 ⟨A4, m4, C4, rfl, a1, a2, I4⟩; clear hL1)
                | (go_at_call 17; refine (hPt _ I4).mono ?_; rintro e w5 ⟨f5, rfl, d1, I5⟩; clear hPt a1 a2 I4)
                | (go_at_call 15; refine (hL2 _ I5).mono ?_; rintro e w6 ⟨A6, m6, C6, rfl, g1, g2, I6⟩; clear hL2 d1 I5))
              obtain ⟨nw, g3, hwr, ⟨w7, up1, I7⟩, ⟨w8, up2, I8⟩⟩ := hUp w6 I6
              clear hUp g1 g2 I6
              clear up1 I7
              go_region_law (first | (go_simp; go_at_call 21; refine nw.out.mono ?_; rintro e w0 ⟨rfl, hw0⟩; subst hw0))
              all_goals go_wp2_with fail
              all_goals go_meet
              all_goals exact ⟨M', fc, (upd fw ol.nm (M'.now + 1)), hid ⟨by rw [HN.out.1]; exact HC'.out, I8.out.back, by rw [HN.out.2.1]; exact HMl.out, by rw [HN.out.1]; have := HMn.out; omega⟩⟩
        by_cases k4 : ol.kd = 4
        · rw [k4] at q0
          obtain ⟨nN, t2, z1, z2, hnN⟩ : ∃ (nN : Nat) (t2 : Int), IntKind.i64.wrap (ol.n.tmod 30 + 30) = t2 ∧ t2.tmod 30 = (nN : Int) ∧ nN < 30 := by
            have h1 := Int.tmod_lt_of_pos ol.n (show (0 : Int) < 30 by omega)
            have h2 := Int.lt_tmod_of_pos ol.n (show (0 : Int) < 30 by omega)
            have h3 := Int.tmod_lt_of_pos (ol.n.tmod 30 + 30) (show (0 : Int) < 30 by omega)
            have h4 := Int.tmod_nonneg 30 (show 0 ≤ ol.n.tmod 30 + 30 by omega)
            refine ⟨((ol.n.tmod 30 + 30).tmod 30).toNat, ol.n.tmod 30 + 30, ?_, by omega, by omega⟩
            rw [IntKind.wrap_i64]; omega
          have hP := HI.out.tick (nN : Int)
          have HF : Hid (CwI (tickM M (nN : Int)).2 fc fw ∧ (tickM M (nN : Int)).2.lag = Lg ∧ (tickM M (nN : Int)).2.now ≤ 30 * i + 29) := hid (by
            unfold tickM
            split
            · exact ⟨HC.out.same (fun _ => Iff.rfl) rfl (by show M.now ≤ M.now + _; omega), hMl, by show M.now + (nN : Int).toNat ≤ _; omega⟩
            · exact ⟨HC.out, hMl, by show M.now ≤ _; omega⟩)
          unfold OpD.cells at hP
          rw [k4] at hP ⊢
          generalize (tickM M (nN : Int)).2 = M' at hP HF
          generalize hr5 : ol.n.tmod 30 = r5 at *
          clear HI HC hct ok hMl hMn hio k0 k2 k4 hnN
          as_aux_lemma =>
            go_wp2_with (first
              | (go_at_call 18; refine hP.mono ?_; rintro e w4 ⟨y4, rfl, I4⟩; clear hP)
              | (go_at_call 9; refine (num_is _ _).mono ?_; rintro e w0 ⟨rfl, hw0⟩; have hw0 := hw0.symm; subst hw0))
            go_meet
            exact ⟨M', fc, fw, hid ⟨HF.out.1, (I4.out.back.le (by omega) ct).up (Nat.le_succ _), HF.out.2⟩⟩
        by_cases k6 : ol.kd = 6
        · rw [k6] at q0
          have hP := HI.out.fail ol.n ol.y ok.n.2
          have HF : Hid (CwI (failS M ol.n ol.y) fc fw ∧ (failS M ol.n ol.y).lag = Lg ∧ (failS M ol.n ol.y).now ≤ 30 * i + 29) := hid ⟨HC.out.same (M' := failS M ol.n ol.y) (fun _ => Iff.rfl) rfl (Nat.le_refl _), hMl, by show M.now ≤ _; omega⟩
          unfold OpD.cells at hP
          rw [k6] at hP ⊢
          generalize failS M ol.n ol.y = M' at hP HF
          clear HI HC hct ok hMl hMn hio k0 k2 k4 k6
          as_aux_lemma =>
            go_wp2_with (first
              | (go_at_call 12; refine hP.mono ?_; rintro e w4 ⟨rfl, I4⟩; clear hP)
              | (go_at_call 9; refine (num_is _ _).mono ?_; rintro e w0 ⟨rfl, hw0⟩; have hw0 := hw0.symm; subst hw0))
            go_meet
            exact ⟨M', fc, fw, hid ⟨HF.out.1, (I4.out.back.le (by omega) ct).up (Nat.le_succ _), HF.out.2⟩⟩
        have HF : Hid (CwI M fc fw ∧ M.lag = Lg ∧ M.now ≤ 30 * i + 29) := hid ⟨HC.out, hMl, by omega⟩
        unfold OpD.cells at HI
        clear HC hct ok hMl hMn hio
        as_aux_lemma =>
          go_wp2_with (first
            | (go_at_call 9; refine (num_is _ _).mono ?_; rintro e w0 ⟨rfl, hw0⟩; have hw0 := hw0.symm; subst hw0))
          go_meet
          exact ⟨M, fc, fw, hid ⟨HF.out.1, (HI.out.back.le (by omega) ct).up (Nat.le_succ _), HF.out.2⟩⟩
      case rest =>
        obtain ⟨M', fc', fw', HQ⟩ := hcut
        have hQl : M'.lag = Lg := HQ.out.2.2.1
        have hQn : M'.now ≤ 30 * i + 29 := HQ.out.2.2.2
        have HLs := HQ.out.2.1.list (by omega)
        have HQC := hid HQ.out.1
        have hwf : WfS M' (3 * i + 2) := HQ.out.2.1.st.2
        have HW := hid hwf
        have hln := lst_length hwf
        have hkn := ks_length hwf
        have HAC : Hid (CwI (askS M') fc' fw' ∧ (askS M').lag = Lg ∧ (askS M').now ≤ 30 * (i + 1)) := hid ⟨HQ.out.1.same (M' := askS M') (fun _ => Iff.rfl) rfl (Nat.le_refl _), hQl, by show M'.now ≤ _; omega⟩
        clear HQ HI HC hct ok ct hMl hMn hio HO q0 q1 q2 q3 q4 hwf
        by_cases he : errS M' = 0
        · rw [he] at HLs
          have HML : Hid (∀ k, k ∈ lstM M' ↔ k ∈ akeys (listed M' ⟨#[]⟩)) := hid fun k => mem_lst he
          have HE := hid he
          clear he
          generalize hlst : lstM M' = lst at *
          have hlst := hid hlst
          go_wp2_with (first
            | (go_at_call 14; refine HLs.mono ?_; rintro e w5 ⟨A5, C5, rfl, O5, I5⟩; clear HLs)
            | (go_at_call 9; refine (num_is _ _).mono ?_; rintro e w0 ⟨rfl, hw0⟩; have hw0 := hw0.symm; subst hw0))
          have HJ0 := hid (I5.out.sign O5.out)
          clear O5 I5
          go_loopw [22] (fun jv wj => ∃ (j : Nat) (g : ByteArray → Bool), jv = .int .i64 j ∧ j ≤ lst.length ∧ Hid (Jn W wj q p w3.heap.size (w3.heap.size + 1) w5.heap.size (3 * i + 2 + 1) (i + 1) (askS M') fc' fw' (.slice A5 lst.length C5) lst j g) ∧ Hid (∀ k, g k = true ↔ k ∈ lst.take j)) (fun jv _ => lst.length - (intOf jv).toNat)
          case atStart => exact ⟨0, _, rfl, Nat.zero_le _, HJ0, hid (fun k => by simp)⟩
          case round =>
            obtain ⟨j, g, rfl, hj, HJ, HG⟩ := hrel
            by_cases hjl : j < lst.length
            · have hji : (j : Int) < (lst.length : Int) := by omega
              obtain ⟨gb, off5, hA5, _, _⟩ := ks_at HJ.out.ow.rd (by omega)
              subst hA5
              have x1 := ks_cell HJ.out.ow hjl
              obtain ⟨k, hk⟩ : ∃ k, lst[j] = k := ⟨_, rfl⟩
              rw [hk] at x1
              have hkm : k ∈ lst := by rw [← hk]; exact List.getElem_mem hjl
              have hkl := (HML.out k).1 hkm
              have hks : k.size ≤ 64 := listed_small HW.out hkl
              obtain ⟨hc0, hcw⟩ := HQC.out.list hkl
              have hfcb := HQC.out.cb k
              have hfwb := HQC.out.wb k
              obtain ⟨w6, up, J6⟩ := HJ.out.put k hks (by omega)
              have HJ6 := hid J6
              have x2 := ks_cell J6.ow hjl
              rw [hk] at x2
              have HG2 : Hid (∀ k', Go.Icz.upd g k true k' = true ↔ k' ∈ lst.take (j + 1)) := hid (fun k' => by
                rw [(List.take_append_getElem hjl).symm, hk]
                by_cases e : k' = k
                · rw [e, Go.Icz.upd_same]; simp
                · rw [Go.Icz.upd_other _ _ e, HG.out k']; simp [e])
              have hLk := J6.look k hks (alook M'.L k).isSome rfl
              have HX := hid hjl
              have HKS := hid hks
              have HK := hid (fun (wz : World) (hz : KS.Own wz W.heap.size (.slice (some ⟨gb, off5, none⟩) lst.length C5) lst) => (show wz.cell? ⟨gb, off5 + j, none⟩ = some (.string k) from (ks_cell hz hjl).trans (by rw [hk])))
              have dz : (((fc' k : Nat) : Int) == 0) = false := by simp [hc0]
              have dz2 : ¬ ((fc' k : Nat) : Int) = 0 := by omega
              have hwr1 : IntKind.i64.wrap (((fw' k : Nat) : Int) - 1) = ((fw' k : Nat) : Int) - 1 := by rw [IntKind.wrap_i64]; omega
              have hwr2 : IntKind.i64.wrap ((M'.now : Int) - (Lg : Int)) = (M'.now : Int) - (Lg : Int) := by have := HLg.out; rw [IntKind.wrap_i64]; omega
              have hcmp : (alook M'.L k).isSome = false → decide (((fw' k : Nat) : Int) - 1 ≤ (M'.now : Int) - (Lg : Int)) = false := fun hn => decide_eq_false (by
                have := hcw (fun hm => by rw [al_isSome.2 hm] at hn; cases hn)
                rw [hQl] at this
                omega)
              generalize hy : (alook M'.L k).isSome = y at hLk hcmp
              clear hy hk hkm hkl hcw hfcb hfwb hks hjl J6 HJ HG
              cases y with
              | true =>
                clear hcmp hwr1 hwr2
                as_aux_lemma =>
                  go_wp2_with (go_at_call 15; refine hLk.mono ?_; rintro e w7 ⟨A7, n7, C7, rfl, J7⟩; have x3 := HK.out _ J7.out.ow; obtain hrd := fun a => (J7.out.reads k HKS.out a).1; clear hLk)
                  go_quiet (fail)
                  go_wp2
                  go_roundw
                  case rel => exact ⟨j + 1, _, by go_num, HX.out, hid (J7.out.below (below_drewN' _ _)), HG2⟩
                  case measure => have := HX.out; simp [intOf]; omega
              | false =>
                have hcmp := hcmp rfl
                as_aux_lemma =>
                  go_wp2_with (go_at_call 15; refine hLk.mono ?_; rintro e w7 ⟨A7, n7, C7, rfl, J7⟩; have x3 := HK.out _ J7.out.ow; obtain hrd := fun a => (J7.out.reads k HKS.out a).1; obtain hrd2 := fun a => (J7.out.reads k HKS.out a).2.1; have hnw := fun a => J7.out.now M'.now rfl a; clear hLk)
                  go_quiet ((go_at_call 21; exact Calls.quiet_of_same (hnw _)))
                  go_wp2
                  go_roundw
                  case rel => exact ⟨j + 1, _, by go_num, HX.out, hid (J7.out.below (below_drewN' _ _)), HG2⟩
                  case measure => have := HX.out; simp [intOf]; omega
            · obtain rfl : j = lst.length := by omega
              have HG' : Hid (∀ k, g k = true ↔ k ∈ lst) := hid (fun k => by rw [HG.out k, List.take_length])
              have hKs := HJ.out.il.re (Y := fun _ => False) (fun _ h => h.elim) |>.keys
              have hkk : ksM (askS M') = ksM M' := rfl
              rw [hkk] at hKs
              have HMK : Hid (∀ k, k ∈ ksM M' ↔ k ∈ akeys M'.L) := hid fun k => mem_ks
              generalize ksM M' = ks at *
              clear hjl HG hkk HJ0
              go_wp2_with (go_at_call 20; refine hKs.mono ?_; rintro e w6 ⟨A6, C6, rfl, O6, B6⟩; clear hKs)
              have HJ6 := hid (HJ.out.below B6.out)
              clear HJ B6
              go_loopw [26] (fun jv wj => ∃ (j : Nat), jv = .int .i64 j ∧ j ≤ ks.length ∧ Hid (Below w6.heap.size w6 wj)) (fun jv _ => ks.length - (intOf jv).toNat)
              case atStart => exact ⟨0, rfl, Nat.zero_le _, hid (Below.refl _ _)⟩
              case round =>
                obtain ⟨j, rfl, hj2, HB⟩ := hrel
                by_cases hjl : j < ks.length
                · have hji : (j : Int) < (ks.length : Int) := by omega
                  have hlji : ¬ (lst.length : Int) < (lst.length : Int) := by omega
                  obtain ⟨gb, off6, hA6, _, _⟩ := ks_at O6.out.rd (by omega)
                  subst hA6
                  have x1 := ks_cell (O6.out.below HB.out) hjl
                  obtain ⟨k, hk⟩ : ∃ k, ks[j] = k := ⟨_, rfl⟩
                  rw [hk] at x1
                  have hkm := (HMK.out k).1 (by rw [← hk]; exact List.getElem_mem hjl)
                  have hks : k.size ≤ 64 := by
                    obtain ⟨e, he, rfl⟩ := List.mem_map.1 hkm
                    exact HW.out.kz e he
                  have hcb := HQC.out.cb k
                  have hc0 := HQC.out.c0 k hkm
                  have J7 := HJ6.out.below HB.out
                  have hrd := fun a => (J7.reads k hks a).1
                  have hrd3 := fun a => (J7.reads k hks a).2.2
                  have hnw := fun a => J7.now M'.now rfl a
                  have hwr1 : IntKind.i64.wrap (((fc' k : Nat) : Int) - 1) = ((fc' k : Nat) : Int) - 1 := by rw [IntKind.wrap_i64]; omega
                  have hwr2 : IntKind.i64.wrap ((M'.now : Int) - (Lg : Int)) = (M'.now : Int) - (Lg : Int) := by have := HLg.out; rw [IntKind.wrap_i64]; omega
                  have hcmp : g k = false → decide (((fc' k : Nat) : Int) - 1 ≤ (M'.now : Int) - (Lg : Int)) = false := fun hn => decide_eq_false (by
                    have := HQC.out.keys hkm (fun hm => by rw [(HG'.out k).2 ((HML.out k).2 hm)] at hn; cases hn)
                    rw [hQl] at this
                    omega)
                  have HX := hid hjl
                  generalize g k = y at *
                  clear hk hkm hks hcb hc0 J7 hjl
                  cases y with
                  | true =>
                    clear hcmp hwr1 hwr2 hrd
                    as_aux_lemma =>
                      go_wp2_with fail
                      go_quiet (fail)
                      go_wp2
                      go_roundw
                      case rel => exact ⟨j + 1, by go_num, HX.out, hid (HB.out.trans ((below_drewN' _ _).mono HB.out.size))⟩
                      case measure => have := HX.out; simp [intOf]; omega
                  | false =>
                    have hcmp := hcmp rfl
                    as_aux_lemma =>
                      go_wp2_with fail
                      go_quiet ((go_at_call 21; exact Calls.quiet_of_same (hnw _)))
                      go_wp2
                      go_roundw
                      case rel => exact ⟨j + 1, by go_num, HX.out, hid (HB.out.trans ((below_drewN' _ _).mono HB.out.size))⟩
                      case measure => have := HX.out; simp [intOf]; omega
                · have hji : ¬ (j : Int) < (ks.length : Int) := by omega
                  have HZ := hid (((HJ6.out.below HB.out).il.re (Y := fun _ => False) (fun _ h => h.elim)))
                  go_wp2
                  go_roundw
                  case rel => first
                    | exact ⟨i + 1, _, fc', fw', by go_num, HL.out.1, HL.out.2, hid HAC.out.1, HZ, hid HAC.out.2⟩
                    | ((repeat apply Exists.intro); exact ⟨⟨i + 1, _, fc', fw', by go_num, HL.out.1, HL.out.2, hid HAC.out.1, HZ, hid HAC.out.2⟩, rfl⟩)
                  case measure => have := HL.out.1; simp [intOf]; omega
        · clear HQC HW hln hkn
          as_aux_lemma =>
            go_wp2_with (first
              | (go_at_call 14; refine HLs.mono ?_; rintro e w5 ⟨A5, C5, rfl, O5, I5⟩; clear HLs)
              | (go_at_call 9; refine (num_is _ _).mono ?_; rintro e w0 ⟨rfl, hw0⟩; have hw0 := hw0.symm; subst hw0))
            go_roundw
            case rel => first
              | exact ⟨i + 1, _, fc', fw', by go_num, HL.out.1, HL.out.2, hid HAC.out.1, I5, hid HAC.out.2⟩
              | ((repeat apply Exists.intro); exact ⟨⟨i + 1, _, fc', fw', by go_num, HL.out.1, HL.out.2, hid HAC.out.1, I5, hid HAC.out.2⟩, rfl⟩)
            case measure => have := HL.out.1; simp [intOf]; omega
    · have hE1 := HJ.out.off
      have hE2 := fun (w5 : World) (I5 : Hid (Il W w5 q p w3.heap.size (w3.heap.size + 1) (fun _ => False) (3 * i) i (failS M 0 false) fc fw)) => I5.out.past (by have := HM.out.2; omega) (by rw [HM.out.1]; have := HLg.out; omega)
      rw [HM.out.1] at hE2
      have hE3 := fun (w6 : World) (I6 : Hid (Il W w6 q p w3.heap.size (w3.heap.size + 1) (fun _ => False) (3 * i) i (endM M) fc fw)) => I6.out.list (by omega)
      have hE4 := fun (w7 : World) A7 C7 (O7 : Hid (KS.Own w7 W.heap.size (.slice A7 (lstM (endM M)).length C7) (lstM (endM M)))) (I7 : Hid (Il W w7 q p w3.heap.size (w3.heap.size + 1) (fun _ => False) (3 * i + 1) i (askS (endM M)) fc fw)) => I7.out.texts (L := lstM (endM M)) (end_list (M := M) (c := 3 * i + 1) (show WfS (endM M) (3 * i + 1) from by
        have hw := I7.out.st.2
        have hv := HJ.out.st.2
        exact ⟨hw.nn, hw.kz, hw.bz, hw.ln, hw.cz, hw.ct, hw.so, hw.nw, hw.lg, hw.mo, by have := hv.ca; show M.calls ≤ _; omega, hw.lc, hw.hc, by show 0 ≤ max (0 : Int) 0 ∧ max (0 : Int) 0 ≤ _; omega⟩) HJ.out.st.2.ct) O7.out
      rw [end_err M] at hE3
      generalize lstM (endM M) = lst at *
      clear HJ HM HC
      by_cases h1 : i < l.length
      · have hil : (i : Int) < (l.length : Int) := by omega
        have hil2 : ¬ (i : Int) < 150 := by omega
        clear hLt ROW
        as_aux_lemma =>
          go_wp2_with (first
            | (go_at_call 12; refine hE1.mono ?_; rintro e w5 ⟨rfl, I5⟩; clear hE1)
            | (go_at_call 18; refine (hE2 _ I5).mono ?_; rintro e w6 ⟨rfl, I6⟩; clear hE2 I5)
            | (go_at_call 14; refine (hE3 _ I6).mono ?_; rintro e w7 ⟨A7, C7, rfl, O7, I7⟩; clear hE3 I6)
            | (go_at_call 20; refine (hE4 _ _ _ O7 I7).mono ?_; rintro e w8 ⟨A8, C8, rfl, hTx⟩; clear hE4 O7 I7)
            | (go_at_call 23; refine hTx.out.mono ?_; rintro e w9 ⟨rfl, b9⟩)
            | (go_at_call 9; refine (num_is _ _).mono ?_; rintro e w0 ⟨rfl, hw0⟩; have hw0 := hw0.symm; subst hw0))
          go_ret
          exact ⟨rfl, b9⟩
      · have hil : ¬ (i : Int) < (l.length : Int) := by omega
        clear hLt ROW
        as_aux_lemma =>
          go_wp2_with (first
            | (go_at_call 12; refine hE1.mono ?_; rintro e w5 ⟨rfl, I5⟩; clear hE1)
            | (go_at_call 18; refine (hE2 _ I5).mono ?_; rintro e w6 ⟨rfl, I6⟩; clear hE2 I5)
            | (go_at_call 14; refine (hE3 _ I6).mono ?_; rintro e w7 ⟨A7, C7, rfl, O7, I7⟩; clear hE3 I6)
            | (go_at_call 20; refine (hE4 _ _ _ O7 I7).mono ?_; rintro e w8 ⟨A8, C8, rfl, hTx⟩; clear hE4 O7 I7)
            | (go_at_call 23; refine hTx.out.mono ?_; rintro e w9 ⟨rfl, b9⟩)
            | (go_at_call 9; refine (num_is _ _).mono ?_; rintro e w0 ⟨rfl, hw0⟩; have hw0 := hw0.symm; subst hw0))
          go_ret
          exact ⟨rfl, b9⟩
end Go.Proofs.Ytpdjdmgfhfaecaa
