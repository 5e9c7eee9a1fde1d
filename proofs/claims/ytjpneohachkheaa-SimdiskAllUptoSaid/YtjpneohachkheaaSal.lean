/-
  SimdiskAll's walk: with all kept a crash changes nothing that can be read. Conditions: the list is no longer than 2^20.
-/
import Derived.Test.YtjpneohachkheaaSpa
import Derived.Test.YtjpneohachkheaaStx
namespace Go.Icz
open Go.RowKit
def btrow (i : Nat) : Array Value := (List.replicate i (Value.bool true) ++ List.replicate (1000 - i) (Value.bool false)).toArray
theorem bt_set {i : Nat} (h : i < 1000) : (btrow i).setIfInBounds i (.bool true) = btrow (i + 1) := by
  apply Array.ext'
  unfold btrow
  rw [Array.toList_setIfInBounds]
  simp only [List.toList_toArray]
  rw [show 1000 - i = (1000 - (i + 1)) + 1 by omega, List.replicate_succ, List.set_append_right _ _ (by simp)]
  simp [List.replicate_succ']
theorem bt_get {i : Nat} (h : i < 1000) : (btrow i)[i]? = some (.bool false) := by
  unfold btrow
  rw [List.getElem?_toArray, List.getElem?_append_right (by rw [List.length_replicate]; exact Nat.le_refl _), List.length_replicate, Nat.sub_self, List.getElem?_replicate, if_pos (by omega)]
theorem made_bool (n : Nat) : madeCells (Value.bool false).cells n = Array.replicate n (.bool false) := by
  apply Array.ext
  · simp [size_madeCells]
  · intro i h1 h2
    simp [madeCells, Value.cells]
    rw [Nat.mod_one]
    rfl
theorem bt0 (n : Nat) : (List.replicate 0 (Value.bool true) ++ List.replicate (n - 0) (Value.bool false)).toArray = Array.replicate n (.bool false) := by
  apply Array.ext'
  simp
theorem bt_end : (btrow 1000).toList = KBo.cells (List.replicate 1000 true) := by
  rw [KBo_cells, List.map_replicate]
  unfold btrow
  rw [Nat.sub_self]
  simp only [List.toList_toArray]
  rw [List.replicate_zero, List.append_nil]
end Go.Icz
namespace Go.Proofs.Ytjpneohachkheaa
open Go.RowKit Go.Icz Go.Maps Go.ChangeMaps Go.MapKept
set_option maxRecDepth 100000
set_option maxHeartbeats 4000000
theorem infoBo : (Try.prog.info? 4).map (fun i => (i.zero, i.size, i.bytes)) = some (some (.bool false), 1, 1) := by kernel_rfl
theorem mk1000 (w : World) : (Instr.makeSlice 23 (.int .i64 1000) (.int .i64 1000)).run Try.prog w = .ok (.slice (some ⟨w.heap.size, 0, none⟩) 1000 1000) (w.alloc (.cells (btrow 0) 4)) := by
  obtain ⟨i0, hi, hz0, hz1, hz2⟩ := info_parts infoBo
  have := run_make (P := Try.prog) w 23 4 i0 (.bool false) Try.underlying23 hi hz0 .i64 .i64 (1000 : Int) (1000 : Int) (by omega) (Int.le_refl _) (by rw [hz2]; omega) (by omega)
  rw [this]
  have e : (1000 : Int).toNat = 1000 := rfl
  rw [e, hz1, Nat.mul_one]
  rw [made_bool, ← bt0 1000]
  rfl
theorem all_walk (v0 : Value) (l : List OpD) (W : World) (h1 : RdO W W.heap.size v0 l) :
    Calls Try.prog 5 #[v0] W fun e W' => e = .returned (.bool true) ∧ Below W.heap.size W W' := by
  obtain ⟨A1, C1, rfl, hlb, hrow⟩ := h1
  obtain ⟨T, hTd⟩ : ∃ T : Nat → Prop, T = fun k => W.heap.size ≤ k := ⟨_, rfl⟩
  have hTW : ∀ w1, Below W.heap.size W w1 → ∀ k, w1.heap.size ≤ k → T k := fun w1 b1 k hk => by rw [hTd]; exact Nat.le_trans b1.size hk
  have bel : ∀ w1 w2, Below W.heap.size W w1 → Tch T w1 w2 → Below W.heap.size W w2 := fun w1 w2 b1 t => b1.trans (tch_up (by rw [hTd] at t; exact t) b1.size)
  have hN : Calls Try.prog 24 #[.int .i64 1048576] W fun e w' => ∃ q p, e = .returned (.tuple #[.pointer (some ⟨q, 0, none⟩), .int .i64 0]) ∧ Dsk w' T 0 q p (newM 1048576) ∧ Below W.heap.size W w' := New_d 1048576 W (by decide) (by decide) (hTW W (Below.refl _ _))
  have PK : ∀ w1 q p, Dsk w1 T 0 q p (newM 1048576) → Below W.heap.size W w1 → Calls Try.prog 23 #[] w1 fun e w' => e = .returned (.bool true) ∧ Hid (Dsk w' T 0 q p (newM 1048576)) ∧ Hid (Below W.heap.size W w') := fun w1 q p h bb => by
    refine (knows_is w1).mono ?_
    rintro e w2 ⟨rfl, b2⟩
    exact ⟨rfl, hid (h.below b2), hid (bb.trans (b2.mono bb.size))⟩
  have PD : ∀ w1 q p M i (o : OpD), Dsk w1 T (2 * i) q p M → Below W.heap.size W w1 → OpOk W W.heap.size o → i ≤ 200 → Calls Try.prog 25 #[.pointer (some ⟨q, 0, none⟩), .agg o.cells] w1 fun e w' => e = .returned (.tuple #[]) ∧ Hid (Dsk w' T (2 * (i + 1)) q p (doO o M)) ∧ Hid (Below W.heap.size W w') := fun w1 q p M i o h bb ok hi => by
    refine (do_is h (hTW w1 bb) o (ok.touch (S := fun k => W.heap.size ≤ k) ⟨bb.os, bb.tape, bb.output, bb.size, fun k hk hn => bb.block k (by have : ¬ W.heap.size ≤ k := hn; omega)⟩ (fun k hk => hk)) (fun k hk => by rw [hTd] at hk; exact hk) (by omega)).mono ?_
    rintro e w3 ⟨rfl, D, t⟩
    exact ⟨rfl, hid D, hid (bel _ _ bb t)⟩
  have ROW : Hid (∀ i (hi : i < l.length), ∃ b1 off, A1 = some ⟨b1, off, none⟩ ∧ OpOk W W.heap.size l[i] ∧ ∀ wr, Below W.heap.size W wr → ∀ k u, k < 7 → l[i].cells[k]? = some u → wr.cell? ⟨b1, off + i * 7 + k, none⟩ = some u) := hid (fun i hi => by
    obtain ⟨b1, off, hA, hlt, hlt2, hc⟩ := hrow (by omega)
    obtain ⟨c1, c2⟩ := hc i hi
    exact ⟨b1, off, hA, c2, fun wr bb k u hk hu => (bb.cell (p := ⟨b1, off + i * 7 + k, none⟩) hlt2).trans (by rw [Nat.add_assoc]; exact c1 k u hk hu)⟩)
  have hI0 := hid (newM_all 1048576)
  clear hrow bel
  have hTW := hid hTW
  go_enter Try.func5, Try.ntmps5
  go_wp2_with (first
    | (go_at_call 24; refine hN.mono ?_; rintro e w1 ⟨q, p, rfl, D1, b1⟩; clear hN)
    | (go_at_call 23; refine (PK _ q p D1 b1).mono ?_; rintro e w2 ⟨rfl, D2, b2⟩; clear PK)
    | (go_at_call 12; refine (num_is _ _).mono ?_; rintro e w0 ⟨rfl, hw0⟩; have hw0 := hw0.symm; subst hw0))
  go_loopw [5] (fun iv wr => ∃ (i : Nat) (M : DM), iv = .int .i64 i ∧ i ≤ l.length ∧ i ≤ 200 ∧ Hid (AllI M i) ∧ Hid (Dsk wr T (2 * i) q p M) ∧ Hid (Below W.heap.size W wr)) (fun iv _ => l.length - (intOf iv).toNat)
  case atStart => exact ⟨0, _, rfl, by omega, by omega, hI0, D2, b2⟩
  case round =>
    obtain ⟨i, M, rfl, hi, hi2, HI, HD, HB⟩ := hrel
    by_cases hLt : i < l.length ∧ i < 200
    · have hil : (i : Int) < (l.length : Int) := by omega
      have hil2 : (i : Int) < 200 := by omega
      obtain ⟨b7, off, hA, ok, hc⟩ := ROW.out i hLt.1
      subst hA
      obtain ⟨ol, hol⟩ : ∃ ol, l[i]'hLt.1 = ol := ⟨_, rfl⟩
      rw [hol] at ok hc
      have HL := hid hLt
      have q0 : wr.cell? ⟨b7, off + i * 7, none⟩ = some (.int .i64 ol.kd) := hc wr HB.out 0 (.int .i64 ol.kd) (by decide) rfl
      have q1 := hc wr HB.out 1 (.string ol.nm) (by decide) rfl
      have q2 := hc wr HB.out 2 (.string ol.to) (by decide) rfl
      have q3 := hc wr HB.out 3 (.slice ol.A ol.bs.length ol.C) (by decide) rfl
      have q4 := hc wr HB.out 4 (.int .i64 ol.n) (by decide) rfl
      have q5 := hc wr HB.out 5 (.bool ol.y) (by decide) rfl
      have q6 := hc wr HB.out 6 (.slice ol.A2 ol.ks.length ol.C2) (by decide) rfl
      have hDo := PD wr q p M i ol HD.out HB.out ok hi2
      have HDA := hid (HD.out.up (c' := 2 * (i + 1)) (by omega) (by omega))
      have HIU := hid HI.out.up
      clear hc hol hLt ok
      unfold OpD.cells at hDo
      by_cases h7 : ol.kd = 7
      · have e7 : (ol.kd != 7) = false := by simp [h7]
        clear hDo h7 PD
        go_wp2
        go_roundw
        case rel => exact ⟨i + 1, M, by go_num, HL.out.1, HL.out.2, HIU, HDA, HB⟩
        case measure => have := HL.out.1; simp [intOf]; omega
      · have e7 : (ol.kd != 7) = true := by simpa using h7
        have HI2 : Hid (AllI (doO ol M) (i + 1)) := hid (HI.out.do ol.kd ol.nm ol.to ol.bs ol.n ol.y h7)
        clear h7 PD HDA
        go_wp2_with (go_at_call 25; refine hDo.mono ?_; rintro e w7 ⟨rfl, D7, b7⟩; clear hDo)
        go_roundw
        case rel => exact ⟨i + 1, _, by go_num, HL.out.1, HL.out.2, HI2, D7, b7⟩
        case measure => have := HL.out.1; simp [intOf]; omega
    · by_cases h1 : i < l.length
      · have hil : (i : Int) < (l.length : Int) := by omega
        have hil2 : ¬ (i : Int) < 200 := by omega
        obtain ⟨sl, hsl⟩ : ∃ sl, sl = (listM M).map kb := ⟨_, rfl⟩
        have hslb : sl.length ≤ 1048576 := by
          have h1 := HD.out.wf.ln
          have h2 := HD.out.wf.hc
          rw [hsl, List.length_map]
          unfold listM rising
          rw [List.length_mergeSort, List.length_map]
          omega
        obtain ⟨rb, hrb⟩ : ∃ rb : ByteArray → List Nat, rb = fun k => (readM M k).1 := ⟨_, rfl⟩
        obtain ⟨wl, hwl⟩ : ∃ wl, wl = sl.map fun k => strB (rb k) := ⟨_, rfl⟩
        have hwll : wl.length = sl.length := by rw [hwl, List.length_map]
        have hin : ∀ k ∈ sl, (nlook M.names k).isSome = true := fun k hk => rising_mem (by rw [hsl] at hk; exact hk)
        have hsz : ∀ k ∈ sl, k.size ≤ maxLen := fun k hk => by
          obtain ⟨n, hn⟩ := Option.isSome_iff_exists.1 (hin k hk)
          have := HD.out.wf.nz _ (look_mem hn)
          simp only at this
          unfold maxLen
          omega
        have hrd : ∀ k ∈ sl, readM M k = (rb k, 0) := fun k hk => by
          obtain ⟨n, hn⟩ := Option.isSome_iff_exists.1 (hin k hk)
          have hr : readM M k = ((fileAt M.fs n).b, 0) := by
            unfold readM
            rw [HI.out.off, if_neg (by simp), hn]
          rw [hrb]
          simp only
          rw [hr]
        have HBa := HB.out
        have HDa := HD.out
        have hLi : Calls Try.prog 19 #[.pointer (some ⟨q, 0, none⟩)] wr fun e w' => ∃ A C, e = .returned (.slice A sl.length C) ∧ Hid (KS.Own w' wr.heap.size (.slice A sl.length C) sl) ∧ Hid (Below wr.heap.size wr w') := by
          refine (List_d HDa).mono ?_
          rw [← hsl]
          rintro e w' ⟨v, rfl, ow, b2⟩
          obtain ⟨A, C, rfl, _⟩ := id ow.rd.form
          exact ⟨A, C, rfl, hid ow, hid b2⟩
        generalize wr = wa at *
        clear hLt PD ROW hI0 HD HB hi
        have HSL := hid hsl
        have HX := hid (And.intro hsl (And.intro hwl hrb))
        clear hsl hwl hrb
        have HWLL := hid hwll
        clear hwll
        go_wp2_with (go_at_call 19; refine hLi.mono ?_; rintro e wn ⟨A3, C3, rfl, ON, BN⟩; clear hLi)
        go_loopw [7, 8] (fun wv jv wr => ∃ j : Nat, jv = .int .i64 j ∧ j ≤ sl.length ∧ Hid (KS.Own wr wn.heap.size wv (wl.take j)) ∧ Hid (Below wn.heap.size wn wr)) (fun _ jv _ => sl.length - (intOf jv).toNat)
        case atStart => exact ⟨0, rfl, by omega, hid (Kd.Own.nil _ _), hid (Below.refl _ _)⟩
        case round =>
          obtain ⟨j, rfl, hj, HO, HBj⟩ := hrel
          obtain ⟨tk, htk⟩ : ∃ tk, wl.take j = tk := ⟨_, rfl⟩
          have hltA : tk.length = min j wl.length := by rw [← htk, List.length_take]
          have HTK := hid htk
          rw [htk] at HO
          clear htk
          obtain ⟨A4, C4, hv4, _⟩ := HO.out.rd.form
          have HO4 := HO.out
          by_cases hLt2 : j < sl.length
          · have hjl : (j : Int) < (sl.length : Int) := by omega
            obtain ⟨nm, hnm⟩ : ∃ nm, sl[j]'hLt2 = nm := ⟨_, rfl⟩
            have hnmm : nm ∈ sl := by rw [← hnm]; exact List.getElem_mem hLt2
            obtain ⟨b3, off3, hA3, hlt3, hc3⟩ := ON.out.rd.at hLt2
            rw [hnm] at hc3
            subst hA3
            have d1 : wr.cell? ⟨b3, off3 + j, none⟩ = some (.string nm) := by
              have := (HBj.out.cell (p := ⟨b3, off3 + (j * KS.z + 0), none⟩) hlt3).trans (hc3 0 (.string nm) (by decide) rfl)
              rwa [Nat.add_zero, show KS.z = 1 from rfl, Nat.mul_one] at this
            have hDr := HDa.below (BN.out.trans (HBj.out.mono BN.out.size))
            have hRd : Calls Try.prog 11 #[.pointer (some ⟨q, 0, none⟩), .string nm] wr fun e w' => ∃ A C L, e = .returned (.tuple #[.slice A L C, .int .i64 0]) ∧ (convert 22 9 (.slice A L C)).run Try.prog w' = .ok (.string (strB (rb nm))) w' ∧ Hid (Below wr.heap.size wr w') := by
              refine (Read_d hDr nm (hsz nm hnmm)).mono ?_
              rw [hrd nm hnmm]
              rintro e w' ⟨A, C, rfl, ow, b2⟩
              exact ⟨A, C, _, rfl, conv_kb ow.rd, hid b2⟩
            have hlt4 : tk.length = j := by rw [hltA, HWLL.out]; omega
            have hmm : tk.length + 1 ≤ maxLen := by rw [hlt4]; unfold maxLen; omega
            have hml : (tk.length + 1) * 16 ≤ 140737488355328 := by rw [hlt4]; omega
            have hwz := HBj.out.size
            have hstep : tk ++ [strB (rb nm)] = wl.take (j + 1) := by
              rw [← HTK.out]
              have hjw : j < wl.length := by rw [HWLL.out]; exact hLt2
              rw [List.take_succ_eq_append_getElem hjw]
              congr 2
              have := HX.out.2.1
              subst this
              rw [List.getElem_map, hnm]
            have HST := hid hstep
            have HL2 := hid hLt2
            have HOW : ∀ w', Hid (Below wr.heap.size wr w') → KS.Own w' wn.heap.size (.slice A4 tk.length C4) tk ∧ wn.heap.size ≤ w'.heap.size := fun w' b2 => by
              rw [← hv4]
              exact ⟨HO4.below b2.out, Nat.le_trans hwz b2.out.size⟩
            have HBw := hid (fun (w' : World) (b2 : Below wr.heap.size wr w') => HBj.out.trans (b2.mono hwz))
            subst hv4
            clear hnm hnmm hc3 hDr hstep hLt2 HO HO4 HBj hlt4 hltA
            go_wp2_with (first
              | (go_at_call 11; refine hRd.mono ?_; rintro e w3 ⟨A5, C5, L5, rfl, cv5, b3⟩; obtain ⟨ho5, hz5⟩ := HOW w3 b3; clear hRd HOW)
              | (go_at_call 12; refine (num_is _ _).mono ?_; rintro e w0 ⟨rfl, hw0⟩; have hw0 := hw0.symm; subst hw0)
              | (at_builtin; refine Kd.wp_app1 (K := KS) rfl (.tmp 74) (.tmp 77) 38 rfl Try.underlying38 infoStr rfl wn.heap.size _ _ (strB (rb nm)) rfl ho5 rfl rfl rfl hmm hml hz5 ?_; intro v6 w6 o6 b6 g6 n6))
            go_roundw
            case rel => exact ⟨j + 1, by go_num, HL2.out, hid (by rw [← HST.out]; exact o6), hid ((HBw.out _ b3.out).trans b6)⟩
            case measure => have := HL2.out; simp [intOf]; omega
          · have htw : tk = wl := by rw [← HTK.out, List.take_of_length_le (by rw [HWLL.out]; omega)]
            have hjl : ¬ (j : Int) < (sl.length : Int) := by omega
            rw [hv4] at HO4
            subst hv4
            have hONb := ON.out.below HBj.out
            have hBab := BN.out.trans (HBj.out.mono BN.out.size)
            have hOWb : KS.Own wr wa.heap.size (.slice A4 tk.length C4) tk := HO4.mono BN.out.size
            have hmk := mk1000 wr
            have HX2 := hid (show tk = sl.map fun k => strB (rb k) from htw.trans HX.out.2.1)
            have hn1 := hONb.lt
            have hn2 := hOWb.lt
            have hn3 := hBab.size
            generalize wr = wb at *
            have hst3 : Hid ((wb.alloc (.cells (btrow 0) 4)).heap[wb.heap.size]? = some (.cells (btrow 0) 4 (0, 0))) := hid (heap_alloc_new wb _)
            have hst4 : Hid (Below wb.heap.size wb (wb.alloc (.cells (btrow 0) 4))) := hid ((Below.refl _ wb).alloc (Nat.le_refl _) _)
            have HE := hid (And.intro hONb (And.intro hOWb (And.intro hBab (And.intro hn1 (And.intro hn2 hn3)))))
            clear hONb hOWb hBab hn1 hn2 hn3 HO4 HO htw HTK hltA HBj ON BN hj HX HWLL
            go_wp2
            go_loopw [12] (fun iv wr => ∃ t : Nat, iv = .int .i64 t ∧ t ≤ 1000 ∧ Hid (wr.heap[wb.heap.size]? = some (.cells (btrow t) 4 (0, 0))) ∧ Hid (Below wb.heap.size wb wr)) (fun iv _ => 1000 - (intOf iv).toNat)
            case atStart => exact ⟨0, rfl, by omega, hst3, hst4⟩
            case round =>
              obtain ⟨t, rfl, ht, HR, HBt⟩ := hrel
              by_cases hLt3 : t < 1000
              · have htl : (t : Int) < 1000 := by omega
                have c0 : wr.cell? ⟨wb.heap.size, t, none⟩ = some (.bool false) := held_cell HR.out (bt_get hLt3)
                have e0 := held_frozen (i := t) HR.out
                have HR2 : Hid ((wr.setCell ⟨wb.heap.size, t, none⟩ (.bool true)).heap[wb.heap.size]? = some (.cells (btrow (t + 1)) 4 (0, 0))) := hid (by rw [row_set HR.out, bt_set hLt3])
                have HB2 : Hid (Below wb.heap.size wb (wr.setCell ⟨wb.heap.size, t, none⟩ (.bool true))) := hid (Tch.below HBt.out (Tch.set (· = wb.heap.size) wr ⟨wb.heap.size, t, none⟩ _ rfl) (fun k hk => by rw [hk]; exact Nat.le_refl _) HBt.out.size)
                have HL3 := hid hLt3
                clear hst3 hst4 HR HBt hmk hLt3
                go_wp2
                go_roundw
                case rel => exact ⟨t + 1, by go_num, HL3.out, HR2, HB2⟩
                case measure => have := HL3.out; simp [intOf]; omega
              · have htl : ¬ (t : Int) < 1000 := by omega
                obtain rfl : t = 1000 := by omega
                obtain ⟨hONb, hOWb, hBab, hn1, hn2, hn3⟩ := HE.out
                have hBbc := HBt.out
                have hrow := HR.out
                have hszc := hBbc.size
                have hgc := row_lt hrow
                generalize wr = wc at *
                clear hst3 hst4 hmk HR HBt HE
                obtain ⟨T2, hT2⟩ : ∃ T2 : Nat → Prop, T2 = fun k => (W.heap.size ≤ k ∧ k < wa.heap.size) ∨ wc.heap.size ≤ k := ⟨_, rfl⟩
                have hWa := HBa.size
                have hT2W : ∀ k, T2 k → W.heap.size ≤ k := fun k hk => by
                  rw [hT2] at hk
                  rcases hk with hk | hk
                  · exact hk.1
                  · have hk : wc.heap.size ≤ k := hk
                    omega
                have hT2s : ∀ w1 : World, wc.heap.size ≤ w1.heap.size → ∀ k, w1.heap.size ≤ k → T2 k := fun w1 h1 k hk => by rw [hT2]; exact .inr (Nat.le_trans h1 hk)
                have hDc : Dsk wc T2 (2 * i) q p M := ((HDa.re (T' := T2) (fun k hk hlt => by rw [hT2]; rw [hTd] at hk; exact .inl ⟨hk, hlt⟩)).below hBab).below hBbc
                have hfar : ∀ k, wa.heap.size ≤ k → k < wc.heap.size → ¬ T2 k := fun k h1 h2 hk => by
                  rw [hT2] at hk
                  rcases hk with hk | hk
                  · have := hk.2; omega
                  · have hk : wc.heap.size ≤ k := hk
                    omega
                have hON : KS.Own wc wa.heap.size (.slice A3 sl.length C3) sl := hONb.below hBbc
                have hOW : KS.Own wc wa.heap.size (.slice A4 tk.length C4) tk := hOWb.below hBbc
                have hBWc : Below W.heap.size W wc := (HBa.trans (hBab.mono hWa)).trans (hBbc.mono (by omega))
                have hRb : KBo.Rd wc (.slice (some ⟨wb.heap.size, 0, none⟩) 1000 1000) (List.replicate 1000 true) := by
                  refine ⟨some ⟨wb.heap.size, 0, none⟩, 1000, by rw [List.length_replicate], by rw [List.length_replicate]; exact Nat.le_refl _, fun _ => ⟨wb.heap.size, 0, rfl, hgc, fun k u hk => ?_⟩⟩
                  rw [Nat.zero_add, cell_of_row _ _ _ _ _ _ hrow, ← Array.getElem?_toList, bt_end]
                  exact hk
                have TCH : ∀ w1 w2 : World, wc.heap.size ≤ w1.heap.size → Below W.heap.size W w1 → KS.Own w1 wa.heap.size (.slice A3 sl.length C3) sl → KS.Own w1 wa.heap.size (.slice A4 tk.length C4) tk → Tch T2 w1 w2 → Hid (KS.Own w2 wa.heap.size (.slice A3 sl.length C3) sl ∧ KS.Own w2 wa.heap.size (.slice A4 tk.length C4) tk) ∧ Hid (Below W.heap.size W w2) ∧ Hid (wc.heap.size ≤ w2.heap.size) := fun w1 w2 hs bb o1 o2 t => by
                  have hb1 := hON.lt
                  have hb2 := hOW.lt
                  refine ⟨hid ⟨o1.touch t (fun k hk hv => hfar k (hb1 k hv).1 (hb1 k hv).2 hk), o2.touch t (fun k hk hv => hfar k (hb2 k hv).1 (hb2 k hv).2 hk)⟩, hid (bb.trans (tch_up (t.mono hT2W) bb.size)), hid (Nat.le_trans hs t.size)⟩
                have hc4 : 2 * i + 2 * i ≤ 1048576 := by omega
                have PC1 : Calls Try.prog 10 #[.pointer (some ⟨q, 0, none⟩), .slice (some ⟨wb.heap.size, 0, none⟩) 1000 1000] wc fun e w' => e = .returned (.tuple #[]) ∧ ∃ Mt, Hid (SameR M Mt ∧ Still Mt) ∧ Hid (Dsk w' T2 (2 * i) q p Mt) ∧ Hid (KS.Own w' wa.heap.size (.slice A3 sl.length C3) sl ∧ KS.Own w' wa.heap.size (.slice A4 tk.length C4) tk) ∧ Hid (Below W.heap.size W w') ∧ Hid (wc.heap.size ≤ w'.heap.size) := by
                  refine (Crash_d hDc (hT2s wc (Nat.le_refl _)) hc4 hRb (fun _ x hx hk => by injection hx with hx; have hx : wb.heap.size = x := hx; exact hfar x (by omega) (by omega) hk)).mono ?_
                  rintro e w' ⟨rfl, D, t⟩
                  obtain ⟨t1, t2, t3⟩ := TCH wc w' (Nat.le_refl _) hBWc hON hOW t
                  exact ⟨rfl, _, hid (all_crash HI.out (by omega) hDc.wf), hid D, t1, t2, t3⟩
                have PC2 : ∀ w1 Mt, Dsk w1 T2 (2 * i) q p Mt → wc.heap.size ≤ w1.heap.size → Below W.heap.size W w1 → KS.Own w1 wa.heap.size (.slice A3 sl.length C3) sl → KS.Own w1 wa.heap.size (.slice A4 tk.length C4) tk → SameR M Mt → Still Mt → Calls Try.prog 10 #[.pointer (some ⟨q, 0, none⟩), .slice none 0 0] w1 fun e w' => e = .returned (.tuple #[]) ∧ ∃ Mt, Hid (SameR M Mt ∧ Still Mt) ∧ Hid (Dsk w' T2 (2 * i) q p Mt) ∧ Hid (KS.Own w' wa.heap.size (.slice A3 sl.length C3) sl ∧ KS.Own w' wa.heap.size (.slice A4 tk.length C4) tk) ∧ Hid (Below W.heap.size W w') ∧ Hid (wc.heap.size ≤ w'.heap.size) := fun w1 Mt hd hs bb o1 o2 hsr hst => by
                  refine (Crash_d hd (hT2s w1 hs) hc4 (Kd.Rd.nil _) (fun h0 => absurd h0 (by simp))).mono ?_
                  rintro e w' ⟨rfl, D, t⟩
                  obtain ⟨t1, t2, t3⟩ := TCH w1 w' hs bb o1 o2 t
                  obtain ⟨s1, s2⟩ := still_crash hst []
                  exact ⟨rfl, _, hid ⟨hsr.trans s1, s2⟩, hid D, t1, t2, t3⟩
                clear hONb hOWb hBab hn1 hn2 hn3 hBbc hrow hgc TCH hRb hON hOW hBWc hDc hfar hT2W hT2s hWa
                have HTD := hid hTd
                have HT2 := hid hT2
                clear hTd hT2 hszc HBa HDa
                go_wp2_with (go_at_call 10; refine PC1.mono ?_; rintro e wd ⟨rfl, Mt, S1, D1, O1, B1, Z1⟩; clear PC1)
                go_loopw [13] (fun iv wr => ∃ (t : Nat) (Mt : DM), iv = .int .i64 t ∧ t ≤ 2 ∧ Hid (SameR M Mt ∧ Still Mt) ∧ Hid (Dsk wr T2 (2 * i) q p Mt) ∧ Hid (KS.Own wr wa.heap.size (.slice A3 sl.length C3) sl ∧ KS.Own wr wa.heap.size (.slice A4 tk.length C4) tk) ∧ Hid (Below W.heap.size W wr) ∧ Hid (wc.heap.size ≤ wr.heap.size)) (fun iv _ => 2 - (intOf iv).toNat)
                case atStart => exact ⟨0, Mt, rfl, by omega, S1, D1, O1, B1, Z1⟩
                case round =>
                  obtain ⟨tn, Mu, rfl, htn, SU, DU, OU, BU, ZU⟩ := hrel
                  by_cases hLt4 : tn < 2
                  · have htl2 : (tn : Int) < 2 := by omega
                    have HL4 := hid hLt4
                    have hLi2 : Calls Try.prog 19 #[.pointer (some ⟨q, 0, none⟩)] wr fun e w' => ∃ A C, e = .returned (.slice A sl.length C) ∧ Calls Try.prog 26 #[.slice A sl.length C, .slice A3 sl.length C3] w' fun e w2 => e = .returned (.bool true) ∧ Hid (Below wr.heap.size wr w2) := by
                      refine (List_d DU.out).mono ?_
                      rw [SU.out.1.list, ← HSL.out]
                      rintro e w' ⟨v, rfl, ow, b2⟩
                      obtain ⟨A, C, rfl, _⟩ := id ow.rd.form
                      refine ⟨A, C, rfl, (Texts_is _ _ sl sl w' ow.rd (OU.out.1.below b2).rd (by omega) (by omega)).mono ?_⟩
                      rintro e w2 ⟨rfl, b3⟩
                      exact ⟨by simp, hid (b2.trans (b3.mono b2.size))⟩
                    generalize wr = wt at *
                    clear S1 D1 O1 B1 Z1
                    go_wp2_with (first
                      | (go_at_call 19; refine hLi2.mono ?_; rintro e w5 ⟨A5, C5, rfl, hTx⟩; clear hLi2)
                      | (go_at_call 26; refine hTx.mono ?_; rintro e w6 ⟨rfl, BT⟩; clear hTx))
                    go_loopw [14] (fun jv wr => ∃ j : Nat, jv = .int .i64 j ∧ j ≤ sl.length ∧ Hid (Below wt.heap.size wt wr)) (fun jv _ => sl.length - (intOf jv).toNat)
                    case atStart => exact ⟨0, rfl, by omega, BT⟩
                    case round =>
                      obtain ⟨jj, rfl, hjj, HBq⟩ := hrel
                      by_cases hLt5 : jj < sl.length
                      · have hjl5 : (jj : Int) < (sl.length : Int) := by omega
                        obtain ⟨nm, hnm⟩ : ∃ nm, sl[jj]'hLt5 = nm := ⟨_, rfl⟩
                        have hnmm : nm ∈ sl := by rw [← hnm]; exact List.getElem_mem hLt5
                        have htkl : tk.length = sl.length := by rw [HX2.out, List.length_map]
                        have hLt6 : jj < tk.length := by rw [htkl]; exact hLt5
                        have htkj : tk[jj]'hLt6 = strB (rb nm) := by
                          have := HX2.out
                          subst this
                          rw [List.getElem_map, hnm]
                        obtain ⟨b3, off3, hA3, hlt3, hc3⟩ := OU.out.1.rd.at hLt5
                        obtain ⟨b4, off4, hA4, hlt4, hc4'⟩ := OU.out.2.rd.at hLt6
                        rw [hnm] at hc3
                        rw [htkj] at hc4'
                        subst hA3 hA4
                        have d1 : wr.cell? ⟨b3, off3 + jj, none⟩ = some (.string nm) := by
                          have := (HBq.out.cell (p := ⟨b3, off3 + (jj * KS.z + 0), none⟩) hlt3).trans (hc3 0 (.string nm) (by decide) rfl)
                          rwa [Nat.add_zero, show KS.z = 1 from rfl, Nat.mul_one] at this
                        have hD5 := DU.out.below HBq.out
                        have hr5 : readM Mu nm = (rb nm, 0) := (SU.out.1.2 nm (hin nm hnmm)).trans (hrd nm hnmm)
                        have hRd : Calls Try.prog 11 #[.pointer (some ⟨q, 0, none⟩), .string nm] wr fun e w' => ∃ A C L, e = .returned (.tuple #[.slice A L C, .int .i64 0]) ∧ (∀ n, (convert 22 9 (.slice A L C)).run Try.prog (w'.drewN n) = .ok (.string (strB (rb nm))) (w'.drewN n)) ∧ w'.cell? ⟨b4, off4 + jj, none⟩ = some (.string (strB (rb nm))) ∧ Hid (∀ n, Below wt.heap.size wt (w'.drewN n)) := by
                          refine (Read_d hD5 nm (hsz nm hnmm)).mono ?_
                          rw [hr5]
                          rintro e w' ⟨A, C, rfl, ow, b2⟩
                          have hbt := HBq.out.trans (b2.mono HBq.out.size)
                          have hdn : ∀ n, Below w'.heap.size w' (w'.drewN n) := fun n => ⟨rfl, rfl, rfl, Nat.le_refl _, fun _ _ => rfl⟩
                          refine ⟨A, C, _, rfl, fun n => conv_kb (ow.rd.below (hdn n)), ?_, hid (fun n => hbt.trans ((hdn n).mono hbt.size))⟩
                          have := (hbt.cell (p := ⟨b4, off4 + (jj * KS.z + 0), none⟩) hlt4).trans (hc4' 0 (.string (strB (rb nm))) (by decide) rfl)
                          rwa [Nat.add_zero, show KS.z = 1 from rfl, Nat.mul_one] at this
                        have HL5 := hid hLt5
                        have hjl6 : (jj : Int) < (tk.length : Int) := by rw [htkl]; omega
                        clear hnm hnmm hc3 hc4' hD5 hr5 hLt5 hLt6 htkj htkl PC2
                        go_wp2_with (go_at_call 11; refine hRd.mono ?_; rintro e w7 ⟨A7, C7, L7, rfl, cv7, d7, BQ⟩; clear hRd)
                        go_quiet ((go_at_call 12; exact Calls.quiet_of_same (v := .int .i64 0) (num_is 0 _)))
                        go_wp2
                        go_roundw
                        case rel => exact ⟨jj + 1, by go_num, HL5.out, hid (BQ.out _)⟩
                        case measure => have := HL5.out; simp [intOf]; omega
                      · have hjl5 : ¬ (jj : Int) < (sl.length : Int) := by omega
                        have hbq := HBq.out
                        have P2 := PC2 wr Mu (DU.out.below hbq) (Nat.le_trans ZU.out hbq.size) (BU.out.trans (hbq.mono BU.out.size)) (OU.out.1.below hbq) (OU.out.2.below hbq) SU.out.1 SU.out.2
                        clear PC2 hbq
                        go_wp2_with (go_at_call 10; refine P2.mono ?_; rintro e w8 ⟨rfl, Mv, S8, D8, O8, B8, Z8⟩; clear P2)
                        go_roundw
                        case rel => exact ⟨tn + 1, Mv, by go_num, HL4.out, S8, D8, O8, B8, Z8⟩
                        case measure => have := HL4.out; simp [intOf]; omega
                  · have htl2 : ¬ (tn : Int) < 2 := by omega
                    clear PC2
                    go_wp2
                    go_ret
                    exact ⟨rfl, BU.out⟩
      · have hil : ¬ (i : Int) < (l.length : Int) := by omega
        obtain ⟨sl, hsl⟩ : ∃ sl, sl = (listM M).map kb := ⟨_, rfl⟩
        have hslb : sl.length ≤ 1048576 := by
          have h1 := HD.out.wf.ln
          have h2 := HD.out.wf.hc
          rw [hsl, List.length_map]
          unfold listM rising
          rw [List.length_mergeSort, List.length_map]
          omega
        obtain ⟨rb, hrb⟩ : ∃ rb : ByteArray → List Nat, rb = fun k => (readM M k).1 := ⟨_, rfl⟩
        obtain ⟨wl, hwl⟩ : ∃ wl, wl = sl.map fun k => strB (rb k) := ⟨_, rfl⟩
        have hwll : wl.length = sl.length := by rw [hwl, List.length_map]
        have hin : ∀ k ∈ sl, (nlook M.names k).isSome = true := fun k hk => rising_mem (by rw [hsl] at hk; exact hk)
        have hsz : ∀ k ∈ sl, k.size ≤ maxLen := fun k hk => by
          obtain ⟨n, hn⟩ := Option.isSome_iff_exists.1 (hin k hk)
          have := HD.out.wf.nz _ (look_mem hn)
          simp only at this
          unfold maxLen
          omega
        have hrd : ∀ k ∈ sl, readM M k = (rb k, 0) := fun k hk => by
          obtain ⟨n, hn⟩ := Option.isSome_iff_exists.1 (hin k hk)
          have hr : readM M k = ((fileAt M.fs n).b, 0) := by
            unfold readM
            rw [HI.out.off, if_neg (by simp), hn]
          rw [hrb]
          simp only
          rw [hr]
        have HBa := HB.out
        have HDa := HD.out
        have hLi : Calls Try.prog 19 #[.pointer (some ⟨q, 0, none⟩)] wr fun e w' => ∃ A C, e = .returned (.slice A sl.length C) ∧ Hid (KS.Own w' wr.heap.size (.slice A sl.length C) sl) ∧ Hid (Below wr.heap.size wr w') := by
          refine (List_d HDa).mono ?_
          rw [← hsl]
          rintro e w' ⟨v, rfl, ow, b2⟩
          obtain ⟨A, C, rfl, _⟩ := id ow.rd.form
          exact ⟨A, C, rfl, hid ow, hid b2⟩
        generalize wr = wa at *
        clear hLt PD ROW hI0 HD HB hi
        have HSL := hid hsl
        have HX := hid (And.intro hsl (And.intro hwl hrb))
        clear hsl hwl hrb
        have HWLL := hid hwll
        clear hwll
        go_wp2_with (go_at_call 19; refine hLi.mono ?_; rintro e wn ⟨A3, C3, rfl, ON, BN⟩; clear hLi)
        go_loopw [7, 8] (fun wv jv wr => ∃ j : Nat, jv = .int .i64 j ∧ j ≤ sl.length ∧ Hid (KS.Own wr wn.heap.size wv (wl.take j)) ∧ Hid (Below wn.heap.size wn wr)) (fun _ jv _ => sl.length - (intOf jv).toNat)
        case atStart => exact ⟨0, rfl, by omega, hid (Kd.Own.nil _ _), hid (Below.refl _ _)⟩
        case round =>
          obtain ⟨j, rfl, hj, HO, HBj⟩ := hrel
          obtain ⟨tk, htk⟩ : ∃ tk, wl.take j = tk := ⟨_, rfl⟩
          have hltA : tk.length = min j wl.length := by rw [← htk, List.length_take]
          have HTK := hid htk
          rw [htk] at HO
          clear htk
          obtain ⟨A4, C4, hv4, _⟩ := HO.out.rd.form
          have HO4 := HO.out
          by_cases hLt2 : j < sl.length
          · have hjl : (j : Int) < (sl.length : Int) := by omega
            obtain ⟨nm, hnm⟩ : ∃ nm, sl[j]'hLt2 = nm := ⟨_, rfl⟩
            have hnmm : nm ∈ sl := by rw [← hnm]; exact List.getElem_mem hLt2
            obtain ⟨b3, off3, hA3, hlt3, hc3⟩ := ON.out.rd.at hLt2
            rw [hnm] at hc3
            subst hA3
            have d1 : wr.cell? ⟨b3, off3 + j, none⟩ = some (.string nm) := by
              have := (HBj.out.cell (p := ⟨b3, off3 + (j * KS.z + 0), none⟩) hlt3).trans (hc3 0 (.string nm) (by decide) rfl)
              rwa [Nat.add_zero, show KS.z = 1 from rfl, Nat.mul_one] at this
            have hDr := HDa.below (BN.out.trans (HBj.out.mono BN.out.size))
            have hRd : Calls Try.prog 11 #[.pointer (some ⟨q, 0, none⟩), .string nm] wr fun e w' => ∃ A C L, e = .returned (.tuple #[.slice A L C, .int .i64 0]) ∧ (convert 22 9 (.slice A L C)).run Try.prog w' = .ok (.string (strB (rb nm))) w' ∧ Hid (Below wr.heap.size wr w') := by
              refine (Read_d hDr nm (hsz nm hnmm)).mono ?_
              rw [hrd nm hnmm]
              rintro e w' ⟨A, C, rfl, ow, b2⟩
              exact ⟨A, C, _, rfl, conv_kb ow.rd, hid b2⟩
            have hlt4 : tk.length = j := by rw [hltA, HWLL.out]; omega
            have hmm : tk.length + 1 ≤ maxLen := by rw [hlt4]; unfold maxLen; omega
            have hml : (tk.length + 1) * 16 ≤ 140737488355328 := by rw [hlt4]; omega
            have hwz := HBj.out.size
            have hstep : tk ++ [strB (rb nm)] = wl.take (j + 1) := by
              rw [← HTK.out]
              have hjw : j < wl.length := by rw [HWLL.out]; exact hLt2
              rw [List.take_succ_eq_append_getElem hjw]
              congr 2
              have := HX.out.2.1
              subst this
              rw [List.getElem_map, hnm]
            have HST := hid hstep
            have HL2 := hid hLt2
            have HOW : ∀ w', Hid (Below wr.heap.size wr w') → KS.Own w' wn.heap.size (.slice A4 tk.length C4) tk ∧ wn.heap.size ≤ w'.heap.size := fun w' b2 => by
              rw [← hv4]
              exact ⟨HO4.below b2.out, Nat.le_trans hwz b2.out.size⟩
            have HBw := hid (fun (w' : World) (b2 : Below wr.heap.size wr w') => HBj.out.trans (b2.mono hwz))
            subst hv4
            clear hnm hnmm hc3 hDr hstep hLt2 HO HO4 HBj hlt4 hltA
            go_wp2_with (first
              | (go_at_call 11; refine hRd.mono ?_; rintro e w3 ⟨A5, C5, L5, rfl, cv5, b3⟩; obtain ⟨ho5, hz5⟩ := HOW w3 b3; clear hRd HOW)
              | (go_at_call 12; refine (num_is _ _).mono ?_; rintro e w0 ⟨rfl, hw0⟩; have hw0 := hw0.symm; subst hw0)
              | (at_builtin; refine Kd.wp_app1 (K := KS) rfl (.tmp 74) (.tmp 77) 38 rfl Try.underlying38 infoStr rfl wn.heap.size _ _ (strB (rb nm)) rfl ho5 rfl rfl rfl hmm hml hz5 ?_; intro v6 w6 o6 b6 g6 n6))
            go_roundw
            case rel => exact ⟨j + 1, by go_num, HL2.out, hid (by rw [← HST.out]; exact o6), hid ((HBw.out _ b3.out).trans b6)⟩
            case measure => have := HL2.out; simp [intOf]; omega
          · have htw : tk = wl := by rw [← HTK.out, List.take_of_length_le (by rw [HWLL.out]; omega)]
            have hjl : ¬ (j : Int) < (sl.length : Int) := by omega
            rw [hv4] at HO4
            subst hv4
            have hONb := ON.out.below HBj.out
            have hBab := BN.out.trans (HBj.out.mono BN.out.size)
            have hOWb : KS.Own wr wa.heap.size (.slice A4 tk.length C4) tk := HO4.mono BN.out.size
            have hmk := mk1000 wr
            have HX2 := hid (show tk = sl.map fun k => strB (rb k) from htw.trans HX.out.2.1)
            have hn1 := hONb.lt
            have hn2 := hOWb.lt
            have hn3 := hBab.size
            generalize wr = wb at *
            have hst3 : Hid ((wb.alloc (.cells (btrow 0) 4)).heap[wb.heap.size]? = some (.cells (btrow 0) 4 (0, 0))) := hid (heap_alloc_new wb _)
            have hst4 : Hid (Below wb.heap.size wb (wb.alloc (.cells (btrow 0) 4))) := hid ((Below.refl _ wb).alloc (Nat.le_refl _) _)
            have HE := hid (And.intro hONb (And.intro hOWb (And.intro hBab (And.intro hn1 (And.intro hn2 hn3)))))
            clear hONb hOWb hBab hn1 hn2 hn3 HO4 HO htw HTK hltA HBj ON BN hj HX HWLL
            go_wp2
            go_loopw [12] (fun iv wr => ∃ t : Nat, iv = .int .i64 t ∧ t ≤ 1000 ∧ Hid (wr.heap[wb.heap.size]? = some (.cells (btrow t) 4 (0, 0))) ∧ Hid (Below wb.heap.size wb wr)) (fun iv _ => 1000 - (intOf iv).toNat)
            case atStart => exact ⟨0, rfl, by omega, hst3, hst4⟩
            case round =>
              obtain ⟨t, rfl, ht, HR, HBt⟩ := hrel
              by_cases hLt3 : t < 1000
              · have htl : (t : Int) < 1000 := by omega
                have c0 : wr.cell? ⟨wb.heap.size, t, none⟩ = some (.bool false) := held_cell HR.out (bt_get hLt3)
                have e0 := held_frozen (i := t) HR.out
                have HR2 : Hid ((wr.setCell ⟨wb.heap.size, t, none⟩ (.bool true)).heap[wb.heap.size]? = some (.cells (btrow (t + 1)) 4 (0, 0))) := hid (by rw [row_set HR.out, bt_set hLt3])
                have HB2 : Hid (Below wb.heap.size wb (wr.setCell ⟨wb.heap.size, t, none⟩ (.bool true))) := hid (Tch.below HBt.out (Tch.set (· = wb.heap.size) wr ⟨wb.heap.size, t, none⟩ _ rfl) (fun k hk => by rw [hk]; exact Nat.le_refl _) HBt.out.size)
                have HL3 := hid hLt3
                clear hst3 hst4 HR HBt hmk hLt3
                go_wp2
                go_roundw
                case rel => exact ⟨t + 1, by go_num, HL3.out, HR2, HB2⟩
                case measure => have := HL3.out; simp [intOf]; omega
              · have htl : ¬ (t : Int) < 1000 := by omega
                obtain rfl : t = 1000 := by omega
                obtain ⟨hONb, hOWb, hBab, hn1, hn2, hn3⟩ := HE.out
                have hBbc := HBt.out
                have hrow := HR.out
                have hszc := hBbc.size
                have hgc := row_lt hrow
                generalize wr = wc at *
                clear hst3 hst4 hmk HR HBt HE
                obtain ⟨T2, hT2⟩ : ∃ T2 : Nat → Prop, T2 = fun k => (W.heap.size ≤ k ∧ k < wa.heap.size) ∨ wc.heap.size ≤ k := ⟨_, rfl⟩
                have hWa := HBa.size
                have hT2W : ∀ k, T2 k → W.heap.size ≤ k := fun k hk => by
                  rw [hT2] at hk
                  rcases hk with hk | hk
                  · exact hk.1
                  · have hk : wc.heap.size ≤ k := hk
                    omega
                have hT2s : ∀ w1 : World, wc.heap.size ≤ w1.heap.size → ∀ k, w1.heap.size ≤ k → T2 k := fun w1 h1 k hk => by rw [hT2]; exact .inr (Nat.le_trans h1 hk)
                have hDc : Dsk wc T2 (2 * i) q p M := ((HDa.re (T' := T2) (fun k hk hlt => by rw [hT2]; rw [hTd] at hk; exact .inl ⟨hk, hlt⟩)).below hBab).below hBbc
                have hfar : ∀ k, wa.heap.size ≤ k → k < wc.heap.size → ¬ T2 k := fun k h1 h2 hk => by
                  rw [hT2] at hk
                  rcases hk with hk | hk
                  · have := hk.2; omega
                  · have hk : wc.heap.size ≤ k := hk
                    omega
                have hON : KS.Own wc wa.heap.size (.slice A3 sl.length C3) sl := hONb.below hBbc
                have hOW : KS.Own wc wa.heap.size (.slice A4 tk.length C4) tk := hOWb.below hBbc
                have hBWc : Below W.heap.size W wc := (HBa.trans (hBab.mono hWa)).trans (hBbc.mono (by omega))
                have hRb : KBo.Rd wc (.slice (some ⟨wb.heap.size, 0, none⟩) 1000 1000) (List.replicate 1000 true) := by
                  refine ⟨some ⟨wb.heap.size, 0, none⟩, 1000, by rw [List.length_replicate], by rw [List.length_replicate]; exact Nat.le_refl _, fun _ => ⟨wb.heap.size, 0, rfl, hgc, fun k u hk => ?_⟩⟩
                  rw [Nat.zero_add, cell_of_row _ _ _ _ _ _ hrow, ← Array.getElem?_toList, bt_end]
                  exact hk
                have TCH : ∀ w1 w2 : World, wc.heap.size ≤ w1.heap.size → Below W.heap.size W w1 → KS.Own w1 wa.heap.size (.slice A3 sl.length C3) sl → KS.Own w1 wa.heap.size (.slice A4 tk.length C4) tk → Tch T2 w1 w2 → Hid (KS.Own w2 wa.heap.size (.slice A3 sl.length C3) sl ∧ KS.Own w2 wa.heap.size (.slice A4 tk.length C4) tk) ∧ Hid (Below W.heap.size W w2) ∧ Hid (wc.heap.size ≤ w2.heap.size) := fun w1 w2 hs bb o1 o2 t => by
                  have hb1 := hON.lt
                  have hb2 := hOW.lt
                  refine ⟨hid ⟨o1.touch t (fun k hk hv => hfar k (hb1 k hv).1 (hb1 k hv).2 hk), o2.touch t (fun k hk hv => hfar k (hb2 k hv).1 (hb2 k hv).2 hk)⟩, hid (bb.trans (tch_up (t.mono hT2W) bb.size)), hid (Nat.le_trans hs t.size)⟩
                have hc4 : 2 * i + 2 * i ≤ 1048576 := by omega
                have PC1 : Calls Try.prog 10 #[.pointer (some ⟨q, 0, none⟩), .slice (some ⟨wb.heap.size, 0, none⟩) 1000 1000] wc fun e w' => e = .returned (.tuple #[]) ∧ ∃ Mt, Hid (SameR M Mt ∧ Still Mt) ∧ Hid (Dsk w' T2 (2 * i) q p Mt) ∧ Hid (KS.Own w' wa.heap.size (.slice A3 sl.length C3) sl ∧ KS.Own w' wa.heap.size (.slice A4 tk.length C4) tk) ∧ Hid (Below W.heap.size W w') ∧ Hid (wc.heap.size ≤ w'.heap.size) := by
                  refine (Crash_d hDc (hT2s wc (Nat.le_refl _)) hc4 hRb (fun _ x hx hk => by injection hx with hx; have hx : wb.heap.size = x := hx; exact hfar x (by omega) (by omega) hk)).mono ?_
                  rintro e w' ⟨rfl, D, t⟩
                  obtain ⟨t1, t2, t3⟩ := TCH wc w' (Nat.le_refl _) hBWc hON hOW t
                  exact ⟨rfl, _, hid (all_crash HI.out (by omega) hDc.wf), hid D, t1, t2, t3⟩
                have PC2 : ∀ w1 Mt, Dsk w1 T2 (2 * i) q p Mt → wc.heap.size ≤ w1.heap.size → Below W.heap.size W w1 → KS.Own w1 wa.heap.size (.slice A3 sl.length C3) sl → KS.Own w1 wa.heap.size (.slice A4 tk.length C4) tk → SameR M Mt → Still Mt → Calls Try.prog 10 #[.pointer (some ⟨q, 0, none⟩), .slice none 0 0] w1 fun e w' => e = .returned (.tuple #[]) ∧ ∃ Mt, Hid (SameR M Mt ∧ Still Mt) ∧ Hid (Dsk w' T2 (2 * i) q p Mt) ∧ Hid (KS.Own w' wa.heap.size (.slice A3 sl.length C3) sl ∧ KS.Own w' wa.heap.size (.slice A4 tk.length C4) tk) ∧ Hid (Below W.heap.size W w') ∧ Hid (wc.heap.size ≤ w'.heap.size) := fun w1 Mt hd hs bb o1 o2 hsr hst => by
                  refine (Crash_d hd (hT2s w1 hs) hc4 (Kd.Rd.nil _) (fun h0 => absurd h0 (by simp))).mono ?_
                  rintro e w' ⟨rfl, D, t⟩
                  obtain ⟨t1, t2, t3⟩ := TCH w1 w' hs bb o1 o2 t
                  obtain ⟨s1, s2⟩ := still_crash hst []
                  exact ⟨rfl, _, hid ⟨hsr.trans s1, s2⟩, hid D, t1, t2, t3⟩
                clear hONb hOWb hBab hn1 hn2 hn3 hBbc hrow hgc TCH hRb hON hOW hBWc hDc hfar hT2W hT2s hWa
                have HTD := hid hTd
                have HT2 := hid hT2
                clear hTd hT2 hszc HBa HDa
                go_wp2_with (go_at_call 10; refine PC1.mono ?_; rintro e wd ⟨rfl, Mt, S1, D1, O1, B1, Z1⟩; clear PC1)
                go_loopw [13] (fun iv wr => ∃ (t : Nat) (Mt : DM), iv = .int .i64 t ∧ t ≤ 2 ∧ Hid (SameR M Mt ∧ Still Mt) ∧ Hid (Dsk wr T2 (2 * i) q p Mt) ∧ Hid (KS.Own wr wa.heap.size (.slice A3 sl.length C3) sl ∧ KS.Own wr wa.heap.size (.slice A4 tk.length C4) tk) ∧ Hid (Below W.heap.size W wr) ∧ Hid (wc.heap.size ≤ wr.heap.size)) (fun iv _ => 2 - (intOf iv).toNat)
                case atStart => exact ⟨0, Mt, rfl, by omega, S1, D1, O1, B1, Z1⟩
                case round =>
                  obtain ⟨tn, Mu, rfl, htn, SU, DU, OU, BU, ZU⟩ := hrel
                  by_cases hLt4 : tn < 2
                  · have htl2 : (tn : Int) < 2 := by omega
                    have HL4 := hid hLt4
                    have hLi2 : Calls Try.prog 19 #[.pointer (some ⟨q, 0, none⟩)] wr fun e w' => ∃ A C, e = .returned (.slice A sl.length C) ∧ Calls Try.prog 26 #[.slice A sl.length C, .slice A3 sl.length C3] w' fun e w2 => e = .returned (.bool true) ∧ Hid (Below wr.heap.size wr w2) := by
                      refine (List_d DU.out).mono ?_
                      rw [SU.out.1.list, ← HSL.out]
                      rintro e w' ⟨v, rfl, ow, b2⟩
                      obtain ⟨A, C, rfl, _⟩ := id ow.rd.form
                      refine ⟨A, C, rfl, (Texts_is _ _ sl sl w' ow.rd (OU.out.1.below b2).rd (by omega) (by omega)).mono ?_⟩
                      rintro e w2 ⟨rfl, b3⟩
                      exact ⟨by simp, hid (b2.trans (b3.mono b2.size))⟩
                    generalize wr = wt at *
                    clear S1 D1 O1 B1 Z1
                    go_wp2_with (first
                      | (go_at_call 19; refine hLi2.mono ?_; rintro e w5 ⟨A5, C5, rfl, hTx⟩; clear hLi2)
                      | (go_at_call 26; refine hTx.mono ?_; rintro e w6 ⟨rfl, BT⟩; clear hTx))
                    go_loopw [14] (fun jv wr => ∃ j : Nat, jv = .int .i64 j ∧ j ≤ sl.length ∧ Hid (Below wt.heap.size wt wr)) (fun jv _ => sl.length - (intOf jv).toNat)
                    case atStart => exact ⟨0, rfl, by omega, BT⟩
                    case round =>
                      obtain ⟨jj, rfl, hjj, HBq⟩ := hrel
                      by_cases hLt5 : jj < sl.length
                      · have hjl5 : (jj : Int) < (sl.length : Int) := by omega
                        obtain ⟨nm, hnm⟩ : ∃ nm, sl[jj]'hLt5 = nm := ⟨_, rfl⟩
                        have hnmm : nm ∈ sl := by rw [← hnm]; exact List.getElem_mem hLt5
                        have htkl : tk.length = sl.length := by rw [HX2.out, List.length_map]
                        have hLt6 : jj < tk.length := by rw [htkl]; exact hLt5
                        have htkj : tk[jj]'hLt6 = strB (rb nm) := by
                          have := HX2.out
                          subst this
                          rw [List.getElem_map, hnm]
                        obtain ⟨b3, off3, hA3, hlt3, hc3⟩ := OU.out.1.rd.at hLt5
                        obtain ⟨b4, off4, hA4, hlt4, hc4'⟩ := OU.out.2.rd.at hLt6
                        rw [hnm] at hc3
                        rw [htkj] at hc4'
                        subst hA3 hA4
                        have d1 : wr.cell? ⟨b3, off3 + jj, none⟩ = some (.string nm) := by
                          have := (HBq.out.cell (p := ⟨b3, off3 + (jj * KS.z + 0), none⟩) hlt3).trans (hc3 0 (.string nm) (by decide) rfl)
                          rwa [Nat.add_zero, show KS.z = 1 from rfl, Nat.mul_one] at this
                        have hD5 := DU.out.below HBq.out
                        have hr5 : readM Mu nm = (rb nm, 0) := (SU.out.1.2 nm (hin nm hnmm)).trans (hrd nm hnmm)
                        have hRd : Calls Try.prog 11 #[.pointer (some ⟨q, 0, none⟩), .string nm] wr fun e w' => ∃ A C L, e = .returned (.tuple #[.slice A L C, .int .i64 0]) ∧ (∀ n, (convert 22 9 (.slice A L C)).run Try.prog (w'.drewN n) = .ok (.string (strB (rb nm))) (w'.drewN n)) ∧ w'.cell? ⟨b4, off4 + jj, none⟩ = some (.string (strB (rb nm))) ∧ Hid (∀ n, Below wt.heap.size wt (w'.drewN n)) := by
                          refine (Read_d hD5 nm (hsz nm hnmm)).mono ?_
                          rw [hr5]
                          rintro e w' ⟨A, C, rfl, ow, b2⟩
                          have hbt := HBq.out.trans (b2.mono HBq.out.size)
                          have hdn : ∀ n, Below w'.heap.size w' (w'.drewN n) := fun n => ⟨rfl, rfl, rfl, Nat.le_refl _, fun _ _ => rfl⟩
                          refine ⟨A, C, _, rfl, fun n => conv_kb (ow.rd.below (hdn n)), ?_, hid (fun n => hbt.trans ((hdn n).mono hbt.size))⟩
                          have := (hbt.cell (p := ⟨b4, off4 + (jj * KS.z + 0), none⟩) hlt4).trans (hc4' 0 (.string (strB (rb nm))) (by decide) rfl)
                          rwa [Nat.add_zero, show KS.z = 1 from rfl, Nat.mul_one] at this
                        have HL5 := hid hLt5
                        have hjl6 : (jj : Int) < (tk.length : Int) := by rw [htkl]; omega
                        clear hnm hnmm hc3 hc4' hD5 hr5 hLt5 hLt6 htkj htkl PC2
                        go_wp2_with (go_at_call 11; refine hRd.mono ?_; rintro e w7 ⟨A7, C7, L7, rfl, cv7, d7, BQ⟩; clear hRd)
                        go_quiet ((go_at_call 12; exact Calls.quiet_of_same (v := .int .i64 0) (num_is 0 _)))
                        go_wp2
                        go_roundw
                        case rel => exact ⟨jj + 1, by go_num, HL5.out, hid (BQ.out _)⟩
                        case measure => have := HL5.out; simp [intOf]; omega
                      · have hjl5 : ¬ (jj : Int) < (sl.length : Int) := by omega
                        have hbq := HBq.out
                        have P2 := PC2 wr Mu (DU.out.below hbq) (Nat.le_trans ZU.out hbq.size) (BU.out.trans (hbq.mono BU.out.size)) (OU.out.1.below hbq) (OU.out.2.below hbq) SU.out.1 SU.out.2
                        clear PC2 hbq
                        go_wp2_with (go_at_call 10; refine P2.mono ?_; rintro e w8 ⟨rfl, Mv, S8, D8, O8, B8, Z8⟩; clear P2)
                        go_roundw
                        case rel => exact ⟨tn + 1, Mv, by go_num, HL4.out, S8, D8, O8, B8, Z8⟩
                        case measure => have := HL4.out; simp [intOf]; omega
                  · have htl2 : ¬ (tn : Int) < 2 := by omega
                    clear PC2
                    go_wp2
                    go_ret
                    exact ⟨rfl, BU.out⟩
end Go.Proofs.Ytjpneohachkheaa
