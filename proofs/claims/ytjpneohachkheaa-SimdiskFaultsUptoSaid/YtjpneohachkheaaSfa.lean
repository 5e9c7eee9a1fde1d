/-
  SimdiskFaults's walk: an operation that fails and is not done changes nothing; one that fails and is done changes what it would have changed. Conditions: the list is no longer than 2^20.
-/
import Derived.Test.YtjpneohachkheaaSpg
namespace Go.Proofs.Ytjpneohachkheaa
open Go.RowKit Go.Icz Go.Maps Go.ChangeMaps Go.MapKept
set_option maxRecDepth 100000
set_option maxHeartbeats 4000000
theorem fault_walk (v0 : Value) (l : List OpD) (o : OpD) (dn : Bool) (W : World) (h1 : RdO W W.heap.size v0 l) (ok : OpOk W W.heap.size o) :
    Calls Try.prog 7 #[v0, .agg o.cells, .bool dn] W fun e W' => e = .returned (.bool true) ∧ Below W.heap.size W W' := by
  obtain ⟨A1, C1, rfl, hlb, hrow⟩ := h1
  obtain ⟨W1, hW1⟩ : ∃ W1, W1 = W.alloc (.cells o.cells 25) := ⟨_, rfl⟩
  have z1 : W1.heap.size = W.heap.size + 1 := by rw [hW1]; exact World.size_alloc _ _
  have bW1 : Below W.heap.size W W1 := by rw [hW1]; exact (Below.refl _ W).alloc (Nat.le_refl _) _
  have r1 : W1.heap[W.heap.size]? = some (.cells o.cells 25 (0, 0)) := by rw [hW1]; exact heap_alloc_new W _
  have BW : ∀ wr, Below (W.heap.size + 1) W1 wr → Below W.heap.size W wr := fun wr b => bW1.trans (b.mono (by omega))
  have BX : ∀ wr, Below (W.heap.size + 1) W1 wr → ∀ k u, o.cells[k]? = some u → wr.cell? ⟨W.heap.size, k, none⟩ = some u := fun wr b k u hk => by
    have hr : wr.heap[W.heap.size]? = some (.cells o.cells 25 (0, 0)) := (b.block _ (by omega)).trans r1
    exact held_cell hr hk
  obtain ⟨Mf, hMf⟩ : ∃ Mf, Mf = foM l (min l.length 100) := ⟨_, rfl⟩
  have hns : NoSw Mf := by rw [hMf]; exact foM_nosw l _ (by omega)
  have hP0 : Hid (Ph (W1.alloc (.cells #[nilp, nilp] 58)) (W.heap.size + 1) Mf 0) := hid (.inl ⟨rfl, by rw [← z1]; exact heap_alloc_new W1 _⟩)
  have hB0 : Hid (Below (W.heap.size + 1) W1 (W1.alloc (.cells #[nilp, nilp] 58))) := hid ((Below.refl _ W1).alloc (by omega) _)
  rw [hW1] at hP0 hB0
  have ROW : Hid (∀ i (hi : i < l.length), ∃ b1 off, A1 = some ⟨b1, off, none⟩ ∧ OpOk W W.heap.size l[i] ∧ ∀ wr, Below W.heap.size W wr → ∀ k u, k < 7 → l[i].cells[k]? = some u → wr.cell? ⟨b1, off + i * 7 + k, none⟩ = some u) := hid (fun i hi => by
    obtain ⟨b1, off, hA, hlt, hlt2, hc⟩ := hrow (by omega)
    obtain ⟨c1, c2⟩ := hc i hi
    exact ⟨b1, off, hA, c2, fun wr bb k u hk hu => (bb.cell (p := ⟨b1, off + i * 7 + k, none⟩) hlt2).trans (by rw [Nat.add_assoc]; exact c1 k u hk hu)⟩)
  have OKA : ∀ (x : OpD), OpOk W W.heap.size x → ∀ wr, Below W.heap.size W wr → OpOk wr W.heap.size x := fun x ok wr bb => ok.touch (S := fun k => W.heap.size ≤ k) ⟨bb.os, bb.tape, bb.output, bb.size, fun k hk hn => bb.block k (by have : ¬ W.heap.size ≤ k := hn; omega)⟩ (fun k hk => hk)
  have z1 := hid z1
  have hMf := hid hMf
  have hns := hid hns
  have hW1' := hid hW1
  clear hrow r1 bW1
  rw [← hW1] at hP0 hB0
  have hP0 : Hid (Ph ((W.alloc (.cells o.cells 25)).alloc (.cells #[nilp, nilp] 58)) (W.heap.size + 1) Mf 0) := by rw [hW1] at hP0; exact hP0
  have hB0 : Hid (Below (W.heap.size + 1) W1 ((W.alloc (.cells o.cells 25)).alloc (.cells #[nilp, nilp] 58))) := by rw [hW1] at hB0 ⊢; exact hB0
  clear hW1
  unfold OpD.cells at *
  go_enter Try.func7, Try.ntmps7
  go_wp2
  go_loopw [8] (fun iv wr => ∃ i : Nat, iv = .int .i64 i ∧ i ≤ 2 ∧ Hid (Ph wr (W.heap.size + 1) Mf i) ∧ Hid (Below (W.heap.size + 1) W1 wr)) (fun iv _ => 2 - (intOf iv).toNat)
  case atStart => exact ⟨0, rfl, by omega, hP0, hB0⟩
  case round =>
    obtain ⟨i, rfl, hi, HP, HB⟩ := hrel
    clear hP0 hB0
    by_cases hLt : i < 2
    · have hil : (i : Int) < 2 := by omega
      have hsz : W.heap.size + 1 ≤ wr.heap.size := by have := HB.out.size; have := z1.out; omega
      have habl : W.heap.size + 1 < wr.heap.size := by
        rcases HP.out with ⟨_, h⟩ | ⟨_, _, _, _, h, _⟩ | ⟨_, _, _, _, _, h, _⟩ <;> exact row_lt h
      obtain ⟨Old, row, hr, hrs, hO1, hO2, hO3⟩ := HP.out.step hLt habl
      obtain ⟨x, hx⟩ : ∃ x, row[i]? = some x := ⟨_, Array.getElem?_eq_getElem (by omega)⟩
      obtain ⟨T, hTd⟩ : ∃ T : Nat → Prop, T = fun k => wr.heap.size ≤ k := ⟨_, rfl⟩
      have hTW : ∀ w1, Below wr.heap.size wr w1 → ∀ k, w1.heap.size ≤ k → T k := fun w1 b1 k hk => by rw [hTd]; exact Nat.le_trans b1.size hk
      have hN : Calls Try.prog 24 #[.int .i64 1048576] wr fun e w' => ∃ q p, e = .returned (.tuple #[.pointer (some ⟨q, 0, none⟩), .int .i64 0]) ∧ Hid (Dsk w' T 0 q p (newM 1048576)) ∧ Hid (Below wr.heap.size wr w') := (New_d 1048576 wr (by decide) (by decide) (hTW wr (Below.refl _ _))).mono (by
        rintro e w' ⟨q, p, rfl, h1, h2⟩
        exact ⟨q, p, rfl, hid h1, hid h2⟩)
      have PK : ∀ w1 q p, Hid (Dsk w1 T 0 q p (newM 1048576)) → Hid (Below wr.heap.size wr w1) → Calls Try.prog 23 #[] w1 fun e w' => e = .returned (.bool true) ∧ w'.cell? ⟨W.heap.size + 1, i, none⟩ = some x ∧ w'.frozen? ⟨W.heap.size + 1, i, none⟩ = false ∧ Hid (Dsk (w'.setCell ⟨W.heap.size + 1, i, none⟩ (.pointer (some ⟨q, 0, none⟩))) T 0 q p (foM l 0)) ∧ Hid (Old q (w'.setCell ⟨W.heap.size + 1, i, none⟩ (.pointer (some ⟨q, 0, none⟩)))) ∧ Hid (Below wr.heap.size wr w') ∧ Hid (Below (W.heap.size + 1) W1 (w'.setCell ⟨W.heap.size + 1, i, none⟩ (.pointer (some ⟨q, 0, none⟩)))) := fun w1 q p h bb => by
        refine (knows_is w1).mono ?_
        rintro e w2 ⟨rfl, b2⟩
        have hb := bb.out.trans (b2.mono bb.out.size)
        have hr2 : w2.heap[W.heap.size + 1]? = some (.cells row 58 (0, 0)) := (hb.block _ habl).trans hr
        have ts : Tch (· = W.heap.size + 1) w2 (w2.setCell ⟨W.heap.size + 1, i, none⟩ (.pointer (some ⟨q, 0, none⟩))) := Tch.set (· = W.heap.size + 1) w2 ⟨W.heap.size + 1, i, none⟩ _ rfl
        have hb2 := HB.out.trans (hb.mono hsz)
        exact ⟨rfl, held_cell hr2 hx, held_frozen hr2, hid ((h.out.below b2).touch ts (fun k hk ht => by rw [hTd] at ht; have ht : wr.heap.size ≤ k := ht; omega)), hid (hO1 w2 q hb), hid hb, hid (Tch.below hb2 ts (fun k hk => by rw [hk]; exact Nat.le_refl _) (by have := hb2.size; have := z1.out; omega))⟩
      have PD : ∀ w1 q p M k (y : OpD), Dsk w1 T (2 * k) q p M → Old q w1 → Below (W.heap.size + 1) W1 w1 → wr.heap.size ≤ w1.heap.size → OpOk W W.heap.size y → k ≤ 100 → Calls Try.prog 25 #[.pointer (some ⟨q, 0, none⟩), .agg y.cells] w1 fun e w' => e = .returned (.tuple #[]) ∧ Hid (Dsk w' T (2 * (k + 1)) q p (doO y M)) ∧ Hid (Old q w') ∧ Hid (Below (W.heap.size + 1) W1 w') ∧ Hid (wr.heap.size ≤ w'.heap.size) := fun w1 q p M k y h ho bb hs ok hk => by
        refine (do_is h (fun k hk => by rw [hTd]; exact Nat.le_trans hs hk) y (OKA y ok _ (BW _ bb)) (fun k hk => by rw [hTd] at hk; have hk : wr.heap.size ≤ k := hk; omega) (by omega)).mono ?_
        rintro e w3 ⟨rfl, D, t⟩
        have hsz1 := bb.size
        have t' : Tch (fun k => wr.heap.size ≤ k) w1 w3 := by rw [hTd] at t; exact t
        exact ⟨rfl, hid D, hid (hO2 q _ _ ho t'), hid (bb.trans ((tch_up t' hs).mono hsz)), hid (Nat.le_trans hs t.size)⟩
      have hHs : ∀ w2 q', Hid (Below wr.heap.size wr w2) → Hid (wr.heap.size ≤ (w2.setCell ⟨W.heap.size + 1, i, none⟩ (.pointer (some ⟨q', 0, none⟩))).heap.size) := fun w2 q' b => hid (Nat.le_trans b.out.size (Tch.set (· = W.heap.size + 1) w2 ⟨W.heap.size + 1, i, none⟩ (.pointer (some ⟨q', 0, none⟩)) rfl).size)
      have HO3 := hid hO3
      have HL := hid hLt
      have HTD := hid hTd
      have HBW := hid BW
      generalize wr = wa at *
      clear hr hrs hO1 hO2 hO3 hx hLt habl HP HB hTW OKA ok BX hTd hlb hi BW hsz
      go_wp2_with (first
        | (go_at_call 24; refine hN.mono ?_; rintro e w1 ⟨q, p, rfl, D1, b1⟩; clear hN)
        | (go_at_call 23; refine (PK _ q p D1 b1).mono ?_; rintro e w2 ⟨rfl, c0, e0, D2, O2, b2, b3⟩; have S2 := hHs w2 q b2; clear PK hHs D1 b1)
        | (go_at_call 12; refine (num_is _ _).mono ?_; rintro e w0 ⟨rfl, hw0⟩; have hw0 := hw0.symm; subst hw0))
      clear c0 e0
      go_loopw [11] (fun kv wr => ∃ k : Nat, kv = .int .i64 k ∧ k ≤ l.length ∧ k ≤ 100 ∧ Hid (Dsk wr T (2 * k) q p (foM l k)) ∧ Hid (Old q wr) ∧ Hid (Below (W.heap.size + 1) W1 wr) ∧ Hid (wa.heap.size ≤ wr.heap.size)) (fun kv _ => l.length - (intOf kv).toNat)
      case atStart => exact ⟨0, rfl, by omega, by omega, D2, O2, b3, S2⟩
      case round =>
        obtain ⟨k, rfl, hk, hk2, HD, HO, HB, HS⟩ := hrel
        clear D2 O2 b3 b2 S2
        by_cases hLt : k < l.length ∧ k < 100
        · have hil : (k : Int) < (l.length : Int) := by omega
          have hil2 : (k : Int) < 100 := by omega
          obtain ⟨b7, off, hA, ok, hc⟩ := ROW.out k hLt.1
          subst hA
          have hstep := foM_step hLt.1
          obtain ⟨ol, hol⟩ : ∃ ol, l[k]'hLt.1 = ol := ⟨_, rfl⟩
          rw [hol] at ok hc hstep
          have HL2 := hid hLt
          have bw := HBW.out wr HB.out
          have q0 : wr.cell? ⟨b7, off + k * 7, none⟩ = some (.int .i64 ol.kd) := hc wr bw 0 (.int .i64 ol.kd) (by decide) rfl
          have q1 := hc wr bw 1 (.string ol.nm) (by decide) rfl
          have q2 := hc wr bw 2 (.string ol.to) (by decide) rfl
          have q3 := hc wr bw 3 (.slice ol.A ol.bs.length ol.C) (by decide) rfl
          have q4 := hc wr bw 4 (.int .i64 ol.n) (by decide) rfl
          have q5 := hc wr bw 5 (.bool ol.y) (by decide) rfl
          have q6 := hc wr bw 6 (.slice ol.A2 ol.ks.length ol.C2) (by decide) rfl
          have hDo := PD wr q p (foM l k) k ol HD.out HO.out HB.out HS.out ok hk2
          clear hc hol hLt ok bw
          unfold OpD.cells at hDo
          by_cases h5 : ol.kd ≤ 5
          · rw [if_pos h5] at hstep
            have hstep := hid hstep
            clear PD
            go_wp2_with (go_at_call 25; refine hDo.mono ?_; rintro e w7 ⟨rfl, D7, O7, b7, S7⟩; clear hDo)
            go_roundw
            case rel => exact ⟨k + 1, by go_num, HL2.out.1, HL2.out.2, hid (by rw [hstep.out]; exact D7.out), O7, b7, S7⟩
            case measure => have := HL2.out.1; simp [intOf]; omega
          · rw [if_neg h5] at hstep
            have hstep := hid hstep
            clear PD hDo
            go_wp2
            go_roundw
            case rel => exact ⟨k + 1, by go_num, HL2.out.1, HL2.out.2, hid (by rw [hstep.out]; exact HD.out.up (by omega) (by have := HL2.out.2; omega)), HO, HB, HS⟩
            case measure => have := HL2.out.1; simp [intOf]; omega
        · have hPn : Hid (Ph wr (W.heap.size + 1) Mf (i + 1)) := hid (by
            have hkm : min l.length 100 = k := by omega
            have hD := HD.out.up (c' := 200) (by omega) (by omega)
            have e := hMf.out
            rw [hkm] at e
            rw [← e, HTD.out] at hD
            exact HO3.out wr q p HO.out hD)
          by_cases h1 : k < l.length
          · have hil : (k : Int) < (l.length : Int) := by omega
            have hil2 : ¬ (k : Int) < 100 := by omega
            clear PD hLt
            go_wp2
            go_roundw
            case rel => exact ⟨i + 1, by go_num, HL.out, hPn, HB⟩
            case measure => have := HL.out; simp [intOf]; omega
          · have hil : ¬ (k : Int) < (l.length : Int) := by omega
            clear PD hLt
            go_wp2
            go_roundw
            case rel => exact ⟨i + 1, by go_num, HL.out, hPn, HB⟩
            case measure => have := HL.out; simp [intOf]; omega
    · have hil : ¬ (i : Int) < 2 := by omega
      obtain rfl : i = 2 := by omega
      obtain ⟨q0, p0, q1, p1, hra, HT⟩ : ∃ q0 p0 q1 p1, wr.heap[W.heap.size + 1]? = some (.cells #[ptr q0, ptr q1] 58 (0, 0)) ∧ Two wr (W.heap.size + 1 + 1) 200 q0 p0 Mf q1 p1 Mf := by
        rcases HP.out with ⟨h, _⟩ | ⟨h, _⟩ | ⟨_, h⟩
        · omega
        · omega
        · exact h
      have hza : W.heap.size + 1 < wr.heap.size := row_lt hra
      have BB : ∀ w, Below (W.heap.size + 1 + 1) wr w → Below (W.heap.size + 1) W1 w := fun w b => HB.out.trans (b.mono (by omega))
      have CX : ∀ w, Below (W.heap.size + 1 + 1) wr w → w.cell? ⟨W.heap.size + 1, 0, none⟩ = some (.pointer (some ⟨q0, 0, none⟩)) ∧ w.cell? ⟨W.heap.size + 1, 1, none⟩ = some (.pointer (some ⟨q1, 0, none⟩)) ∧
          w.cell? ⟨W.heap.size, 0, none⟩ = some (.int .i64 o.kd) ∧ w.cell? ⟨W.heap.size, 1, none⟩ = some (.string o.nm) ∧ w.cell? ⟨W.heap.size, 2, none⟩ = some (.string o.to) ∧ w.cell? ⟨W.heap.size, 3, none⟩ = some (.slice o.A o.bs.length o.C) ∧ w.cell? ⟨W.heap.size, 4, none⟩ = some (.int .i64 o.n) ∧ w.cell? ⟨W.heap.size, 5, none⟩ = some (.bool o.y) ∧ w.cell? ⟨W.heap.size, 6, none⟩ = some (.slice o.A2 o.ks.length o.C2) := fun w b => by
        have hr : w.heap[W.heap.size + 1]? = some (.cells #[ptr q0, ptr q1] 58 (0, 0)) := (b.block _ (by omega)).trans hra
        have hx := BX w (BB w b)
        exact ⟨held_cell hr rfl, held_cell hr rfl, hx 0 _ rfl, hx 1 _ rfl, hx 2 _ rfl, hx 3 _ rfl, hx 4 _ rfl, hx 5 _ rfl, hx 6 _ rfl⟩
      obtain ⟨a0, a1, d0, d1, d2, d3, d4, d5, d6⟩ := CX wr (Below.refl _ _)
      have HW := hid (BW _ HB.out)
      clear hP0 hB0
      by_cases hneg : o.kd < 0
      · clear CX BX HT HP ROW OKA BB
        go_wp2
        go_ret
        exact ⟨rfl, HW.out⟩
      by_cases h5 : 5 < o.kd
      · clear CX BX HT HP ROW OKA BB
        go_wp2
        go_ret
        exact ⟨rfl, HW.out⟩
      have AG : AgrD (doO o (failM Mf 1 dn)) (if dn then doO o Mf else Mf) := do_faults hns.out o.kd o.nm o.to o.bs o.n o.y (by omega) (by omega) dn
      have okz := OKA o ok wr HW.out
      have hoc : ∀ w, Below (W.heap.size + 1 + 1) wr w → OpOk w W.heap.size o := fun w b => OKA o ok w (BW w (BB w b))
      obtain ⟨X, hX⟩ : ∃ X, doO o (failM Mf 1 dn) = X := ⟨_, rfl⟩
      obtain ⟨Y, hY⟩ : ∃ Y, doO o Mf = Y := ⟨_, rfl⟩
      have FF : Calls Try.prog 8 #[.pointer (some ⟨q0, 0, none⟩), .int .i64 1, .bool dn] wr fun e w => e = .returned (.tuple #[]) ∧ Hid (Two w (W.heap.size + 1 + 1) 200 q0 p0 (failM Mf 1 dn) q1 p1 Mf) ∧ Hid (Below (W.heap.size + 1 + 1) wr w) :=
        (two_fail HT (by omega) 1 dn (by decide) (by omega)).mono fun e w h => ⟨h.1, hid h.2.1, hid h.2.2⟩
      have PD0 : ∀ w, Hid (Two w (W.heap.size + 1 + 1) 200 q0 p0 (failM Mf 1 dn) q1 p1 Mf) → Hid (Below (W.heap.size + 1 + 1) wr w) → Calls Try.prog 25 #[.pointer (some ⟨q0, 0, none⟩), .agg o.cells] w fun e w' => e = .returned (.tuple #[]) ∧ Hid (Two w' (W.heap.size + 1 + 1) 202 q0 p0 X q1 p1 Mf) ∧ Hid (Below (W.heap.size + 1 + 1) wr w') := fun w h b => by
        have hs := b.out.size
        refine (two_do h.out (by omega) o (hoc w b.out) (by omega) (by omega)).mono ?_
        rw [hX]
        rintro e w' ⟨rfl, h1, h2⟩
        exact ⟨rfl, hid h1, hid (b.out.trans h2)⟩
      have PD1 : ∀ w, Hid (Two w (W.heap.size + 1 + 1) 202 q0 p0 X q1 p1 Mf) → Hid (Below (W.heap.size + 1 + 1) wr w) → Calls Try.prog 25 #[.pointer (some ⟨q1, 0, none⟩), .agg o.cells] w fun e w' => e = .returned (.tuple #[]) ∧ Hid (Two w' (W.heap.size + 1 + 1) 204 q0 p0 X q1 p1 Y) ∧ Hid (Below (W.heap.size + 1 + 1) wr w') := fun w h b => by
        have hs := b.out.size
        refine (two_do h.out.swap (by omega) o (hoc w b.out) (by omega) (by omega)).mono ?_
        rw [hY]
        rintro e w' ⟨rfl, h1, h2⟩
        exact ⟨rfl, hid h1.swap, hid (b.out.trans h2)⟩
      have PCR : ∀ w Ma Mb, Hid (Two w (W.heap.size + 1 + 1) 204 q0 p0 Ma q1 p1 Mb) → Hid (Below (W.heap.size + 1 + 1) wr w) → Calls Try.prog 10 #[.pointer (some ⟨q0, 0, none⟩), .slice o.A2 o.ks.length o.C2] w fun e w' => e = .returned (.tuple #[]) ∧ Hid (Two w' (W.heap.size + 1 + 1) 204 q0 p0 (crashM Ma o.ks) q1 p1 Mb) ∧ Hid (Below (W.heap.size + 1 + 1) wr w') := fun w Ma Mb h b => by
        have hs := b.out.size
        have hk := hoc w b.out
        refine (two_crash h.out (by omega) hk.kr (fun h0 b hb => by have := hk.kB h0 b hb; omega) (by omega)).mono ?_
        rintro e w' ⟨rfl, h1, h2⟩
        exact ⟨rfl, hid h1, hid (b.out.trans h2)⟩
      have PCR1 : ∀ w Ma Mb, Hid (Two w (W.heap.size + 1 + 1) 204 q0 p0 Ma q1 p1 Mb) → Hid (Below (W.heap.size + 1 + 1) wr w) → Calls Try.prog 10 #[.pointer (some ⟨q1, 0, none⟩), .slice o.A2 o.ks.length o.C2] w fun e w' => e = .returned (.tuple #[]) ∧ Hid (Two w' (W.heap.size + 1 + 1) 204 q0 p0 Ma q1 p1 (crashM Mb o.ks)) ∧ Hid (Below (W.heap.size + 1 + 1) wr w') := fun w Ma Mb h b => by
        have hs := b.out.size
        have hk := hoc w b.out
        refine (two_crash h.out.swap (by omega) hk.kr (fun h0 b hb => by have := hk.kB h0 b hb; omega) (by omega)).mono ?_
        rintro e w' ⟨rfl, h1, h2⟩
        exact ⟨rfl, hid h1.swap, hid (b.out.trans h2)⟩
      have HBW := hid (fun w b => BW w (BB w b))
      rw [hX, hY] at AG
      have AG := hid AG
      have hzs := hid hza
      clear hX hY ok okz hoc hns hMf ROW OKA BX HP HT HB BW BB hra hlb hW1' hza
      unfold OpD.cells at PD0 PD1
      generalize wr = wz at *
      cases dn
      · have AG2 : Hid (AgrD X Mf) := hid (by have := AG.out; simpa using this)
        clear AG PD1
        go_wp2_with (first
          | (go_at_call 8; refine FF.mono ?_; rintro e w1 ⟨rfl, T1, B1⟩; obtain ⟨a0, a1, d0, d1, d2, d3, d4, d5, d6⟩ := CX w1 B1.out; clear FF)
          | (go_at_call 25; refine (PD0 _ T1 B1).mono ?_; rintro e w2 ⟨rfl, T2, B2⟩; obtain ⟨a0, a1, d0, d1, d2, d3, d4, d5, d6⟩ := CX w2 B2.out; clear PD0))
        go_loopw [12] (fun tv wt => ∃ (t : Nat) (M0 M1 : DM), tv = .int .i64 t ∧ t ≤ 2 ∧ Hid (AgrD M0 M1) ∧ Hid (Two wt (W.heap.size + 1 + 1) 204 q0 p0 M0 q1 p1 M1) ∧ Hid (Below (W.heap.size + 1 + 1) wz wt)) (fun tv _ => 2 - (intOf tv).toNat)
        case atStart => exact ⟨0, _, _, rfl, by omega, AG2, hid (T2.out.up (by omega) (by omega)), B2⟩
        case round =>
          obtain ⟨t, M0, M1, rfl, ht, HA, HTw, HBt⟩ := hrel
          by_cases hLt : t < 2
          · have htl : (t : Int) < 2 := by omega
            obtain ⟨S0, S1, _, _, _, E0, E1⟩ := id HTw.out
            obtain ⟨sl, hsl⟩ : ∃ sl, sl = (listM M0).map kb := ⟨_, rfl⟩
            have hslb : sl.length ≤ 1048576 := by
              have h1 := E0.wf.ln
              have h2 := E0.wf.hc
              rw [hsl, List.length_map]
              unfold listM rising
              rw [List.length_mergeSort, List.length_map]
              omega
            have hin : ∀ k ∈ sl, (nlook M0.names k).isSome = true := fun k hk => rising_mem (by rw [hsl] at hk; exact hk)
            obtain ⟨rb, hrb⟩ : ∃ rb : ByteArray → List Nat, rb = fun k => (readM M0 k).1 := ⟨_, rfl⟩
            have hsz : ∀ k ∈ sl, k.size ≤ maxLen := fun k hk => by
              obtain ⟨n, hn⟩ := Option.isSome_iff_exists.1 (hin k hk)
              have := E0.wf.nz _ (look_mem hn)
              simp only at this
              unfold maxLen
              omega
            have hrd : ∀ k ∈ sl, readM M0 k = (rb k, 0) := fun k hk => by
              obtain ⟨n, hn⟩ := Option.isSome_iff_exists.1 (hin k hk)
              have hr : readM M0 k = ((fileAt M0.fs n).b, 0) := by
                unfold readM
                rw [HA.out.1, if_neg (by simp), hn]
              rw [hrb]
              simp only
              rw [hr]
            obtain ⟨un, hun⟩ : ∃ un : Nat, used M0.fs M0.names = un := ⟨_, rfl⟩
            have hL0 : Calls Try.prog 19 #[.pointer (some ⟨q0, 0, none⟩)] wr fun e w' => ∃ A C, e = .returned (.slice A sl.length C) ∧ Hid (KS.Own w' wr.heap.size (.slice A sl.length C) sl) ∧ Hid (Below wr.heap.size wr w') := by
              refine (List_d E0).mono ?_
              rw [← hsl]
              rintro e w' ⟨v, rfl, ow, b2⟩
              obtain ⟨A, C, rfl, _⟩ := id ow.rd.form
              exact ⟨A, C, rfl, hid ow, hid b2⟩
            have hzz := HBt.out.size
            have hzs2 := hzs.out
            have hmo : ∀ w, Below wr.heap.size wr w → Below (W.heap.size + 1 + 1) wz w := fun w b => HBt.out.trans (b.mono (by omega))
            obtain ⟨a0, a1, d0, d1, d2, d3, d4, d5, d6⟩ := CX wr HBt.out
            have HLt := hid hLt
            have HTW := HTw
            have HSL := hid hsl
            have HUN := hid hun
            have HIN := hid hin
            have HSZ := hid hsz
            have HRD := hid hrd
            have HS0 := hid E0
            have HS1 := hid E1
            have HSB := hid hslb
            generalize wr = wt at *
            clear hsl hun hin hsz hrd E0 E1 hrb hslb hLt T1 T2 B1 B2 ht hzz hzs2
            go_wp2_with (go_at_call 19; refine hL0.mono ?_; rintro e w1 ⟨A3, C3, rfl, ON, BN⟩; obtain ⟨a0, a1, d0, d1, d2, d3, d4, d5, d6⟩ := CX w1 (hmo w1 BN.out); clear hL0)
            have hun := HUN.out
            have hsl := HSL.out
            have hsz := HSZ.out
            have hrd := HRD.out
            have E0 := HS0.out
            have E1 := HS1.out
            have hslb := HSB.out
            have KK : ∀ w2, Hid (Below w1.heap.size w1 w2) → w2.cell? ⟨W.heap.size + 1, 0, none⟩ = some (.pointer (some ⟨q0, 0, none⟩)) ∧ w2.cell? ⟨W.heap.size + 1, 1, none⟩ = some (.pointer (some ⟨q1, 0, none⟩)) := fun w2 b => by
              have := CX w2 (hmo w2 (BN.out.trans (b.out.mono BN.out.size)))
              exact ⟨this.1, this.2.1⟩
            have LT : ∀ w2, Hid (Below w1.heap.size w1 w2) → Calls Try.prog 19 #[.pointer (some ⟨q1, 0, none⟩)] w2 fun e w' => ∃ A C, e = .returned (.slice A sl.length C) ∧ (Calls Try.prog 26 #[.slice A3 sl.length C3, .slice A sl.length C] w' fun e w3 => e = .returned (.bool true) ∧ Hid (Below w1.heap.size w1 w3)) ∧ Hid (Below w1.heap.size w1 w') := fun w2 b => by
              refine (List_d ((E1.below BN.out).below b.out)).mono ?_
              rw [← HA.out.list, ← hsl]
              rintro e w' ⟨v, rfl, ow, b2⟩
              obtain ⟨A, C, rfl, _⟩ := id ow.rd.form
              have hb := b.out.trans (b2.mono b.out.size)
              refine ⟨A, C, rfl, (Texts_is _ _ sl sl w' (ON.out.below hb).rd ow.rd (by omega) (by omega)).mono ?_, hid hb⟩
              rintro e w3 ⟨rfl, b3⟩
              exact ⟨by simp, hid (hb.trans (b3.mono hb.size))⟩
            have UU : ∀ q, Hid (q = q0 ∨ q = q1) → ∀ w2, Hid (Below w1.heap.size w1 w2) → Calls Try.prog 20 #[.pointer (some ⟨q, 0, none⟩)] w2 fun e w' => e = .returned (.int .i64 (un : Nat)) ∧ Hid (Below w1.heap.size w1 w') := fun q hq w2 b => by
              rcases hq.out with rfl | rfl
              · refine (Used_d ((E0.below BN.out).below b.out)).mono ?_
                rw [hun]
                rintro e w' ⟨rfl, b2⟩
                exact ⟨rfl, hid (b.out.trans (b2.mono b.out.size))⟩
              · refine (Used_d ((E1.below BN.out).below b.out)).mono ?_
                rw [← HA.out.used, hun]
                rintro e w' ⟨rfl, b2⟩
                exact ⟨rfl, hid (b.out.trans (b2.mono b.out.size))⟩
            have P0 : ∀ nm, Hid (nm ∈ sl) → ∀ w2, Hid (Below w1.heap.size w1 w2) → Calls Try.prog 11 #[.pointer (some ⟨q0, 0, none⟩), .string nm] w2 fun e w' => ∃ A C L, e = .returned (.tuple #[.slice A L C, .int .i64 0]) ∧ Hid (KB.Own w' w2.heap.size (.slice A L C) (rb nm) ∧ L = (rb nm).length) ∧ Hid (Below w1.heap.size w1 w') ∧ Hid (Below w2.heap.size w2 w') := fun nm hm w2 b => by
              refine (Read_d ((E0.below BN.out).below b.out) nm (hsz nm hm.out)).mono ?_
              rw [hrd nm hm.out]
              rintro e w' ⟨A, C, rfl, ow, b2⟩
              exact ⟨A, C, _, rfl, hid ⟨ow, rfl⟩, hid (b.out.trans (b2.mono b.out.size)), hid b2⟩
            have P1 : ∀ nm, Hid (nm ∈ sl) → ∀ w2, Hid (Below w1.heap.size w1 w2) → Calls Try.prog 11 #[.pointer (some ⟨q1, 0, none⟩), .string nm] w2 fun e w' => ∃ A C L, e = .returned (.tuple #[.slice A L C, .int .i64 0]) ∧ Hid (KB.Own w' w2.heap.size (.slice A L C) (rb nm) ∧ L = (rb nm).length) ∧ Hid (Below w1.heap.size w1 w') ∧ Hid (Below w2.heap.size w2 w') := fun nm hm w2 b => by
              refine (Read_d ((E1.below BN.out).below b.out) nm (hsz nm hm.out)).mono ?_
              rw [← HA.out.read, hrd nm hm.out]
              rintro e w' ⟨A, C, rfl, ow, b2⟩
              exact ⟨A, C, _, rfl, hid ⟨ow, rfl⟩, hid (b.out.trans (b2.mono b.out.size)), hid b2⟩
            clear E0 E1 hrd hsz hun hsl hslb
            have hbb : Hid (Below w1.heap.size w1 w1.drew) := hid ⟨rfl, rfl, rfl, Nat.le_refl _, fun _ _ => rfl⟩
            have hk0 := KK w1 (hid (Below.refl _ _))
            have hkk := KK w1.drew hbb
            have P0 := hid P0
            have P1 := hid P1
            go_region_held3 (fun w' => w'.cell? ⟨W.heap.size + 1, 0, none⟩ = some (.pointer (some ⟨q0, 0, none⟩)) ∧ w'.cell? ⟨W.heap.size + 1, 1, none⟩ = some (.pointer (some ⟨q1, 0, none⟩))) (first | exact hkk | exact hk0) (first
              | (go_at_call 19; with_reducible refine (LT _ hbb).mono ?_; rintro e2 w2 ⟨A5, C5, rfl, hTx, hbb⟩; have hkk := KK _ hbb; clear LT)
              | (go_at_call 26; with_reducible refine hTx.mono ?_; rintro e3 w3 ⟨rfl, hbb⟩; have hkk := KK _ hbb; clear hTx)
              | (go_at_call 20; with_reducible refine (UU _ (by first | exact hid (.inl rfl) | exact hid (.inr rfl)) _ hbb).mono ?_; rintro e4 w4 ⟨rfl, hbb⟩; have hkk := KK _ hbb))
            go_wp2
            go_loopw [14] (fun jv wr => ∃ j : Nat, jv = .int .i64 j ∧ j ≤ sl.length ∧ Hid (Below w1.heap.size w1 wr)) (fun jv _ => sl.length - (intOf jv).toNat)
            case atStart => exact ⟨0, rfl, by omega, hbb⟩
            case round =>
              obtain ⟨j, rfl, hj, HBj⟩ := hrel
              clear hkk hk0 hbb
              by_cases hLt2 : j < sl.length
              · have hjl : (j : Int) < (sl.length : Int) := by omega
                obtain ⟨nm, hnm⟩ : ∃ nm, sl[j]'hLt2 = nm := ⟨_, rfl⟩
                have hnmm : Hid (nm ∈ sl) := hid (by rw [← hnm]; exact List.getElem_mem hLt2)
                obtain ⟨b3, off3, hA3, hlt3, hc3⟩ := ON.out.rd.at hLt2
                rw [hnm] at hc3
                subst hA3
                have KN : ∀ w2, Hid (Below w1.heap.size w1 w2) → w2.cell? ⟨W.heap.size + 1, 0, none⟩ = some (.pointer (some ⟨q0, 0, none⟩)) ∧ w2.cell? ⟨W.heap.size + 1, 1, none⟩ = some (.pointer (some ⟨q1, 0, none⟩)) ∧ w2.cell? ⟨b3, off3 + j, none⟩ = some (.string nm) := fun w2 b => by
                  have := KK w2 b
                  have d1 := (b.out.cell (p := ⟨b3, off3 + (j * KS.z + 0), none⟩) hlt3).trans (hc3 0 (.string nm) (by decide) rfl)
                  rw [Nat.add_zero, show KS.z = 1 from rfl, Nat.mul_one] at d1
                  exact ⟨this.1, this.2, d1⟩
                have HL2 := hid hLt2
                have hslb := HSB.out
                have R0 := P0.out nm hnmm
                have R1 := P1.out nm hnmm
                have hbb : Hid (Below w1.heap.size w1 wr.drew) := hid (HBj.out.trans ⟨rfl, rfl, rfl, Nat.le_refl _, fun _ _ => rfl⟩)
                have hk0 := KN wr HBj
                have hkk := KN wr.drew hbb
                clear hnm hnmm hc3 hLt2 hlt3
                go_wp2
                go_region_held3 (fun w' => w'.cell? ⟨W.heap.size + 1, 0, none⟩ = some (.pointer (some ⟨q0, 0, none⟩)) ∧ w'.cell? ⟨W.heap.size + 1, 1, none⟩ = some (.pointer (some ⟨q1, 0, none⟩)) ∧ w'.cell? ⟨b3, off3 + j, none⟩ = some (.string nm)) (first | exact hkk | exact hk0) (first
                  | (go_at_call 11; with_reducible refine (R0 _ hbb).mono ?_; rintro e2 w2 ⟨A5, C5, L5, rfl, OX, hbb, _⟩; have hkk := KN _ hbb; clear R0))
                have hbb2 : Hid (Below w1.heap.size w1 w2.drew) := hid (hbb.out.trans ⟨rfl, rfl, rfl, Nat.le_refl _, fun _ _ => rfl⟩)
                have hkk2 := KN w2.drew hbb2
                go_wp2
                go_region_held3 (fun w' => w'.cell? ⟨W.heap.size + 1, 0, none⟩ = some (.pointer (some ⟨q0, 0, none⟩)) ∧ w'.cell? ⟨W.heap.size + 1, 1, none⟩ = some (.pointer (some ⟨q1, 0, none⟩)) ∧ w'.cell? ⟨b3, off3 + j, none⟩ = some (.string nm)) (first | exact hkk3 | exact hkk2 | exact hkk) (first
                  | (go_at_call 11; with_reducible refine (R1 _ hbb2).mono ?_; rintro e3 w3 ⟨A6, C6, L6, rfl, OY, hbb3, HXB⟩; have hkk3 := KN _ hbb3; clear R1))
                have cvx := conv_kb (OX.out.1.below ((⟨rfl, rfl, rfl, Nat.le_refl _, fun _ _ => rfl⟩ : Below w2.heap.size w2 w2.drew).trans HXB.out)).rd
                have cvy := conv_kb OY.out.1.rd
                go_wp2_with (go_at_call 12; refine (num_is _ _).mono ?_; rintro e w0 ⟨rfl, hw0⟩; have hw0 := hw0.symm; subst hw0)
                go_roundw
                case rel => exact ⟨j + 1, by go_num, HL2.out, hbb3⟩
                case measure => have := HL2.out; simp [intOf]; omega
              · have hjl : ¬ (j : Int) < (sl.length : Int) := by omega
                have hbw := BN.out.trans (HBj.out.mono BN.out.size)
                have TW := hid (HTW.out.below hbw)
                have BTW := hid (hmo wr hbw)
                obtain ⟨a0, a1, d0, d1, d2, d3, d4, d5, d6⟩ := CX wr BTW.out
                have AC : Hid (AgrD (crashM M0 o.ks) (crashM M1 o.ks)) := hid (by rw [HA.out.crash]; exact AgrD.selfD rfl)
                have C0 := PCR wr M0 M1 TW BTW
                clear hbw PCR KK UU
                go_wp2_with (first
                  | (go_at_call 10; with_reducible refine C0.mono ?_; rintro e w8 ⟨rfl, T8, B8⟩; have C1 := PCR1 w8 _ _ T8 B8; obtain ⟨a0, a1, d0, d1, d2, d3, d4, d5, d6⟩ := CX w8 B8.out; clear C0)
                  | (go_at_call 10; with_reducible refine C1.mono ?_; rintro e w9 ⟨rfl, T9, B9⟩; clear C1))
                go_roundw
                case rel => exact ⟨t + 1, _, _, by go_num, HLt.out, AC, T9, B9⟩
                case measure => have := HLt.out; simp [intOf]; omega
          · have htl : ¬ (t : Int) < 2 := by omega
            go_wp2
            go_ret
            exact ⟨rfl, HBW.out _ HBt.out⟩
      · have AG2 : Hid (AgrD X Y) := hid (by have := AG.out; simpa using this)
        clear AG
        go_wp2_with (first
          | (go_at_call 8; refine FF.mono ?_; rintro e w1 ⟨rfl, T1, B1⟩; obtain ⟨a0, a1, d0, d1, d2, d3, d4, d5, d6⟩ := CX w1 B1.out; clear FF)
          | (go_at_call 25; refine (PD0 _ T1 B1).mono ?_; rintro e w2 ⟨rfl, T2, B2⟩; obtain ⟨a0, a1, d0, d1, d2, d3, d4, d5, d6⟩ := CX w2 B2.out; clear PD0)
          | (go_at_call 25; refine (PD1 _ T2 B2).mono ?_; rintro e w3 ⟨rfl, T3, B3⟩; obtain ⟨a0, a1, d0, d1, d2, d3, d4, d5, d6⟩ := CX w3 B3.out; clear PD1))
        go_loopw [12] (fun tv wt => ∃ (t : Nat) (M0 M1 : DM), tv = .int .i64 t ∧ t ≤ 2 ∧ Hid (AgrD M0 M1) ∧ Hid (Two wt (W.heap.size + 1 + 1) 204 q0 p0 M0 q1 p1 M1) ∧ Hid (Below (W.heap.size + 1 + 1) wz wt)) (fun tv _ => 2 - (intOf tv).toNat)
        case atStart => exact ⟨0, _, _, rfl, by omega, AG2, T3, B3⟩
        case round =>
          obtain ⟨t, M0, M1, rfl, ht, HA, HTw, HBt⟩ := hrel
          by_cases hLt : t < 2
          · have htl : (t : Int) < 2 := by omega
            obtain ⟨S0, S1, _, _, _, E0, E1⟩ := id HTw.out
            obtain ⟨sl, hsl⟩ : ∃ sl, sl = (listM M0).map kb := ⟨_, rfl⟩
            have hslb : sl.length ≤ 1048576 := by
              have h1 := E0.wf.ln
              have h2 := E0.wf.hc
              rw [hsl, List.length_map]
              unfold listM rising
              rw [List.length_mergeSort, List.length_map]
              omega
            have hin : ∀ k ∈ sl, (nlook M0.names k).isSome = true := fun k hk => rising_mem (by rw [hsl] at hk; exact hk)
            obtain ⟨rb, hrb⟩ : ∃ rb : ByteArray → List Nat, rb = fun k => (readM M0 k).1 := ⟨_, rfl⟩
            have hsz : ∀ k ∈ sl, k.size ≤ maxLen := fun k hk => by
              obtain ⟨n, hn⟩ := Option.isSome_iff_exists.1 (hin k hk)
              have := E0.wf.nz _ (look_mem hn)
              simp only at this
              unfold maxLen
              omega
            have hrd : ∀ k ∈ sl, readM M0 k = (rb k, 0) := fun k hk => by
              obtain ⟨n, hn⟩ := Option.isSome_iff_exists.1 (hin k hk)
              have hr : readM M0 k = ((fileAt M0.fs n).b, 0) := by
                unfold readM
                rw [HA.out.1, if_neg (by simp), hn]
              rw [hrb]
              simp only
              rw [hr]
            obtain ⟨un, hun⟩ : ∃ un : Nat, used M0.fs M0.names = un := ⟨_, rfl⟩
            have hL0 : Calls Try.prog 19 #[.pointer (some ⟨q0, 0, none⟩)] wr fun e w' => ∃ A C, e = .returned (.slice A sl.length C) ∧ Hid (KS.Own w' wr.heap.size (.slice A sl.length C) sl) ∧ Hid (Below wr.heap.size wr w') := by
              refine (List_d E0).mono ?_
              rw [← hsl]
              rintro e w' ⟨v, rfl, ow, b2⟩
              obtain ⟨A, C, rfl, _⟩ := id ow.rd.form
              exact ⟨A, C, rfl, hid ow, hid b2⟩
            have hzz := HBt.out.size
            have hzs2 := hzs.out
            have hmo : ∀ w, Below wr.heap.size wr w → Below (W.heap.size + 1 + 1) wz w := fun w b => HBt.out.trans (b.mono (by omega))
            obtain ⟨a0, a1, d0, d1, d2, d3, d4, d5, d6⟩ := CX wr HBt.out
            have HLt := hid hLt
            have HTW := HTw
            have HSL := hid hsl
            have HUN := hid hun
            have HIN := hid hin
            have HSZ := hid hsz
            have HRD := hid hrd
            have HS0 := hid E0
            have HS1 := hid E1
            have HSB := hid hslb
            generalize wr = wt at *
            clear hsl hun hin hsz hrd E0 E1 hrb hslb hLt T1 T2 T3 B1 B2 B3 ht hzz hzs2
            go_wp2_with (go_at_call 19; refine hL0.mono ?_; rintro e w1 ⟨A3, C3, rfl, ON, BN⟩; obtain ⟨a0, a1, d0, d1, d2, d3, d4, d5, d6⟩ := CX w1 (hmo w1 BN.out); clear hL0)
            have hun := HUN.out
            have hsl := HSL.out
            have hsz := HSZ.out
            have hrd := HRD.out
            have E0 := HS0.out
            have E1 := HS1.out
            have hslb := HSB.out
            have KK : ∀ w2, Hid (Below w1.heap.size w1 w2) → w2.cell? ⟨W.heap.size + 1, 0, none⟩ = some (.pointer (some ⟨q0, 0, none⟩)) ∧ w2.cell? ⟨W.heap.size + 1, 1, none⟩ = some (.pointer (some ⟨q1, 0, none⟩)) := fun w2 b => by
              have := CX w2 (hmo w2 (BN.out.trans (b.out.mono BN.out.size)))
              exact ⟨this.1, this.2.1⟩
            have LT : ∀ w2, Hid (Below w1.heap.size w1 w2) → Calls Try.prog 19 #[.pointer (some ⟨q1, 0, none⟩)] w2 fun e w' => ∃ A C, e = .returned (.slice A sl.length C) ∧ (Calls Try.prog 26 #[.slice A3 sl.length C3, .slice A sl.length C] w' fun e w3 => e = .returned (.bool true) ∧ Hid (Below w1.heap.size w1 w3)) ∧ Hid (Below w1.heap.size w1 w') := fun w2 b => by
              refine (List_d ((E1.below BN.out).below b.out)).mono ?_
              rw [← HA.out.list, ← hsl]
              rintro e w' ⟨v, rfl, ow, b2⟩
              obtain ⟨A, C, rfl, _⟩ := id ow.rd.form
              have hb := b.out.trans (b2.mono b.out.size)
              refine ⟨A, C, rfl, (Texts_is _ _ sl sl w' (ON.out.below hb).rd ow.rd (by omega) (by omega)).mono ?_, hid hb⟩
              rintro e w3 ⟨rfl, b3⟩
              exact ⟨by simp, hid (hb.trans (b3.mono hb.size))⟩
            have UU : ∀ q, Hid (q = q0 ∨ q = q1) → ∀ w2, Hid (Below w1.heap.size w1 w2) → Calls Try.prog 20 #[.pointer (some ⟨q, 0, none⟩)] w2 fun e w' => e = .returned (.int .i64 (un : Nat)) ∧ Hid (Below w1.heap.size w1 w') := fun q hq w2 b => by
              rcases hq.out with rfl | rfl
              · refine (Used_d ((E0.below BN.out).below b.out)).mono ?_
                rw [hun]
                rintro e w' ⟨rfl, b2⟩
                exact ⟨rfl, hid (b.out.trans (b2.mono b.out.size))⟩
              · refine (Used_d ((E1.below BN.out).below b.out)).mono ?_
                rw [← HA.out.used, hun]
                rintro e w' ⟨rfl, b2⟩
                exact ⟨rfl, hid (b.out.trans (b2.mono b.out.size))⟩
            have P0 : ∀ nm, Hid (nm ∈ sl) → ∀ w2, Hid (Below w1.heap.size w1 w2) → Calls Try.prog 11 #[.pointer (some ⟨q0, 0, none⟩), .string nm] w2 fun e w' => ∃ A C L, e = .returned (.tuple #[.slice A L C, .int .i64 0]) ∧ Hid (KB.Own w' w2.heap.size (.slice A L C) (rb nm) ∧ L = (rb nm).length) ∧ Hid (Below w1.heap.size w1 w') ∧ Hid (Below w2.heap.size w2 w') := fun nm hm w2 b => by
              refine (Read_d ((E0.below BN.out).below b.out) nm (hsz nm hm.out)).mono ?_
              rw [hrd nm hm.out]
              rintro e w' ⟨A, C, rfl, ow, b2⟩
              exact ⟨A, C, _, rfl, hid ⟨ow, rfl⟩, hid (b.out.trans (b2.mono b.out.size)), hid b2⟩
            have P1 : ∀ nm, Hid (nm ∈ sl) → ∀ w2, Hid (Below w1.heap.size w1 w2) → Calls Try.prog 11 #[.pointer (some ⟨q1, 0, none⟩), .string nm] w2 fun e w' => ∃ A C L, e = .returned (.tuple #[.slice A L C, .int .i64 0]) ∧ Hid (KB.Own w' w2.heap.size (.slice A L C) (rb nm) ∧ L = (rb nm).length) ∧ Hid (Below w1.heap.size w1 w') ∧ Hid (Below w2.heap.size w2 w') := fun nm hm w2 b => by
              refine (Read_d ((E1.below BN.out).below b.out) nm (hsz nm hm.out)).mono ?_
              rw [← HA.out.read, hrd nm hm.out]
              rintro e w' ⟨A, C, rfl, ow, b2⟩
              exact ⟨A, C, _, rfl, hid ⟨ow, rfl⟩, hid (b.out.trans (b2.mono b.out.size)), hid b2⟩
            clear E0 E1 hrd hsz hun hsl hslb
            have hbb : Hid (Below w1.heap.size w1 w1.drew) := hid ⟨rfl, rfl, rfl, Nat.le_refl _, fun _ _ => rfl⟩
            have hk0 := KK w1 (hid (Below.refl _ _))
            have hkk := KK w1.drew hbb
            have P0 := hid P0
            have P1 := hid P1
            go_region_held3 (fun w' => w'.cell? ⟨W.heap.size + 1, 0, none⟩ = some (.pointer (some ⟨q0, 0, none⟩)) ∧ w'.cell? ⟨W.heap.size + 1, 1, none⟩ = some (.pointer (some ⟨q1, 0, none⟩))) (first | exact hkk | exact hk0) (first
              | (go_at_call 19; with_reducible refine (LT _ hbb).mono ?_; rintro e2 w2 ⟨A5, C5, rfl, hTx, hbb⟩; have hkk := KK _ hbb; clear LT)
              | (go_at_call 26; with_reducible refine hTx.mono ?_; rintro e3 w3 ⟨rfl, hbb⟩; have hkk := KK _ hbb; clear hTx)
              | (go_at_call 20; with_reducible refine (UU _ (by first | exact hid (.inl rfl) | exact hid (.inr rfl)) _ hbb).mono ?_; rintro e4 w4 ⟨rfl, hbb⟩; have hkk := KK _ hbb))
            go_wp2
            go_loopw [14] (fun jv wr => ∃ j : Nat, jv = .int .i64 j ∧ j ≤ sl.length ∧ Hid (Below w1.heap.size w1 wr)) (fun jv _ => sl.length - (intOf jv).toNat)
            case atStart => exact ⟨0, rfl, by omega, hbb⟩
            case round =>
              obtain ⟨j, rfl, hj, HBj⟩ := hrel
              clear hkk hk0 hbb
              by_cases hLt2 : j < sl.length
              · have hjl : (j : Int) < (sl.length : Int) := by omega
                obtain ⟨nm, hnm⟩ : ∃ nm, sl[j]'hLt2 = nm := ⟨_, rfl⟩
                have hnmm : Hid (nm ∈ sl) := hid (by rw [← hnm]; exact List.getElem_mem hLt2)
                obtain ⟨b3, off3, hA3, hlt3, hc3⟩ := ON.out.rd.at hLt2
                rw [hnm] at hc3
                subst hA3
                have KN : ∀ w2, Hid (Below w1.heap.size w1 w2) → w2.cell? ⟨W.heap.size + 1, 0, none⟩ = some (.pointer (some ⟨q0, 0, none⟩)) ∧ w2.cell? ⟨W.heap.size + 1, 1, none⟩ = some (.pointer (some ⟨q1, 0, none⟩)) ∧ w2.cell? ⟨b3, off3 + j, none⟩ = some (.string nm) := fun w2 b => by
                  have := KK w2 b
                  have d1 := (b.out.cell (p := ⟨b3, off3 + (j * KS.z + 0), none⟩) hlt3).trans (hc3 0 (.string nm) (by decide) rfl)
                  rw [Nat.add_zero, show KS.z = 1 from rfl, Nat.mul_one] at d1
                  exact ⟨this.1, this.2, d1⟩
                have HL2 := hid hLt2
                have hslb := HSB.out
                have R0 := P0.out nm hnmm
                have R1 := P1.out nm hnmm
                have hbb : Hid (Below w1.heap.size w1 wr.drew) := hid (HBj.out.trans ⟨rfl, rfl, rfl, Nat.le_refl _, fun _ _ => rfl⟩)
                have hk0 := KN wr HBj
                have hkk := KN wr.drew hbb
                clear hnm hnmm hc3 hLt2 hlt3
                go_wp2
                go_region_held3 (fun w' => w'.cell? ⟨W.heap.size + 1, 0, none⟩ = some (.pointer (some ⟨q0, 0, none⟩)) ∧ w'.cell? ⟨W.heap.size + 1, 1, none⟩ = some (.pointer (some ⟨q1, 0, none⟩)) ∧ w'.cell? ⟨b3, off3 + j, none⟩ = some (.string nm)) (first | exact hkk | exact hk0) (first
                  | (go_at_call 11; with_reducible refine (R0 _ hbb).mono ?_; rintro e2 w2 ⟨A5, C5, L5, rfl, OX, hbb, _⟩; have hkk := KN _ hbb; clear R0))
                have hbb2 : Hid (Below w1.heap.size w1 w2.drew) := hid (hbb.out.trans ⟨rfl, rfl, rfl, Nat.le_refl _, fun _ _ => rfl⟩)
                have hkk2 := KN w2.drew hbb2
                go_wp2
                go_region_held3 (fun w' => w'.cell? ⟨W.heap.size + 1, 0, none⟩ = some (.pointer (some ⟨q0, 0, none⟩)) ∧ w'.cell? ⟨W.heap.size + 1, 1, none⟩ = some (.pointer (some ⟨q1, 0, none⟩)) ∧ w'.cell? ⟨b3, off3 + j, none⟩ = some (.string nm)) (first | exact hkk3 | exact hkk2 | exact hkk) (first
                  | (go_at_call 11; with_reducible refine (R1 _ hbb2).mono ?_; rintro e3 w3 ⟨A6, C6, L6, rfl, OY, hbb3, HXB⟩; have hkk3 := KN _ hbb3; clear R1))
                have cvx := conv_kb (OX.out.1.below ((⟨rfl, rfl, rfl, Nat.le_refl _, fun _ _ => rfl⟩ : Below w2.heap.size w2 w2.drew).trans HXB.out)).rd
                have cvy := conv_kb OY.out.1.rd
                go_wp2_with (go_at_call 12; refine (num_is _ _).mono ?_; rintro e w0 ⟨rfl, hw0⟩; have hw0 := hw0.symm; subst hw0)
                go_roundw
                case rel => exact ⟨j + 1, by go_num, HL2.out, hbb3⟩
                case measure => have := HL2.out; simp [intOf]; omega
              · have hjl : ¬ (j : Int) < (sl.length : Int) := by omega
                have hbw := BN.out.trans (HBj.out.mono BN.out.size)
                have TW := hid (HTW.out.below hbw)
                have BTW := hid (hmo wr hbw)
                obtain ⟨a0, a1, d0, d1, d2, d3, d4, d5, d6⟩ := CX wr BTW.out
                have AC : Hid (AgrD (crashM M0 o.ks) (crashM M1 o.ks)) := hid (by rw [HA.out.crash]; exact AgrD.selfD rfl)
                have C0 := PCR wr M0 M1 TW BTW
                clear hbw PCR KK UU
                go_wp2_with (first
                  | (go_at_call 10; with_reducible refine C0.mono ?_; rintro e w8 ⟨rfl, T8, B8⟩; have C1 := PCR1 w8 _ _ T8 B8; obtain ⟨a0, a1, d0, d1, d2, d3, d4, d5, d6⟩ := CX w8 B8.out; clear C0)
                  | (go_at_call 10; with_reducible refine C1.mono ?_; rintro e w9 ⟨rfl, T9, B9⟩; clear C1))
                go_roundw
                case rel => exact ⟨t + 1, _, _, by go_num, HLt.out, AC, T9, B9⟩
                case measure => have := HLt.out; simp [intOf]; omega
          · have htl : ¬ (t : Int) < 2 := by omega
            go_wp2
            go_ret
            exact ⟨rfl, HBW.out _ HBt.out⟩
end Go.Proofs.Ytjpneohachkheaa
