/-
  PlannerEnds where the list is fine: the walk. Conditions: the list is no longer than 60; a number is one that an int holds.
-/
import Derived.Test.YtoomhfjmcdbgkaaNkn
import Derived.Test.YtoomhfjmcdbgkaaNwi
import Derived.Test.YtoomhfjmcdbgkaaNjy
import Derived.Test.YtoomhfjmcdbgkaaNe1
namespace Go.Proofs.Ytoomhfjmcdbgkaa
open Go.RowKit Go.Icz
set_option maxRecDepth 100000 in
set_option maxHeartbeats 16000000 in
theorem ends_good (v : Value) (l : List MV) (f mb keep now : Int) (W : World) (hR : KRm.Rd W v l) (hwf : ∀ x ∈ l, wfI x.id) (hn : now ≤ 9223372036854775807) (hf : fineM l = true) (h60 : l.length ≤ 60) :
    Calls Try.prog 7 #[v, rulesV f mb keep, .int .i64 now] W fun e w' => e = .returned (.bool true) ∧ Below W.heap.size W w' := by
  have hlen : l.length ≤ 1099511627776 := by omega
  have b0 : Below W.heap.size W (W.alloc (.cells #[.int .i64 f, .int .i64 mb, .int .i64 keep] 55)) := (Below.refl _ W).alloc (Nat.le_refl _) _
  have r0 := box_row W #[.int .i64 f, .int .i64 mb, .int .i64 keep] 55
  have cList := List_is v l _ (hR.below b0) hlen
  have cF := fun u w1 (h : KMet.Rd w1 u l) => Fine_is u l w1 h hlen hwf
  rw [hf] at cF
  have HFT := hid (fine_iff.1 hf)
  have hmk : ∀ w, (Instr.makeMap 65 none).run Try.prog w = .ok (.map (some w.heap.size)) (w.alloc (.map #[] 0)) := fun _ => rfl
  have cRl := fun w1 => rules_is f mb keep w1
  unfold rulesV at cRl ⊢
  have h6 : ¬ (60 : Int) < (l.length : Int) := by omega
  obtain ⟨A, c, rfl, _⟩ := hR.form
  clear hR hwf hf
  go_enter Try.func7, Try.ntmps7
  go_wp2_with (first
    | (go_at_call 10; go_loud (refine cList.mono ?_; rintro e wx ⟨ux, rfl, ox, bx⟩; have rx := ox.rd; obtain ⟨Ax, cx, rfl, _⟩ := rx.form; have hb := b0.trans (bx.mono b0.size); have r0x := (Tch.of_below bx (S := fun _ => False)).row r0 (fun h => h); clear cList r0))
    | (go_at_call 13; go_loud (refine (cF _ _ rx).mono ?_; rintro e Wb ⟨rfl, bf⟩; have hbb := hb.trans (bf.mono hb.size); have r0b := (Tch.of_below bf (S := fun _ => False)).row r0x (fun h => h); have oxb := ox.below bf; rw [World.size_alloc] at oxb; clear cF rx ox r0x)))
  go_loopw [8, 9, 10] (fun rv nv iv wr => ∃ (i : Nat) (M : List MV) (z : Int), rv = .int .i64 z ∧ nv = .int .i64 ((i : Int) + 1) ∧ iv = .int .i64 i ∧ i ≤ l.length ∧ Hid (z = sumR ((prepM 0 l).take i)) ∧ Hid (PM l i M) ∧ KMet.Own wr (W.heap.size + 1) (.slice Ax l.length cx) M ∧ wr.heap[W.heap.size]? = some (.cells #[.int .i64 f, .int .i64 mb, .int .i64 keep] 55 (0, 0)) ∧ Below W.heap.size W wr) (fun _ _ iv _ => l.length - (intOf iv).toNat)
  case atStart => exact ⟨0, l, 0, rfl, rfl, rfl, by omega, hid (by simp [sumR]), hid (PM.start l), oxb, r0b, hbb⟩
  case round =>
    obtain ⟨i, M, z, rfl, rfl, rfl, hi, HZ, HP, ho, hr0, hbw⟩ := hrel
    clear oxb r0b hbb
    by_cases hLt : i < l.length
    · have hiM : i < M.length := by rw [HP.out.1]; exact hLt
      obtain ⟨g, cap, e, hg, hglt, hfr, hm⟩ := own_form ho (by intro e; subst e; simp at hiM)
      injection e with e1 e2 e3
      subst e1
      subst e3
      obtain ⟨q0, q1, q2, q3, q4, q5, q6, q7⟩ := hm i hiM
      have f0 := hfr (i * 8)
      have f5 := hfr (i * 8 + 5)
      have f6 := hfr (i * 8 + 6)
      have P1 := own_put3 ho i hiM (1 + M[i].rows % 1000) (M[i].bytes % 10000) ((i : Int) + 1)
      have HN := hid (HP.out.next hLt hiM)
      have hcur := HP.out.cur hLt hiM
      have hz := sumR_prep hLt
      have hrt := rt_iff.1 (HFT.out.1 _ (List.getElem_mem hLt))
      rw [← hcur] at hrt hz
      have hil : (i : Int) < (l.length : Int) := by omega
      have HL := hid hLt
      have hsB := (prepM_sums l 0).1
      have hsz := sumR_take (l := prepM 0 l) (fun y hy => rt_iff.1 ((EnI.start HFT.out h60).fin.1 y hy)) i
      have HSZ := hid hz
      have hzz := HZ.out
      have hz1 := hsz.1
      have hz2 : sumR ((prepM 0 l).take i) + (1 + M[i].rows % 1000) ≤ 70000 := by have := hsz.2; have := Int.emod_lt_of_pos M[i].rows (show (0 : Int) < 1000 by omega); omega
      rw [← hzz] at hsz hz1 hz2
      have t5 := Int.tmod_eq_emod_of_nonneg (a := M[i].rows) (b := 1000) (by have := hrt.ro1; omega)
      have t6 := Int.tmod_eq_emod_of_nonneg (a := M[i].bytes) (b := 10000) hrt.by1
      have hrow := hrt.ro1
      have hby := hrt.by1
      have tt : ∀ (p1 p2 p3 : Nat) (u1 u2 u3 : Value), Tch (· = g) wr (((wr.setCell ⟨g, p1, none⟩ u1).setCell ⟨g, p2, none⟩ u2).setCell ⟨g, p3, none⟩ u3) := fun p1 p2 p3 u1 u2 u3 => ((Tch.set (· = g) wr ⟨g, p1, none⟩ u1 rfl).trans (Tch.set _ _ ⟨g, p2, none⟩ u2 rfl)).trans (Tch.set _ _ ⟨g, p3, none⟩ u3 rfl)
      clear hcur hm hfr ho HP hrt hz hzz hsB
      generalize M.set i (put3 M[i] (1 + M[i].rows % 1000) (M[i].bytes % 10000) ((i : Int) + 1)) = M2 at *
      generalize M[i] = y at *
      go_wp2
      go_roundw
      case rel => exact ⟨i + 1, M2, _, rfl, by go_num, by go_num, HL.out, hid (by rw [HSZ.out, ← HZ.out]), HN, P1, (tt _ _ _ _ _ _).row hr0 (by show ¬ W.heap.size = g; omega), Tch.below hbw (tt _ _ _ _ _ _) (fun j (e : j = _) => (show W.heap.size ≤ j by omega)) hbw.size⟩
      case measure => have := HL.out; simp [intOf]; omega
    · have hil : ¬ (i : Int) < (l.length : Int) := by omega
      have hM := HP.out.done (by omega)
      have EI := EnI.start HFT.out h60
      subst hM
      have hz := HZ.out
      rw [List.take_of_length_le (by rw [prepM_len]; omega)] at hz
      have hnx : (i : Int) + 1 = (l.length : Int) + 1 := by omega
      rw [hnx]
      have HH : (prepM 0 l).length = l.length := prepM_len 0 l
      generalize hX : prepM 0 l = X at *
      clear HP HZ hX hLt hnx hi
      have EI' := hid EI
      clear EI HFT
      rw [← HH] at ho
      go_wp2
      go_loopw [7, 9, 11] (fun sv nv tv wr => ∃ (t : Nat) (x : List MV) (nx : Int) (Ay : Option Addr) (cy : Nat), sv = .slice Ay x.length cy ∧ nv = .int .i64 nx ∧ tv = .int .i64 t ∧ x.length + t ≤ l.length ∧ nx ≤ (l.length : Int) + 1 + t ∧ Hid (EnI x nx z) ∧ KMet.Own wr (W.heap.size + 1) (.slice Ay x.length cy) x ∧ wr.heap[W.heap.size]? = some (.cells #[.int .i64 f, .int .i64 mb, .int .i64 keep] 55 (0, 0)) ∧ Below W.heap.size W wr) (fun _ _ tv _ => l.length + 1 - (intOf tv).toNat)
      case atStart => exact ⟨0, X, _, _, _, by rw [HH], rfl, rfl, by omega, by omega, hid (by rw [hz]; exact EI'.out), ho, hr0, hbw⟩
      case round =>
        obtain ⟨t, x, nx, Ay, cy, rfl, rfl, rfl, hxt, hnxb, HE, ho, hr0, hbw⟩ := hrel
        have htl : (t : Int) ≤ (l.length : Int) := by omega
        have hxl : x.length ≤ 1099511627776 := by omega
        have hwx : ∀ y ∈ x, wfI y.id := fun y hy => by
          have h1 := HE.out.ids y hy
          have h2 := (rt_iff.1 (HE.out.fin.1 y hy)).id1
          exact wfI_small (by omega) (by omega)
        have cP := fun w1 (h : KMet.Rd w1 (.slice Ay x.length cy) x) => Pack_is _ x f mb keep now w1 h hxl hwx hn
        unfold rulesV at cP
        have k0 := held_cell (i := 0) hr0 rfl
        have k1 := held_cell (i := 1) hr0 rfl
        have k2 := held_cell (i := 2) hr0 rfl
        have rx := ho.rd
        clear hwx
        go_wp2_with (first
          | (go_at_call 32; go_loud (refine (cRl _).mono ?_; rintro e w1 ⟨rfl, b1⟩; have hb1 := hbw.trans (b1.mono hbw.size); have rx1 := rx.below b1; have ho1 := ho.below b1; have hr1 := (Tch.of_below b1 (S := fun _ => False)).row hr0 (fun h => h); clear rx))
          | (go_at_call 31; go_loud (refine (cP _ rx1).mono ?_; rintro e w2 ⟨a, hPO, up, rfl, op, b2⟩; have hb2 := hb1.trans (b2.mono hb1.size); have ho2 := ho1.below b2; have hr2 := (Tch.of_below b2 (S := fun _ => False)).row hr1 (fun h => h); have HPO := hid hPO; obtain ⟨Ap, cp, rfl, _⟩ := op.rd.form; clear cP hPO ho1 hr1 rx1)))
        · have ROW := hid (met_row (K := KMet) rfl rfl ho2.rd)
          have HR : Hid (∀ y ∈ x, RtM y) := hid (fun y hy => rt_iff.1 (HE.out.fin.1 y hy))
          have hrs := HE.out.rows
          have hle := HE.out.rs
          clear op ho2 hr2 HE HPO
          go_wp2
          go_loopw [13, 14] (fun sv iv wr => ∃ (i : Nat) (q : Int), sv = .int .i64 q ∧ iv = .int .i64 i ∧ i ≤ x.length ∧ Hid (q = sumR (x.take i)) ∧ Below w2.heap.size w2 wr) (fun _ iv _ => x.length - (intOf iv).toNat)
          case atStart => exact ⟨0, 0, rfl, rfl, by omega, hid (by simp [sumR]), Below.refl _ _⟩
          case round =>
            obtain ⟨i2, q, rfl, rfl, hi2, HQ, hw⟩ := hrel
            have hz1 := sumR_take HR.out i2
            by_cases hLt2 : i2 < x.length
            · obtain ⟨b, off, hA, hb3, hc⟩ := ROW.out i2 hLt2
              subst hA
              obtain ⟨q0, q1, q2, q3, q4, q5, q6, q7⟩ := hc wr hw
              have hil2 : (i2 : Int) < (x.length : Int) := by omega
              have hz2 := sumR_take HR.out (i2 + 1)
              have hz3 : sumR (x.take (i2 + 1)) = sumR (x.take i2) + x[i2].rows := by rw [List.take_succ_eq_append_getElem hLt2, sumR_app, sumR_one]
              have hq := HQ.out
              have hz4 : 0 ≤ q + x[i2].rows ∧ q + x[i2].rows ≤ 60000 := by omega
              have HZ3 := hid hz3
              have HL := hid hLt2
              clear hc hz1 hz2 hz3
              generalize x[i2] = y at *
              go_wp2
              go_roundw
              case rel => exact ⟨i2 + 1, _, rfl, by go_num, HL.out, hid (by rw [HZ3.out, ← HQ.out]), hw⟩
              case measure => have := HL.out; simp [intOf]; omega
            · have hil2 : ¬ (i2 : Int) < (x.length : Int) := by omega
              have hq := HQ.out
              rw [List.take_of_length_le (by omega), hrs] at hq
              subst hq
              have hbw2 := hb2.trans (hw.mono hb2.size)
              go_wp2_with (go_at_call 22; go_loud (refine (knows_is _).mono ?_; rintro e w9 ⟨rfl, b9⟩; have hb9 := hbw2.trans (b9.mono hbw2.size)))
              go_ret
              exact ⟨rfl, hb9⟩
        · have hb0 := ‹((((idsM a).length : Nat) : Int) == 0) = false›
          have hla : a ≠ [] := by rintro rfl; exact absurd hb0 (by decide)
          have HS := hid (HE.out.step (by omega) HPO.out hla)
          have hfacts := HPO.out.facts HE.out.fin
          have hwa : ∀ k ∈ idsM a, wfI k := fun k hk => by
            obtain ⟨y, hy, rfl⟩ := List.mem_map.1 hk
            have h3 := rt_iff.1 (HE.out.fin.1 y (hfacts.mem y hy).1)
            exact wfI_small (by have := h3.id1; omega) (by have := h3.id2; omega)
          have hla2 : (idsM a).length ≤ 60 := by
            obtain ⟨_, _, e2, _, _, e5⟩ := HS.out
            have := List.length_filter_le (fun y => decide (y.id ∈ idsM a)) x
            unfold someM at e2
            unfold idsM at *
            rw [List.length_map]
            omega
          have HLA : Hid ((idsM a).length = a.length) := hid (by unfold idsM; rw [List.length_map])
          have HID := hid (fun y (hy : y ∈ x) => (⟨(rt_iff.1 (HE.out.fin.1 y hy)).id1, (rt_iff.1 (HE.out.fin.1 y hy)).id2⟩ : 1 ≤ y.id ∧ y.id < 1099511627776))
          have ROW := hid (met_row (K := KMet) rfl rfl ho2.rd)
          have M1 := MBf.made w2
          have ba := (Below.refl w2.heap.size w2).alloc (Nat.le_refl _) (.map #[] 0)
          have hop := op.rd
          clear op hfacts HPO
          generalize hP : idsM a = P at *
          have HWA := hid hwa
          clear hwa
          go_wp2
          go_loopw [16] (fun iv wr => ∃ i n : Nat, iv = .int .i64 i ∧ i ≤ P.length ∧ n ≤ i ∧ MBf wr w2.heap.size n (inA P i) ∧ Below w2.heap.size w2 wr) (fun iv _ => P.length - (intOf iv).toNat)
          case atStart => exact ⟨0, 0, rfl, by omega, by omega, (by rw [inA_zero]; exact M1), ba⟩
          case round =>
            obtain ⟨i2, n, rfl, hi2, hni, M1, hw⟩ := hrel
            by_cases hLt2 : i2 < P.length
            · obtain ⟨bb, oa, hA, hba, hca⟩ := KInt_at (hop.below hw) hLt2
              subst hA
              have hil2 : (i2 : Int) < (P.length : Int) := by omega
              have hwx := HWA.out _ (List.getElem_mem hLt2)
              have HN := hid (inA_next hLt2)
              have HL := hid hLt2
              obtain ⟨w6, hst, s6, t6⟩ := M1.store P[i2] true hwx (by unfold maxLen; omega)
              have hb6 := Tch.below hw t6 (fun j (e : j = _) => (show w2.heap.size ≤ j by omega)) hw.size
              generalize P[i2] = q at *
              clear M1
              go_wp2
              go_roundw
              case rel => exact ⟨i2 + 1, n + 1, by go_num, HL.out, by omega, by have h9 := s6; rw [HN.out] at h9; exact h9, hb6⟩
              case measure => have := HL.out; simp [intOf]; omega
            · have hil2 : ¬ (i2 : Int) < (P.length : Int) := by omega
              have hA1 := inA_all (L := P) (i := i2) (by omega)
              rw [hA1] at M1
              clear hA1
              go_wp2
              have hmp : w2.heap.size < wr.heap.size := M1.lt
              generalize hwo : wr = wo at *
              clear hwo
              go_loopw [17, 18, 19] (fun sv lv iv wr => ∃ (i : Nat) (S L : List MV), iv = .int .i64 i ∧ i ≤ x.length ∧ Hid (S = someM (x.take i) P) ∧ Hid (L = leftM (x.take i) P) ∧ S.length + L.length ≤ i ∧ MBf wr w2.heap.size n (fun k => decide (k ∈ P)) ∧ KMet.Own wr wo.heap.size sv S ∧ KMet.Own wr wo.heap.size lv L ∧ (S = [] → sv = .slice none 0 0) ∧ (L = [] → lv = .slice none 0 0) ∧ Below w2.heap.size w2 wr ∧ wo.heap.size ≤ wr.heap.size) (fun _ _ iv _ => x.length - (intOf iv).toNat)
              case atStart => exact ⟨0, [], [], rfl, by omega, hid rfl, hid rfl, by simp, M1, Kd.Own.nil _ _, Kd.Own.nil _ _, fun _ => rfl, fun _ => rfl, hw, Nat.le_refl _⟩
              case round =>
                obtain ⟨i3, S, L, rfl, hi3, HS3, HL3, hSL, M1, hoS, hoL, nS, nL, hw3, hz3⟩ := hrel
                obtain ⟨As, cs, rfl, _⟩ := hoS.rd.form
                obtain ⟨Al, cl, rfl, _⟩ := hoL.rd.form
                have hsep := own_sep hoS hoL nS nL (fun y hy z hz e => by
                  rw [HS3.out] at hy
                  rw [HL3.out] at hz
                  unfold someM at hy
                  unfold leftM at hz
                  have h1 := (List.mem_filter.1 hy).2
                  have h2 := (List.mem_filter.1 hz).2
                  rw [e] at h1
                  rw [h1] at h2
                  cases h2)
                by_cases hLt3 : i3 < x.length
                · obtain ⟨bb, off, hA, hb3, hc⟩ := ROW.out i3 hLt3
                  subst hA
                  obtain ⟨q0, q1, q2, q3, q4, q5, q6, q7⟩ := hc wr hw3
                  have hil3 : (i3 : Int) < (x.length : Int) := by omega
                  have hid3 := HID.out _ (List.getElem_mem hLt3)
                  have hwx : wfI x[i3].id := wfI_small (by omega) (by omega)
                  have lk1 := M1.look x[i3].id hwx
                  have HNS : Hid (someM (x.take (i3 + 1)) P = S ++ (if decide (x[i3].id ∈ P) = true then [x[i3]] else [])) := hid (by rw [HS3.out, List.take_succ_eq_append_getElem hLt3]; unfold someM; rw [List.filter_append, List.filter_cons, List.filter_nil])
                  have HNL : Hid (leftM (x.take (i3 + 1)) P = L ++ (if (!decide (x[i3].id ∈ P)) = true then [x[i3]] else [])) := hid (by rw [HL3.out, List.take_succ_eq_append_getElem hLt3]; unfold leftM; rw [List.filter_append, List.filter_cons, List.filter_nil])
                  have HI := hid hLt3
                  have hmmS : S.length + 1 ≤ maxLen := by unfold maxLen; omega
                  have hmlS : (S.length + 1) * 64 ≤ 140737488355328 := by omega
                  have hmmL : L.length + 1 ≤ maxLen := by unfold maxLen; omega
                  have hmlL : (L.length + 1) * 64 ≤ 140737488355328 := by omega
                  clear hc HS3 HL3
                  generalize x[i3] = y at *
                  generalize hdd : decide (y.id ∈ P) = dd at *
                  clear hdd
                  cases dd
                  · go_wp2_with (at_builtin; refine Kd.wp_app1 (K := KMet) rfl (.tmp 140) (.tmp 145) 25 rfl Try.underlying25 infoMet rfl wo.heap.size _ L y rfl hoL rfl rfl rfl hmmL hmlL hz3 ?_; intro v5 w5 o5 b5 g5 n5)
                    have HNS2 := HNS.out
                    have HNL2 := HNL.out
                    rw [if_neg (by decide), List.append_nil] at HNS2
                    rw [if_pos (by decide)] at HNL2
                    have HA := hid HNS2
                    have HB := hid HNL2
                    clear HNS2 HNL2
                    obtain ⟨A5, c5, rfl, _⟩ := o5.rd.form
                    go_roundw
                    case rel => exact ⟨i3 + 1, S, L ++ [y], by go_num, HI.out, hid HA.out.symm, hid HB.out.symm, by rw [List.length_append, List.length_singleton]; omega, (M1.touch (Tch.alloc (fun _ => False) wr _) (fun h => h)).touch (Tch.grown g5 (S := fun k => (Value.slice Al L.length cl).ownBlock = some k) (fun k e => e)) (fun e => by have := (hoL.lt _ e).1; omega), (hoS.alloc _).touch (Tch.grown g5 (S := fun k => (Value.slice Al L.length cl).ownBlock = some k) (fun k e => e)) (fun j e h => hsep j h e), o5, nS, (fun e => absurd e (by simp)), hw3.trans (b5.mono (by omega)), Nat.le_trans hz3 b5.size⟩
                    case measure => have := HI.out; simp [intOf]; omega
                  · go_wp2_with (at_builtin; refine Kd.wp_app1 (K := KMet) rfl (.tmp 133) (.tmp 138) 25 rfl Try.underlying25 infoMet rfl wo.heap.size _ S y rfl hoS rfl rfl rfl hmmS hmlS hz3 ?_; intro v5 w5 o5 b5 g5 n5)
                    have HNS2 := HNS.out
                    have HNL2 := HNL.out
                    rw [if_neg (by decide), List.append_nil] at HNL2
                    rw [if_pos (by decide)] at HNS2
                    have HA := hid HNS2
                    have HB := hid HNL2
                    clear HNS2 HNL2
                    obtain ⟨A5, c5, rfl, _⟩ := o5.rd.form
                    go_roundw
                    case rel => exact ⟨i3 + 1, S ++ [y], L, by go_num, HI.out, hid HA.out.symm, hid HB.out.symm, by rw [List.length_append, List.length_singleton]; omega, (M1.touch (Tch.alloc (fun _ => False) wr _) (fun h => h)).touch (Tch.grown g5 (S := fun k => (Value.slice As S.length cs).ownBlock = some k) (fun k e => e)) (fun e => by have := (hoS.lt _ e).1; omega), o5, (hoL.alloc _).touch (Tch.grown g5 (S := fun k => (Value.slice As S.length cs).ownBlock = some k) (fun k e => e)) (fun j e h => hsep j e h), (fun e => absurd e (by simp)), nL, hw3.trans (b5.mono (by omega)), Nat.le_trans hz3 b5.size⟩
                    case measure => have := HI.out; simp [intOf]; omega
                · have hil3 : ¬ (i3 : Int) < (x.length : Int) := by omega
                  have eS := HS3.out
                  have eL := HL3.out
                  rw [List.take_of_length_le (by omega)] at eS eL
                  obtain ⟨M, hJ, hl1, hl2, hE2, hl3⟩ := HS.out
                  rw [← eS] at hJ hl1
                  rw [← eL] at hE2 hl3
                  have hSx : ∀ y ∈ S, wfI y.id := fun y hy => by
                    rw [eS] at hy
                    have h3 := HID.out y (List.mem_filter.1 hy).1
                    exact wfI_small (by omega) (by omega)
                  have cJ := Joined_is _ S nx wr hoS.rd (by omega) hSx
                  rw [hJ] at cJ
                  unfold JoinOut metaV at cJ
                  simp only at cJ
                  have hPl := HLA.out
                  have hSP : (S.length : Int) = f := by omega
                  have hSP2 : (S.length : Int) = (P.length : Int) := by omega
                  have hmmL : L.length + 1 ≤ maxLen := by unfold maxLen; omega
                  have hmlL : (L.length + 1) * 64 ≤ 140737488355328 := by omega
                  have hr3 := (Tch.of_below hw3 (S := fun _ => False)).row hr2 (fun h => h)
                  have hnx1 := HE.out.nx
                  have hW2 : W.heap.size < w2.heap.size := row_lt hr2
                  have HSP := hid hSP
                  have HSP2 := hid hSP2
                  have hc1 : (((S.length : Nat) : Int) == f) = true := beq_iff_eq.2 hSP
                  have hc2 : (((S.length : Nat) : Int) == ((P.length : Nat) : Int)) = true := beq_iff_eq.2 hSP2
                  clear hSP hSP2 hPl hl1 hl2 hla2
                  have HE2 := hid hE2
                  have HL3' := hid hl3
                  clear HS hE2 hl3 eS eL HS3 HL3 hJ hSx hsep nS nL M1 hSL
                  go_wp2_with (first
                    | (go_at_call 29; go_loud (refine cJ.mono ?_; rintro e wj ⟨rfl, bj⟩; have hwj := hw3.trans (bj.mono hw3.size); have hoLj := (hoL.below bj).alloc (.cells #[.int .i64 M.id, .int .i64 M.least, .int .i64 M.most, .int .i64 M.first, .int .i64 M.last, .int .i64 M.rows, .int .i64 M.bytes, .int .i64 M.level] 28); have hrj := row_alloc ((Tch.of_below bj (S := fun _ => False)).row hr3 (fun h => h)) (.cells #[.int .i64 M.id, .int .i64 M.least, .int .i64 M.most, .int .i64 M.first, .int .i64 M.last, .int .i64 M.rows, .int .i64 M.bytes, .int .i64 M.level] 28); have k0 := held_cell (i := 0) hrj rfl; have hbj := hwj.alloc hwj.size (.cells #[.int .i64 M.id, .int .i64 M.least, .int .i64 M.most, .int .i64 M.first, .int .i64 M.last, .int .i64 M.rows, .int .i64 M.bytes, .int .i64 M.level] 28); obtain ⟨p0, p1, p2, p3, p4, p5, p6, p7⟩ := Mc.of_row (box_row wj #[.int .i64 M.id, .int .i64 M.least, .int .i64 M.most, .int .i64 M.first, .int .i64 M.last, .int .i64 M.rows, .int .i64 M.bytes, .int .i64 M.level] 28); rw [Nat.zero_add] at p1 p2 p3 p4 p5 p6 p7; have hzj : wo.heap.size ≤ (wj.alloc (.cells #[.int .i64 M.id, .int .i64 M.least, .int .i64 M.most, .int .i64 M.first, .int .i64 M.last, .int .i64 M.rows, .int .i64 M.bytes, .int .i64 M.level] 28)).heap.size := Nat.le_trans hz3 (Nat.le_trans bj.size (by rw [World.size_alloc]; omega)); clear cJ hoL hoS))
                    | (at_builtin; go_loud (refine Kd.wp_app1 (K := KMet) rfl (.tmp 171) (.tmp 173) 25 rfl Try.underlying25 infoMet rfl wo.heap.size _ L M rfl hoLj (World.size_alloc _ _) rfl rfl hmmL hmlL hzj ?_; intro v5 w5 o5 b5 g5 n5)))
                  obtain ⟨A5, c5, rfl, _⟩ := o5.rd.form
                  go_roundw
                  case rel => exact ⟨t + 1, L ++ [M], nx + 1, A5, c5, rfl, by go_num, by go_num, by have := HL3'.out; omega, by omega, hid HE2.out, o5.mono (by omega), (Tch.grown g5 (S := fun k => (Value.slice Al L.length cl).ownBlock = some k) (fun k e => e)).row (row_alloc hrj _) (fun e => by have := (hoLj.lt _ e).1; omega), hb2.trans ((hbj.trans (b5.mono (by omega))).mono hb2.size)⟩
                  case measure => simp [intOf]; omega
end Go.Proofs.Ytoomhfjmcdbgkaa
