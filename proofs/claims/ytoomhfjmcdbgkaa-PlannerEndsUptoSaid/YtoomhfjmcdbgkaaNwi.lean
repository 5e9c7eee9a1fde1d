/-
  PlannerWhich in a fine list: the walk. Conditions: the list is no longer than 2^40; a number is one that an int holds.
-/
import Derived.Test.YtoomhfjmcdbgkaaNwh
namespace Go.Icz
open Go.RowKit
theorem inA_zero (L : List Int) : inA L 0 = (fun _ => false) := by
  funext k
  rfl
theorem inC_zero (L C : List Int) : inC L C 0 = (fun k => decide (k ∈ L)) := by
  funext k
  show (decide (k ∈ L) && true) = _
  rw [Bool.and_true]
theorem inA_ids {l : List MV} {i : Nat} (h : i < l.length) : (fun j => if j = l[i].id then true else inA (idsM l) i j) = inA (idsM l) (i + 1) := by
  have hli : i < (idsM l).length := by unfold idsM; rw [List.length_map]; exact h
  have h9 := inA_next hli
  have e9 : (idsM l)[i] = l[i].id := by simp [idsM]
  simpa only [e9] using h9
end Go.Icz
namespace Go.Proofs.Ytoomhfjmcdbgkaa
open Go.RowKit Go.Icz
set_option maxRecDepth 100000 in
set_option maxHeartbeats 16000000 in
theorem which_yes (v : Value) (l : List MV) (fr to' f mb keep now : Int) (W : World) (hR : KRm.Rd W v l) (hlen : l.length ≤ 1099511627776) (hwf : ∀ x ∈ l, wfI x.id) (hn : now ≤ 9223372036854775807) (hf : fineM l = true) :
    Calls Try.prog 6 #[v, .int .i64 fr, .int .i64 to', rulesV f mb keep, .int .i64 now] W fun e w' => e = .returned (.bool true) ∧ Below W.heap.size W w' := by
  have b0 : Below W.heap.size W (W.alloc (.cells #[.int .i64 f, .int .i64 mb, .int .i64 keep] 55)) := (Below.refl _ W).alloc (Nat.le_refl _) _
  have r0 := box_row W #[.int .i64 f, .int .i64 mb, .int .i64 keep] 55
  have cList := List_is v l _ (hR.below b0) hlen
  have cF := fun u w1 (h : KMet.Rd w1 u l) => Fine_is u l w1 h hlen hwf
  have cL := fun u w1 (h : KMet.Rd w1 u l) => Look_is u l fr to' w1 h hlen hwf
  have cO := fun u w1 (h : KMet.Rd w1 u l) => Over_is u l keep now w1 h hlen hwf hn
  have cP := fun u w1 (h : KMet.Rd w1 u l) => Pack_is u l f mb keep now w1 h hlen hwf hn
  rw [hf] at cF
  have HFT := hid (fine_iff.1 hf)
  have hl1 := ids_those_len l (lookM fr to')
  have hl2 := ids_those_len l (overM keep now)
  have HW1 : Hid (∀ p, ∀ k ∈ idsM (thoseM l p), wfI k) := hid (fun p k hk => by
    obtain ⟨y, hy, rfl⟩ := those_sub p hk
    exact hwf y hy)
  have HI1 := hid (fun x (hx : x ∈ l) => ids_those HFT.out (lookM fr to') hx)
  have HI2 := hid (fun x (hx : x ∈ l) => ids_those HFT.out (overM keep now) hx)
  have HW := hid hwf
  have HPF := hid (fun a (h : PackOf l f mb keep now a) => h.facts HFT.out)
  have cRl := fun w1 => rules_is f mb keep w1
  have hmk : ∀ w, (Instr.makeMap 65 none).run Try.prog w = .ok (.map (some w.heap.size)) (w.alloc (.map #[] 0)) := fun _ => rfl
  unfold rulesV at cP cRl ⊢
  obtain ⟨A, c, rfl, _⟩ := hR.form
  have HW2 := HW1.out (lookM fr to')
  have HW3 := HW1.out (overM keep now)
  generalize idsM (thoseM l (lookM fr to')) = L1 at *
  generalize idsM (thoseM l (overM keep now)) = L2 at *
  have HWA := hid HW2
  have HWB := hid HW3
  clear hR hwf hf HW1 HW2 HW3
  go_enter Try.func6, Try.ntmps6
  go_wp2_with (first
    | (go_at_call 10; go_loud (refine cList.mono ?_; rintro e wx ⟨ux, rfl, ox, bx⟩; have rx := ox.rd; obtain ⟨Ax, cx, rfl, _⟩ := rx.form; have hb := b0.trans (bx.mono b0.size); have r0x := (Tch.of_below bx (S := fun _ => False)).row r0 (fun h => h); clear cList ox r0))
    | (go_at_call 13; go_loud (refine (cF _ _ rx).mono ?_; rintro e Wb ⟨rfl, bf⟩; have hbb := hb.trans (bf.mono hb.size); have rxb := rx.below bf; have r0b := (Tch.of_below bf (S := fun _ => False)).row r0x (fun h => h); have M1 := MBf.made Wb; have ba := (Below.refl Wb.heap.size Wb).alloc (Nat.le_refl _) (.map #[] 0); have rxa := rxb.below ba; clear cF r0x rx))
    | (go_at_call 24; go_loud (refine (cL _ _ rxa).mono ?_; rintro e w2 ⟨u1, rfl, o1, b2⟩; obtain ⟨A1, c1, rfl, _⟩ := o1.rd.form; have M1b := M1.touch (Tch.of_below b2 (S := fun _ => False)) (fun h => h); have bb2 := ba.trans (b2.mono ba.size); clear cL M1)))
  have ROW := hid (met_row (K := KMet) rfl rfl rxb)
  have KEEP : Hid (∀ w', Below Wb.heap.size Wb w' → w'.cell? ⟨W.heap.size, 0, none⟩ = some (.int .i64 f) ∧ w'.cell? ⟨W.heap.size, 1, none⟩ = some (.int .i64 mb) ∧ w'.cell? ⟨W.heap.size, 2, none⟩ = some (.int .i64 keep)) := hid (fun w' h => by
    have k5 := (Tch.of_below h (S := fun _ => False)).row r0b (fun h => h)
    exact ⟨held_cell k5 rfl, held_cell k5 rfl, held_cell k5 rfl⟩)
  clear r0b rxa
  rw [World.size_alloc] at o1
  have HL1 := hid hl1
  have HL2 := hid hl2
  have z2 : Wb.heap.size + 1 ≤ w2.heap.size := by rw [← World.size_alloc Wb (.map #[] 0)]; exact b2.size
  have hL1s : L1.length ≤ 1099511627776 := by omega
  have hL2s : L2.length ≤ 1099511627776 := by omega
  clear ba b2 hl1 hl2
  go_loopw [14] (fun iv wr => ∃ i n : Nat, iv = .int .i64 i ∧ i ≤ L1.length ∧ n ≤ i ∧ MBf wr Wb.heap.size n (inA L1 i) ∧ KInt.Own wr (Wb.heap.size + 1) (.slice A1 L1.length c1) L1 ∧ Below Wb.heap.size Wb wr) (fun iv _ => L1.length - (intOf iv).toNat)
  case atStart => exact ⟨0, 0, rfl, by omega, by omega, M1b, o1, bb2⟩
  case round =>
    obtain ⟨i, n, rfl, hi, hni, M1, ho, hbw⟩ := hrel
    clear M1b o1 bb2
    by_cases hLt : i < L1.length
    · obtain ⟨ba, oa, hA, hba, hca⟩ := KInt_at ho.rd hLt
      subst hA
      have hil : (i : Int) < (L1.length : Int) := by omega
      have hwx := HWA.out _ (List.getElem_mem hLt)
      have HN := hid (inA_next hLt)
      have HL := hid hLt
      obtain ⟨w6, hst, s6, t6⟩ := M1.store L1[i] true hwx (by unfold maxLen; omega)
      have ho6 := ho.touch t6 (fun j (e : j = _) hj => by have := (ho.lt j hj).1; omega)
      have hb6 := Tch.below hbw t6 (fun j (e : j = _) => (show Wb.heap.size ≤ j by omega)) hbw.size
      generalize L1[i] = z at *
      clear M1 ho
      go_wp2
      go_roundw
      case rel => exact ⟨i + 1, n + 1, by go_num, HL.out, by omega, by have h9 := s6; rw [HN.out] at h9; exact h9, ho6, hb6⟩
      case measure => have := HL.out; simp [intOf]; omega
    · have hil : ¬ (i : Int) < (L1.length : Int) := by omega
      have hA1 := inA_all (L := L1) (i := i) (by omega)
      rw [hA1] at M1
      have rxw := rxb.below hbw
      have bal : Below Wb.heap.size Wb (wr.alloc (.map #[] 0)) := hbw.alloc hbw.size _
      have rxa := rxb.below bal
      have M1a := M1.touch (Tch.alloc (fun _ => False) wr (.map #[] 0)) (fun h => h)
      have M2 := MBf.made wr
      have k2 := (KEEP.out _ bal).2.2
      have HBW := hid hbw
      have hg12 : Wb.heap.size < wr.heap.size := M1.lt
      clear hA1 ho rxw M1 hbw
      go_wp2_with (go_at_call 26; go_loud (refine (cO _ _ rxa).mono ?_; rintro e w3 ⟨u2, rfl, o2, b3⟩; obtain ⟨A2, c2, rfl, _⟩ := o2.rd.form; have M1c := M1a.touch (Tch.of_below b3 (S := fun _ => False)) (fun h => h); have M2b := M2.touch (Tch.of_below b3 (S := fun _ => False)) (fun h => h); have bb3 := bal.trans (b3.mono bal.size); clear cO M1a M2))
      rw [World.size_alloc] at o2
      generalize hwo : wr = wo at *
      clear hwo
      have hwz : wo.heap.size + 1 ≤ w3.heap.size := by rw [← World.size_alloc wo (.map #[] 0)]; exact b3.size
      have HB2 := hid b3
      clear bal rxa k2 b3
      go_loopw [17] (fun iv wr => ∃ i2 n2 : Nat, iv = .int .i64 i2 ∧ i2 ≤ L2.length ∧ n2 ≤ i2 ∧ MBf wr Wb.heap.size n (fun k => decide (k ∈ L1)) ∧ MBf wr wo.heap.size n2 (inA L2 i2) ∧ KInt.Own wr (wo.heap.size + 1) (.slice A2 L2.length c2) L2 ∧ Below Wb.heap.size Wb wr) (fun iv _ => L2.length - (intOf iv).toNat)
      case atStart => exact ⟨0, 0, rfl, by omega, by omega, M1c, M2b, o2, bb3⟩
      case round =>
        obtain ⟨i2, n2, rfl, hi2, hni2, M1, M2, ho, hbw⟩ := hrel
        clear M1c M2b o2 bb3
        by_cases hLt2 : i2 < L2.length
        · obtain ⟨ba, oa, hA, hba, hca⟩ := KInt_at ho.rd hLt2
          subst hA
          have hil2 : (i2 : Int) < (L2.length : Int) := by omega
          have hwx := HWB.out _ (List.getElem_mem hLt2)
          have HN := hid (inA_next hLt2)
          have HL := hid hLt2
          obtain ⟨w6, hst, s6, t6⟩ := M2.store L2[i2] true hwx (by unfold maxLen; omega)
          have M16 := M1.touch t6 (show ¬ Wb.heap.size = wo.heap.size by omega)
          have ho6 := ho.touch t6 (fun j (e : j = _) hj => by have := (ho.lt j hj).1; omega)
          have hb6 := Tch.below hbw t6 (fun j (e : j = _) => (show Wb.heap.size ≤ j by omega)) hbw.size
          generalize L2[i2] = z at *
          clear M1 M2 ho
          go_wp2
          go_roundw
          case rel => exact ⟨i2 + 1, n2 + 1, by go_num, HL.out, by omega, M16, by have h9 := s6; rw [HN.out] at h9; exact h9, ho6, hb6⟩
          case measure => have := HL.out; simp [intOf]; omega
        · have hil2 : ¬ (i2 : Int) < (L2.length : Int) := by omega
          have hA2 := inA_all (L := L2) (i := i2) (by omega)
          rw [hA2] at M2
          have M3 := MBf.made wr
          have hg23 : wo.heap.size < wr.heap.size := M2.lt
          have M1a := M1.touch (Tch.alloc (fun _ => False) wr (.map #[] 0)) (fun h => h)
          have M2a := M2.touch (Tch.alloc (fun _ => False) wr (.map #[] 0)) (fun h => h)
          have hba := hbw.alloc hbw.size (.map #[] 0)
          clear hA2 ho M1 M2 hbw
          go_wp2
          generalize hw2 : wr = wp at *
          clear hw2
          go_loopw [19] (fun iv wr => ∃ i3 n3 : Nat, iv = .int .i64 i3 ∧ i3 ≤ l.length ∧ n3 ≤ i3 ∧ MBf wr Wb.heap.size n (fun k => decide (k ∈ L1)) ∧ MBf wr wo.heap.size n2 (fun k => decide (k ∈ L2)) ∧ MBf wr wp.heap.size n3 (inA (idsM l) i3) ∧ Below Wb.heap.size Wb wr) (fun iv _ => l.length - (intOf iv).toNat)
          case atStart => exact ⟨0, 0, rfl, by omega, by omega, M1a, M2a, (by rw [inA_zero]; exact M3), hba⟩
          case round =>
            obtain ⟨i3, n3, rfl, hi3, hni3, M1, M2, M3', hbw⟩ := hrel
            clear M1a M2a M3 hba
            by_cases hLt3 : i3 < l.length
            · obtain ⟨b, off, hA, hb3, hc⟩ := ROW.out i3 hLt3
              subst hA
              obtain ⟨q0, q1, q2, q3, q4, q5, q6, q7⟩ := hc wr hbw
              have hil3 : (i3 : Int) < (l.length : Int) := by omega
              have hmem := List.getElem_mem hLt3
              have hwx := HW.out _ hmem
              have hI1 := HI1.out _ hmem
              have hI2 := HI2.out _ hmem
              have hrt := rt_iff.1 (HFT.out.1 _ hmem)
              have HN := hid (inA_ids hLt3)
              have HL := hid hLt3
              clear hc hmem
              generalize l[i3] = x at *
              have M1a := M1.touch (Tch.alloc (fun _ => False) wr (.cells #[.int .i64 x.id, .int .i64 x.least, .int .i64 x.most, .int .i64 x.first, .int .i64 x.last, .int .i64 x.rows, .int .i64 x.bytes, .int .i64 x.level] 28)) (fun h => h)
              have M2a := M2.touch (Tch.alloc (fun _ => False) wr (.cells #[.int .i64 x.id, .int .i64 x.least, .int .i64 x.most, .int .i64 x.first, .int .i64 x.last, .int .i64 x.rows, .int .i64 x.bytes, .int .i64 x.level] 28)) (fun h => h)
              have M3a := M3'.touch (Tch.alloc (fun _ => False) wr (.cells #[.int .i64 x.id, .int .i64 x.least, .int .i64 x.most, .int .i64 x.first, .int .i64 x.last, .int .i64 x.rows, .int .i64 x.bytes, .int .i64 x.level] 28)) (fun h => h)
              have h3lt := M3'.lt
              obtain ⟨w6, hst, s6, t6⟩ := M3a.store x.id true hwx (by unfold maxLen; omega)
              have M16 := M1a.touch t6 (show ¬ Wb.heap.size = wp.heap.size by omega)
              have M26 := M2a.touch t6 (show ¬ wo.heap.size = wp.heap.size by omega)
              have lk1 := M16.look x.id hwx
              have lk2 := M26.look x.id hwx
              have c6 := (Mc.of_row (box_row wr #[.int .i64 x.id, .int .i64 x.least, .int .i64 x.most, .int .i64 x.first, .int .i64 x.last, .int .i64 x.rows, .int .i64 x.bytes, .int .i64 x.level] 28)).touch t6 (by simp) (show ¬ wr.heap.size = wp.heap.size by omega)
              obtain ⟨p0, p1, p2, p3, p4, p5, p6, p7⟩ := c6
              rw [Nat.zero_add] at p1 p2 p3 p4 p5 p6 p7
              have hb6 : Below Wb.heap.size Wb w6 := Tch.below (below_box hbw hbw.size (.cells #[.int .i64 x.id, .int .i64 x.least, .int .i64 x.most, .int .i64 x.first, .int .i64 x.last, .int .i64 x.rows, .int .i64 x.bytes, .int .i64 x.level] 28)) t6 (fun j (e : j = _) => (show Wb.heap.size ≤ j by omega)) (by simp; have := hbw.size; omega)
              have k2 := (KEEP.out _ hb6).2.2
              have hws : overM keep now x = true → IntKind.i64.wrap (now - x.most) = now - x.most := fun h => by
                unfold overM at h
                rw [decide_eq_true_eq] at h
                have h1 := hrt.le1
                have h2 := hrt.mo1
                rw [IntKind.wrap_i64]
                omega
              clear M1 M2 M3' M1a M2a M3a
              by_cases hA : x.id ∈ L1
              · have ha1 : decide (x.id ∈ L1) = true := decide_eq_true hA
                rw [ha1] at lk1
                clear hI1 hA ha1
                by_cases hB : x.id ∈ L2
                · have hov := hI2.1 hB
                  have hwv := hws hov
                  unfold overM at hov
                  rw [decide_eq_true_eq] at hov
                  have hb1 : decide (x.id ∈ L2) = true := decide_eq_true hB
                  rw [hb1] at lk2
                  have ho1 : ¬ now < x.most := by omega
                  have ho2 : ¬ now - x.most < keep := by omega
                  clear hI2 hws hB hb1 hrt
                  go_wp2
                  go_roundw
                  case rel => exact ⟨i3 + 1, n3 + 1, by go_num, HL.out, by omega, M16, M26, by have h9 := s6; rw [HN.out] at h9; exact h9, hb6⟩
                  case measure => have := HL.out; simp [intOf]; omega
                · have hb1 : decide (x.id ∈ L2) = false := decide_eq_false hB
                  rw [hb1] at lk2
                  clear hI2 hws hB hb1 hrt
                  go_wp2
                  go_roundw
                  case rel => exact ⟨i3 + 1, n3 + 1, by go_num, HL.out, by omega, M16, M26, by have h9 := s6; rw [HN.out] at h9; exact h9, hb6⟩
                  case measure => have := HL.out; simp [intOf]; omega
              · have ha1 : decide (x.id ∈ L1) = false := decide_eq_false hA
                rw [ha1] at lk1
                have hlk : ¬ lookM fr to' x = true := fun h => hA (hI1.2 h)
                clear hI1 hA ha1
                by_cases hle : x.least < to'
                · have hmo : ¬ x.most ≥ fr := fun h => hlk (by unfold lookM; rw [decide_eq_true hle, decide_eq_true h]; rfl)
                  clear hlk
                  by_cases hB : x.id ∈ L2
                  · have hov := hI2.1 hB
                    have hwv := hws hov
                    unfold overM at hov
                    rw [decide_eq_true_eq] at hov
                    have hb1 : decide (x.id ∈ L2) = true := decide_eq_true hB
                    rw [hb1] at lk2
                    have ho1 : ¬ now < x.most := by omega
                    have ho2 : ¬ now - x.most < keep := by omega
                    clear hI2 hws hB hb1 hrt
                    go_wp2
                    go_roundw
                    case rel => exact ⟨i3 + 1, n3 + 1, by go_num, HL.out, by omega, M16, M26, by have h9 := s6; rw [HN.out] at h9; exact h9, hb6⟩
                    case measure => have := HL.out; simp [intOf]; omega
                  · have hb1 : decide (x.id ∈ L2) = false := decide_eq_false hB
                    rw [hb1] at lk2
                    clear hI2 hws hB hb1 hrt
                    go_wp2
                    go_roundw
                    case rel => exact ⟨i3 + 1, n3 + 1, by go_num, HL.out, by omega, M16, M26, by have h9 := s6; rw [HN.out] at h9; exact h9, hb6⟩
                    case measure => have := HL.out; simp [intOf]; omega
                · clear hlk
                  by_cases hB : x.id ∈ L2
                  · have hov := hI2.1 hB
                    have hwv := hws hov
                    unfold overM at hov
                    rw [decide_eq_true_eq] at hov
                    have hb1 : decide (x.id ∈ L2) = true := decide_eq_true hB
                    rw [hb1] at lk2
                    have ho1 : ¬ now < x.most := by omega
                    have ho2 : ¬ now - x.most < keep := by omega
                    clear hI2 hws hB hb1 hrt
                    go_wp2
                    go_roundw
                    case rel => exact ⟨i3 + 1, n3 + 1, by go_num, HL.out, by omega, M16, M26, by have h9 := s6; rw [HN.out] at h9; exact h9, hb6⟩
                    case measure => have := HL.out; simp [intOf]; omega
                  · have hb1 : decide (x.id ∈ L2) = false := decide_eq_false hB
                    rw [hb1] at lk2
                    clear hI2 hws hB hb1 hrt
                    go_wp2
                    go_roundw
                    case rel => exact ⟨i3 + 1, n3 + 1, by go_num, HL.out, by omega, M16, M26, by have h9 := s6; rw [HN.out] at h9; exact h9, hb6⟩
                    case measure => have := HL.out; simp [intOf]; omega
            · have hil3 : ¬ (i3 : Int) < (l.length : Int) := by omega
              have hA3 := inA_all (L := idsM l) (i := i3) (by unfold idsM; rw [List.length_map]; omega)
              rw [hA3] at M3'
              clear hA3
              have rxw := rxb.below hbw
              have cPx := fun w1 (hw : Below wr.heap.size wr w1) => cP _ _ (rxw.below hw)
              obtain ⟨k0, k1, k2⟩ := KEEP.out _ hbw
              have g3lt := M3'.lt
              clear cP rxw
              go_wp2_with (first
                | (go_at_call 32; go_loud (refine (cRl _).mono ?_; rintro e w7 ⟨rfl, b7⟩; have cPy := cPx _ b7; clear cPx))
                | (go_at_call 31; go_loud (refine cPy.mono ?_; rintro e w8 ⟨a, ha, u8, rfl, o8, b8⟩; have HPA := hid (HPF.out _ ha); have HAL := hid ha.len; obtain ⟨A8, c8, rfl, _⟩ := o8.rd.form; have b78 := b7.trans (b8.mono b7.size); have M28 := M2.touch (Tch.of_below b78 (S := fun _ => False)) (fun h => h); have M38 := M3'.touch (Tch.of_below b78 (S := fun _ => False)) (fun h => h); have hb8 := hbw.trans (b78.mono hbw.size); have o88 := o8.mono b7.size; clear cPy ha o8)))
              have HCI : Hid (∀ (j : Nat) (hj : j < (idsM a).length), wfI (idsM a)[j] ∧ (idsM a)[j] ∈ idsM l ∧ (idsM a)[j] ∉ L2 ∧ (idsM a)[j] ∉ (idsM a).take j) := hid (fun j hj => by
                have hja : j < a.length := by unfold idsM at hj; rwa [List.length_map] at hj
                have e9 : (idsM a)[j] = a[j].id := by simp [idsM]
                obtain ⟨h1, h2⟩ := HPA.out.mem _ (List.getElem_mem hja)
                refine ⟨by rw [e9]; exact HW.out _ h1, by rw [e9]; unfold idsM; exact List.mem_map.2 ⟨_, h1, rfl⟩, fun h => ?_, fun h => ?_⟩
                · rw [e9] at h
                  have := (HI2.out _ h1).1 h
                  rw [h2] at this
                  cases this
                · rw [List.mem_take_iff_getElem] at h
                  obtain ⟨i9, hi9, e⟩ := h
                  have := (List.pairwise_iff_getElem.1 (List.nodup_iff_pairwise_ne.1 HPA.out.nd)) i9 j (by omega) hj (by omega)
                  exact this e)
              have hCl : (idsM a).length ≤ l.length := by unfold idsM; rw [List.length_map]; exact HAL.out
              have HEN : Hid ((idsM a).length = 0 ∨ ((idsM a).length : Int) = f) := hid (by
                unfold idsM
                rw [List.length_map]
                rcases HPA.out.len with h | h
                · exact .inl (by rw [h]; rfl)
                · exact .inr h)
              generalize idsM a = C at *
              clear HPA HAL
              generalize hwq : wr = wq at *
              clear hwq
              go_loopw [22] (fun iv wr => ∃ i4 n4 : Nat, iv = .int .i64 i4 ∧ i4 ≤ C.length ∧ n4 ≤ l.length + i4 ∧ MBf wr wo.heap.size n2 (fun k => decide (k ∈ L2)) ∧ MBf wr wp.heap.size n4 (inC (idsM l) C i4) ∧ KInt.Own wr wq.heap.size (.slice A8 C.length c8) C ∧ Below Wb.heap.size Wb wr) (fun iv _ => C.length - (intOf iv).toNat)
              case atStart => exact ⟨0, n3, rfl, by omega, by omega, M28, (by rw [inC_zero]; exact M38), o88, hb8⟩
              case round =>
                obtain ⟨i4, n4, rfl, hi4, hni4, M2', M3'', ho, hbw4⟩ := hrel
                by_cases hLt4 : i4 < C.length
                · obtain ⟨ba, oa, hA, hba4, hca⟩ := KInt_at ho.rd hLt4
                  subst hA
                  have hil4 : (i4 : Int) < (C.length : Int) := by omega
                  obtain ⟨hwx, hm1, hm2, hm3⟩ := HCI.out i4 hLt4
                  have HN := hid (inC_next (L := idsM l) hLt4)
                  have e3 : inC (idsM l) C i4 C[i4] = true := by unfold inC; rw [decide_eq_true hm1, decide_eq_false hm3]; rfl
                  have HL := hid hLt4
                  generalize C[i4] = z at *
                  have lk2 := M2'.look z hwx
                  have lk3 := M3''.look z hwx
                  rw [decide_eq_false hm2] at lk2
                  rw [e3] at lk3
                  obtain ⟨w6, hst, s6, t6⟩ := M3''.store z false hwx (by unfold maxLen; omega)
                  have M26 := M2'.touch t6 (show ¬ wo.heap.size = wp.heap.size by omega)
                  have ho6 := ho.touch t6 (fun j (e : j = _) hj => by have := (ho.lt j hj).1; omega)
                  have hb6 := Tch.below hbw4 t6 (fun j (e : j = _) => (show Wb.heap.size ≤ j by omega)) hbw4.size
                  clear hm1 hm2 hm3 e3
                  clear M2' M3'' ho
                  go_wp2
                  go_roundw
                  case rel => exact ⟨i4 + 1, n4 + 1, by go_num, HL.out, by omega, M26, by have h9 := s6; rw [HN.out] at h9; exact h9, ho6, hb6⟩
                  case measure => have := HL.out; simp [intOf]; omega
                · have hil4 : ¬ (i4 : Int) < (C.length : Int) := by omega
                  obtain ⟨k0, k1, k2⟩ := KEEP.out _ hbw4
                  have bwe := hbb.trans (hbw4.mono hbb.size)
                  by_cases h0 : C.length = 0
                  · have hd : ((C.length : Int) == 0) = true := by rw [h0]; rfl
                    go_wp2_with (go_at_call 22; refine (knows_is _).mono ?_; rintro e w9 ⟨rfl, b9⟩)
                    go_ret
                    exact ⟨rfl, bwe.trans (b9.mono bwe.size)⟩
                  · have hd : ((C.length : Int) == 0) = false := by rw [beq_eq_false_iff_ne]; omega
                    have hd2 : ((C.length : Int) == f) = true := by
                      rcases HEN.out with h | h
                      · exact absurd h h0
                      · simpa using h
                    go_wp2_with (go_at_call 22; refine (knows_is _).mono ?_; rintro e w9 ⟨rfl, b9⟩)
                    go_ret
                    exact ⟨rfl, bwe.trans (b9.mono bwe.size)⟩
theorem which_walk (v : Value) (l : List MV) (fr to' f mb keep now : Int) (W : World) (hR : KRm.Rd W v l) (hlen : l.length ≤ 1099511627776) (hwf : ∀ x ∈ l, wfI x.id) (hn : now ≤ 9223372036854775807) :
    Calls Try.prog 6 #[v, .int .i64 fr, .int .i64 to', rulesV f mb keep, .int .i64 now] W fun e w' => e = .returned (.bool true) ∧ Below W.heap.size W w' := by
  cases hf : fineM l with
  | true => exact which_yes v l fr to' f mb keep now W hR hlen hwf hn hf
  | false => exact which_no v l fr to' f mb keep now W hR hlen hwf hn hf
end Go.Proofs.Ytoomhfjmcdbgkaa
