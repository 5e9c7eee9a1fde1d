/-
  PlannerMetas: which blocks may be, as bytes, and back: the walk. Conditions: the list is no longer than 2^40, the bytes no more than 2^20; a number is one that an int holds.
-/
import Derived.Test.YtddbmibpnahmnaaNrh
import Derived.Test.YtddbmibpnahmnaaNkn
import Derived.Test.YtddbmibpnahmnaaNls
import Derived.Test.YtddbmibpnahmnaaNlk
import Derived.Test.YtddbmibpnahmnaaLent
namespace Go.Proofs.Ytddbmibpnahmnaa
open Go.RowKit Go.Icz
set_option maxRecDepth 100000
set_option maxHeartbeats 8000000
theorem metas_walk (v : Value) (l : List MV) (vb : Value) (lb : List Nat) (W : World) (hR : KRm.Rd W v l) (hlen : l.length ≤ 1099511627776) (hwf : ∀ x ∈ l, wfI x.id) (hB : Rd W vb lb) (hby : ∀ c ∈ lb, c < 256) (hbl : lb.length ≤ 1048576) :
    Calls Try.prog 3 #[v, vb] W fun e w' => e = .returned (.bool true) ∧ Below W.heap.size W w' := by
  have cLent := Lent_any vb lb W hB (by omega)
  have cList := fun w1 (h : Below W.heap.size W w1) => List_is v l w1 (hR.below h) hlen
  have cGet := fun u w1 (h : Rd w1 u lb) => NGet_is u lb w1 h hby (by omega)
  have cRGet := fun w1 (h : Below W.heap.size W w1) => RGet_is vb lb w1 (hB.below h) hby (by omega)
  have cF := fun u w1 (h : KMet.Rd w1 u l) => Fine_is u l w1 h hlen hwf
  have cRF := fun w1 (h : Below W.heap.size W w1) => RFine_is v l w1 (hR.below h) hlen
  have cSt := fun B u w1 (h : Lt w1 B u lb) (hb : Below W.heap.size W w1) => Stays_any B u vb lb w1 h (hB.below hb) (by omega)
  have HRR := hid hR
  obtain ⟨A, c, rfl, hlc⟩ := hR.form
  obtain ⟨Ab, cb, rfl, _, _⟩ := id hB
  generalize (getPM lb).1 = M at *
  generalize (getPM lb).2 = z at *
  have hOw := Own_is M
  have hq := neq_meta M
  unfold metaV at cGet cRGet hOw hq
  generalize fineM l = fl at *
  clear hR hB
  go_enter Try.func3, Try.ntmps3
  go_upto_region 5 with (first
    | (go_at_call 4; refine cLent.mono ?_; rintro e w1 ⟨u1, rfl, L1, b1⟩; obtain ⟨A1, c1, rfl, _, _⟩ := id L1.rd; have cG1 := cGet _ _ L1.rd; clear cLent)
    | (go_at_call 5; refine (cList _ b1).mono ?_; rintro e w2 ⟨u2, rfl, o2, b2⟩; have r2 := o2.rd; obtain ⟨A2, c2, rfl, _⟩ := r2.form; have L2 := L1.below b2; have bb2 := b1.trans (b2.mono b1.size); have cG2 := cGet _ _ L2.rd; clear cList cG1)
    | (go_at_call 6; refine cG2.mono ?_; rintro e w3 ⟨rfl, b3⟩; have bb3 := bb2.trans (b3.mono bb2.size); have L3 := L2.below b3; have r3 := r2.below b3; have ky := heap_alloc_new w3 (.cells #[.int .i64 M.id, .int .i64 M.least, .int .i64 M.most, .int .i64 M.first, .int .i64 M.last, .int .i64 M.rows, .int .i64 M.bytes, .int .i64 M.level] 28); have bb4 := bb3.alloc bb3.size (.cells #[.int .i64 M.id, .int .i64 M.least, .int .i64 M.most, .int .i64 M.first, .int .i64 M.last, .int .i64 M.rows, .int .i64 M.bytes, .int .i64 M.level] 28); have ba4 := (Below.refl _ w3).alloc (Nat.le_refl _) (.cells #[.int .i64 M.id, .int .i64 M.least, .int .i64 M.most, .int .i64 M.first, .int .i64 M.last, .int .i64 M.rows, .int .i64 M.bytes, .int .i64 M.level] 28); have L4 := L3.below ba4; have r4 := r3.below ba4; clear cG2 cGet)
    | (go_at_call 7; refine (cRGet _ bb4).mono ?_; rintro e w5 ⟨rfl, b5⟩; have ky5 := (Tch.of_below b5 (S := fun _ => False)).row ky (fun h => h); have bb5 := bb4.trans (b5.mono bb4.size); have L5 := L4.below b5; have r5 := r4.below b5; have ba6 := (Below.refl _ w5).alloc (Nat.le_refl _) (.cells #[.int .i64 M.id, .int .i64 M.least, .int .i64 M.most, .int .i64 M.first, .int .i64 M.last, .int .i64 M.rows, .int .i64 M.bytes, .int .i64 M.level] 32); have kz6 := heap_alloc_new w5 (.cells #[.int .i64 M.id, .int .i64 M.least, .int .i64 M.most, .int .i64 M.first, .int .i64 M.last, .int .i64 M.rows, .int .i64 M.bytes, .int .i64 M.level] 32); have ky6 := row_alloc ky5 (.cells #[.int .i64 M.id, .int .i64 M.least, .int .i64 M.most, .int .i64 M.first, .int .i64 M.last, .int .i64 M.rows, .int .i64 M.bytes, .int .i64 M.level] 32); have L6 := L5.below ba6; have r6 := r5.below ba6; have bb6 := bb5.alloc bb5.size (.cells #[.int .i64 M.id, .int .i64 M.least, .int .i64 M.most, .int .i64 M.first, .int .i64 M.last, .int .i64 M.rows, .int .i64 M.bytes, .int .i64 M.level] 32); clear cRGet))
  clear ky ky5 bb2 bb3 bb4 bb5 L1 L2 L3 L4 L5 r2 r3 r4 r5 ba4 ba6 o2 b1 b2 b3 b5
  generalize w3.heap.size = gy at *
  generalize hgz : w5.heap.size = gz at *
  clear hgz
  generalize w5.alloc (.cells #[.int .i64 M.id, .int .i64 M.least, .int .i64 M.most, .int .i64 M.first, .int .i64 M.last, .int .i64 M.rows, .int .i64 M.bytes, .int .i64 M.level] 32) = W6 at *
  have mkS : ∀ w', Below W6.heap.size W6 w' → Below W6.heap.size W6 w' ∧ w'.cell? ⟨gy, 0, none⟩ = some (.int .i64 M.id) ∧ w'.cell? ⟨gy, 1, none⟩ = some (.int .i64 M.least) ∧ w'.cell? ⟨gy, 2, none⟩ = some (.int .i64 M.most) ∧ w'.cell? ⟨gy, 3, none⟩ = some (.int .i64 M.first) ∧ w'.cell? ⟨gy, 4, none⟩ = some (.int .i64 M.last) ∧ w'.cell? ⟨gy, 5, none⟩ = some (.int .i64 M.rows) ∧ w'.cell? ⟨gy, 6, none⟩ = some (.int .i64 M.bytes) ∧ w'.cell? ⟨gy, 7, none⟩ = some (.int .i64 M.level) ∧ w'.cell? ⟨gz, 0, none⟩ = some (.int .i64 M.id) ∧ w'.cell? ⟨gz, 1, none⟩ = some (.int .i64 M.least) ∧ w'.cell? ⟨gz, 2, none⟩ = some (.int .i64 M.most) ∧ w'.cell? ⟨gz, 3, none⟩ = some (.int .i64 M.first) ∧ w'.cell? ⟨gz, 4, none⟩ = some (.int .i64 M.last) ∧ w'.cell? ⟨gz, 5, none⟩ = some (.int .i64 M.rows) ∧ w'.cell? ⟨gz, 6, none⟩ = some (.int .i64 M.bytes) ∧ w'.cell? ⟨gz, 7, none⟩ = some (.int .i64 M.level) := fun w' h => by
    have h1 := (Tch.of_below h (S := fun _ => False)).row ky6 (fun h => h)
    have h2 := (Tch.of_below h (S := fun _ => False)).row kz6 (fun h => h)
    exact ⟨h, held_cell (i := 0) h1 rfl, held_cell (i := 1) h1 rfl, held_cell (i := 2) h1 rfl, held_cell (i := 3) h1 rfl, held_cell (i := 4) h1 rfl, held_cell (i := 5) h1 rfl, held_cell (i := 6) h1 rfl, held_cell (i := 7) h1 rfl, held_cell (i := 0) h2 rfl, held_cell (i := 1) h2 rfl, held_cell (i := 2) h2 rfl, held_cell (i := 3) h2 rfl, held_cell (i := 4) h2 rfl, held_cell (i := 5) h2 rfl, held_cell (i := 6) h2 rfl, held_cell (i := 7) h2 rfl⟩
  have hk := mkS W6.drew (Below.refl _ _).drew
  have cF6 := fun w1 (h : Below W6.heap.size W6 w1) => cF _ w1 (r6.below h)
  have cR6 := fun w1 (h : Below W6.heap.size W6 w1) => cRF w1 (bb6.trans (h.mono bb6.size))
  have cS6 := fun w1 (h : Below W6.heap.size W6 w1) => cSt _ _ w1 (L6.below h) (bb6.trans (h.mono bb6.size))
  have HBB := hid bb6
  have HX := hid r6
  clear cF cRF cSt ky6 kz6 L6 r6 bb6
  go_region_held3 (fun w' => Below W6.heap.size W6 w' ∧ w'.cell? ⟨gy, 0, none⟩ = some (.int .i64 M.id) ∧ w'.cell? ⟨gy, 1, none⟩ = some (.int .i64 M.least) ∧ w'.cell? ⟨gy, 2, none⟩ = some (.int .i64 M.most) ∧ w'.cell? ⟨gy, 3, none⟩ = some (.int .i64 M.first) ∧ w'.cell? ⟨gy, 4, none⟩ = some (.int .i64 M.last) ∧ w'.cell? ⟨gy, 5, none⟩ = some (.int .i64 M.rows) ∧ w'.cell? ⟨gy, 6, none⟩ = some (.int .i64 M.bytes) ∧ w'.cell? ⟨gy, 7, none⟩ = some (.int .i64 M.level) ∧ w'.cell? ⟨gz, 0, none⟩ = some (.int .i64 M.id) ∧ w'.cell? ⟨gz, 1, none⟩ = some (.int .i64 M.least) ∧ w'.cell? ⟨gz, 2, none⟩ = some (.int .i64 M.most) ∧ w'.cell? ⟨gz, 3, none⟩ = some (.int .i64 M.first) ∧ w'.cell? ⟨gz, 4, none⟩ = some (.int .i64 M.last) ∧ w'.cell? ⟨gz, 5, none⟩ = some (.int .i64 M.rows) ∧ w'.cell? ⟨gz, 6, none⟩ = some (.int .i64 M.bytes) ∧ w'.cell? ⟨gz, 7, none⟩ = some (.int .i64 M.level)) (exact hk) (first
    | (go_at_call 8; refine (cF6 _ hk.1).mono ?_; rintro e x1 ⟨rfl, q1⟩; have hk := mkS _ (hk.1.trans (q1.mono hk.1.size)); clear cF6)
    | (go_at_call 9; refine (cR6 _ hk.1).mono ?_; rintro e x2 ⟨rfl, q2⟩; have hk := mkS _ (hk.1.trans (q2.mono hk.1.size)); clear cR6)
    | (go_at_call 10; refine (hOw _).mono ?_; rintro e x3 ⟨rfl, q3⟩; have hk := mkS _ (hk.1.trans (q3.mono hk.1.size)))
    | (go_at_call 11; refine (num_is _ _).mono ?_; rintro e x4 ⟨rfl, rfl⟩)
    | (go_at_call 12; refine (cS6 _ hk.1).mono ?_; rintro e x5 ⟨rfl, q5⟩; have hk := mkS _ (hk.1.trans (q5.mono hk.1.size)); clear cS6))
  go_wp2_with fail
  have bX := HBB.out.trans (hk.1.mono HBB.out.size)
  have ROW := hid (met_row (K := KMet) rfl rfl (HX.out.below hk.1))
  have ROW2 := hid (met_row (K := KRm) rfl rfl (HRR.out.below bX))
  have HBX := hid bX
  clear bX HX HRR HBB mkS hOw hq hwf hby hbl
  clear hk
  generalize x5 = Wb at *
  go_loopw [11] (fun iv wr => ∃ i : Nat, iv = .int .i64 i ∧ i ≤ l.length ∧ Below Wb.heap.size Wb wr) (fun iv _ => l.length - (intOf iv).toNat)
  case atStart => exact ⟨0, rfl, by omega, Below.refl _ _⟩
  case round =>
    obtain ⟨i, rfl, hi, hbw⟩ := hrel
    by_cases hLt : i < l.length
    · obtain ⟨b, off, hA, hb, hc⟩ := ROW.out i hLt
      obtain ⟨b2, off2, hA2, hb2, hc2⟩ := ROW2.out i hLt
      subst hA hA2
      have hil : (i : Int) < (l.length : Int) := by omega
      have cP := NPut_is l[i]
      have cRP := RPut_is l[i]
      have cRt := Right_is l[i]
      have cRR := RRight_is l[i]
      have hq := neq_meta l[i]
      have HL := hid hLt
      have HHC := hid hc
      have HHC2 := hid hc2
      clear ROW ROW2 hc hc2
      obtain ⟨p0, p1, p2, p3, p4, p5, p6, p7⟩ := HHC.out wr hbw
      have HCG : Hid (rightM l[i] = true → ∀ v w1, Rd w1 v (metaB l[i]) → Calls Try.prog 6 #[v] w1 fun e w' => e = .returned (.tuple #[metaV l[i], .int .i64 0]) ∧ Below w1.heap.size w1 w') := hid (fun hr v w1 r => by
        have hlen2 := numsB_len (partM l[i]) (fun n hn => by have := part_ok hr n hn; omega)
        have h8 : (partM l[i]).length = 8 := rfl
        have := NGet_is v (metaB l[i]) w1 r (numsB_bytes _) (by show (numsB (partM l[i])).length ≤ _; omega)
        rw [getPM_put hr] at this
        exact this)
      generalize l[i] = x at *
      clear hLt
      unfold metaV at cP cRP cRt cRR hq HCG
      have t1 := True.intro
      cases hr : rightM x
      · rw [hr] at cP cRP cRt cRR
        simp only [Bool.false_eq_true, if_false] at cP cRP
        clear hr HCG hq
        go_upto_region 12 with (first
          | (go_at_call 13; refine (cP _).mono ?_; rintro e y1 ⟨u1, rfl, o1, e1⟩; have h1 := hbw.trans (e1.mono hbw.size); obtain ⟨n0, n1, n2, n3, n4, n5, n6, n7⟩ := HHC2.out y1 h1; clear p0 p1 p2 p3 p4 p5 p6 p7 cP)
          | (go_at_call 14; refine (cRP _).mono ?_; rintro e y2 ⟨u2, rfl, o2, e2⟩; have h2 := h1.trans (e2.mono h1.size); have r1 := o1.rd.below e2; have r2 := o2.rd; clear n0 n1 n2 n3 n4 n5 n6 n7 cRP o1 o2))
        have mkS : ∀ w', Below y2.heap.size y2 w' → Below y2.heap.size y2 w' ∧ w'.cell? ⟨b, off + i * 8, none⟩ = some (.int .i64 x.id) ∧ w'.cell? ⟨b, off + i * 8 + 1, none⟩ = some (.int .i64 x.least) ∧ w'.cell? ⟨b, off + i * 8 + 2, none⟩ = some (.int .i64 x.most) ∧ w'.cell? ⟨b, off + i * 8 + 3, none⟩ = some (.int .i64 x.first) ∧ w'.cell? ⟨b, off + i * 8 + 4, none⟩ = some (.int .i64 x.last) ∧ w'.cell? ⟨b, off + i * 8 + 5, none⟩ = some (.int .i64 x.rows) ∧ w'.cell? ⟨b, off + i * 8 + 6, none⟩ = some (.int .i64 x.bytes) ∧ w'.cell? ⟨b, off + i * 8 + 7, none⟩ = some (.int .i64 x.level) ∧ w'.cell? ⟨b2, off2 + i * 8, none⟩ = some (.int .i64 x.id) ∧ w'.cell? ⟨b2, off2 + i * 8 + 1, none⟩ = some (.int .i64 x.least) ∧ w'.cell? ⟨b2, off2 + i * 8 + 2, none⟩ = some (.int .i64 x.most) ∧ w'.cell? ⟨b2, off2 + i * 8 + 3, none⟩ = some (.int .i64 x.first) ∧ w'.cell? ⟨b2, off2 + i * 8 + 4, none⟩ = some (.int .i64 x.last) ∧ w'.cell? ⟨b2, off2 + i * 8 + 5, none⟩ = some (.int .i64 x.rows) ∧ w'.cell? ⟨b2, off2 + i * 8 + 6, none⟩ = some (.int .i64 x.bytes) ∧ w'.cell? ⟨b2, off2 + i * 8 + 7, none⟩ = some (.int .i64 x.level) ∧ (convert 23 9 u1).run Try.prog w' = .ok (.string (str [])) w' ∧ (convert 23 9 u2).run Try.prog w' = .ok (.string (str [])) w' := fun w' h => by
          have g1 := HHC.out w' (h2.trans (h.mono h2.size))
          have g2 := HHC2.out w' (h2.trans (h.mono h2.size))
          exact ⟨h, (g1).c0, (g1).c1, (g1).c2, (g1).c3, (g1).c4, (g1).c5, (g1).c6, (g1).c7, (g2).c0, (g2).c1, (g2).c2, (g2).c3, (g2).c4, (g2).c5, (g2).c6, (g2).c7, conv_rd std (r1.below h), conv_rd std (r2.below h)⟩
        have hk := mkS y2.drew (Below.refl _ _).drew
        have HR1 := hid r1
        clear r1 r2 e1 e2
        go_region_held3 (fun w' => Below y2.heap.size y2 w' ∧ w'.cell? ⟨b, off + i * 8, none⟩ = some (.int .i64 x.id) ∧ w'.cell? ⟨b, off + i * 8 + 1, none⟩ = some (.int .i64 x.least) ∧ w'.cell? ⟨b, off + i * 8 + 2, none⟩ = some (.int .i64 x.most) ∧ w'.cell? ⟨b, off + i * 8 + 3, none⟩ = some (.int .i64 x.first) ∧ w'.cell? ⟨b, off + i * 8 + 4, none⟩ = some (.int .i64 x.last) ∧ w'.cell? ⟨b, off + i * 8 + 5, none⟩ = some (.int .i64 x.rows) ∧ w'.cell? ⟨b, off + i * 8 + 6, none⟩ = some (.int .i64 x.bytes) ∧ w'.cell? ⟨b, off + i * 8 + 7, none⟩ = some (.int .i64 x.level) ∧ w'.cell? ⟨b2, off2 + i * 8, none⟩ = some (.int .i64 x.id) ∧ w'.cell? ⟨b2, off2 + i * 8 + 1, none⟩ = some (.int .i64 x.least) ∧ w'.cell? ⟨b2, off2 + i * 8 + 2, none⟩ = some (.int .i64 x.most) ∧ w'.cell? ⟨b2, off2 + i * 8 + 3, none⟩ = some (.int .i64 x.first) ∧ w'.cell? ⟨b2, off2 + i * 8 + 4, none⟩ = some (.int .i64 x.last) ∧ w'.cell? ⟨b2, off2 + i * 8 + 5, none⟩ = some (.int .i64 x.rows) ∧ w'.cell? ⟨b2, off2 + i * 8 + 6, none⟩ = some (.int .i64 x.bytes) ∧ w'.cell? ⟨b2, off2 + i * 8 + 7, none⟩ = some (.int .i64 x.level) ∧ (convert 23 9 u1).run Try.prog w' = .ok (.string (str [])) w' ∧ (convert 23 9 u2).run Try.prog w' = .ok (.string (str [])) w') (exact hk) (first
          | (go_at_call 15; refine (cRt _).mono ?_; rintro e x1 ⟨rfl, q1⟩; have hk := mkS _ (hk.1.trans (q1.mono hk.1.size)))
          | (go_at_call 16; refine (cRR _).mono ?_; rintro e x2 ⟨rfl, q2⟩; have hk := mkS _ (hk.1.trans (q2.mono hk.1.size)))
          | (go_at_call 11; refine (num_is _ _).mono ?_; rintro e x4 ⟨rfl, rfl⟩))
        have h4 := h2.trans (hk.1.mono h2.size)
        clear hk mkS
        go_wp2_with fail
        go_roundw
        case rel => exact ⟨i + 1, by go_num, HL.out, h4⟩
        case measure => have := HL.out; simp [intOf]; omega
      · have hCG := HCG.out hr
        rw [hr] at cP cRP cRt cRR
        simp only [if_true] at cP cRP
        clear hr HCG
        generalize metaB x = mb at *
        go_upto_region 12 with (first
          | (go_at_call 13; refine (cP _).mono ?_; rintro e y1 ⟨u1, rfl, o1, e1⟩; have h1 := hbw.trans (e1.mono hbw.size); obtain ⟨n0, n1, n2, n3, n4, n5, n6, n7⟩ := HHC2.out y1 h1; clear p0 p1 p2 p3 p4 p5 p6 p7 cP)
          | (go_at_call 14; refine (cRP _).mono ?_; rintro e y2 ⟨u2, rfl, o2, e2⟩; have h2 := h1.trans (e2.mono h1.size); have r1 := o1.rd.below e2; have r2 := o2.rd; clear n0 n1 n2 n3 n4 n5 n6 n7 cRP o1 o2))
        have mkS : ∀ w', Below y2.heap.size y2 w' → Below y2.heap.size y2 w' ∧ w'.cell? ⟨b, off + i * 8, none⟩ = some (.int .i64 x.id) ∧ w'.cell? ⟨b, off + i * 8 + 1, none⟩ = some (.int .i64 x.least) ∧ w'.cell? ⟨b, off + i * 8 + 2, none⟩ = some (.int .i64 x.most) ∧ w'.cell? ⟨b, off + i * 8 + 3, none⟩ = some (.int .i64 x.first) ∧ w'.cell? ⟨b, off + i * 8 + 4, none⟩ = some (.int .i64 x.last) ∧ w'.cell? ⟨b, off + i * 8 + 5, none⟩ = some (.int .i64 x.rows) ∧ w'.cell? ⟨b, off + i * 8 + 6, none⟩ = some (.int .i64 x.bytes) ∧ w'.cell? ⟨b, off + i * 8 + 7, none⟩ = some (.int .i64 x.level) ∧ w'.cell? ⟨b2, off2 + i * 8, none⟩ = some (.int .i64 x.id) ∧ w'.cell? ⟨b2, off2 + i * 8 + 1, none⟩ = some (.int .i64 x.least) ∧ w'.cell? ⟨b2, off2 + i * 8 + 2, none⟩ = some (.int .i64 x.most) ∧ w'.cell? ⟨b2, off2 + i * 8 + 3, none⟩ = some (.int .i64 x.first) ∧ w'.cell? ⟨b2, off2 + i * 8 + 4, none⟩ = some (.int .i64 x.last) ∧ w'.cell? ⟨b2, off2 + i * 8 + 5, none⟩ = some (.int .i64 x.rows) ∧ w'.cell? ⟨b2, off2 + i * 8 + 6, none⟩ = some (.int .i64 x.bytes) ∧ w'.cell? ⟨b2, off2 + i * 8 + 7, none⟩ = some (.int .i64 x.level) ∧ (convert 23 9 u1).run Try.prog w' = .ok (.string (str mb)) w' ∧ (convert 23 9 u2).run Try.prog w' = .ok (.string (str mb)) w' := fun w' h => by
          have g1 := HHC.out w' (h2.trans (h.mono h2.size))
          have g2 := HHC2.out w' (h2.trans (h.mono h2.size))
          exact ⟨h, (g1).c0, (g1).c1, (g1).c2, (g1).c3, (g1).c4, (g1).c5, (g1).c6, (g1).c7, (g2).c0, (g2).c1, (g2).c2, (g2).c3, (g2).c4, (g2).c5, (g2).c6, (g2).c7, conv_rd std (r1.below h), conv_rd std (r2.below h)⟩
        have hk := mkS y2.drew (Below.refl _ _).drew
        have HR1 := hid r1
        clear r1 r2 e1 e2
        go_region_held3 (fun w' => Below y2.heap.size y2 w' ∧ w'.cell? ⟨b, off + i * 8, none⟩ = some (.int .i64 x.id) ∧ w'.cell? ⟨b, off + i * 8 + 1, none⟩ = some (.int .i64 x.least) ∧ w'.cell? ⟨b, off + i * 8 + 2, none⟩ = some (.int .i64 x.most) ∧ w'.cell? ⟨b, off + i * 8 + 3, none⟩ = some (.int .i64 x.first) ∧ w'.cell? ⟨b, off + i * 8 + 4, none⟩ = some (.int .i64 x.last) ∧ w'.cell? ⟨b, off + i * 8 + 5, none⟩ = some (.int .i64 x.rows) ∧ w'.cell? ⟨b, off + i * 8 + 6, none⟩ = some (.int .i64 x.bytes) ∧ w'.cell? ⟨b, off + i * 8 + 7, none⟩ = some (.int .i64 x.level) ∧ w'.cell? ⟨b2, off2 + i * 8, none⟩ = some (.int .i64 x.id) ∧ w'.cell? ⟨b2, off2 + i * 8 + 1, none⟩ = some (.int .i64 x.least) ∧ w'.cell? ⟨b2, off2 + i * 8 + 2, none⟩ = some (.int .i64 x.most) ∧ w'.cell? ⟨b2, off2 + i * 8 + 3, none⟩ = some (.int .i64 x.first) ∧ w'.cell? ⟨b2, off2 + i * 8 + 4, none⟩ = some (.int .i64 x.last) ∧ w'.cell? ⟨b2, off2 + i * 8 + 5, none⟩ = some (.int .i64 x.rows) ∧ w'.cell? ⟨b2, off2 + i * 8 + 6, none⟩ = some (.int .i64 x.bytes) ∧ w'.cell? ⟨b2, off2 + i * 8 + 7, none⟩ = some (.int .i64 x.level) ∧ (convert 23 9 u1).run Try.prog w' = .ok (.string (str mb)) w' ∧ (convert 23 9 u2).run Try.prog w' = .ok (.string (str mb)) w') (exact hk) (first
          | (go_at_call 15; refine (cRt _).mono ?_; rintro e x1 ⟨rfl, q1⟩; have hk := mkS _ (hk.1.trans (q1.mono hk.1.size)))
          | (go_at_call 16; refine (cRR _).mono ?_; rintro e x2 ⟨rfl, q2⟩; have hk := mkS _ (hk.1.trans (q2.mono hk.1.size)))
          | (go_at_call 11; refine (num_is _ _).mono ?_; rintro e x4 ⟨rfl, rfl⟩))
        have h4 := h2.trans (hk.1.mono h2.size)
        have HR4 := hid (HR1.out.below hk.1)
        clear hk mkS HR1
        generalize x4 = Y at *
        go_upto_region 16 with (first
          | (go_at_call 6; refine (hCG _ _ HR4.out).mono ?_; rintro e y5 ⟨rfl, b5⟩; have h5 := h4.trans (b5.mono h4.size); have kb := heap_alloc_new y5 (.cells #[.int .i64 x.id, .int .i64 x.least, .int .i64 x.most, .int .i64 x.first, .int .i64 x.last, .int .i64 x.rows, .int .i64 x.bytes, .int .i64 x.level] 28); have h6 := h5.alloc h5.size (.cells #[.int .i64 x.id, .int .i64 x.least, .int .i64 x.most, .int .i64 x.first, .int .i64 x.last, .int .i64 x.rows, .int .i64 x.bytes, .int .i64 x.level] 28); clear hCG))
        have hk : Below Wb.heap.size Wb (y5.alloc (.cells #[.int .i64 x.id, .int .i64 x.least, .int .i64 x.most, .int .i64 x.first, .int .i64 x.last, .int .i64 x.rows, .int .i64 x.bytes, .int .i64 x.level] 28)).drew ∧ Below (y5.alloc (.cells #[.int .i64 x.id, .int .i64 x.least, .int .i64 x.most, .int .i64 x.first, .int .i64 x.last, .int .i64 x.rows, .int .i64 x.bytes, .int .i64 x.level] 28)).heap.size (y5.alloc (.cells #[.int .i64 x.id, .int .i64 x.least, .int .i64 x.most, .int .i64 x.first, .int .i64 x.last, .int .i64 x.rows, .int .i64 x.bytes, .int .i64 x.level] 28)) (y5.alloc (.cells #[.int .i64 x.id, .int .i64 x.least, .int .i64 x.most, .int .i64 x.first, .int .i64 x.last, .int .i64 x.rows, .int .i64 x.bytes, .int .i64 x.level] 28)).drew ∧ (y5.alloc (.cells #[.int .i64 x.id, .int .i64 x.least, .int .i64 x.most, .int .i64 x.first, .int .i64 x.last, .int .i64 x.rows, .int .i64 x.bytes, .int .i64 x.level] 28)).drew.cell? ⟨y5.heap.size, 0, none⟩ = some (.int .i64 x.id) ∧ (y5.alloc (.cells #[.int .i64 x.id, .int .i64 x.least, .int .i64 x.most, .int .i64 x.first, .int .i64 x.last, .int .i64 x.rows, .int .i64 x.bytes, .int .i64 x.level] 28)).drew.cell? ⟨y5.heap.size, 1, none⟩ = some (.int .i64 x.least) ∧ (y5.alloc (.cells #[.int .i64 x.id, .int .i64 x.least, .int .i64 x.most, .int .i64 x.first, .int .i64 x.last, .int .i64 x.rows, .int .i64 x.bytes, .int .i64 x.level] 28)).drew.cell? ⟨y5.heap.size, 2, none⟩ = some (.int .i64 x.most) ∧ (y5.alloc (.cells #[.int .i64 x.id, .int .i64 x.least, .int .i64 x.most, .int .i64 x.first, .int .i64 x.last, .int .i64 x.rows, .int .i64 x.bytes, .int .i64 x.level] 28)).drew.cell? ⟨y5.heap.size, 3, none⟩ = some (.int .i64 x.first) ∧ (y5.alloc (.cells #[.int .i64 x.id, .int .i64 x.least, .int .i64 x.most, .int .i64 x.first, .int .i64 x.last, .int .i64 x.rows, .int .i64 x.bytes, .int .i64 x.level] 28)).drew.cell? ⟨y5.heap.size, 4, none⟩ = some (.int .i64 x.last) ∧ (y5.alloc (.cells #[.int .i64 x.id, .int .i64 x.least, .int .i64 x.most, .int .i64 x.first, .int .i64 x.last, .int .i64 x.rows, .int .i64 x.bytes, .int .i64 x.level] 28)).drew.cell? ⟨y5.heap.size, 5, none⟩ = some (.int .i64 x.rows) ∧ (y5.alloc (.cells #[.int .i64 x.id, .int .i64 x.least, .int .i64 x.most, .int .i64 x.first, .int .i64 x.last, .int .i64 x.rows, .int .i64 x.bytes, .int .i64 x.level] 28)).drew.cell? ⟨y5.heap.size, 6, none⟩ = some (.int .i64 x.bytes) ∧ (y5.alloc (.cells #[.int .i64 x.id, .int .i64 x.least, .int .i64 x.most, .int .i64 x.first, .int .i64 x.last, .int .i64 x.rows, .int .i64 x.bytes, .int .i64 x.level] 28)).drew.cell? ⟨y5.heap.size, 7, none⟩ = some (.int .i64 x.level) ∧ (y5.alloc (.cells #[.int .i64 x.id, .int .i64 x.least, .int .i64 x.most, .int .i64 x.first, .int .i64 x.last, .int .i64 x.rows, .int .i64 x.bytes, .int .i64 x.level] 28)).drew.cell? ⟨b, off + i * 8, none⟩ = some (.int .i64 x.id) ∧ (y5.alloc (.cells #[.int .i64 x.id, .int .i64 x.least, .int .i64 x.most, .int .i64 x.first, .int .i64 x.last, .int .i64 x.rows, .int .i64 x.bytes, .int .i64 x.level] 28)).drew.cell? ⟨b, off + i * 8 + 1, none⟩ = some (.int .i64 x.least) ∧ (y5.alloc (.cells #[.int .i64 x.id, .int .i64 x.least, .int .i64 x.most, .int .i64 x.first, .int .i64 x.last, .int .i64 x.rows, .int .i64 x.bytes, .int .i64 x.level] 28)).drew.cell? ⟨b, off + i * 8 + 2, none⟩ = some (.int .i64 x.most) ∧ (y5.alloc (.cells #[.int .i64 x.id, .int .i64 x.least, .int .i64 x.most, .int .i64 x.first, .int .i64 x.last, .int .i64 x.rows, .int .i64 x.bytes, .int .i64 x.level] 28)).drew.cell? ⟨b, off + i * 8 + 3, none⟩ = some (.int .i64 x.first) ∧ (y5.alloc (.cells #[.int .i64 x.id, .int .i64 x.least, .int .i64 x.most, .int .i64 x.first, .int .i64 x.last, .int .i64 x.rows, .int .i64 x.bytes, .int .i64 x.level] 28)).drew.cell? ⟨b, off + i * 8 + 4, none⟩ = some (.int .i64 x.last) ∧ (y5.alloc (.cells #[.int .i64 x.id, .int .i64 x.least, .int .i64 x.most, .int .i64 x.first, .int .i64 x.last, .int .i64 x.rows, .int .i64 x.bytes, .int .i64 x.level] 28)).drew.cell? ⟨b, off + i * 8 + 5, none⟩ = some (.int .i64 x.rows) ∧ (y5.alloc (.cells #[.int .i64 x.id, .int .i64 x.least, .int .i64 x.most, .int .i64 x.first, .int .i64 x.last, .int .i64 x.rows, .int .i64 x.bytes, .int .i64 x.level] 28)).drew.cell? ⟨b, off + i * 8 + 6, none⟩ = some (.int .i64 x.bytes) ∧ (y5.alloc (.cells #[.int .i64 x.id, .int .i64 x.least, .int .i64 x.most, .int .i64 x.first, .int .i64 x.last, .int .i64 x.rows, .int .i64 x.bytes, .int .i64 x.level] 28)).drew.cell? ⟨b, off + i * 8 + 7, none⟩ = some (.int .i64 x.level) := ⟨h6.drew, (Below.refl _ _).drew, held_cell (i := 0) kb rfl, held_cell (i := 1) kb rfl, held_cell (i := 2) kb rfl, held_cell (i := 3) kb rfl, held_cell (i := 4) kb rfl, held_cell (i := 5) kb rfl, held_cell (i := 6) kb rfl, held_cell (i := 7) kb rfl, (HHC.out _ h6.drew).c0, (HHC.out _ h6.drew).c1, (HHC.out _ h6.drew).c2, (HHC.out _ h6.drew).c3, (HHC.out _ h6.drew).c4, (HHC.out _ h6.drew).c5, (HHC.out _ h6.drew).c6, (HHC.out _ h6.drew).c7⟩
        go_region_held3 (fun w' => Below Wb.heap.size Wb w' ∧ Below (y5.alloc (.cells #[.int .i64 x.id, .int .i64 x.least, .int .i64 x.most, .int .i64 x.first, .int .i64 x.last, .int .i64 x.rows, .int .i64 x.bytes, .int .i64 x.level] 28)).heap.size (y5.alloc (.cells #[.int .i64 x.id, .int .i64 x.least, .int .i64 x.most, .int .i64 x.first, .int .i64 x.last, .int .i64 x.rows, .int .i64 x.bytes, .int .i64 x.level] 28)) w' ∧ w'.cell? ⟨y5.heap.size, 0, none⟩ = some (.int .i64 x.id) ∧ w'.cell? ⟨y5.heap.size, 1, none⟩ = some (.int .i64 x.least) ∧ w'.cell? ⟨y5.heap.size, 2, none⟩ = some (.int .i64 x.most) ∧ w'.cell? ⟨y5.heap.size, 3, none⟩ = some (.int .i64 x.first) ∧ w'.cell? ⟨y5.heap.size, 4, none⟩ = some (.int .i64 x.last) ∧ w'.cell? ⟨y5.heap.size, 5, none⟩ = some (.int .i64 x.rows) ∧ w'.cell? ⟨y5.heap.size, 6, none⟩ = some (.int .i64 x.bytes) ∧ w'.cell? ⟨y5.heap.size, 7, none⟩ = some (.int .i64 x.level) ∧ w'.cell? ⟨b, off + i * 8, none⟩ = some (.int .i64 x.id) ∧ w'.cell? ⟨b, off + i * 8 + 1, none⟩ = some (.int .i64 x.least) ∧ w'.cell? ⟨b, off + i * 8 + 2, none⟩ = some (.int .i64 x.most) ∧ w'.cell? ⟨b, off + i * 8 + 3, none⟩ = some (.int .i64 x.first) ∧ w'.cell? ⟨b, off + i * 8 + 4, none⟩ = some (.int .i64 x.last) ∧ w'.cell? ⟨b, off + i * 8 + 5, none⟩ = some (.int .i64 x.rows) ∧ w'.cell? ⟨b, off + i * 8 + 6, none⟩ = some (.int .i64 x.bytes) ∧ w'.cell? ⟨b, off + i * 8 + 7, none⟩ = some (.int .i64 x.level)) (exact hk) (first
          | (go_at_call 11; refine (num_is _ _).mono ?_; rintro e x6 ⟨rfl, rfl⟩))
        go_wp2_with fail
        go_roundw
        case rel => exact ⟨i + 1, by go_num, HL.out, h6.drew⟩
        case measure => have := HL.out; simp [intOf]; omega
    · have hil : ¬ (i : Int) < (l.length : Int) := by omega
      have hK := knows_is wr
      clear ROW ROW2
      go_wp2_with (go_at_call 17; refine hK.mono ?_; rintro e w9 ⟨rfl, b9⟩; clear hK)
      go_ret
      exact ⟨rfl, (HBX.out.trans (hbw.mono HBX.out.size)).trans (b9.mono (HBX.out.trans (hbw.mono HBX.out.size)).size)⟩
end Go.Proofs.Ytddbmibpnahmnaa
