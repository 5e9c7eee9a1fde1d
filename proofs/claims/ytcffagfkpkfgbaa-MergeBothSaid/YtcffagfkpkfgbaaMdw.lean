/-
  The law's deal: four ordered rows of the entries. Conditions: those that each theorem names.
-/
import Derived.Test.YtcffagfkpkfgbaaMdl
import Derived.Test.YtcffagfkpkfgbaaMso
namespace Go.Icz
open Go.RowKit
def KInt : Kd Int where
  e := 3
  z := 1
  enc := fun k => [.int .i64 k]
  len := fun _ => rfl
  pos := by decide
  one := by
    intro x u hu
    simp only [List.mem_cons, List.not_mem_nil, or_false] at hu
    subst hu; rfl
/-- The entries, ordered either way. -/
def StB (nb : Bool) (l s : List EV) : Prop := s.Pairwise (leq kyV nb) ∧ s.Perm l
end Go.Icz
namespace Go.Proofs.Ytcffagfkpkfgbaa
open Go.RowKit Go.Icz Go.Maps
attribute [local go_sem] Oper.semAt_some
set_option maxRecDepth 100000
set_option maxHeartbeats 8000000
theorem make4 (w : World) : (Instr.makeSlice 27 (.int .i64 4) (.int .i64 4)).run Try.prog w = .ok (.slice (some ⟨w.heap.size, 0, none⟩) 4 4) (w.alloc (.cells #[.slice none 0 0, .slice none 0 0, .slice none 0 0, .slice none 0 0] 22)) := by
  obtain ⟨i, hi, hz, hs, hb⟩ := info_parts infoS
  have h := run_makeSlice (P := Try.prog) (w := w) 27 22 i (.slice none 0 0) Try.underlying27 hi hz .i64 .i64 4 4 (by decide) (by decide) (by rw [hs]; decide) (by rw [hb]; decide) (by decide)
  rw [hs] at h
  have e : madeCells (Value.slice none 0 0).cells (Int.toNat 4 * 1) = #[.slice none 0 0, .slice none 0 0, .slice none 0 0, .slice none 0 0] := by
    unfold madeCells
    apply Array.ext'
    simp only [Array.toList_map, Array.toList_range]
    rfl
  rw [e] at h
  exact h
def DealOut (l : List EV) (nb : Bool) (w : World) (e : Ending) (w' : World) : Prop :=
  ∃ u R s, e = .returned u ∧ KSl.Own w' w.heap.size u R ∧ R.length = 4 ∧ (∀ i (hi : i < R.length), KEnt.Own w' w.heap.size R[i].v R[i].l) ∧ StB nb l s ∧ Cv R s s.length ∧ Below w.heap.size w w'
theorem deal_false (v vt : Value) (l : List EV) (T : List Int) (w : World) (hR : RdE w v l) (hz : SzE l) (hT : KInt.Rd w vt T) :
    Calls Try.prog 10 #[v, vt, .bool false] w (DealOut l false w) := by
  have hSort := fun w' (hb : Below w.heap.size w w') => R3Sort_is v l w' (hR.1.below hb) hz.1
  obtain ⟨At, ct, rfl, hct⟩ := hT.form
  have hD0 := Dl.made w (Nat.le_refl _)
  have hb0 : Below w.heap.size w (w.alloc (.cells #[.slice none 0 0, .slice none 0 0, .slice none 0 0, .slice none 0 0] 22)) := (Below.refl _ w).alloc (Nat.le_refl _) _
  have hS0 := hSort _ hb0
  have hmk := make4 w
  have hz0 : (w.alloc (.cells #[.slice none 0 0, .slice none 0 0, .slice none 0 0, .slice none 0 0] 22)).heap.size = w.heap.size + 1 := World.size_alloc _ _
  generalize hW1 : w.alloc (.cells #[.slice none 0 0, .slice none 0 0, .slice none 0 0, .slice none 0 0] 22) = W1 at *
  have HZ := hid hz
  have HT := hid hT
  have HRd := hid hR
  clear hSort hR hT hct
  obtain ⟨g, hg⟩ : ∃ g, g = w.heap.size := ⟨_, rfl⟩
  have HG := hid hg
  rw [← hg] at hmk hD0
  clear hg
  go_enter Try.func10, Try.ntmps10
  go_wp2_with (first
    | (go_at_call 7; refine hS0.mono ?_; rintro e ws ⟨vs, s, rfl, os, sts, bs⟩; have st := hid (show StB false l s from sts); have OS := hid os; obtain ⟨As, sc, hvs, _⟩ := os.rd.form; subst hvs; clear hS0 os sts)
    | fail)
  have BWS := hid (show Below W1.heap.size W1 ws from bs)
  clear bs
  have hDs : Hid (Dl ws g ws.heap.size g [noR, noR, noR, noR]) := hid (hD0.below BWS.out (fun i hi => by match i, hi with | 0, _ => rfl | 1, _ => rfl | 2, _ => rfl | 3, _ => rfl) (by have := hD0.lt.2; have := BWS.out.size; omega))
  clear hD0
  go_loopw [9, 10, 11, 12] (fun iv _ _ _ wr => ∃ (i : Nat) (R : List SR), iv = .int .i64 (i : Int) ∧ Hid (i ≤ s.length) ∧ Hid (Dl wr g ws.heap.size g R) ∧ Hid (Cv R s i) ∧ Hid (Tch (fun k => k = g ∨ ws.heap.size ≤ k) ws wr)) (fun iv _ _ _ _ => s.length - (intOf iv).toNat)
  case atStart => exact ⟨0, _, rfl, hid (Nat.zero_le _), hDs, hid (Cv.zero s), hid (Tch.refl _ _)⟩
  case round =>
    obtain ⟨i, R, rfl, hi, HD, HC, HT1⟩ := hrel
    by_cases hil : i < s.length
    · have hii : (i : Int) < (s.length : Int) := by omega
      obtain ⟨sb, so, sc', hv, hlo, hlt, c0, c1, c2, c3⟩ := own4 OS.out hil
      injection hv with hA _ hc
      subst hA hc
      have hnot : ¬ (sb = g ∨ ws.heap.size ≤ sb) := by have := HG.out; omega
      have HCF : Hid (∀ a (ha : a < R.length) A c, Cv (R.set a ⟨A, c, R[a].l ++ [s[i]]⟩) s (i + 1)) := hid (fun a ha A c => HC.out.first hil ha A c)
      have HCS : Hid (∀ (R1 : List SR), Cv R1 s (i + 1) → ∀ b (hb : b < R1.length), R1[b].l.Sublist (s.take i) → ∀ A c, Cv (R1.set b ⟨A, c, R1[b].l ++ [s[i]]⟩) s (i + 1)) := hid (fun R1 h b hb hs A c => h.second hil hb hs A c)
      generalize s[i] = x at *
      have HX : Hid (∀ w', Tch (fun k => k = g ∨ ws.heap.size ≤ k) ws w' → w'.cell? ⟨sb, so + i * 4, none⟩ = some (.int .i64 x.1.seq) ∧ w'.cell? ⟨sb, so + i * 4 + 1, none⟩ = some (.int .i64 x.1.time) ∧ w'.cell? ⟨sb, so + i * 4 + 2, none⟩ = some (.slice x.2.1 x.1.labs.length x.2.2) ∧ w'.cell? ⟨sb, so + i * 4 + 3, none⟩ = some (.string ⟨x.1.line.toArray⟩)) := hid (fun w' k => ⟨(k.cell hlt hnot).trans c0, (k.cell hlt hnot).trans c1, (k.cell hlt hnot).trans c2, (k.cell hlt hnot).trans c3⟩)
      clear c0 c1 c2 c3 hnot hlo hlt
      have HIL := hid hil
      have hl1 : (s.length : Int) ≤ 1099511627776 := by have h1 := st.out.2.length_eq; have h2 := HZ.out.1; omega
      clear hil
      by_cases hiT : i < T.length
      · have hiT' : (i : Int) < (T.length : Int) := by omega
        obtain ⟨tb, tof, hA, htb, hcell⟩ := HT.out.at hiT
        subst hA
        have qt : wr.cell? ⟨tb, tof + i, none⟩ = some (.int .i64 T[i]) := by
          have h1 := hcell 0 _ (by decide) rfl
          have h2 : w.heap.size ≤ W1.heap.size := hb0.size
          have h3 := BWS.out.size
          have h4 := HG.out
          have h5 := (HT1.out.cell (i := tof + (i * 1 + 0)) (show tb < ws.heap.size by omega) (by omega)).trans (((hb0.trans (BWS.out.mono h2)).cell (p := ⟨tb, tof + (i * 1 + 0), none⟩) htb).trans h1)
          rwa [Nat.mul_one, Nat.add_zero] at h5
        clear hcell htb
        generalize T[i] = kk at *
        go_wp2_with fail
        have ha1 := md4 kk
        have hb1 := md4 (wrap64 (kk.tdiv 4))
        generalize (wrap64 (kk.tmod 4 + 4)).tmod 4 = av at *
        generalize (wrap64 ((wrap64 (kk.tdiv 4)).tmod 4 + 4)).tmod 4 = bv at *
        obtain ⟨an, rfl⟩ : ∃ n : Nat, av = (n : Int) := ⟨av.toNat, by omega⟩
        obtain ⟨bn, rfl⟩ : ∃ n : Nat, bv = (n : Int) := ⟨bv.toNat, by omega⟩
        have an4 : an < 4 := by omega
        have bn4 : bn < 4 := by omega
        clear ha1 hb1
        have anR1 : an < R.length := by have := HD.out.len; omega
        obtain ⟨r1, hr1⟩ : ∃ r, r = R[an] := ⟨_, rfl⟩
        have HO1 : Hid (KEnt.Own wr ws.heap.size r1.v r1.l) := hid (by rw [hr1]; exact HD.out.own an anR1)
        have HR1 := hid hr1
        have HL1 : Hid (r1.l.length ≤ s.length) := hid (by rw [hr1]; exact Nat.le_trans (HC.out.1 _ _).length_le (by rw [List.length_take]; omega))
        have HS1 : Hid (∀ w', Tch (fun k => r1.v.ownBlock = some k) wr w' → (fun wS => wS.cell? ⟨g, an, none⟩ = some (.slice r1.A r1.l.length r1.c) ∧ wS.cell? ⟨sb, so + i * 4, none⟩ = some (.int .i64 x.1.seq) ∧ wS.cell? ⟨sb, so + i * 4 + 1, none⟩ = some (.int .i64 x.1.time) ∧ wS.cell? ⟨sb, so + i * 4 + 2, none⟩ = some (.slice x.2.1 x.1.labs.length x.2.2) ∧ wS.cell? ⟨sb, so + i * 4 + 3, none⟩ = some (.string ⟨x.1.line.toArray⟩)) w') := hid (fun w' k => by
          have hlo := fun j (hj : r1.v.ownBlock = some j) => (HO1.out.lt j hj).1
          have hgw := HD.out.lt
          have hgB := HD.out.ne
          have q := cellD HD.out anR1
          rw [← HR1.out] at q
          exact ⟨(k.cell hgw.2 (fun e => by have := hlo g e; omega)).trans q, HX.out w' (HT1.out.trans (k.mono (fun j hj => .inr (hlo j hj))))⟩)
        have HF1 : Hid (∀ w', Tch (fun k => r1.v.ownBlock = some k) wr w' → w'.frozen? ⟨g, an, none⟩ = false) := hid (fun w' k => by
          have hlo := fun j (hj : r1.v.ownBlock = some j) => (HO1.out.lt j hj).1
          have hgw := HD.out.lt
          have hgB := HD.out.ne
          exact (World.frozen?_of_block (k.block g hgw.2 (fun e => by have := hlo g e; omega))).trans (frozD HD.out _))
        clear hr1
        have S1 := HS1.out wr.drew (Tch.drew _ _)
        have I1 : (an : Int) < 4 := by omega
        refine wp_region_L 13 (fun wS => wS.cell? ⟨g, an, none⟩ = some (.slice r1.A r1.l.length r1.c) ∧ wS.cell? ⟨sb, so + i * 4, none⟩ = some (.int .i64 x.1.seq) ∧ wS.cell? ⟨sb, so + i * 4 + 1, none⟩ = some (.int .i64 x.1.time) ∧ wS.cell? ⟨sb, so + i * 4 + 2, none⟩ = some (.slice x.2.1 x.1.labs.length x.2.2) ∧ wS.cell? ⟨sb, so + i * 4 + 3, none⟩ = some (.string ⟨x.1.line.toArray⟩)) (by kernel_rfl) ?_
        refine takeL (i := 0) (d := 43) (v := .slice (some ⟨g, 0, none⟩) 4 4) rfl rfl (by kernel_rfl) (by kernel_rfl) (by kernel_rfl) (by kernel_rfl) (by kernel_rfl) (fun _ _ _ h => h) (Or.inl ⟨by rfl, fun wS hSw => by obtain ⟨s0, s1, s2, s3, s4⟩ := hSw; go_simp⟩) S1 ?_
        try simp only [List.setIfInBounds_toArray, List.set_cons_zero, List.set_cons_succ]
        refine takeL (i := 1) (d := 44) (v := .int .i64 (an : Int)) rfl rfl (by kernel_rfl) (by kernel_rfl) (by kernel_rfl) (by kernel_rfl) (by kernel_rfl) (fun _ _ _ h => h) (Or.inl ⟨by rfl, fun wS hSw => by obtain ⟨s0, s1, s2, s3, s4⟩ := hSw; go_simp⟩) S1 ?_
        try simp only [List.setIfInBounds_toArray, List.set_cons_zero, List.set_cons_succ]
        refine takeL (i := 2) (d := 45) (v := .slice (some ⟨g, 0, none⟩) 4 4) rfl rfl (by kernel_rfl) (by kernel_rfl) (by kernel_rfl) (by kernel_rfl) (by kernel_rfl) (fun _ _ _ h => h) (Or.inl ⟨by rfl, fun wS hSw => by obtain ⟨s0, s1, s2, s3, s4⟩ := hSw; go_simp⟩) S1 ?_
        try simp only [List.setIfInBounds_toArray, List.set_cons_zero, List.set_cons_succ]
        refine takeL (i := 3) (d := 46) (v := .int .i64 (an : Int)) rfl rfl (by kernel_rfl) (by kernel_rfl) (by kernel_rfl) (by kernel_rfl) (by kernel_rfl) (fun _ _ _ h => h) (Or.inl ⟨by rfl, fun wS hSw => by obtain ⟨s0, s1, s2, s3, s4⟩ := hSw; go_simp⟩) S1 ?_
        try simp only [List.setIfInBounds_toArray, List.set_cons_zero, List.set_cons_succ]
        refine takeL (i := 4) (d := 47) (v := .pointer (some ⟨g, an, none⟩)) rfl rfl (by kernel_rfl) (by kernel_rfl) (by kernel_rfl) (by kernel_rfl) (by kernel_rfl) (fun _ _ _ h => h) (Or.inl ⟨by rfl, fun wS hSw => by obtain ⟨s0, s1, s2, s3, s4⟩ := hSw; go_simp⟩) S1 ?_
        try simp only [List.setIfInBounds_toArray, List.set_cons_zero, List.set_cons_succ]
        refine takeL (i := 5) (d := 48) (v := .slice r1.A r1.l.length r1.c) rfl rfl (by kernel_rfl) (by kernel_rfl) (by kernel_rfl) (by kernel_rfl) (by kernel_rfl) (fun _ _ _ h => h) (Or.inl ⟨by rfl, fun wS hSw => by obtain ⟨s0, s1, s2, s3, s4⟩ := hSw; go_simp⟩) S1 ?_
        try simp only [List.setIfInBounds_toArray, List.set_cons_zero, List.set_cons_succ]
        refine takeL (i := 6) (d := 49) (v := .slice (some ⟨sb, so, none⟩) s.length sc) rfl rfl (by kernel_rfl) (by kernel_rfl) (by kernel_rfl) (by kernel_rfl) (by kernel_rfl) (fun _ _ _ h => h) (Or.inl ⟨by rfl, fun wS hSw => by obtain ⟨s0, s1, s2, s3, s4⟩ := hSw; go_simp⟩) S1 ?_
        try simp only [List.setIfInBounds_toArray, List.set_cons_zero, List.set_cons_succ]
        refine takeL (i := 7) (d := 50) (v := .int .i64 (i : Int)) rfl rfl (by kernel_rfl) (by kernel_rfl) (by kernel_rfl) (by kernel_rfl) (by kernel_rfl) (fun _ _ _ h => h) (Or.inl ⟨by rfl, fun wS hSw => by obtain ⟨s0, s1, s2, s3, s4⟩ := hSw; go_simp⟩) S1 ?_
        try simp only [List.setIfInBounds_toArray, List.set_cons_zero, List.set_cons_succ]
        refine takeL (i := 8) (d := 51) (v := .pointer (some ⟨sb, so + i * 4, none⟩)) rfl rfl (by kernel_rfl) (by kernel_rfl) (by kernel_rfl) (by kernel_rfl) (by kernel_rfl) (fun _ _ _ h => h) (Or.inl ⟨by rfl, fun wS hSw => by obtain ⟨s0, s1, s2, s3, s4⟩ := hSw; go_simp⟩) S1 ?_
        try simp only [List.setIfInBounds_toArray, List.set_cons_zero, List.set_cons_succ]
        refine takeL (i := 9) (d := 52) (v := .agg #[.int .i64 x.1.seq, .int .i64 x.1.time, .slice x.2.1 x.1.labs.length x.2.2, .string ⟨x.1.line.toArray⟩]) rfl rfl (by kernel_rfl) (by kernel_rfl) (by kernel_rfl) (by kernel_rfl) (by kernel_rfl) (fun _ _ _ h => h) (Or.inl ⟨by rfl, fun wS hSw => by obtain ⟨s0, s1, s2, s3, s4⟩ := hSw; go_simp⟩) S1 ?_
        try simp only [List.setIfInBounds_toArray, List.set_cons_zero, List.set_cons_succ]
        refine readyL (rs := [10]) (by kernel_rfl) (by simp) ?_
        refine AllReadyL.cons rfl (fun K hK => ?_) AllReadyL.nil
        try rw [if_pos (by rfl)]
        go_simp
        refine hK.out _ _ (HS1.out _ ((Tch.alloc _ _ _).trans (Tch.drew _ _))) ?_
        clear hK K S1
        refine readyL (rs := [11]) (by kernel_rfl) (by simp) ?_
        refine AllReadyL.cons rfl (fun K hK => ?_) AllReadyL.nil
        refine step_app1L rfl (.tmp 48) (.tmp 53) 22 rfl Try.underlying22 infoE rfl ws.heap.size _ r1.l x rfl ((HO1.out.alloc _).touch (Tch.drew (fun _ => False) _) (fun _ e => e.elim)) _ (heap_alloc_new _ _) rfl (by have := HL1.out; unfold maxLen; omega) (by have := HL1.out; omega) (HT1.out.trans ((Tch.alloc _ _ (.cells #[.int .i64 x.1.seq, .int .i64 x.1.time, .slice x.2.1 x.1.labs.length x.2.2, .string ⟨x.1.line.toArray⟩] 34)).trans (Tch.drew _ _))).size ?_
        intro g1 cap1 w15 o15 gr15 hb15
        refine hK.out _ _ (HS1.out _ (((Tch.alloc _ _ _).trans (Tch.drew _ _)).trans (Tch.grown gr15 (fun k hk => hk)))) ?_
        have S12 := HS1.out _ (((Tch.alloc _ _ _).trans (Tch.drew _ _)).trans (Tch.grown gr15 (fun k hk => hk)))
        have Z1 := HF1.out _ (((Tch.alloc _ _ _).trans (Tch.drew _ _)).trans (Tch.grown gr15 (fun k hk => hk)))
        clear hK K HF1
        simp only [Act.put, List.setIfInBounds_toArray]
        have DD1 := Dl.step2 (o := .cells #[.int .i64 x.1.seq, .int .i64 x.1.time, .slice x.2.1 x.1.labs.length x.2.2, .string ⟨x.1.line.toArray⟩] 34) HD.out.drew anR1 x HR1.out o15 gr15 hb15
        have HDD1 := hid DD1
        clear DD1 o15 gr15 hb15
        refine takeL (i := 12) (d := 55) (v := .pointer (some ⟨g, an, none⟩)) rfl rfl (by kernel_rfl) (by kernel_rfl) (by kernel_rfl) (by kernel_rfl) (by kernel_rfl) (fun _ _ _ h => h) (Or.inl ⟨by rfl, fun wS hSw => by obtain ⟨s0, s1, s2, s3, s4⟩ := hSw; go_simp⟩) S12 ?_
        try simp only [List.setIfInBounds_toArray, List.set_cons_zero, List.set_cons_succ]
        have qs1 := S12.1
        refine readyL (rs := [13]) (by kernel_rfl) (by simp) ?_
        refine AllReadyL.last rfl (fun K hK => ?_)
        try rw [if_pos (by rfl)]
        go_simp
        refine hK.out _ _ ?_
        clear hK K qs1 S12 Z1
        refine doneL (by kernel_rfl) ?_
        have D1 := HDD1.out.1
        have T1 := HT1.out.trans ((Tch.drew _ _).trans HDD1.out.2)
        have C1 := HCF.out an anR1 (some ⟨g1, 0, none⟩) cap1
        rw [← HR1.out] at C1
        have SB : bn ≠ an → ∀ hb : bn < (R.set an ⟨some ⟨g1, 0, none⟩, cap1, r1.l ++ [x]⟩).length, ((R.set an ⟨some ⟨g1, 0, none⟩, cap1, r1.l ++ [x]⟩)[bn]).l.Sublist (s.take i) := fun hne hb => by
          rw [List.getElem_set_ne (fun c => hne c.symm)]
          exact HC.out.1 bn (by simpa using hb)
        generalize R.set an ⟨some ⟨g1, 0, none⟩, cap1, r1.l ++ [x]⟩ = R1 at *
        have el1 : (r1.l ++ [x]).length = r1.l.length + 1 := by rw [List.length_append]; rfl
        rw [el1] at D1 T1
        clear el1
        generalize w15.setCell ⟨g, an, none⟩ (.slice (some ⟨g1, 0, none⟩) (r1.l.length + 1) cap1) = wm at *
        have HD1 := hid D1
        have HT2 := hid T1
        have HC1 := hid C1
        have HSB := hid SB
        clear HDD1 D1 T1 C1 SB HS1 HO1 HR1 HL1 HCF HC HD HT1 anR1
        by_cases hba : bn = an
        · subst hba
          go_wp2_with fail
          go_roundw
          case rel => exact ⟨i + 1, R1, by go_num, HIL, HD1, HC1, HT2⟩
          case measure => have := HIL.out; simp [intOf]; omega
        · have hne : ¬ (bn : Int) = (an : Int) := by omega
          go_wp2_with fail
          have bnR2 : bn < R1.length := by have := HD1.out.len; omega
          obtain ⟨r2, hr2⟩ : ∃ r, r = R1[bn] := ⟨_, rfl⟩
          have HO2 : Hid (KEnt.Own wm ws.heap.size r2.v r2.l) := hid (by rw [hr2]; exact HD1.out.own bn bnR2)
          have HR2 := hid hr2
          have HL2 : Hid (r2.l.length ≤ s.length) := hid (by rw [hr2]; exact Nat.le_trans (HSB.out hba _).length_le (by rw [List.length_take]; omega))
          have HS2 : Hid (∀ w', Tch (fun k => r2.v.ownBlock = some k) wm w' → (fun wS => wS.cell? ⟨g, bn, none⟩ = some (.slice r2.A r2.l.length r2.c) ∧ wS.cell? ⟨sb, so + i * 4, none⟩ = some (.int .i64 x.1.seq) ∧ wS.cell? ⟨sb, so + i * 4 + 1, none⟩ = some (.int .i64 x.1.time) ∧ wS.cell? ⟨sb, so + i * 4 + 2, none⟩ = some (.slice x.2.1 x.1.labs.length x.2.2) ∧ wS.cell? ⟨sb, so + i * 4 + 3, none⟩ = some (.string ⟨x.1.line.toArray⟩)) w') := hid (fun w' k => by
            have hlo := fun j (hj : r2.v.ownBlock = some j) => (HO2.out.lt j hj).1
            have hgw := HD1.out.lt
            have hgB := HD1.out.ne
            have q := cellD HD1.out bnR2
            rw [← HR2.out] at q
            exact ⟨(k.cell hgw.2 (fun e => by have := hlo g e; omega)).trans q, HX.out w' (HT2.out.trans (k.mono (fun j hj => .inr (hlo j hj))))⟩)
          have HF2 : Hid (∀ w', Tch (fun k => r2.v.ownBlock = some k) wm w' → w'.frozen? ⟨g, bn, none⟩ = false) := hid (fun w' k => by
            have hlo := fun j (hj : r2.v.ownBlock = some j) => (HO2.out.lt j hj).1
            have hgw := HD1.out.lt
            have hgB := HD1.out.ne
            exact (World.frozen?_of_block (k.block g hgw.2 (fun e => by have := hlo g e; omega))).trans (frozD HD1.out _))
          clear hr2
          have S2 := HS2.out wm.drew (Tch.drew _ _)
          have I2 : (bn : Int) < 4 := by omega
          refine wp_region_L 13 (fun wS => wS.cell? ⟨g, bn, none⟩ = some (.slice r2.A r2.l.length r2.c) ∧ wS.cell? ⟨sb, so + i * 4, none⟩ = some (.int .i64 x.1.seq) ∧ wS.cell? ⟨sb, so + i * 4 + 1, none⟩ = some (.int .i64 x.1.time) ∧ wS.cell? ⟨sb, so + i * 4 + 2, none⟩ = some (.slice x.2.1 x.1.labs.length x.2.2) ∧ wS.cell? ⟨sb, so + i * 4 + 3, none⟩ = some (.string ⟨x.1.line.toArray⟩)) (by kernel_rfl) ?_
          refine takeL (i := 0) (d := 59) (v := .slice (some ⟨g, 0, none⟩) 4 4) rfl rfl (by kernel_rfl) (by kernel_rfl) (by kernel_rfl) (by kernel_rfl) (by kernel_rfl) (fun _ _ _ h => h) (Or.inl ⟨by rfl, fun wS hSw => by obtain ⟨s0, s1, s2, s3, s4⟩ := hSw; go_simp⟩) S2 ?_
          try simp only [List.setIfInBounds_toArray, List.set_cons_zero, List.set_cons_succ]
          refine takeL (i := 1) (d := 60) (v := .int .i64 (bn : Int)) rfl rfl (by kernel_rfl) (by kernel_rfl) (by kernel_rfl) (by kernel_rfl) (by kernel_rfl) (fun _ _ _ h => h) (Or.inl ⟨by rfl, fun wS hSw => by obtain ⟨s0, s1, s2, s3, s4⟩ := hSw; go_simp⟩) S2 ?_
          try simp only [List.setIfInBounds_toArray, List.set_cons_zero, List.set_cons_succ]
          refine takeL (i := 2) (d := 61) (v := .slice (some ⟨g, 0, none⟩) 4 4) rfl rfl (by kernel_rfl) (by kernel_rfl) (by kernel_rfl) (by kernel_rfl) (by kernel_rfl) (fun _ _ _ h => h) (Or.inl ⟨by rfl, fun wS hSw => by obtain ⟨s0, s1, s2, s3, s4⟩ := hSw; go_simp⟩) S2 ?_
          try simp only [List.setIfInBounds_toArray, List.set_cons_zero, List.set_cons_succ]
          refine takeL (i := 3) (d := 62) (v := .int .i64 (bn : Int)) rfl rfl (by kernel_rfl) (by kernel_rfl) (by kernel_rfl) (by kernel_rfl) (by kernel_rfl) (fun _ _ _ h => h) (Or.inl ⟨by rfl, fun wS hSw => by obtain ⟨s0, s1, s2, s3, s4⟩ := hSw; go_simp⟩) S2 ?_
          try simp only [List.setIfInBounds_toArray, List.set_cons_zero, List.set_cons_succ]
          refine takeL (i := 4) (d := 63) (v := .pointer (some ⟨g, bn, none⟩)) rfl rfl (by kernel_rfl) (by kernel_rfl) (by kernel_rfl) (by kernel_rfl) (by kernel_rfl) (fun _ _ _ h => h) (Or.inl ⟨by rfl, fun wS hSw => by obtain ⟨s0, s1, s2, s3, s4⟩ := hSw; go_simp⟩) S2 ?_
          try simp only [List.setIfInBounds_toArray, List.set_cons_zero, List.set_cons_succ]
          refine takeL (i := 5) (d := 64) (v := .slice r2.A r2.l.length r2.c) rfl rfl (by kernel_rfl) (by kernel_rfl) (by kernel_rfl) (by kernel_rfl) (by kernel_rfl) (fun _ _ _ h => h) (Or.inl ⟨by rfl, fun wS hSw => by obtain ⟨s0, s1, s2, s3, s4⟩ := hSw; go_simp⟩) S2 ?_
          try simp only [List.setIfInBounds_toArray, List.set_cons_zero, List.set_cons_succ]
          refine takeL (i := 6) (d := 65) (v := .slice (some ⟨sb, so, none⟩) s.length sc) rfl rfl (by kernel_rfl) (by kernel_rfl) (by kernel_rfl) (by kernel_rfl) (by kernel_rfl) (fun _ _ _ h => h) (Or.inl ⟨by rfl, fun wS hSw => by obtain ⟨s0, s1, s2, s3, s4⟩ := hSw; go_simp⟩) S2 ?_
          try simp only [List.setIfInBounds_toArray, List.set_cons_zero, List.set_cons_succ]
          refine takeL (i := 7) (d := 66) (v := .int .i64 (i : Int)) rfl rfl (by kernel_rfl) (by kernel_rfl) (by kernel_rfl) (by kernel_rfl) (by kernel_rfl) (fun _ _ _ h => h) (Or.inl ⟨by rfl, fun wS hSw => by obtain ⟨s0, s1, s2, s3, s4⟩ := hSw; go_simp⟩) S2 ?_
          try simp only [List.setIfInBounds_toArray, List.set_cons_zero, List.set_cons_succ]
          refine takeL (i := 8) (d := 67) (v := .pointer (some ⟨sb, so + i * 4, none⟩)) rfl rfl (by kernel_rfl) (by kernel_rfl) (by kernel_rfl) (by kernel_rfl) (by kernel_rfl) (fun _ _ _ h => h) (Or.inl ⟨by rfl, fun wS hSw => by obtain ⟨s0, s1, s2, s3, s4⟩ := hSw; go_simp⟩) S2 ?_
          try simp only [List.setIfInBounds_toArray, List.set_cons_zero, List.set_cons_succ]
          refine takeL (i := 9) (d := 68) (v := .agg #[.int .i64 x.1.seq, .int .i64 x.1.time, .slice x.2.1 x.1.labs.length x.2.2, .string ⟨x.1.line.toArray⟩]) rfl rfl (by kernel_rfl) (by kernel_rfl) (by kernel_rfl) (by kernel_rfl) (by kernel_rfl) (fun _ _ _ h => h) (Or.inl ⟨by rfl, fun wS hSw => by obtain ⟨s0, s1, s2, s3, s4⟩ := hSw; go_simp⟩) S2 ?_
          try simp only [List.setIfInBounds_toArray, List.set_cons_zero, List.set_cons_succ]
          refine readyL (rs := [10]) (by kernel_rfl) (by simp) ?_
          refine AllReadyL.cons rfl (fun K hK => ?_) AllReadyL.nil
          try rw [if_pos (by rfl)]
          go_simp
          refine hK.out _ _ (HS2.out _ ((Tch.alloc _ _ _).trans (Tch.drew _ _))) ?_
          clear hK K S2
          refine readyL (rs := [11]) (by kernel_rfl) (by simp) ?_
          refine AllReadyL.cons rfl (fun K hK => ?_) AllReadyL.nil
          refine step_app1L rfl (.tmp 64) (.tmp 69) 22 rfl Try.underlying22 infoE rfl ws.heap.size _ r2.l x rfl ((HO2.out.alloc _).touch (Tch.drew (fun _ => False) _) (fun _ e => e.elim)) _ (heap_alloc_new _ _) rfl (by have := HL2.out; unfold maxLen; omega) (by have := HL2.out; omega) (HT2.out.trans ((Tch.alloc _ _ (.cells #[.int .i64 x.1.seq, .int .i64 x.1.time, .slice x.2.1 x.1.labs.length x.2.2, .string ⟨x.1.line.toArray⟩] 34)).trans (Tch.drew _ _))).size ?_
          intro g2 cap2 w25 o25 gr25 hb25
          refine hK.out _ _ (HS2.out _ (((Tch.alloc _ _ _).trans (Tch.drew _ _)).trans (Tch.grown gr25 (fun k hk => hk)))) ?_
          have S22 := HS2.out _ (((Tch.alloc _ _ _).trans (Tch.drew _ _)).trans (Tch.grown gr25 (fun k hk => hk)))
          have Z2 := HF2.out _ (((Tch.alloc _ _ _).trans (Tch.drew _ _)).trans (Tch.grown gr25 (fun k hk => hk)))
          clear hK K HF2
          simp only [Act.put, List.setIfInBounds_toArray]
          have DD2 := Dl.step2 (o := .cells #[.int .i64 x.1.seq, .int .i64 x.1.time, .slice x.2.1 x.1.labs.length x.2.2, .string ⟨x.1.line.toArray⟩] 34) HD1.out.drew bnR2 x HR2.out o25 gr25 hb25
          have HDD2 := hid DD2
          clear DD2 o25 gr25 hb25
          refine takeL (i := 12) (d := 71) (v := .pointer (some ⟨g, bn, none⟩)) rfl rfl (by kernel_rfl) (by kernel_rfl) (by kernel_rfl) (by kernel_rfl) (by kernel_rfl) (fun _ _ _ h => h) (Or.inl ⟨by rfl, fun wS hSw => by obtain ⟨s0, s1, s2, s3, s4⟩ := hSw; go_simp⟩) S22 ?_
          try simp only [List.setIfInBounds_toArray, List.set_cons_zero, List.set_cons_succ]
          have qs2 := S22.1
          refine readyL (rs := [13]) (by kernel_rfl) (by simp) ?_
          refine AllReadyL.last rfl (fun K hK => ?_)
          try rw [if_pos (by rfl)]
          go_simp
          refine hK.out _ _ ?_
          clear hK K qs2 S22 Z2
          refine doneL (by kernel_rfl) ?_
          have D2 := HDD2.out.1
          have T2 := HT2.out.trans ((Tch.drew _ _).trans HDD2.out.2)
          have C2 := HCS.out R1 HC1.out bn bnR2 (HSB.out hba _) (some ⟨g2, 0, none⟩) cap2
          rw [← HR2.out] at C2
          generalize R1.set bn ⟨some ⟨g2, 0, none⟩, cap2, r2.l ++ [x]⟩ = R2 at *
          have el2 : (r2.l ++ [x]).length = r2.l.length + 1 := by rw [List.length_append]; rfl
          rw [el2] at D2 T2
          clear el2
          generalize w25.setCell ⟨g, bn, none⟩ (.slice (some ⟨g2, 0, none⟩) (r2.l.length + 1) cap2) = wn at *
          have HD2 := hid D2
          have HT3 := hid T2
          have HC2 := hid C2
          clear HDD2 D2 T2 C2 HS2 HO2 HR2 HL2 HD1 HC1 HSB HT2 bnR2
          go_wp2_with fail
          go_roundw
          case rel => exact ⟨i + 1, R2, by go_num, HIL, HD2, HC2, HT3⟩
          case measure => have := HIL.out; simp [intOf]; omega
      · have hiT' : ¬ (i : Int) < (T.length : Int) := by omega
        go_wp2_with fail
        have ha1 : 0 ≤ (i : Int) % 4 ∧ (i : Int) % 4 < 4 := by omega
        have hb1 : 0 ≤ (i : Int) / 4 % 4 ∧ (i : Int) / 4 % 4 < 4 := by omega
        generalize (i : Int) / 4 % 4 = bv at *
        generalize (i : Int) % 4 = av at *
        obtain ⟨an, rfl⟩ : ∃ n : Nat, av = (n : Int) := ⟨av.toNat, by omega⟩
        obtain ⟨bn, rfl⟩ : ∃ n : Nat, bv = (n : Int) := ⟨bv.toNat, by omega⟩
        have an4 : an < 4 := by omega
        have bn4 : bn < 4 := by omega
        clear ha1 hb1
        have anR1 : an < R.length := by have := HD.out.len; omega
        obtain ⟨r1, hr1⟩ : ∃ r, r = R[an] := ⟨_, rfl⟩
        have HO1 : Hid (KEnt.Own wr ws.heap.size r1.v r1.l) := hid (by rw [hr1]; exact HD.out.own an anR1)
        have HR1 := hid hr1
        have HL1 : Hid (r1.l.length ≤ s.length) := hid (by rw [hr1]; exact Nat.le_trans (HC.out.1 _ _).length_le (by rw [List.length_take]; omega))
        have HS1 : Hid (∀ w', Tch (fun k => r1.v.ownBlock = some k) wr w' → (fun wS => wS.cell? ⟨g, an, none⟩ = some (.slice r1.A r1.l.length r1.c) ∧ wS.cell? ⟨sb, so + i * 4, none⟩ = some (.int .i64 x.1.seq) ∧ wS.cell? ⟨sb, so + i * 4 + 1, none⟩ = some (.int .i64 x.1.time) ∧ wS.cell? ⟨sb, so + i * 4 + 2, none⟩ = some (.slice x.2.1 x.1.labs.length x.2.2) ∧ wS.cell? ⟨sb, so + i * 4 + 3, none⟩ = some (.string ⟨x.1.line.toArray⟩)) w') := hid (fun w' k => by
          have hlo := fun j (hj : r1.v.ownBlock = some j) => (HO1.out.lt j hj).1
          have hgw := HD.out.lt
          have hgB := HD.out.ne
          have q := cellD HD.out anR1
          rw [← HR1.out] at q
          exact ⟨(k.cell hgw.2 (fun e => by have := hlo g e; omega)).trans q, HX.out w' (HT1.out.trans (k.mono (fun j hj => .inr (hlo j hj))))⟩)
        have HF1 : Hid (∀ w', Tch (fun k => r1.v.ownBlock = some k) wr w' → w'.frozen? ⟨g, an, none⟩ = false) := hid (fun w' k => by
          have hlo := fun j (hj : r1.v.ownBlock = some j) => (HO1.out.lt j hj).1
          have hgw := HD.out.lt
          have hgB := HD.out.ne
          exact (World.frozen?_of_block (k.block g hgw.2 (fun e => by have := hlo g e; omega))).trans (frozD HD.out _))
        clear hr1
        have S1 := HS1.out wr.drew (Tch.drew _ _)
        have I1 : (an : Int) < 4 := by omega
        refine wp_region_L 13 (fun wS => wS.cell? ⟨g, an, none⟩ = some (.slice r1.A r1.l.length r1.c) ∧ wS.cell? ⟨sb, so + i * 4, none⟩ = some (.int .i64 x.1.seq) ∧ wS.cell? ⟨sb, so + i * 4 + 1, none⟩ = some (.int .i64 x.1.time) ∧ wS.cell? ⟨sb, so + i * 4 + 2, none⟩ = some (.slice x.2.1 x.1.labs.length x.2.2) ∧ wS.cell? ⟨sb, so + i * 4 + 3, none⟩ = some (.string ⟨x.1.line.toArray⟩)) (by kernel_rfl) ?_
        refine takeL (i := 0) (d := 43) (v := .slice (some ⟨g, 0, none⟩) 4 4) rfl rfl (by kernel_rfl) (by kernel_rfl) (by kernel_rfl) (by kernel_rfl) (by kernel_rfl) (fun _ _ _ h => h) (Or.inl ⟨by rfl, fun wS hSw => by obtain ⟨s0, s1, s2, s3, s4⟩ := hSw; go_simp⟩) S1 ?_
        try simp only [List.setIfInBounds_toArray, List.set_cons_zero, List.set_cons_succ]
        refine takeL (i := 1) (d := 44) (v := .int .i64 (an : Int)) rfl rfl (by kernel_rfl) (by kernel_rfl) (by kernel_rfl) (by kernel_rfl) (by kernel_rfl) (fun _ _ _ h => h) (Or.inl ⟨by rfl, fun wS hSw => by obtain ⟨s0, s1, s2, s3, s4⟩ := hSw; go_simp⟩) S1 ?_
        try simp only [List.setIfInBounds_toArray, List.set_cons_zero, List.set_cons_succ]
        refine takeL (i := 2) (d := 45) (v := .slice (some ⟨g, 0, none⟩) 4 4) rfl rfl (by kernel_rfl) (by kernel_rfl) (by kernel_rfl) (by kernel_rfl) (by kernel_rfl) (fun _ _ _ h => h) (Or.inl ⟨by rfl, fun wS hSw => by obtain ⟨s0, s1, s2, s3, s4⟩ := hSw; go_simp⟩) S1 ?_
        try simp only [List.setIfInBounds_toArray, List.set_cons_zero, List.set_cons_succ]
        refine takeL (i := 3) (d := 46) (v := .int .i64 (an : Int)) rfl rfl (by kernel_rfl) (by kernel_rfl) (by kernel_rfl) (by kernel_rfl) (by kernel_rfl) (fun _ _ _ h => h) (Or.inl ⟨by rfl, fun wS hSw => by obtain ⟨s0, s1, s2, s3, s4⟩ := hSw; go_simp⟩) S1 ?_
        try simp only [List.setIfInBounds_toArray, List.set_cons_zero, List.set_cons_succ]
        refine takeL (i := 4) (d := 47) (v := .pointer (some ⟨g, an, none⟩)) rfl rfl (by kernel_rfl) (by kernel_rfl) (by kernel_rfl) (by kernel_rfl) (by kernel_rfl) (fun _ _ _ h => h) (Or.inl ⟨by rfl, fun wS hSw => by obtain ⟨s0, s1, s2, s3, s4⟩ := hSw; go_simp⟩) S1 ?_
        try simp only [List.setIfInBounds_toArray, List.set_cons_zero, List.set_cons_succ]
        refine takeL (i := 5) (d := 48) (v := .slice r1.A r1.l.length r1.c) rfl rfl (by kernel_rfl) (by kernel_rfl) (by kernel_rfl) (by kernel_rfl) (by kernel_rfl) (fun _ _ _ h => h) (Or.inl ⟨by rfl, fun wS hSw => by obtain ⟨s0, s1, s2, s3, s4⟩ := hSw; go_simp⟩) S1 ?_
        try simp only [List.setIfInBounds_toArray, List.set_cons_zero, List.set_cons_succ]
        refine takeL (i := 6) (d := 49) (v := .slice (some ⟨sb, so, none⟩) s.length sc) rfl rfl (by kernel_rfl) (by kernel_rfl) (by kernel_rfl) (by kernel_rfl) (by kernel_rfl) (fun _ _ _ h => h) (Or.inl ⟨by rfl, fun wS hSw => by obtain ⟨s0, s1, s2, s3, s4⟩ := hSw; go_simp⟩) S1 ?_
        try simp only [List.setIfInBounds_toArray, List.set_cons_zero, List.set_cons_succ]
        refine takeL (i := 7) (d := 50) (v := .int .i64 (i : Int)) rfl rfl (by kernel_rfl) (by kernel_rfl) (by kernel_rfl) (by kernel_rfl) (by kernel_rfl) (fun _ _ _ h => h) (Or.inl ⟨by rfl, fun wS hSw => by obtain ⟨s0, s1, s2, s3, s4⟩ := hSw; go_simp⟩) S1 ?_
        try simp only [List.setIfInBounds_toArray, List.set_cons_zero, List.set_cons_succ]
        refine takeL (i := 8) (d := 51) (v := .pointer (some ⟨sb, so + i * 4, none⟩)) rfl rfl (by kernel_rfl) (by kernel_rfl) (by kernel_rfl) (by kernel_rfl) (by kernel_rfl) (fun _ _ _ h => h) (Or.inl ⟨by rfl, fun wS hSw => by obtain ⟨s0, s1, s2, s3, s4⟩ := hSw; go_simp⟩) S1 ?_
        try simp only [List.setIfInBounds_toArray, List.set_cons_zero, List.set_cons_succ]
        refine takeL (i := 9) (d := 52) (v := .agg #[.int .i64 x.1.seq, .int .i64 x.1.time, .slice x.2.1 x.1.labs.length x.2.2, .string ⟨x.1.line.toArray⟩]) rfl rfl (by kernel_rfl) (by kernel_rfl) (by kernel_rfl) (by kernel_rfl) (by kernel_rfl) (fun _ _ _ h => h) (Or.inl ⟨by rfl, fun wS hSw => by obtain ⟨s0, s1, s2, s3, s4⟩ := hSw; go_simp⟩) S1 ?_
        try simp only [List.setIfInBounds_toArray, List.set_cons_zero, List.set_cons_succ]
        refine readyL (rs := [10]) (by kernel_rfl) (by simp) ?_
        refine AllReadyL.cons rfl (fun K hK => ?_) AllReadyL.nil
        try rw [if_pos (by rfl)]
        go_simp
        refine hK.out _ _ (HS1.out _ ((Tch.alloc _ _ _).trans (Tch.drew _ _))) ?_
        clear hK K S1
        refine readyL (rs := [11]) (by kernel_rfl) (by simp) ?_
        refine AllReadyL.cons rfl (fun K hK => ?_) AllReadyL.nil
        refine step_app1L rfl (.tmp 48) (.tmp 53) 22 rfl Try.underlying22 infoE rfl ws.heap.size _ r1.l x rfl ((HO1.out.alloc _).touch (Tch.drew (fun _ => False) _) (fun _ e => e.elim)) _ (heap_alloc_new _ _) rfl (by have := HL1.out; unfold maxLen; omega) (by have := HL1.out; omega) (HT1.out.trans ((Tch.alloc _ _ (.cells #[.int .i64 x.1.seq, .int .i64 x.1.time, .slice x.2.1 x.1.labs.length x.2.2, .string ⟨x.1.line.toArray⟩] 34)).trans (Tch.drew _ _))).size ?_
        intro g1 cap1 w15 o15 gr15 hb15
        refine hK.out _ _ (HS1.out _ (((Tch.alloc _ _ _).trans (Tch.drew _ _)).trans (Tch.grown gr15 (fun k hk => hk)))) ?_
        have S12 := HS1.out _ (((Tch.alloc _ _ _).trans (Tch.drew _ _)).trans (Tch.grown gr15 (fun k hk => hk)))
        have Z1 := HF1.out _ (((Tch.alloc _ _ _).trans (Tch.drew _ _)).trans (Tch.grown gr15 (fun k hk => hk)))
        clear hK K HF1
        simp only [Act.put, List.setIfInBounds_toArray]
        have DD1 := Dl.step2 (o := .cells #[.int .i64 x.1.seq, .int .i64 x.1.time, .slice x.2.1 x.1.labs.length x.2.2, .string ⟨x.1.line.toArray⟩] 34) HD.out.drew anR1 x HR1.out o15 gr15 hb15
        have HDD1 := hid DD1
        clear DD1 o15 gr15 hb15
        refine takeL (i := 12) (d := 55) (v := .pointer (some ⟨g, an, none⟩)) rfl rfl (by kernel_rfl) (by kernel_rfl) (by kernel_rfl) (by kernel_rfl) (by kernel_rfl) (fun _ _ _ h => h) (Or.inl ⟨by rfl, fun wS hSw => by obtain ⟨s0, s1, s2, s3, s4⟩ := hSw; go_simp⟩) S12 ?_
        try simp only [List.setIfInBounds_toArray, List.set_cons_zero, List.set_cons_succ]
        have qs1 := S12.1
        refine readyL (rs := [13]) (by kernel_rfl) (by simp) ?_
        refine AllReadyL.last rfl (fun K hK => ?_)
        try rw [if_pos (by rfl)]
        go_simp
        refine hK.out _ _ ?_
        clear hK K qs1 S12 Z1
        refine doneL (by kernel_rfl) ?_
        have D1 := HDD1.out.1
        have T1 := HT1.out.trans ((Tch.drew _ _).trans HDD1.out.2)
        have C1 := HCF.out an anR1 (some ⟨g1, 0, none⟩) cap1
        rw [← HR1.out] at C1
        have SB : bn ≠ an → ∀ hb : bn < (R.set an ⟨some ⟨g1, 0, none⟩, cap1, r1.l ++ [x]⟩).length, ((R.set an ⟨some ⟨g1, 0, none⟩, cap1, r1.l ++ [x]⟩)[bn]).l.Sublist (s.take i) := fun hne hb => by
          rw [List.getElem_set_ne (fun c => hne c.symm)]
          exact HC.out.1 bn (by simpa using hb)
        generalize R.set an ⟨some ⟨g1, 0, none⟩, cap1, r1.l ++ [x]⟩ = R1 at *
        have el1 : (r1.l ++ [x]).length = r1.l.length + 1 := by rw [List.length_append]; rfl
        rw [el1] at D1 T1
        clear el1
        generalize w15.setCell ⟨g, an, none⟩ (.slice (some ⟨g1, 0, none⟩) (r1.l.length + 1) cap1) = wm at *
        have HD1 := hid D1
        have HT2 := hid T1
        have HC1 := hid C1
        have HSB := hid SB
        clear HDD1 D1 T1 C1 SB HS1 HO1 HR1 HL1 HCF HC HD HT1 anR1
        by_cases hba : bn = an
        · subst hba
          go_wp2_with fail
          go_roundw
          case rel => exact ⟨i + 1, R1, by go_num, HIL, HD1, HC1, HT2⟩
          case measure => have := HIL.out; simp [intOf]; omega
        · have hne : ¬ (bn : Int) = (an : Int) := by omega
          go_wp2_with fail
          have bnR2 : bn < R1.length := by have := HD1.out.len; omega
          obtain ⟨r2, hr2⟩ : ∃ r, r = R1[bn] := ⟨_, rfl⟩
          have HO2 : Hid (KEnt.Own wm ws.heap.size r2.v r2.l) := hid (by rw [hr2]; exact HD1.out.own bn bnR2)
          have HR2 := hid hr2
          have HL2 : Hid (r2.l.length ≤ s.length) := hid (by rw [hr2]; exact Nat.le_trans (HSB.out hba _).length_le (by rw [List.length_take]; omega))
          have HS2 : Hid (∀ w', Tch (fun k => r2.v.ownBlock = some k) wm w' → (fun wS => wS.cell? ⟨g, bn, none⟩ = some (.slice r2.A r2.l.length r2.c) ∧ wS.cell? ⟨sb, so + i * 4, none⟩ = some (.int .i64 x.1.seq) ∧ wS.cell? ⟨sb, so + i * 4 + 1, none⟩ = some (.int .i64 x.1.time) ∧ wS.cell? ⟨sb, so + i * 4 + 2, none⟩ = some (.slice x.2.1 x.1.labs.length x.2.2) ∧ wS.cell? ⟨sb, so + i * 4 + 3, none⟩ = some (.string ⟨x.1.line.toArray⟩)) w') := hid (fun w' k => by
            have hlo := fun j (hj : r2.v.ownBlock = some j) => (HO2.out.lt j hj).1
            have hgw := HD1.out.lt
            have hgB := HD1.out.ne
            have q := cellD HD1.out bnR2
            rw [← HR2.out] at q
            exact ⟨(k.cell hgw.2 (fun e => by have := hlo g e; omega)).trans q, HX.out w' (HT2.out.trans (k.mono (fun j hj => .inr (hlo j hj))))⟩)
          have HF2 : Hid (∀ w', Tch (fun k => r2.v.ownBlock = some k) wm w' → w'.frozen? ⟨g, bn, none⟩ = false) := hid (fun w' k => by
            have hlo := fun j (hj : r2.v.ownBlock = some j) => (HO2.out.lt j hj).1
            have hgw := HD1.out.lt
            have hgB := HD1.out.ne
            exact (World.frozen?_of_block (k.block g hgw.2 (fun e => by have := hlo g e; omega))).trans (frozD HD1.out _))
          clear hr2
          have S2 := HS2.out wm.drew (Tch.drew _ _)
          have I2 : (bn : Int) < 4 := by omega
          refine wp_region_L 13 (fun wS => wS.cell? ⟨g, bn, none⟩ = some (.slice r2.A r2.l.length r2.c) ∧ wS.cell? ⟨sb, so + i * 4, none⟩ = some (.int .i64 x.1.seq) ∧ wS.cell? ⟨sb, so + i * 4 + 1, none⟩ = some (.int .i64 x.1.time) ∧ wS.cell? ⟨sb, so + i * 4 + 2, none⟩ = some (.slice x.2.1 x.1.labs.length x.2.2) ∧ wS.cell? ⟨sb, so + i * 4 + 3, none⟩ = some (.string ⟨x.1.line.toArray⟩)) (by kernel_rfl) ?_
          refine takeL (i := 0) (d := 59) (v := .slice (some ⟨g, 0, none⟩) 4 4) rfl rfl (by kernel_rfl) (by kernel_rfl) (by kernel_rfl) (by kernel_rfl) (by kernel_rfl) (fun _ _ _ h => h) (Or.inl ⟨by rfl, fun wS hSw => by obtain ⟨s0, s1, s2, s3, s4⟩ := hSw; go_simp⟩) S2 ?_
          try simp only [List.setIfInBounds_toArray, List.set_cons_zero, List.set_cons_succ]
          refine takeL (i := 1) (d := 60) (v := .int .i64 (bn : Int)) rfl rfl (by kernel_rfl) (by kernel_rfl) (by kernel_rfl) (by kernel_rfl) (by kernel_rfl) (fun _ _ _ h => h) (Or.inl ⟨by rfl, fun wS hSw => by obtain ⟨s0, s1, s2, s3, s4⟩ := hSw; go_simp⟩) S2 ?_
          try simp only [List.setIfInBounds_toArray, List.set_cons_zero, List.set_cons_succ]
          refine takeL (i := 2) (d := 61) (v := .slice (some ⟨g, 0, none⟩) 4 4) rfl rfl (by kernel_rfl) (by kernel_rfl) (by kernel_rfl) (by kernel_rfl) (by kernel_rfl) (fun _ _ _ h => h) (Or.inl ⟨by rfl, fun wS hSw => by obtain ⟨s0, s1, s2, s3, s4⟩ := hSw; go_simp⟩) S2 ?_
          try simp only [List.setIfInBounds_toArray, List.set_cons_zero, List.set_cons_succ]
          refine takeL (i := 3) (d := 62) (v := .int .i64 (bn : Int)) rfl rfl (by kernel_rfl) (by kernel_rfl) (by kernel_rfl) (by kernel_rfl) (by kernel_rfl) (fun _ _ _ h => h) (Or.inl ⟨by rfl, fun wS hSw => by obtain ⟨s0, s1, s2, s3, s4⟩ := hSw; go_simp⟩) S2 ?_
          try simp only [List.setIfInBounds_toArray, List.set_cons_zero, List.set_cons_succ]
          refine takeL (i := 4) (d := 63) (v := .pointer (some ⟨g, bn, none⟩)) rfl rfl (by kernel_rfl) (by kernel_rfl) (by kernel_rfl) (by kernel_rfl) (by kernel_rfl) (fun _ _ _ h => h) (Or.inl ⟨by rfl, fun wS hSw => by obtain ⟨s0, s1, s2, s3, s4⟩ := hSw; go_simp⟩) S2 ?_
          try simp only [List.setIfInBounds_toArray, List.set_cons_zero, List.set_cons_succ]
          refine takeL (i := 5) (d := 64) (v := .slice r2.A r2.l.length r2.c) rfl rfl (by kernel_rfl) (by kernel_rfl) (by kernel_rfl) (by kernel_rfl) (by kernel_rfl) (fun _ _ _ h => h) (Or.inl ⟨by rfl, fun wS hSw => by obtain ⟨s0, s1, s2, s3, s4⟩ := hSw; go_simp⟩) S2 ?_
          try simp only [List.setIfInBounds_toArray, List.set_cons_zero, List.set_cons_succ]
          refine takeL (i := 6) (d := 65) (v := .slice (some ⟨sb, so, none⟩) s.length sc) rfl rfl (by kernel_rfl) (by kernel_rfl) (by kernel_rfl) (by kernel_rfl) (by kernel_rfl) (fun _ _ _ h => h) (Or.inl ⟨by rfl, fun wS hSw => by obtain ⟨s0, s1, s2, s3, s4⟩ := hSw; go_simp⟩) S2 ?_
          try simp only [List.setIfInBounds_toArray, List.set_cons_zero, List.set_cons_succ]
          refine takeL (i := 7) (d := 66) (v := .int .i64 (i : Int)) rfl rfl (by kernel_rfl) (by kernel_rfl) (by kernel_rfl) (by kernel_rfl) (by kernel_rfl) (fun _ _ _ h => h) (Or.inl ⟨by rfl, fun wS hSw => by obtain ⟨s0, s1, s2, s3, s4⟩ := hSw; go_simp⟩) S2 ?_
          try simp only [List.setIfInBounds_toArray, List.set_cons_zero, List.set_cons_succ]
          refine takeL (i := 8) (d := 67) (v := .pointer (some ⟨sb, so + i * 4, none⟩)) rfl rfl (by kernel_rfl) (by kernel_rfl) (by kernel_rfl) (by kernel_rfl) (by kernel_rfl) (fun _ _ _ h => h) (Or.inl ⟨by rfl, fun wS hSw => by obtain ⟨s0, s1, s2, s3, s4⟩ := hSw; go_simp⟩) S2 ?_
          try simp only [List.setIfInBounds_toArray, List.set_cons_zero, List.set_cons_succ]
          refine takeL (i := 9) (d := 68) (v := .agg #[.int .i64 x.1.seq, .int .i64 x.1.time, .slice x.2.1 x.1.labs.length x.2.2, .string ⟨x.1.line.toArray⟩]) rfl rfl (by kernel_rfl) (by kernel_rfl) (by kernel_rfl) (by kernel_rfl) (by kernel_rfl) (fun _ _ _ h => h) (Or.inl ⟨by rfl, fun wS hSw => by obtain ⟨s0, s1, s2, s3, s4⟩ := hSw; go_simp⟩) S2 ?_
          try simp only [List.setIfInBounds_toArray, List.set_cons_zero, List.set_cons_succ]
          refine readyL (rs := [10]) (by kernel_rfl) (by simp) ?_
          refine AllReadyL.cons rfl (fun K hK => ?_) AllReadyL.nil
          try rw [if_pos (by rfl)]
          go_simp
          refine hK.out _ _ (HS2.out _ ((Tch.alloc _ _ _).trans (Tch.drew _ _))) ?_
          clear hK K S2
          refine readyL (rs := [11]) (by kernel_rfl) (by simp) ?_
          refine AllReadyL.cons rfl (fun K hK => ?_) AllReadyL.nil
          refine step_app1L rfl (.tmp 64) (.tmp 69) 22 rfl Try.underlying22 infoE rfl ws.heap.size _ r2.l x rfl ((HO2.out.alloc _).touch (Tch.drew (fun _ => False) _) (fun _ e => e.elim)) _ (heap_alloc_new _ _) rfl (by have := HL2.out; unfold maxLen; omega) (by have := HL2.out; omega) (HT2.out.trans ((Tch.alloc _ _ (.cells #[.int .i64 x.1.seq, .int .i64 x.1.time, .slice x.2.1 x.1.labs.length x.2.2, .string ⟨x.1.line.toArray⟩] 34)).trans (Tch.drew _ _))).size ?_
          intro g2 cap2 w25 o25 gr25 hb25
          refine hK.out _ _ (HS2.out _ (((Tch.alloc _ _ _).trans (Tch.drew _ _)).trans (Tch.grown gr25 (fun k hk => hk)))) ?_
          have S22 := HS2.out _ (((Tch.alloc _ _ _).trans (Tch.drew _ _)).trans (Tch.grown gr25 (fun k hk => hk)))
          have Z2 := HF2.out _ (((Tch.alloc _ _ _).trans (Tch.drew _ _)).trans (Tch.grown gr25 (fun k hk => hk)))
          clear hK K HF2
          simp only [Act.put, List.setIfInBounds_toArray]
          have DD2 := Dl.step2 (o := .cells #[.int .i64 x.1.seq, .int .i64 x.1.time, .slice x.2.1 x.1.labs.length x.2.2, .string ⟨x.1.line.toArray⟩] 34) HD1.out.drew bnR2 x HR2.out o25 gr25 hb25
          have HDD2 := hid DD2
          clear DD2 o25 gr25 hb25
          refine takeL (i := 12) (d := 71) (v := .pointer (some ⟨g, bn, none⟩)) rfl rfl (by kernel_rfl) (by kernel_rfl) (by kernel_rfl) (by kernel_rfl) (by kernel_rfl) (fun _ _ _ h => h) (Or.inl ⟨by rfl, fun wS hSw => by obtain ⟨s0, s1, s2, s3, s4⟩ := hSw; go_simp⟩) S22 ?_
          try simp only [List.setIfInBounds_toArray, List.set_cons_zero, List.set_cons_succ]
          have qs2 := S22.1
          refine readyL (rs := [13]) (by kernel_rfl) (by simp) ?_
          refine AllReadyL.last rfl (fun K hK => ?_)
          try rw [if_pos (by rfl)]
          go_simp
          refine hK.out _ _ ?_
          clear hK K qs2 S22 Z2
          refine doneL (by kernel_rfl) ?_
          have D2 := HDD2.out.1
          have T2 := HT2.out.trans ((Tch.drew _ _).trans HDD2.out.2)
          have C2 := HCS.out R1 HC1.out bn bnR2 (HSB.out hba _) (some ⟨g2, 0, none⟩) cap2
          rw [← HR2.out] at C2
          generalize R1.set bn ⟨some ⟨g2, 0, none⟩, cap2, r2.l ++ [x]⟩ = R2 at *
          have el2 : (r2.l ++ [x]).length = r2.l.length + 1 := by rw [List.length_append]; rfl
          rw [el2] at D2 T2
          clear el2
          generalize w25.setCell ⟨g, bn, none⟩ (.slice (some ⟨g2, 0, none⟩) (r2.l.length + 1) cap2) = wn at *
          have HD2 := hid D2
          have HT3 := hid T2
          have HC2 := hid C2
          clear HDD2 D2 T2 C2 HS2 HO2 HR2 HL2 HD1 HC1 HSB HT2 bnR2
          go_wp2_with fail
          go_roundw
          case rel => exact ⟨i + 1, R2, by go_num, HIL, HD2, HC2, HT3⟩
          case measure => have := HIL.out; simp [intOf]; omega
    · have hii : ¬ (i : Int) < (s.length : Int) := by omega
      have hie : i = s.length := by have := hi.out; omega
      have BF : Hid (Below w.heap.size w wr) := hid (Tch.below (hb0.trans (BWS.out.mono hb0.size)) HT1.out (fun j hj => by have := HG.out; have h1 := BWS.out.size; have h2 := hb0.size; rcases hj with hj | hj <;> omega) (by have h1 := BWS.out.size; have h2 := hb0.size; omega))
      have WB : Hid (w.heap.size ≤ ws.heap.size) := hid (by have h1 := BWS.out.size; have h2 := hb0.size; omega)
      subst hie
      go_wp2_with fail
      go_ret
      exact ⟨_, R, s, rfl, HD.out.row.mono (by rw [HG.out]; exact Nat.le_refl _), HD.out.len, fun i hi => (HD.out.own i hi).mono WB.out, st.out, HC.out, BF.out⟩
theorem deal_true (v vt : Value) (l : List EV) (T : List Int) (w : World) (hR : RdE w v l) (hz : SzE l) (hT : KInt.Rd w vt T) :
    Calls Try.prog 10 #[v, vt, .bool true] w (DealOut l true w) := by
  have hSort := fun w' (hb : Below w.heap.size w w') => R3Sort_is v l w' (hR.1.below hb) hz.1
  obtain ⟨At, ct, rfl, hct⟩ := hT.form
  have hD0 := Dl.made w (Nat.le_refl _)
  have hb0 : Below w.heap.size w (w.alloc (.cells #[.slice none 0 0, .slice none 0 0, .slice none 0 0, .slice none 0 0] 22)) := (Below.refl _ w).alloc (Nat.le_refl _) _
  have hS0 := hSort _ hb0
  have hmk := make4 w
  have hz0 : (w.alloc (.cells #[.slice none 0 0, .slice none 0 0, .slice none 0 0, .slice none 0 0] 22)).heap.size = w.heap.size + 1 := World.size_alloc _ _
  generalize hW1 : w.alloc (.cells #[.slice none 0 0, .slice none 0 0, .slice none 0 0, .slice none 0 0] 22) = W1 at *
  have HZ := hid hz
  have HT := hid hT
  have HRd := hid hR
  clear hSort hR hT hct
  obtain ⟨g, hg⟩ : ∃ g, g = w.heap.size := ⟨_, rfl⟩
  have HG := hid hg
  rw [← hg] at hmk hD0
  clear hg
  go_enter Try.func10, Try.ntmps10
  have HRL := hid (fun (m : List EV) (w' : World) (hb : Below w.heap.size w w') (hp : m.Perm l) => show (∀ x ∈ m, KLab.Rd w' (lbV x) x.1.labs) ∧ SzE m from ⟨fun x hx => (HRd.out.2 x (hp.mem_iff.1 hx)).below hb, ⟨by rw [hp.length_eq]; exact hz.1, fun x hx => hz.2 x (hp.mem_iff.1 hx)⟩⟩)
  go_wp2_with (first
    | (go_at_call 7; refine hS0.mono ?_; rintro e wq ⟨vq, sq, rfl, oq, stq, bq⟩; have hTn := RTurn_is vq sq wq ⟨oq.rd, (HRL.out sq wq (hb0.trans (bq.mono hb0.size)) stq.2).1⟩ (HRL.out sq wq (hb0.trans (bq.mono hb0.size)) stq.2).2; have STQ := hid stq; have BQ := hid bq; clear hS0 oq stq bq)
    | (go_at_call 8; refine hTn.mono ?_; rintro e ws ⟨vs, rfl, os, bs⟩; have st0 := hid (show StB true l sq.reverse from ⟨sorted_turn kyV STQ.out.1, (List.reverse_perm sq).trans STQ.out.2⟩); have OS0 := hid os; have BWS := hid (BQ.out.trans (bs.mono BQ.out.size)); clear hTn STQ os)
    | fail)
  have OS := hid (OS0.out.mono BQ.out.size)
  generalize sq.reverse = s at *
  have st := st0
  obtain ⟨As, sc, hvs, _⟩ := OS.out.rd.form
  subst hvs
  clear OS0 BQ st0 HRL
  clear bs
  have hDs : Hid (Dl ws g ws.heap.size g [noR, noR, noR, noR]) := hid (hD0.below BWS.out (fun i hi => by match i, hi with | 0, _ => rfl | 1, _ => rfl | 2, _ => rfl | 3, _ => rfl) (by have := hD0.lt.2; have := BWS.out.size; omega))
  clear hD0
  go_loopw [9, 10, 11, 12] (fun iv _ _ _ wr => ∃ (i : Nat) (R : List SR), iv = .int .i64 (i : Int) ∧ Hid (i ≤ s.length) ∧ Hid (Dl wr g ws.heap.size g R) ∧ Hid (Cv R s i) ∧ Hid (Tch (fun k => k = g ∨ ws.heap.size ≤ k) ws wr)) (fun iv _ _ _ _ => s.length - (intOf iv).toNat)
  case atStart => exact ⟨0, _, rfl, hid (Nat.zero_le _), hDs, hid (Cv.zero s), hid (Tch.refl _ _)⟩
  case round =>
    obtain ⟨i, R, rfl, hi, HD, HC, HT1⟩ := hrel
    by_cases hil : i < s.length
    · have hii : (i : Int) < (s.length : Int) := by omega
      obtain ⟨sb, so, sc', hv, hlo, hlt, c0, c1, c2, c3⟩ := own4 OS.out hil
      injection hv with hA _ hc
      subst hA hc
      have hnot : ¬ (sb = g ∨ ws.heap.size ≤ sb) := by have := HG.out; omega
      have HCF : Hid (∀ a (ha : a < R.length) A c, Cv (R.set a ⟨A, c, R[a].l ++ [s[i]]⟩) s (i + 1)) := hid (fun a ha A c => HC.out.first hil ha A c)
      have HCS : Hid (∀ (R1 : List SR), Cv R1 s (i + 1) → ∀ b (hb : b < R1.length), R1[b].l.Sublist (s.take i) → ∀ A c, Cv (R1.set b ⟨A, c, R1[b].l ++ [s[i]]⟩) s (i + 1)) := hid (fun R1 h b hb hs A c => h.second hil hb hs A c)
      generalize s[i] = x at *
      have HX : Hid (∀ w', Tch (fun k => k = g ∨ ws.heap.size ≤ k) ws w' → w'.cell? ⟨sb, so + i * 4, none⟩ = some (.int .i64 x.1.seq) ∧ w'.cell? ⟨sb, so + i * 4 + 1, none⟩ = some (.int .i64 x.1.time) ∧ w'.cell? ⟨sb, so + i * 4 + 2, none⟩ = some (.slice x.2.1 x.1.labs.length x.2.2) ∧ w'.cell? ⟨sb, so + i * 4 + 3, none⟩ = some (.string ⟨x.1.line.toArray⟩)) := hid (fun w' k => ⟨(k.cell hlt hnot).trans c0, (k.cell hlt hnot).trans c1, (k.cell hlt hnot).trans c2, (k.cell hlt hnot).trans c3⟩)
      clear c0 c1 c2 c3 hnot hlo hlt
      have HIL := hid hil
      have hl1 : (s.length : Int) ≤ 1099511627776 := by have h1 := st.out.2.length_eq; have h2 := HZ.out.1; omega
      clear hil
      by_cases hiT : i < T.length
      · have hiT' : (i : Int) < (T.length : Int) := by omega
        obtain ⟨tb, tof, hA, htb, hcell⟩ := HT.out.at hiT
        subst hA
        have qt : wr.cell? ⟨tb, tof + i, none⟩ = some (.int .i64 T[i]) := by
          have h1 := hcell 0 _ (by decide) rfl
          have h2 : w.heap.size ≤ W1.heap.size := hb0.size
          have h3 := BWS.out.size
          have h4 := HG.out
          have h5 := (HT1.out.cell (i := tof + (i * 1 + 0)) (show tb < ws.heap.size by omega) (by omega)).trans (((hb0.trans (BWS.out.mono h2)).cell (p := ⟨tb, tof + (i * 1 + 0), none⟩) htb).trans h1)
          rwa [Nat.mul_one, Nat.add_zero] at h5
        clear hcell htb
        generalize T[i] = kk at *
        go_wp2_with fail
        have ha1 := md4 kk
        have hb1 := md4 (wrap64 (kk.tdiv 4))
        generalize (wrap64 (kk.tmod 4 + 4)).tmod 4 = av at *
        generalize (wrap64 ((wrap64 (kk.tdiv 4)).tmod 4 + 4)).tmod 4 = bv at *
        obtain ⟨an, rfl⟩ : ∃ n : Nat, av = (n : Int) := ⟨av.toNat, by omega⟩
        obtain ⟨bn, rfl⟩ : ∃ n : Nat, bv = (n : Int) := ⟨bv.toNat, by omega⟩
        have an4 : an < 4 := by omega
        have bn4 : bn < 4 := by omega
        clear ha1 hb1
        have anR1 : an < R.length := by have := HD.out.len; omega
        obtain ⟨r1, hr1⟩ : ∃ r, r = R[an] := ⟨_, rfl⟩
        have HO1 : Hid (KEnt.Own wr ws.heap.size r1.v r1.l) := hid (by rw [hr1]; exact HD.out.own an anR1)
        have HR1 := hid hr1
        have HL1 : Hid (r1.l.length ≤ s.length) := hid (by rw [hr1]; exact Nat.le_trans (HC.out.1 _ _).length_le (by rw [List.length_take]; omega))
        have HS1 : Hid (∀ w', Tch (fun k => r1.v.ownBlock = some k) wr w' → (fun wS => wS.cell? ⟨g, an, none⟩ = some (.slice r1.A r1.l.length r1.c) ∧ wS.cell? ⟨sb, so + i * 4, none⟩ = some (.int .i64 x.1.seq) ∧ wS.cell? ⟨sb, so + i * 4 + 1, none⟩ = some (.int .i64 x.1.time) ∧ wS.cell? ⟨sb, so + i * 4 + 2, none⟩ = some (.slice x.2.1 x.1.labs.length x.2.2) ∧ wS.cell? ⟨sb, so + i * 4 + 3, none⟩ = some (.string ⟨x.1.line.toArray⟩)) w') := hid (fun w' k => by
          have hlo := fun j (hj : r1.v.ownBlock = some j) => (HO1.out.lt j hj).1
          have hgw := HD.out.lt
          have hgB := HD.out.ne
          have q := cellD HD.out anR1
          rw [← HR1.out] at q
          exact ⟨(k.cell hgw.2 (fun e => by have := hlo g e; omega)).trans q, HX.out w' (HT1.out.trans (k.mono (fun j hj => .inr (hlo j hj))))⟩)
        have HF1 : Hid (∀ w', Tch (fun k => r1.v.ownBlock = some k) wr w' → w'.frozen? ⟨g, an, none⟩ = false) := hid (fun w' k => by
          have hlo := fun j (hj : r1.v.ownBlock = some j) => (HO1.out.lt j hj).1
          have hgw := HD.out.lt
          have hgB := HD.out.ne
          exact (World.frozen?_of_block (k.block g hgw.2 (fun e => by have := hlo g e; omega))).trans (frozD HD.out _))
        clear hr1
        have S1 := HS1.out wr.drew (Tch.drew _ _)
        have I1 : (an : Int) < 4 := by omega
        refine wp_region_L 13 (fun wS => wS.cell? ⟨g, an, none⟩ = some (.slice r1.A r1.l.length r1.c) ∧ wS.cell? ⟨sb, so + i * 4, none⟩ = some (.int .i64 x.1.seq) ∧ wS.cell? ⟨sb, so + i * 4 + 1, none⟩ = some (.int .i64 x.1.time) ∧ wS.cell? ⟨sb, so + i * 4 + 2, none⟩ = some (.slice x.2.1 x.1.labs.length x.2.2) ∧ wS.cell? ⟨sb, so + i * 4 + 3, none⟩ = some (.string ⟨x.1.line.toArray⟩)) (by kernel_rfl) ?_
        refine takeL (i := 0) (d := 43) (v := .slice (some ⟨g, 0, none⟩) 4 4) rfl rfl (by kernel_rfl) (by kernel_rfl) (by kernel_rfl) (by kernel_rfl) (by kernel_rfl) (fun _ _ _ h => h) (Or.inl ⟨by rfl, fun wS hSw => by obtain ⟨s0, s1, s2, s3, s4⟩ := hSw; go_simp⟩) S1 ?_
        try simp only [List.setIfInBounds_toArray, List.set_cons_zero, List.set_cons_succ]
        refine takeL (i := 1) (d := 44) (v := .int .i64 (an : Int)) rfl rfl (by kernel_rfl) (by kernel_rfl) (by kernel_rfl) (by kernel_rfl) (by kernel_rfl) (fun _ _ _ h => h) (Or.inl ⟨by rfl, fun wS hSw => by obtain ⟨s0, s1, s2, s3, s4⟩ := hSw; go_simp⟩) S1 ?_
        try simp only [List.setIfInBounds_toArray, List.set_cons_zero, List.set_cons_succ]
        refine takeL (i := 2) (d := 45) (v := .slice (some ⟨g, 0, none⟩) 4 4) rfl rfl (by kernel_rfl) (by kernel_rfl) (by kernel_rfl) (by kernel_rfl) (by kernel_rfl) (fun _ _ _ h => h) (Or.inl ⟨by rfl, fun wS hSw => by obtain ⟨s0, s1, s2, s3, s4⟩ := hSw; go_simp⟩) S1 ?_
        try simp only [List.setIfInBounds_toArray, List.set_cons_zero, List.set_cons_succ]
        refine takeL (i := 3) (d := 46) (v := .int .i64 (an : Int)) rfl rfl (by kernel_rfl) (by kernel_rfl) (by kernel_rfl) (by kernel_rfl) (by kernel_rfl) (fun _ _ _ h => h) (Or.inl ⟨by rfl, fun wS hSw => by obtain ⟨s0, s1, s2, s3, s4⟩ := hSw; go_simp⟩) S1 ?_
        try simp only [List.setIfInBounds_toArray, List.set_cons_zero, List.set_cons_succ]
        refine takeL (i := 4) (d := 47) (v := .pointer (some ⟨g, an, none⟩)) rfl rfl (by kernel_rfl) (by kernel_rfl) (by kernel_rfl) (by kernel_rfl) (by kernel_rfl) (fun _ _ _ h => h) (Or.inl ⟨by rfl, fun wS hSw => by obtain ⟨s0, s1, s2, s3, s4⟩ := hSw; go_simp⟩) S1 ?_
        try simp only [List.setIfInBounds_toArray, List.set_cons_zero, List.set_cons_succ]
        refine takeL (i := 5) (d := 48) (v := .slice r1.A r1.l.length r1.c) rfl rfl (by kernel_rfl) (by kernel_rfl) (by kernel_rfl) (by kernel_rfl) (by kernel_rfl) (fun _ _ _ h => h) (Or.inl ⟨by rfl, fun wS hSw => by obtain ⟨s0, s1, s2, s3, s4⟩ := hSw; go_simp⟩) S1 ?_
        try simp only [List.setIfInBounds_toArray, List.set_cons_zero, List.set_cons_succ]
        refine takeL (i := 6) (d := 49) (v := .slice (some ⟨sb, so, none⟩) s.length sc) rfl rfl (by kernel_rfl) (by kernel_rfl) (by kernel_rfl) (by kernel_rfl) (by kernel_rfl) (fun _ _ _ h => h) (Or.inl ⟨by rfl, fun wS hSw => by obtain ⟨s0, s1, s2, s3, s4⟩ := hSw; go_simp⟩) S1 ?_
        try simp only [List.setIfInBounds_toArray, List.set_cons_zero, List.set_cons_succ]
        refine takeL (i := 7) (d := 50) (v := .int .i64 (i : Int)) rfl rfl (by kernel_rfl) (by kernel_rfl) (by kernel_rfl) (by kernel_rfl) (by kernel_rfl) (fun _ _ _ h => h) (Or.inl ⟨by rfl, fun wS hSw => by obtain ⟨s0, s1, s2, s3, s4⟩ := hSw; go_simp⟩) S1 ?_
        try simp only [List.setIfInBounds_toArray, List.set_cons_zero, List.set_cons_succ]
        refine takeL (i := 8) (d := 51) (v := .pointer (some ⟨sb, so + i * 4, none⟩)) rfl rfl (by kernel_rfl) (by kernel_rfl) (by kernel_rfl) (by kernel_rfl) (by kernel_rfl) (fun _ _ _ h => h) (Or.inl ⟨by rfl, fun wS hSw => by obtain ⟨s0, s1, s2, s3, s4⟩ := hSw; go_simp⟩) S1 ?_
        try simp only [List.setIfInBounds_toArray, List.set_cons_zero, List.set_cons_succ]
        refine takeL (i := 9) (d := 52) (v := .agg #[.int .i64 x.1.seq, .int .i64 x.1.time, .slice x.2.1 x.1.labs.length x.2.2, .string ⟨x.1.line.toArray⟩]) rfl rfl (by kernel_rfl) (by kernel_rfl) (by kernel_rfl) (by kernel_rfl) (by kernel_rfl) (fun _ _ _ h => h) (Or.inl ⟨by rfl, fun wS hSw => by obtain ⟨s0, s1, s2, s3, s4⟩ := hSw; go_simp⟩) S1 ?_
        try simp only [List.setIfInBounds_toArray, List.set_cons_zero, List.set_cons_succ]
        refine readyL (rs := [10]) (by kernel_rfl) (by simp) ?_
        refine AllReadyL.cons rfl (fun K hK => ?_) AllReadyL.nil
        try rw [if_pos (by rfl)]
        go_simp
        refine hK.out _ _ (HS1.out _ ((Tch.alloc _ _ _).trans (Tch.drew _ _))) ?_
        clear hK K S1
        refine readyL (rs := [11]) (by kernel_rfl) (by simp) ?_
        refine AllReadyL.cons rfl (fun K hK => ?_) AllReadyL.nil
        refine step_app1L rfl (.tmp 48) (.tmp 53) 22 rfl Try.underlying22 infoE rfl ws.heap.size _ r1.l x rfl ((HO1.out.alloc _).touch (Tch.drew (fun _ => False) _) (fun _ e => e.elim)) _ (heap_alloc_new _ _) rfl (by have := HL1.out; unfold maxLen; omega) (by have := HL1.out; omega) (HT1.out.trans ((Tch.alloc _ _ (.cells #[.int .i64 x.1.seq, .int .i64 x.1.time, .slice x.2.1 x.1.labs.length x.2.2, .string ⟨x.1.line.toArray⟩] 34)).trans (Tch.drew _ _))).size ?_
        intro g1 cap1 w15 o15 gr15 hb15
        refine hK.out _ _ (HS1.out _ (((Tch.alloc _ _ _).trans (Tch.drew _ _)).trans (Tch.grown gr15 (fun k hk => hk)))) ?_
        have S12 := HS1.out _ (((Tch.alloc _ _ _).trans (Tch.drew _ _)).trans (Tch.grown gr15 (fun k hk => hk)))
        have Z1 := HF1.out _ (((Tch.alloc _ _ _).trans (Tch.drew _ _)).trans (Tch.grown gr15 (fun k hk => hk)))
        clear hK K HF1
        simp only [Act.put, List.setIfInBounds_toArray]
        have DD1 := Dl.step2 (o := .cells #[.int .i64 x.1.seq, .int .i64 x.1.time, .slice x.2.1 x.1.labs.length x.2.2, .string ⟨x.1.line.toArray⟩] 34) HD.out.drew anR1 x HR1.out o15 gr15 hb15
        have HDD1 := hid DD1
        clear DD1 o15 gr15 hb15
        refine takeL (i := 12) (d := 55) (v := .pointer (some ⟨g, an, none⟩)) rfl rfl (by kernel_rfl) (by kernel_rfl) (by kernel_rfl) (by kernel_rfl) (by kernel_rfl) (fun _ _ _ h => h) (Or.inl ⟨by rfl, fun wS hSw => by obtain ⟨s0, s1, s2, s3, s4⟩ := hSw; go_simp⟩) S12 ?_
        try simp only [List.setIfInBounds_toArray, List.set_cons_zero, List.set_cons_succ]
        have qs1 := S12.1
        refine readyL (rs := [13]) (by kernel_rfl) (by simp) ?_
        refine AllReadyL.last rfl (fun K hK => ?_)
        try rw [if_pos (by rfl)]
        go_simp
        refine hK.out _ _ ?_
        clear hK K qs1 S12 Z1
        refine doneL (by kernel_rfl) ?_
        have D1 := HDD1.out.1
        have T1 := HT1.out.trans ((Tch.drew _ _).trans HDD1.out.2)
        have C1 := HCF.out an anR1 (some ⟨g1, 0, none⟩) cap1
        rw [← HR1.out] at C1
        have SB : bn ≠ an → ∀ hb : bn < (R.set an ⟨some ⟨g1, 0, none⟩, cap1, r1.l ++ [x]⟩).length, ((R.set an ⟨some ⟨g1, 0, none⟩, cap1, r1.l ++ [x]⟩)[bn]).l.Sublist (s.take i) := fun hne hb => by
          rw [List.getElem_set_ne (fun c => hne c.symm)]
          exact HC.out.1 bn (by simpa using hb)
        generalize R.set an ⟨some ⟨g1, 0, none⟩, cap1, r1.l ++ [x]⟩ = R1 at *
        have el1 : (r1.l ++ [x]).length = r1.l.length + 1 := by rw [List.length_append]; rfl
        rw [el1] at D1 T1
        clear el1
        generalize w15.setCell ⟨g, an, none⟩ (.slice (some ⟨g1, 0, none⟩) (r1.l.length + 1) cap1) = wm at *
        have HD1 := hid D1
        have HT2 := hid T1
        have HC1 := hid C1
        have HSB := hid SB
        clear HDD1 D1 T1 C1 SB HS1 HO1 HR1 HL1 HCF HC HD HT1 anR1
        by_cases hba : bn = an
        · subst hba
          go_wp2_with fail
          go_roundw
          case rel => exact ⟨i + 1, R1, by go_num, HIL, HD1, HC1, HT2⟩
          case measure => have := HIL.out; simp [intOf]; omega
        · have hne : ¬ (bn : Int) = (an : Int) := by omega
          go_wp2_with fail
          have bnR2 : bn < R1.length := by have := HD1.out.len; omega
          obtain ⟨r2, hr2⟩ : ∃ r, r = R1[bn] := ⟨_, rfl⟩
          have HO2 : Hid (KEnt.Own wm ws.heap.size r2.v r2.l) := hid (by rw [hr2]; exact HD1.out.own bn bnR2)
          have HR2 := hid hr2
          have HL2 : Hid (r2.l.length ≤ s.length) := hid (by rw [hr2]; exact Nat.le_trans (HSB.out hba _).length_le (by rw [List.length_take]; omega))
          have HS2 : Hid (∀ w', Tch (fun k => r2.v.ownBlock = some k) wm w' → (fun wS => wS.cell? ⟨g, bn, none⟩ = some (.slice r2.A r2.l.length r2.c) ∧ wS.cell? ⟨sb, so + i * 4, none⟩ = some (.int .i64 x.1.seq) ∧ wS.cell? ⟨sb, so + i * 4 + 1, none⟩ = some (.int .i64 x.1.time) ∧ wS.cell? ⟨sb, so + i * 4 + 2, none⟩ = some (.slice x.2.1 x.1.labs.length x.2.2) ∧ wS.cell? ⟨sb, so + i * 4 + 3, none⟩ = some (.string ⟨x.1.line.toArray⟩)) w') := hid (fun w' k => by
            have hlo := fun j (hj : r2.v.ownBlock = some j) => (HO2.out.lt j hj).1
            have hgw := HD1.out.lt
            have hgB := HD1.out.ne
            have q := cellD HD1.out bnR2
            rw [← HR2.out] at q
            exact ⟨(k.cell hgw.2 (fun e => by have := hlo g e; omega)).trans q, HX.out w' (HT2.out.trans (k.mono (fun j hj => .inr (hlo j hj))))⟩)
          have HF2 : Hid (∀ w', Tch (fun k => r2.v.ownBlock = some k) wm w' → w'.frozen? ⟨g, bn, none⟩ = false) := hid (fun w' k => by
            have hlo := fun j (hj : r2.v.ownBlock = some j) => (HO2.out.lt j hj).1
            have hgw := HD1.out.lt
            have hgB := HD1.out.ne
            exact (World.frozen?_of_block (k.block g hgw.2 (fun e => by have := hlo g e; omega))).trans (frozD HD1.out _))
          clear hr2
          have S2 := HS2.out wm.drew (Tch.drew _ _)
          have I2 : (bn : Int) < 4 := by omega
          refine wp_region_L 13 (fun wS => wS.cell? ⟨g, bn, none⟩ = some (.slice r2.A r2.l.length r2.c) ∧ wS.cell? ⟨sb, so + i * 4, none⟩ = some (.int .i64 x.1.seq) ∧ wS.cell? ⟨sb, so + i * 4 + 1, none⟩ = some (.int .i64 x.1.time) ∧ wS.cell? ⟨sb, so + i * 4 + 2, none⟩ = some (.slice x.2.1 x.1.labs.length x.2.2) ∧ wS.cell? ⟨sb, so + i * 4 + 3, none⟩ = some (.string ⟨x.1.line.toArray⟩)) (by kernel_rfl) ?_
          refine takeL (i := 0) (d := 59) (v := .slice (some ⟨g, 0, none⟩) 4 4) rfl rfl (by kernel_rfl) (by kernel_rfl) (by kernel_rfl) (by kernel_rfl) (by kernel_rfl) (fun _ _ _ h => h) (Or.inl ⟨by rfl, fun wS hSw => by obtain ⟨s0, s1, s2, s3, s4⟩ := hSw; go_simp⟩) S2 ?_
          try simp only [List.setIfInBounds_toArray, List.set_cons_zero, List.set_cons_succ]
          refine takeL (i := 1) (d := 60) (v := .int .i64 (bn : Int)) rfl rfl (by kernel_rfl) (by kernel_rfl) (by kernel_rfl) (by kernel_rfl) (by kernel_rfl) (fun _ _ _ h => h) (Or.inl ⟨by rfl, fun wS hSw => by obtain ⟨s0, s1, s2, s3, s4⟩ := hSw; go_simp⟩) S2 ?_
          try simp only [List.setIfInBounds_toArray, List.set_cons_zero, List.set_cons_succ]
          refine takeL (i := 2) (d := 61) (v := .slice (some ⟨g, 0, none⟩) 4 4) rfl rfl (by kernel_rfl) (by kernel_rfl) (by kernel_rfl) (by kernel_rfl) (by kernel_rfl) (fun _ _ _ h => h) (Or.inl ⟨by rfl, fun wS hSw => by obtain ⟨s0, s1, s2, s3, s4⟩ := hSw; go_simp⟩) S2 ?_
          try simp only [List.setIfInBounds_toArray, List.set_cons_zero, List.set_cons_succ]
          refine takeL (i := 3) (d := 62) (v := .int .i64 (bn : Int)) rfl rfl (by kernel_rfl) (by kernel_rfl) (by kernel_rfl) (by kernel_rfl) (by kernel_rfl) (fun _ _ _ h => h) (Or.inl ⟨by rfl, fun wS hSw => by obtain ⟨s0, s1, s2, s3, s4⟩ := hSw; go_simp⟩) S2 ?_
          try simp only [List.setIfInBounds_toArray, List.set_cons_zero, List.set_cons_succ]
          refine takeL (i := 4) (d := 63) (v := .pointer (some ⟨g, bn, none⟩)) rfl rfl (by kernel_rfl) (by kernel_rfl) (by kernel_rfl) (by kernel_rfl) (by kernel_rfl) (fun _ _ _ h => h) (Or.inl ⟨by rfl, fun wS hSw => by obtain ⟨s0, s1, s2, s3, s4⟩ := hSw; go_simp⟩) S2 ?_
          try simp only [List.setIfInBounds_toArray, List.set_cons_zero, List.set_cons_succ]
          refine takeL (i := 5) (d := 64) (v := .slice r2.A r2.l.length r2.c) rfl rfl (by kernel_rfl) (by kernel_rfl) (by kernel_rfl) (by kernel_rfl) (by kernel_rfl) (fun _ _ _ h => h) (Or.inl ⟨by rfl, fun wS hSw => by obtain ⟨s0, s1, s2, s3, s4⟩ := hSw; go_simp⟩) S2 ?_
          try simp only [List.setIfInBounds_toArray, List.set_cons_zero, List.set_cons_succ]
          refine takeL (i := 6) (d := 65) (v := .slice (some ⟨sb, so, none⟩) s.length sc) rfl rfl (by kernel_rfl) (by kernel_rfl) (by kernel_rfl) (by kernel_rfl) (by kernel_rfl) (fun _ _ _ h => h) (Or.inl ⟨by rfl, fun wS hSw => by obtain ⟨s0, s1, s2, s3, s4⟩ := hSw; go_simp⟩) S2 ?_
          try simp only [List.setIfInBounds_toArray, List.set_cons_zero, List.set_cons_succ]
          refine takeL (i := 7) (d := 66) (v := .int .i64 (i : Int)) rfl rfl (by kernel_rfl) (by kernel_rfl) (by kernel_rfl) (by kernel_rfl) (by kernel_rfl) (fun _ _ _ h => h) (Or.inl ⟨by rfl, fun wS hSw => by obtain ⟨s0, s1, s2, s3, s4⟩ := hSw; go_simp⟩) S2 ?_
          try simp only [List.setIfInBounds_toArray, List.set_cons_zero, List.set_cons_succ]
          refine takeL (i := 8) (d := 67) (v := .pointer (some ⟨sb, so + i * 4, none⟩)) rfl rfl (by kernel_rfl) (by kernel_rfl) (by kernel_rfl) (by kernel_rfl) (by kernel_rfl) (fun _ _ _ h => h) (Or.inl ⟨by rfl, fun wS hSw => by obtain ⟨s0, s1, s2, s3, s4⟩ := hSw; go_simp⟩) S2 ?_
          try simp only [List.setIfInBounds_toArray, List.set_cons_zero, List.set_cons_succ]
          refine takeL (i := 9) (d := 68) (v := .agg #[.int .i64 x.1.seq, .int .i64 x.1.time, .slice x.2.1 x.1.labs.length x.2.2, .string ⟨x.1.line.toArray⟩]) rfl rfl (by kernel_rfl) (by kernel_rfl) (by kernel_rfl) (by kernel_rfl) (by kernel_rfl) (fun _ _ _ h => h) (Or.inl ⟨by rfl, fun wS hSw => by obtain ⟨s0, s1, s2, s3, s4⟩ := hSw; go_simp⟩) S2 ?_
          try simp only [List.setIfInBounds_toArray, List.set_cons_zero, List.set_cons_succ]
          refine readyL (rs := [10]) (by kernel_rfl) (by simp) ?_
          refine AllReadyL.cons rfl (fun K hK => ?_) AllReadyL.nil
          try rw [if_pos (by rfl)]
          go_simp
          refine hK.out _ _ (HS2.out _ ((Tch.alloc _ _ _).trans (Tch.drew _ _))) ?_
          clear hK K S2
          refine readyL (rs := [11]) (by kernel_rfl) (by simp) ?_
          refine AllReadyL.cons rfl (fun K hK => ?_) AllReadyL.nil
          refine step_app1L rfl (.tmp 64) (.tmp 69) 22 rfl Try.underlying22 infoE rfl ws.heap.size _ r2.l x rfl ((HO2.out.alloc _).touch (Tch.drew (fun _ => False) _) (fun _ e => e.elim)) _ (heap_alloc_new _ _) rfl (by have := HL2.out; unfold maxLen; omega) (by have := HL2.out; omega) (HT2.out.trans ((Tch.alloc _ _ (.cells #[.int .i64 x.1.seq, .int .i64 x.1.time, .slice x.2.1 x.1.labs.length x.2.2, .string ⟨x.1.line.toArray⟩] 34)).trans (Tch.drew _ _))).size ?_
          intro g2 cap2 w25 o25 gr25 hb25
          refine hK.out _ _ (HS2.out _ (((Tch.alloc _ _ _).trans (Tch.drew _ _)).trans (Tch.grown gr25 (fun k hk => hk)))) ?_
          have S22 := HS2.out _ (((Tch.alloc _ _ _).trans (Tch.drew _ _)).trans (Tch.grown gr25 (fun k hk => hk)))
          have Z2 := HF2.out _ (((Tch.alloc _ _ _).trans (Tch.drew _ _)).trans (Tch.grown gr25 (fun k hk => hk)))
          clear hK K HF2
          simp only [Act.put, List.setIfInBounds_toArray]
          have DD2 := Dl.step2 (o := .cells #[.int .i64 x.1.seq, .int .i64 x.1.time, .slice x.2.1 x.1.labs.length x.2.2, .string ⟨x.1.line.toArray⟩] 34) HD1.out.drew bnR2 x HR2.out o25 gr25 hb25
          have HDD2 := hid DD2
          clear DD2 o25 gr25 hb25
          refine takeL (i := 12) (d := 71) (v := .pointer (some ⟨g, bn, none⟩)) rfl rfl (by kernel_rfl) (by kernel_rfl) (by kernel_rfl) (by kernel_rfl) (by kernel_rfl) (fun _ _ _ h => h) (Or.inl ⟨by rfl, fun wS hSw => by obtain ⟨s0, s1, s2, s3, s4⟩ := hSw; go_simp⟩) S22 ?_
          try simp only [List.setIfInBounds_toArray, List.set_cons_zero, List.set_cons_succ]
          have qs2 := S22.1
          refine readyL (rs := [13]) (by kernel_rfl) (by simp) ?_
          refine AllReadyL.last rfl (fun K hK => ?_)
          try rw [if_pos (by rfl)]
          go_simp
          refine hK.out _ _ ?_
          clear hK K qs2 S22 Z2
          refine doneL (by kernel_rfl) ?_
          have D2 := HDD2.out.1
          have T2 := HT2.out.trans ((Tch.drew _ _).trans HDD2.out.2)
          have C2 := HCS.out R1 HC1.out bn bnR2 (HSB.out hba _) (some ⟨g2, 0, none⟩) cap2
          rw [← HR2.out] at C2
          generalize R1.set bn ⟨some ⟨g2, 0, none⟩, cap2, r2.l ++ [x]⟩ = R2 at *
          have el2 : (r2.l ++ [x]).length = r2.l.length + 1 := by rw [List.length_append]; rfl
          rw [el2] at D2 T2
          clear el2
          generalize w25.setCell ⟨g, bn, none⟩ (.slice (some ⟨g2, 0, none⟩) (r2.l.length + 1) cap2) = wn at *
          have HD2 := hid D2
          have HT3 := hid T2
          have HC2 := hid C2
          clear HDD2 D2 T2 C2 HS2 HO2 HR2 HL2 HD1 HC1 HSB HT2 bnR2
          go_wp2_with fail
          go_roundw
          case rel => exact ⟨i + 1, R2, by go_num, HIL, HD2, HC2, HT3⟩
          case measure => have := HIL.out; simp [intOf]; omega
      · have hiT' : ¬ (i : Int) < (T.length : Int) := by omega
        go_wp2_with fail
        have ha1 : 0 ≤ (i : Int) % 4 ∧ (i : Int) % 4 < 4 := by omega
        have hb1 : 0 ≤ (i : Int) / 4 % 4 ∧ (i : Int) / 4 % 4 < 4 := by omega
        generalize (i : Int) / 4 % 4 = bv at *
        generalize (i : Int) % 4 = av at *
        obtain ⟨an, rfl⟩ : ∃ n : Nat, av = (n : Int) := ⟨av.toNat, by omega⟩
        obtain ⟨bn, rfl⟩ : ∃ n : Nat, bv = (n : Int) := ⟨bv.toNat, by omega⟩
        have an4 : an < 4 := by omega
        have bn4 : bn < 4 := by omega
        clear ha1 hb1
        have anR1 : an < R.length := by have := HD.out.len; omega
        obtain ⟨r1, hr1⟩ : ∃ r, r = R[an] := ⟨_, rfl⟩
        have HO1 : Hid (KEnt.Own wr ws.heap.size r1.v r1.l) := hid (by rw [hr1]; exact HD.out.own an anR1)
        have HR1 := hid hr1
        have HL1 : Hid (r1.l.length ≤ s.length) := hid (by rw [hr1]; exact Nat.le_trans (HC.out.1 _ _).length_le (by rw [List.length_take]; omega))
        have HS1 : Hid (∀ w', Tch (fun k => r1.v.ownBlock = some k) wr w' → (fun wS => wS.cell? ⟨g, an, none⟩ = some (.slice r1.A r1.l.length r1.c) ∧ wS.cell? ⟨sb, so + i * 4, none⟩ = some (.int .i64 x.1.seq) ∧ wS.cell? ⟨sb, so + i * 4 + 1, none⟩ = some (.int .i64 x.1.time) ∧ wS.cell? ⟨sb, so + i * 4 + 2, none⟩ = some (.slice x.2.1 x.1.labs.length x.2.2) ∧ wS.cell? ⟨sb, so + i * 4 + 3, none⟩ = some (.string ⟨x.1.line.toArray⟩)) w') := hid (fun w' k => by
          have hlo := fun j (hj : r1.v.ownBlock = some j) => (HO1.out.lt j hj).1
          have hgw := HD.out.lt
          have hgB := HD.out.ne
          have q := cellD HD.out anR1
          rw [← HR1.out] at q
          exact ⟨(k.cell hgw.2 (fun e => by have := hlo g e; omega)).trans q, HX.out w' (HT1.out.trans (k.mono (fun j hj => .inr (hlo j hj))))⟩)
        have HF1 : Hid (∀ w', Tch (fun k => r1.v.ownBlock = some k) wr w' → w'.frozen? ⟨g, an, none⟩ = false) := hid (fun w' k => by
          have hlo := fun j (hj : r1.v.ownBlock = some j) => (HO1.out.lt j hj).1
          have hgw := HD.out.lt
          have hgB := HD.out.ne
          exact (World.frozen?_of_block (k.block g hgw.2 (fun e => by have := hlo g e; omega))).trans (frozD HD.out _))
        clear hr1
        have S1 := HS1.out wr.drew (Tch.drew _ _)
        have I1 : (an : Int) < 4 := by omega
        refine wp_region_L 13 (fun wS => wS.cell? ⟨g, an, none⟩ = some (.slice r1.A r1.l.length r1.c) ∧ wS.cell? ⟨sb, so + i * 4, none⟩ = some (.int .i64 x.1.seq) ∧ wS.cell? ⟨sb, so + i * 4 + 1, none⟩ = some (.int .i64 x.1.time) ∧ wS.cell? ⟨sb, so + i * 4 + 2, none⟩ = some (.slice x.2.1 x.1.labs.length x.2.2) ∧ wS.cell? ⟨sb, so + i * 4 + 3, none⟩ = some (.string ⟨x.1.line.toArray⟩)) (by kernel_rfl) ?_
        refine takeL (i := 0) (d := 43) (v := .slice (some ⟨g, 0, none⟩) 4 4) rfl rfl (by kernel_rfl) (by kernel_rfl) (by kernel_rfl) (by kernel_rfl) (by kernel_rfl) (fun _ _ _ h => h) (Or.inl ⟨by rfl, fun wS hSw => by obtain ⟨s0, s1, s2, s3, s4⟩ := hSw; go_simp⟩) S1 ?_
        try simp only [List.setIfInBounds_toArray, List.set_cons_zero, List.set_cons_succ]
        refine takeL (i := 1) (d := 44) (v := .int .i64 (an : Int)) rfl rfl (by kernel_rfl) (by kernel_rfl) (by kernel_rfl) (by kernel_rfl) (by kernel_rfl) (fun _ _ _ h => h) (Or.inl ⟨by rfl, fun wS hSw => by obtain ⟨s0, s1, s2, s3, s4⟩ := hSw; go_simp⟩) S1 ?_
        try simp only [List.setIfInBounds_toArray, List.set_cons_zero, List.set_cons_succ]
        refine takeL (i := 2) (d := 45) (v := .slice (some ⟨g, 0, none⟩) 4 4) rfl rfl (by kernel_rfl) (by kernel_rfl) (by kernel_rfl) (by kernel_rfl) (by kernel_rfl) (fun _ _ _ h => h) (Or.inl ⟨by rfl, fun wS hSw => by obtain ⟨s0, s1, s2, s3, s4⟩ := hSw; go_simp⟩) S1 ?_
        try simp only [List.setIfInBounds_toArray, List.set_cons_zero, List.set_cons_succ]
        refine takeL (i := 3) (d := 46) (v := .int .i64 (an : Int)) rfl rfl (by kernel_rfl) (by kernel_rfl) (by kernel_rfl) (by kernel_rfl) (by kernel_rfl) (fun _ _ _ h => h) (Or.inl ⟨by rfl, fun wS hSw => by obtain ⟨s0, s1, s2, s3, s4⟩ := hSw; go_simp⟩) S1 ?_
        try simp only [List.setIfInBounds_toArray, List.set_cons_zero, List.set_cons_succ]
        refine takeL (i := 4) (d := 47) (v := .pointer (some ⟨g, an, none⟩)) rfl rfl (by kernel_rfl) (by kernel_rfl) (by kernel_rfl) (by kernel_rfl) (by kernel_rfl) (fun _ _ _ h => h) (Or.inl ⟨by rfl, fun wS hSw => by obtain ⟨s0, s1, s2, s3, s4⟩ := hSw; go_simp⟩) S1 ?_
        try simp only [List.setIfInBounds_toArray, List.set_cons_zero, List.set_cons_succ]
        refine takeL (i := 5) (d := 48) (v := .slice r1.A r1.l.length r1.c) rfl rfl (by kernel_rfl) (by kernel_rfl) (by kernel_rfl) (by kernel_rfl) (by kernel_rfl) (fun _ _ _ h => h) (Or.inl ⟨by rfl, fun wS hSw => by obtain ⟨s0, s1, s2, s3, s4⟩ := hSw; go_simp⟩) S1 ?_
        try simp only [List.setIfInBounds_toArray, List.set_cons_zero, List.set_cons_succ]
        refine takeL (i := 6) (d := 49) (v := .slice (some ⟨sb, so, none⟩) s.length sc) rfl rfl (by kernel_rfl) (by kernel_rfl) (by kernel_rfl) (by kernel_rfl) (by kernel_rfl) (fun _ _ _ h => h) (Or.inl ⟨by rfl, fun wS hSw => by obtain ⟨s0, s1, s2, s3, s4⟩ := hSw; go_simp⟩) S1 ?_
        try simp only [List.setIfInBounds_toArray, List.set_cons_zero, List.set_cons_succ]
        refine takeL (i := 7) (d := 50) (v := .int .i64 (i : Int)) rfl rfl (by kernel_rfl) (by kernel_rfl) (by kernel_rfl) (by kernel_rfl) (by kernel_rfl) (fun _ _ _ h => h) (Or.inl ⟨by rfl, fun wS hSw => by obtain ⟨s0, s1, s2, s3, s4⟩ := hSw; go_simp⟩) S1 ?_
        try simp only [List.setIfInBounds_toArray, List.set_cons_zero, List.set_cons_succ]
        refine takeL (i := 8) (d := 51) (v := .pointer (some ⟨sb, so + i * 4, none⟩)) rfl rfl (by kernel_rfl) (by kernel_rfl) (by kernel_rfl) (by kernel_rfl) (by kernel_rfl) (fun _ _ _ h => h) (Or.inl ⟨by rfl, fun wS hSw => by obtain ⟨s0, s1, s2, s3, s4⟩ := hSw; go_simp⟩) S1 ?_
        try simp only [List.setIfInBounds_toArray, List.set_cons_zero, List.set_cons_succ]
        refine takeL (i := 9) (d := 52) (v := .agg #[.int .i64 x.1.seq, .int .i64 x.1.time, .slice x.2.1 x.1.labs.length x.2.2, .string ⟨x.1.line.toArray⟩]) rfl rfl (by kernel_rfl) (by kernel_rfl) (by kernel_rfl) (by kernel_rfl) (by kernel_rfl) (fun _ _ _ h => h) (Or.inl ⟨by rfl, fun wS hSw => by obtain ⟨s0, s1, s2, s3, s4⟩ := hSw; go_simp⟩) S1 ?_
        try simp only [List.setIfInBounds_toArray, List.set_cons_zero, List.set_cons_succ]
        refine readyL (rs := [10]) (by kernel_rfl) (by simp) ?_
        refine AllReadyL.cons rfl (fun K hK => ?_) AllReadyL.nil
        try rw [if_pos (by rfl)]
        go_simp
        refine hK.out _ _ (HS1.out _ ((Tch.alloc _ _ _).trans (Tch.drew _ _))) ?_
        clear hK K S1
        refine readyL (rs := [11]) (by kernel_rfl) (by simp) ?_
        refine AllReadyL.cons rfl (fun K hK => ?_) AllReadyL.nil
        refine step_app1L rfl (.tmp 48) (.tmp 53) 22 rfl Try.underlying22 infoE rfl ws.heap.size _ r1.l x rfl ((HO1.out.alloc _).touch (Tch.drew (fun _ => False) _) (fun _ e => e.elim)) _ (heap_alloc_new _ _) rfl (by have := HL1.out; unfold maxLen; omega) (by have := HL1.out; omega) (HT1.out.trans ((Tch.alloc _ _ (.cells #[.int .i64 x.1.seq, .int .i64 x.1.time, .slice x.2.1 x.1.labs.length x.2.2, .string ⟨x.1.line.toArray⟩] 34)).trans (Tch.drew _ _))).size ?_
        intro g1 cap1 w15 o15 gr15 hb15
        refine hK.out _ _ (HS1.out _ (((Tch.alloc _ _ _).trans (Tch.drew _ _)).trans (Tch.grown gr15 (fun k hk => hk)))) ?_
        have S12 := HS1.out _ (((Tch.alloc _ _ _).trans (Tch.drew _ _)).trans (Tch.grown gr15 (fun k hk => hk)))
        have Z1 := HF1.out _ (((Tch.alloc _ _ _).trans (Tch.drew _ _)).trans (Tch.grown gr15 (fun k hk => hk)))
        clear hK K HF1
        simp only [Act.put, List.setIfInBounds_toArray]
        have DD1 := Dl.step2 (o := .cells #[.int .i64 x.1.seq, .int .i64 x.1.time, .slice x.2.1 x.1.labs.length x.2.2, .string ⟨x.1.line.toArray⟩] 34) HD.out.drew anR1 x HR1.out o15 gr15 hb15
        have HDD1 := hid DD1
        clear DD1 o15 gr15 hb15
        refine takeL (i := 12) (d := 55) (v := .pointer (some ⟨g, an, none⟩)) rfl rfl (by kernel_rfl) (by kernel_rfl) (by kernel_rfl) (by kernel_rfl) (by kernel_rfl) (fun _ _ _ h => h) (Or.inl ⟨by rfl, fun wS hSw => by obtain ⟨s0, s1, s2, s3, s4⟩ := hSw; go_simp⟩) S12 ?_
        try simp only [List.setIfInBounds_toArray, List.set_cons_zero, List.set_cons_succ]
        have qs1 := S12.1
        refine readyL (rs := [13]) (by kernel_rfl) (by simp) ?_
        refine AllReadyL.last rfl (fun K hK => ?_)
        try rw [if_pos (by rfl)]
        go_simp
        refine hK.out _ _ ?_
        clear hK K qs1 S12 Z1
        refine doneL (by kernel_rfl) ?_
        have D1 := HDD1.out.1
        have T1 := HT1.out.trans ((Tch.drew _ _).trans HDD1.out.2)
        have C1 := HCF.out an anR1 (some ⟨g1, 0, none⟩) cap1
        rw [← HR1.out] at C1
        have SB : bn ≠ an → ∀ hb : bn < (R.set an ⟨some ⟨g1, 0, none⟩, cap1, r1.l ++ [x]⟩).length, ((R.set an ⟨some ⟨g1, 0, none⟩, cap1, r1.l ++ [x]⟩)[bn]).l.Sublist (s.take i) := fun hne hb => by
          rw [List.getElem_set_ne (fun c => hne c.symm)]
          exact HC.out.1 bn (by simpa using hb)
        generalize R.set an ⟨some ⟨g1, 0, none⟩, cap1, r1.l ++ [x]⟩ = R1 at *
        have el1 : (r1.l ++ [x]).length = r1.l.length + 1 := by rw [List.length_append]; rfl
        rw [el1] at D1 T1
        clear el1
        generalize w15.setCell ⟨g, an, none⟩ (.slice (some ⟨g1, 0, none⟩) (r1.l.length + 1) cap1) = wm at *
        have HD1 := hid D1
        have HT2 := hid T1
        have HC1 := hid C1
        have HSB := hid SB
        clear HDD1 D1 T1 C1 SB HS1 HO1 HR1 HL1 HCF HC HD HT1 anR1
        by_cases hba : bn = an
        · subst hba
          go_wp2_with fail
          go_roundw
          case rel => exact ⟨i + 1, R1, by go_num, HIL, HD1, HC1, HT2⟩
          case measure => have := HIL.out; simp [intOf]; omega
        · have hne : ¬ (bn : Int) = (an : Int) := by omega
          go_wp2_with fail
          have bnR2 : bn < R1.length := by have := HD1.out.len; omega
          obtain ⟨r2, hr2⟩ : ∃ r, r = R1[bn] := ⟨_, rfl⟩
          have HO2 : Hid (KEnt.Own wm ws.heap.size r2.v r2.l) := hid (by rw [hr2]; exact HD1.out.own bn bnR2)
          have HR2 := hid hr2
          have HL2 : Hid (r2.l.length ≤ s.length) := hid (by rw [hr2]; exact Nat.le_trans (HSB.out hba _).length_le (by rw [List.length_take]; omega))
          have HS2 : Hid (∀ w', Tch (fun k => r2.v.ownBlock = some k) wm w' → (fun wS => wS.cell? ⟨g, bn, none⟩ = some (.slice r2.A r2.l.length r2.c) ∧ wS.cell? ⟨sb, so + i * 4, none⟩ = some (.int .i64 x.1.seq) ∧ wS.cell? ⟨sb, so + i * 4 + 1, none⟩ = some (.int .i64 x.1.time) ∧ wS.cell? ⟨sb, so + i * 4 + 2, none⟩ = some (.slice x.2.1 x.1.labs.length x.2.2) ∧ wS.cell? ⟨sb, so + i * 4 + 3, none⟩ = some (.string ⟨x.1.line.toArray⟩)) w') := hid (fun w' k => by
            have hlo := fun j (hj : r2.v.ownBlock = some j) => (HO2.out.lt j hj).1
            have hgw := HD1.out.lt
            have hgB := HD1.out.ne
            have q := cellD HD1.out bnR2
            rw [← HR2.out] at q
            exact ⟨(k.cell hgw.2 (fun e => by have := hlo g e; omega)).trans q, HX.out w' (HT2.out.trans (k.mono (fun j hj => .inr (hlo j hj))))⟩)
          have HF2 : Hid (∀ w', Tch (fun k => r2.v.ownBlock = some k) wm w' → w'.frozen? ⟨g, bn, none⟩ = false) := hid (fun w' k => by
            have hlo := fun j (hj : r2.v.ownBlock = some j) => (HO2.out.lt j hj).1
            have hgw := HD1.out.lt
            have hgB := HD1.out.ne
            exact (World.frozen?_of_block (k.block g hgw.2 (fun e => by have := hlo g e; omega))).trans (frozD HD1.out _))
          clear hr2
          have S2 := HS2.out wm.drew (Tch.drew _ _)
          have I2 : (bn : Int) < 4 := by omega
          refine wp_region_L 13 (fun wS => wS.cell? ⟨g, bn, none⟩ = some (.slice r2.A r2.l.length r2.c) ∧ wS.cell? ⟨sb, so + i * 4, none⟩ = some (.int .i64 x.1.seq) ∧ wS.cell? ⟨sb, so + i * 4 + 1, none⟩ = some (.int .i64 x.1.time) ∧ wS.cell? ⟨sb, so + i * 4 + 2, none⟩ = some (.slice x.2.1 x.1.labs.length x.2.2) ∧ wS.cell? ⟨sb, so + i * 4 + 3, none⟩ = some (.string ⟨x.1.line.toArray⟩)) (by kernel_rfl) ?_
          refine takeL (i := 0) (d := 59) (v := .slice (some ⟨g, 0, none⟩) 4 4) rfl rfl (by kernel_rfl) (by kernel_rfl) (by kernel_rfl) (by kernel_rfl) (by kernel_rfl) (fun _ _ _ h => h) (Or.inl ⟨by rfl, fun wS hSw => by obtain ⟨s0, s1, s2, s3, s4⟩ := hSw; go_simp⟩) S2 ?_
          try simp only [List.setIfInBounds_toArray, List.set_cons_zero, List.set_cons_succ]
          refine takeL (i := 1) (d := 60) (v := .int .i64 (bn : Int)) rfl rfl (by kernel_rfl) (by kernel_rfl) (by kernel_rfl) (by kernel_rfl) (by kernel_rfl) (fun _ _ _ h => h) (Or.inl ⟨by rfl, fun wS hSw => by obtain ⟨s0, s1, s2, s3, s4⟩ := hSw; go_simp⟩) S2 ?_
          try simp only [List.setIfInBounds_toArray, List.set_cons_zero, List.set_cons_succ]
          refine takeL (i := 2) (d := 61) (v := .slice (some ⟨g, 0, none⟩) 4 4) rfl rfl (by kernel_rfl) (by kernel_rfl) (by kernel_rfl) (by kernel_rfl) (by kernel_rfl) (fun _ _ _ h => h) (Or.inl ⟨by rfl, fun wS hSw => by obtain ⟨s0, s1, s2, s3, s4⟩ := hSw; go_simp⟩) S2 ?_
          try simp only [List.setIfInBounds_toArray, List.set_cons_zero, List.set_cons_succ]
          refine takeL (i := 3) (d := 62) (v := .int .i64 (bn : Int)) rfl rfl (by kernel_rfl) (by kernel_rfl) (by kernel_rfl) (by kernel_rfl) (by kernel_rfl) (fun _ _ _ h => h) (Or.inl ⟨by rfl, fun wS hSw => by obtain ⟨s0, s1, s2, s3, s4⟩ := hSw; go_simp⟩) S2 ?_
          try simp only [List.setIfInBounds_toArray, List.set_cons_zero, List.set_cons_succ]
          refine takeL (i := 4) (d := 63) (v := .pointer (some ⟨g, bn, none⟩)) rfl rfl (by kernel_rfl) (by kernel_rfl) (by kernel_rfl) (by kernel_rfl) (by kernel_rfl) (fun _ _ _ h => h) (Or.inl ⟨by rfl, fun wS hSw => by obtain ⟨s0, s1, s2, s3, s4⟩ := hSw; go_simp⟩) S2 ?_
          try simp only [List.setIfInBounds_toArray, List.set_cons_zero, List.set_cons_succ]
          refine takeL (i := 5) (d := 64) (v := .slice r2.A r2.l.length r2.c) rfl rfl (by kernel_rfl) (by kernel_rfl) (by kernel_rfl) (by kernel_rfl) (by kernel_rfl) (fun _ _ _ h => h) (Or.inl ⟨by rfl, fun wS hSw => by obtain ⟨s0, s1, s2, s3, s4⟩ := hSw; go_simp⟩) S2 ?_
          try simp only [List.setIfInBounds_toArray, List.set_cons_zero, List.set_cons_succ]
          refine takeL (i := 6) (d := 65) (v := .slice (some ⟨sb, so, none⟩) s.length sc) rfl rfl (by kernel_rfl) (by kernel_rfl) (by kernel_rfl) (by kernel_rfl) (by kernel_rfl) (fun _ _ _ h => h) (Or.inl ⟨by rfl, fun wS hSw => by obtain ⟨s0, s1, s2, s3, s4⟩ := hSw; go_simp⟩) S2 ?_
          try simp only [List.setIfInBounds_toArray, List.set_cons_zero, List.set_cons_succ]
          refine takeL (i := 7) (d := 66) (v := .int .i64 (i : Int)) rfl rfl (by kernel_rfl) (by kernel_rfl) (by kernel_rfl) (by kernel_rfl) (by kernel_rfl) (fun _ _ _ h => h) (Or.inl ⟨by rfl, fun wS hSw => by obtain ⟨s0, s1, s2, s3, s4⟩ := hSw; go_simp⟩) S2 ?_
          try simp only [List.setIfInBounds_toArray, List.set_cons_zero, List.set_cons_succ]
          refine takeL (i := 8) (d := 67) (v := .pointer (some ⟨sb, so + i * 4, none⟩)) rfl rfl (by kernel_rfl) (by kernel_rfl) (by kernel_rfl) (by kernel_rfl) (by kernel_rfl) (fun _ _ _ h => h) (Or.inl ⟨by rfl, fun wS hSw => by obtain ⟨s0, s1, s2, s3, s4⟩ := hSw; go_simp⟩) S2 ?_
          try simp only [List.setIfInBounds_toArray, List.set_cons_zero, List.set_cons_succ]
          refine takeL (i := 9) (d := 68) (v := .agg #[.int .i64 x.1.seq, .int .i64 x.1.time, .slice x.2.1 x.1.labs.length x.2.2, .string ⟨x.1.line.toArray⟩]) rfl rfl (by kernel_rfl) (by kernel_rfl) (by kernel_rfl) (by kernel_rfl) (by kernel_rfl) (fun _ _ _ h => h) (Or.inl ⟨by rfl, fun wS hSw => by obtain ⟨s0, s1, s2, s3, s4⟩ := hSw; go_simp⟩) S2 ?_
          try simp only [List.setIfInBounds_toArray, List.set_cons_zero, List.set_cons_succ]
          refine readyL (rs := [10]) (by kernel_rfl) (by simp) ?_
          refine AllReadyL.cons rfl (fun K hK => ?_) AllReadyL.nil
          try rw [if_pos (by rfl)]
          go_simp
          refine hK.out _ _ (HS2.out _ ((Tch.alloc _ _ _).trans (Tch.drew _ _))) ?_
          clear hK K S2
          refine readyL (rs := [11]) (by kernel_rfl) (by simp) ?_
          refine AllReadyL.cons rfl (fun K hK => ?_) AllReadyL.nil
          refine step_app1L rfl (.tmp 64) (.tmp 69) 22 rfl Try.underlying22 infoE rfl ws.heap.size _ r2.l x rfl ((HO2.out.alloc _).touch (Tch.drew (fun _ => False) _) (fun _ e => e.elim)) _ (heap_alloc_new _ _) rfl (by have := HL2.out; unfold maxLen; omega) (by have := HL2.out; omega) (HT2.out.trans ((Tch.alloc _ _ (.cells #[.int .i64 x.1.seq, .int .i64 x.1.time, .slice x.2.1 x.1.labs.length x.2.2, .string ⟨x.1.line.toArray⟩] 34)).trans (Tch.drew _ _))).size ?_
          intro g2 cap2 w25 o25 gr25 hb25
          refine hK.out _ _ (HS2.out _ (((Tch.alloc _ _ _).trans (Tch.drew _ _)).trans (Tch.grown gr25 (fun k hk => hk)))) ?_
          have S22 := HS2.out _ (((Tch.alloc _ _ _).trans (Tch.drew _ _)).trans (Tch.grown gr25 (fun k hk => hk)))
          have Z2 := HF2.out _ (((Tch.alloc _ _ _).trans (Tch.drew _ _)).trans (Tch.grown gr25 (fun k hk => hk)))
          clear hK K HF2
          simp only [Act.put, List.setIfInBounds_toArray]
          have DD2 := Dl.step2 (o := .cells #[.int .i64 x.1.seq, .int .i64 x.1.time, .slice x.2.1 x.1.labs.length x.2.2, .string ⟨x.1.line.toArray⟩] 34) HD1.out.drew bnR2 x HR2.out o25 gr25 hb25
          have HDD2 := hid DD2
          clear DD2 o25 gr25 hb25
          refine takeL (i := 12) (d := 71) (v := .pointer (some ⟨g, bn, none⟩)) rfl rfl (by kernel_rfl) (by kernel_rfl) (by kernel_rfl) (by kernel_rfl) (by kernel_rfl) (fun _ _ _ h => h) (Or.inl ⟨by rfl, fun wS hSw => by obtain ⟨s0, s1, s2, s3, s4⟩ := hSw; go_simp⟩) S22 ?_
          try simp only [List.setIfInBounds_toArray, List.set_cons_zero, List.set_cons_succ]
          have qs2 := S22.1
          refine readyL (rs := [13]) (by kernel_rfl) (by simp) ?_
          refine AllReadyL.last rfl (fun K hK => ?_)
          try rw [if_pos (by rfl)]
          go_simp
          refine hK.out _ _ ?_
          clear hK K qs2 S22 Z2
          refine doneL (by kernel_rfl) ?_
          have D2 := HDD2.out.1
          have T2 := HT2.out.trans ((Tch.drew _ _).trans HDD2.out.2)
          have C2 := HCS.out R1 HC1.out bn bnR2 (HSB.out hba _) (some ⟨g2, 0, none⟩) cap2
          rw [← HR2.out] at C2
          generalize R1.set bn ⟨some ⟨g2, 0, none⟩, cap2, r2.l ++ [x]⟩ = R2 at *
          have el2 : (r2.l ++ [x]).length = r2.l.length + 1 := by rw [List.length_append]; rfl
          rw [el2] at D2 T2
          clear el2
          generalize w25.setCell ⟨g, bn, none⟩ (.slice (some ⟨g2, 0, none⟩) (r2.l.length + 1) cap2) = wn at *
          have HD2 := hid D2
          have HT3 := hid T2
          have HC2 := hid C2
          clear HDD2 D2 T2 C2 HS2 HO2 HR2 HL2 HD1 HC1 HSB HT2 bnR2
          go_wp2_with fail
          go_roundw
          case rel => exact ⟨i + 1, R2, by go_num, HIL, HD2, HC2, HT3⟩
          case measure => have := HIL.out; simp [intOf]; omega
    · have hii : ¬ (i : Int) < (s.length : Int) := by omega
      have hie : i = s.length := by have := hi.out; omega
      have BF : Hid (Below w.heap.size w wr) := hid (Tch.below (hb0.trans (BWS.out.mono hb0.size)) HT1.out (fun j hj => by have := HG.out; have h1 := BWS.out.size; have h2 := hb0.size; rcases hj with hj | hj <;> omega) (by have h1 := BWS.out.size; have h2 := hb0.size; omega))
      have WB : Hid (w.heap.size ≤ ws.heap.size) := hid (by have h1 := BWS.out.size; have h2 := hb0.size; omega)
      subst hie
      go_wp2_with fail
      go_ret
      exact ⟨_, R, s, rfl, HD.out.row.mono (by rw [HG.out]; exact Nat.le_refl _), HD.out.len, fun i hi => (HD.out.own i hi).mono WB.out, st.out, HC.out, BF.out⟩
theorem deal_is (nb : Bool) (v vt : Value) (l : List EV) (T : List Int) (w : World) (hR : RdE w v l) (hz : SzE l) (hT : KInt.Rd w vt T) :
    Calls Try.prog 10 #[v, vt, .bool nb] w (DealOut l nb w) := by
  cases nb
  · exact deal_false v vt l T w hR hz hT
  · exact deal_true v vt l T w hR hz hT
end Go.Proofs.Ytcffagfkpkfgbaa
