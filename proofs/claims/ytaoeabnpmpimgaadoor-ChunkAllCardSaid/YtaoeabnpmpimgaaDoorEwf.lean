/-
  What the law's Own of a chunk answers: the chunk in memory of its own. Conditions: the chunk can be read; sizes as each theorem names.
  A chunk that came in by value, opened. No condition.
  The numbers of entries that came in are numbers of the type. No condition.
-/
import Derived.Test.YtaoeabnpmpimgaaDoorHpw
import Derived.Test.YtaoeabnpmpimgaaDoorOrl
import Derived.Test.YtaoeabnpmpimgaaDoorTable
import Derived.Lib.SmallJoins
import Derived.Test.YtaoeabnpmpimgaaDoorHrr
section
namespace Go.Proofs.YtaoeabnpmpimgaaDoor
open Go.RowKit Go.Icz Go.Shelf
attribute [local go_sem] Oper.semAt_some
set_option maxRecDepth 100000
set_option maxHeartbeats 4000000
theorem infoRw : (Tryd.prog.info? 45).map (fun i => (i.zero, i.size, i.bytes)) = some (some (.agg #[.int .i64 0, .int .i64 0, .string ⟨#[]⟩]), 3, 32) := by kernel_rfl
/-- It answers a chunk in memory of its own. -/
def ChOut (labs : List Lab) (rows : List CRow) (w : World) (e : Ending) (w' : World) : Prop := ∃ A c A2 c2, e = .returned (.agg #[.slice A labs.length c, .slice A2 rows.length c2]) ∧ OwnL w' w.heap.size (.slice A labs.length c) labs ∧ KRw.Own w' w.heap.size (.slice A2 rows.length c2) rows ∧ Below w.heap.size w w'
theorem COwn_is (labs : List Lab) (rows : List CRow) (A A2 : Option Addr) (C C2 : Nat) (w : World) (hL : RdL w (.slice A labs.length C) labs) (hR : KRr.Rd w (.slice A2 rows.length C2) rows) (hlz : labs.length * 32 ≤ 140737488351232) (hrz : rows.length * 32 ≤ 140737488351232) :
    Calls Tryd.prog 12 #[.agg #[.slice A labs.length C, .slice A2 rows.length C2]] w (ChOut labs rows w) := by
  obtain ⟨W0, hW0⟩ : ∃ W0, W0 = (w.alloc (.cells #[.slice A labs.length C, .slice A2 rows.length C2] 35)).alloc (.cells #[.slice none 0 0, .slice none 0 0] 39) := ⟨_, rfl⟩
  have b0 : Below w.heap.size w W0 := by rw [hW0]; exact ((Below.refl _ w).alloc (Nat.le_refl _) _).alloc (by simp) _
  have z0 : W0.heap.size = w.heap.size + 2 := by rw [hW0]; simp
  have x0 : W0.heap[w.heap.size]? = some (.cells #[.slice A labs.length C, .slice A2 rows.length C2] 35 (0, 0)) := by rw [hW0]; exact heap_alloc2_old w _ _
  have x1 : W0.heap[w.heap.size + 1]? = some (.cells #[.slice none 0 0, .slice none 0 0] 39 (0, 0)) := by rw [hW0]; exact heap_alloc2_new w _ _
  have hO := Own_own _ labs W0 (hL.below b0) (by omega)
  have e0 := held_cell (i := 0) x0 rfl
  have HX0 := hid x0
  have HX1 := hid x1
  have HB0 := hid b0
  have HZ0 := hid z0
  have HLZ := hid hrz
  have HR := hid hR
  rw [hW0] at hO e0
  clear x0 x1 b0 z0 hL hR
  go_enter Tryd.func12, Tryd.ntmps12
  go_wp2_with (go_at_call 34; refine hO.mono ?_; rintro e w1 ⟨v1, rfl, o1, b1⟩; rw [← hW0] at o1 b1; obtain ⟨A1, c1, rfl, _⟩ := id o1.rd; clear hO e0)
  clear hW0
  have hz1 := b1.size
  obtain ⟨W2, hW2⟩ : ∃ W2, W2 = w1.alloc (.cells #[.slice A1 labs.length c1, .slice none 0 0] 39) := ⟨_, rfl⟩
  have b2 : Below w1.heap.size w1 W2 := by rw [hW2]; exact (Below.refl _ w1).alloc (Nat.le_refl _) _
  have z2 : W2.heap.size = w1.heap.size + 1 := by rw [hW2]; simp
  have x2 : W2.heap[w1.heap.size]? = some (.cells #[.slice A1 labs.length c1, .slice none 0 0] 39 (0, 0)) := by rw [hW2]; exact heap_alloc_new w1 _
  have bb2 : Below W0.heap.size W0 W2 := b1.trans (b2.mono b1.size)
  have HO := hid (And.intro bb2 (And.intro o1 b2))
  have HZ2 := hid (And.intro z2 hz1)
  rw [← hW2]
  clear hW2 b2 b1 o1 bb2 z2 hz1
  go_loopw [4] (fun iv wr => ∃ (i : Nat) (v : Value), iv = .int .i64 (i : Int) ∧ Hid (i ≤ rows.length) ∧ Hid (wr.heap[w1.heap.size]? = some (.cells #[.slice A1 labs.length c1, v] 39 (0, 0))) ∧ Hid (KRw.Own wr W2.heap.size v (rows.take i)) ∧ Hid (Below w1.heap.size W2 wr)) (fun iv _ => rows.length - (intOf iv).toNat)
  case atStart => exact ⟨0, .slice none 0 0, rfl, hid (Nat.zero_le _), hid x2, hid (Kd.Own.nil _ _), hid (Below.refl _ _)⟩
  case round =>
    obtain ⟨i, v, rfl, hi, HX, HV, HW⟩ := hrel
    by_cases hil : i < rows.length
    · have hii : (i : Int) < (rows.length : Int) := by omega
      have bb : Below W0.heap.size W0 wr := HO.out.1.trans (HW.out.mono HZ2.out.2)
      obtain ⟨bR, offR, cR, hvR, hltR, hcs⟩ := HR.out.ats hil
      injection hvR with hv1 _ hv2
      subst hv1
      subst hv2
      have bw : Below w.heap.size w wr := HB0.out.trans (bb.mono HB0.out.size)
      have g0 : wr.cell? ⟨bR, offR + i * 3, none⟩ = some (.int .i64 rows[i].seq) := (bw.cell (p := ⟨bR, offR + i * 3, none⟩) hltR).trans (hcs i hil 0 _ (by decide) rfl)
      have g1 : wr.cell? ⟨bR, offR + i * 3 + 1, none⟩ = some (.int .i64 rows[i].time) := (bw.cell (p := ⟨bR, offR + i * 3 + 1, none⟩) hltR).trans (hcs i hil 1 _ (by decide) rfl)
      have g2 : wr.cell? ⟨bR, offR + i * 3 + 2, none⟩ = some (.string ⟨rows[i].line.toArray⟩) := (bw.cell (p := ⟨bR, offR + i * 3 + 2, none⟩) hltR).trans (hcs i hil 2 _ (by decide) rfl)
      have y0 := (bb.block _ (row_lt HX0.out)).trans HX0.out
      have cc0 := held_cell (i := 1) y0 rfl
      have cc1 := held_cell (i := 1) HX.out rfl
      have HT : Hid (rows.take (i + 1) = rows.take i ++ [rows[i]]) := hid (List.take_succ_eq_append_getElem hil)
      have HIL := hid hil
      have htl : (rows.take i).length ≤ i := by rw [List.length_take]; omega
      have hrz := HLZ.out
      have i2 : (i : Int) + 1 ≤ 9223372036854775807 := by omega
      have hlt : w1.heap.size < wr.heap.size := row_lt HX.out
      have ow : ∀ o, KRw.Own (wr.drew.alloc o) W2.heap.size v (rows.take i) := fun o => (HV.out.below (Below.refl _ wr).drew).alloc o
      have hown := HV.out.lt
      have hcell : ∀ (o : Obj) w6, (wr.drew.alloc o).grownBy w6 v.ownBlock → w6.heap[w1.heap.size]? = some (.cells #[.slice A1 labs.length c1, v] 39 (0, 0)) := fun o w6 hg => by
        have hne : some w1.heap.size ≠ v.ownBlock := fun e => by have := (hown _ e.symm).1; have := HZ2.out.1; omega
        exact ((hg.block w1.heap.size (by simp; omega) hne).trans (heap_alloc_old wr.drew o hlt)).trans HX.out
      have hne0 : some w.heap.size ≠ v.ownBlock := fun e => by have := (hown _ e.symm).1; have := HZ2.out; have := HZ0.out; omega
      have hne1 : some w1.heap.size ≠ v.ownBlock := fun e => by have := (hown _ e.symm).1; have := HZ2.out; omega
      have hneR : some bR ≠ v.ownBlock := fun e => by have := (hown _ e.symm).1; have := HZ2.out; have := HZ0.out; omega
      have hrl : bR < wr.heap.size := Nat.lt_of_lt_of_le hltR bw.size
      have hb0 : w.heap.size < wr.heap.size := by have := bb.size; have := HZ0.out; omega
      have SC : Hid (∀ wS : World, (∀ k, k < wr.heap.size → some k ≠ v.ownBlock → wS.heap[k]? = wr.heap[k]?) → wS.cell? ⟨w.heap.size, 1, none⟩ = some (.slice (some ⟨bR, offR, none⟩) rows.length C2) ∧ wS.cell? ⟨w1.heap.size, 1, none⟩ = some v ∧ wS.cell? ⟨bR, offR + i * 3, none⟩ = some (.int .i64 rows[i].seq) ∧ wS.cell? ⟨bR, offR + i * 3 + 1, none⟩ = some (.int .i64 rows[i].time) ∧ wS.cell? ⟨bR, offR + i * 3 + 2, none⟩ = some (.string ⟨rows[i].line.toArray⟩)) := hid (fun wS h =>
        ⟨(World.cell?_of_block (h _ hb0 hne0)).trans cc0, (World.cell?_of_block (h _ hlt hne1)).trans cc1, (World.cell?_of_block (h _ hrl hneR)).trans g0, (World.cell?_of_block (h _ hrl hneR)).trans g1, (World.cell?_of_block (h _ hrl hneR)).trans g2⟩)
      have HCell := hid hcell
      have HOW := hid hown
      generalize rows.take i = acc at *
      generalize rows[i] = x at *
      clear hcs bb bw y0 hltR hcell hown hil hne0 hne1 hneR g0 g1 g2 cc1
      go_wp2_with fail
      clear cc0
      refine wp_region_L 24 (fun wS => wS.cell? ⟨w.heap.size, 1, none⟩ = some (.slice (some ⟨bR, offR, none⟩) rows.length C2) ∧ wS.cell? ⟨w1.heap.size, 1, none⟩ = some v ∧ wS.cell? ⟨bR, offR + i * 3, none⟩ = some (.int .i64 x.seq) ∧ wS.cell? ⟨bR, offR + i * 3 + 1, none⟩ = some (.int .i64 x.time) ∧ wS.cell? ⟨bR, offR + i * 3 + 2, none⟩ = some (.string ⟨x.line.toArray⟩)) (by kernel_rfl) ?_
      refine takeL (i := 0) (d := 16) (v := .pointer (some ⟨w1.heap.size, 1, none⟩)) rfl rfl (by kernel_rfl) (by kernel_rfl) (by kernel_rfl) (by kernel_rfl) (by kernel_rfl) (fun _ _ _ h => h) (Or.inl ⟨by rfl, fun wS hSw => by obtain ⟨s0, s1, s2, s3, s4⟩ := hSw; go_simp⟩) (SC.out wr.drew (fun _ _ _ => rfl)) ?_
      try simp only [List.setIfInBounds_toArray, List.set_cons_zero, List.set_cons_succ]
      refine takeL (i := 1) (d := 17) (v := v) rfl rfl (by kernel_rfl) (by kernel_rfl) (by kernel_rfl) (by kernel_rfl) (by kernel_rfl) (fun _ _ _ h => h) (Or.inl ⟨by rfl, fun wS hSw => by obtain ⟨s0, s1, s2, s3, s4⟩ := hSw; go_simp⟩) (SC.out wr.drew (fun _ _ _ => rfl)) ?_
      try simp only [List.setIfInBounds_toArray, List.set_cons_zero, List.set_cons_succ]
      refine takeL (i := 2) (d := 18) (v := .pointer (some ⟨w.heap.size, 1, none⟩)) rfl rfl (by kernel_rfl) (by kernel_rfl) (by kernel_rfl) (by kernel_rfl) (by kernel_rfl) (fun _ _ _ h => h) (Or.inl ⟨by rfl, fun wS hSw => by obtain ⟨s0, s1, s2, s3, s4⟩ := hSw; go_simp⟩) (SC.out wr.drew (fun _ _ _ => rfl)) ?_
      try simp only [List.setIfInBounds_toArray, List.set_cons_zero, List.set_cons_succ]
      refine takeL (i := 3) (d := 19) (v := .slice (some ⟨bR, offR, none⟩) rows.length C2) rfl rfl (by kernel_rfl) (by kernel_rfl) (by kernel_rfl) (by kernel_rfl) (by kernel_rfl) (fun _ _ _ h => h) (Or.inl ⟨by rfl, fun wS hSw => by obtain ⟨s0, s1, s2, s3, s4⟩ := hSw; go_simp⟩) (SC.out wr.drew (fun _ _ _ => rfl)) ?_
      try simp only [List.setIfInBounds_toArray, List.set_cons_zero, List.set_cons_succ]
      refine takeL (i := 4) (d := 20) (v := .int .i64 (i : Int)) rfl rfl (by kernel_rfl) (by kernel_rfl) (by kernel_rfl) (by kernel_rfl) (by kernel_rfl) (fun _ _ _ h => h) (Or.inl ⟨by rfl, fun wS hSw => by obtain ⟨s0, s1, s2, s3, s4⟩ := hSw; go_simp⟩) (SC.out wr.drew (fun _ _ _ => rfl)) ?_
      try simp only [List.setIfInBounds_toArray, List.set_cons_zero, List.set_cons_succ]
      refine takeL (i := 5) (d := 21) (v := .pointer (some ⟨bR, offR + i * 3, none⟩)) rfl rfl (by kernel_rfl) (by kernel_rfl) (by kernel_rfl) (by kernel_rfl) (by kernel_rfl) (fun _ _ _ h => h) (Or.inl ⟨by rfl, fun wS hSw => by obtain ⟨s0, s1, s2, s3, s4⟩ := hSw; go_simp⟩) (SC.out wr.drew (fun _ _ _ => rfl)) ?_
      try simp only [List.setIfInBounds_toArray, List.set_cons_zero, List.set_cons_succ]
      refine takeL (i := 6) (d := 22) (v := .pointer (some ⟨bR, offR + i * 3, none⟩)) rfl rfl (by kernel_rfl) (by kernel_rfl) (by kernel_rfl) (by kernel_rfl) (by kernel_rfl) (fun _ _ _ h => h) (Or.inl ⟨by rfl, fun wS hSw => by obtain ⟨s0, s1, s2, s3, s4⟩ := hSw; go_simp⟩) (SC.out wr.drew (fun _ _ _ => rfl)) ?_
      try simp only [List.setIfInBounds_toArray, List.set_cons_zero, List.set_cons_succ]
      refine takeL (i := 7) (d := 23) (v := .int .i64 x.seq) rfl rfl (by kernel_rfl) (by kernel_rfl) (by kernel_rfl) (by kernel_rfl) (by kernel_rfl) (fun _ _ _ h => h) (Or.inl ⟨by rfl, fun wS hSw => by obtain ⟨s0, s1, s2, s3, s4⟩ := hSw; go_simp⟩) (SC.out wr.drew (fun _ _ _ => rfl)) ?_
      try simp only [List.setIfInBounds_toArray, List.set_cons_zero, List.set_cons_succ]
      refine takeL (i := 8) (d := 24) (v := .pointer (some ⟨w.heap.size, 1, none⟩)) rfl rfl (by kernel_rfl) (by kernel_rfl) (by kernel_rfl) (by kernel_rfl) (by kernel_rfl) (fun _ _ _ h => h) (Or.inl ⟨by rfl, fun wS hSw => by obtain ⟨s0, s1, s2, s3, s4⟩ := hSw; go_simp⟩) (SC.out wr.drew (fun _ _ _ => rfl)) ?_
      try simp only [List.setIfInBounds_toArray, List.set_cons_zero, List.set_cons_succ]
      refine takeL (i := 9) (d := 25) (v := .slice (some ⟨bR, offR, none⟩) rows.length C2) rfl rfl (by kernel_rfl) (by kernel_rfl) (by kernel_rfl) (by kernel_rfl) (by kernel_rfl) (fun _ _ _ h => h) (Or.inl ⟨by rfl, fun wS hSw => by obtain ⟨s0, s1, s2, s3, s4⟩ := hSw; go_simp⟩) (SC.out wr.drew (fun _ _ _ => rfl)) ?_
      try simp only [List.setIfInBounds_toArray, List.set_cons_zero, List.set_cons_succ]
      refine takeL (i := 10) (d := 26) (v := .int .i64 (i : Int)) rfl rfl (by kernel_rfl) (by kernel_rfl) (by kernel_rfl) (by kernel_rfl) (by kernel_rfl) (fun _ _ _ h => h) (Or.inl ⟨by rfl, fun wS hSw => by obtain ⟨s0, s1, s2, s3, s4⟩ := hSw; go_simp⟩) (SC.out wr.drew (fun _ _ _ => rfl)) ?_
      try simp only [List.setIfInBounds_toArray, List.set_cons_zero, List.set_cons_succ]
      refine takeL (i := 11) (d := 27) (v := .pointer (some ⟨bR, offR + i * 3, none⟩)) rfl rfl (by kernel_rfl) (by kernel_rfl) (by kernel_rfl) (by kernel_rfl) (by kernel_rfl) (fun _ _ _ h => h) (Or.inl ⟨by rfl, fun wS hSw => by obtain ⟨s0, s1, s2, s3, s4⟩ := hSw; go_simp⟩) (SC.out wr.drew (fun _ _ _ => rfl)) ?_
      try simp only [List.setIfInBounds_toArray, List.set_cons_zero, List.set_cons_succ]
      refine takeL (i := 12) (d := 28) (v := .pointer (some ⟨bR, offR + i * 3 + 1, none⟩)) rfl rfl (by kernel_rfl) (by kernel_rfl) (by kernel_rfl) (by kernel_rfl) (by kernel_rfl) (fun _ _ _ h => h) (Or.inl ⟨by rfl, fun wS hSw => by obtain ⟨s0, s1, s2, s3, s4⟩ := hSw; go_simp⟩) (SC.out wr.drew (fun _ _ _ => rfl)) ?_
      try simp only [List.setIfInBounds_toArray, List.set_cons_zero, List.set_cons_succ]
      refine takeL (i := 13) (d := 29) (v := .int .i64 x.time) rfl rfl (by kernel_rfl) (by kernel_rfl) (by kernel_rfl) (by kernel_rfl) (by kernel_rfl) (fun _ _ _ h => h) (Or.inl ⟨by rfl, fun wS hSw => by obtain ⟨s0, s1, s2, s3, s4⟩ := hSw; go_simp⟩) (SC.out wr.drew (fun _ _ _ => rfl)) ?_
      try simp only [List.setIfInBounds_toArray, List.set_cons_zero, List.set_cons_succ]
      refine takeL (i := 14) (d := 30) (v := .pointer (some ⟨w.heap.size, 1, none⟩)) rfl rfl (by kernel_rfl) (by kernel_rfl) (by kernel_rfl) (by kernel_rfl) (by kernel_rfl) (fun _ _ _ h => h) (Or.inl ⟨by rfl, fun wS hSw => by obtain ⟨s0, s1, s2, s3, s4⟩ := hSw; go_simp⟩) (SC.out wr.drew (fun _ _ _ => rfl)) ?_
      try simp only [List.setIfInBounds_toArray, List.set_cons_zero, List.set_cons_succ]
      refine takeL (i := 15) (d := 31) (v := .slice (some ⟨bR, offR, none⟩) rows.length C2) rfl rfl (by kernel_rfl) (by kernel_rfl) (by kernel_rfl) (by kernel_rfl) (by kernel_rfl) (fun _ _ _ h => h) (Or.inl ⟨by rfl, fun wS hSw => by obtain ⟨s0, s1, s2, s3, s4⟩ := hSw; go_simp⟩) (SC.out wr.drew (fun _ _ _ => rfl)) ?_
      try simp only [List.setIfInBounds_toArray, List.set_cons_zero, List.set_cons_succ]
      refine takeL (i := 16) (d := 32) (v := .int .i64 (i : Int)) rfl rfl (by kernel_rfl) (by kernel_rfl) (by kernel_rfl) (by kernel_rfl) (by kernel_rfl) (fun _ _ _ h => h) (Or.inl ⟨by rfl, fun wS hSw => by obtain ⟨s0, s1, s2, s3, s4⟩ := hSw; go_simp⟩) (SC.out wr.drew (fun _ _ _ => rfl)) ?_
      try simp only [List.setIfInBounds_toArray, List.set_cons_zero, List.set_cons_succ]
      refine takeL (i := 17) (d := 33) (v := .pointer (some ⟨bR, offR + i * 3, none⟩)) rfl rfl (by kernel_rfl) (by kernel_rfl) (by kernel_rfl) (by kernel_rfl) (by kernel_rfl) (fun _ _ _ h => h) (Or.inl ⟨by rfl, fun wS hSw => by obtain ⟨s0, s1, s2, s3, s4⟩ := hSw; go_simp⟩) (SC.out wr.drew (fun _ _ _ => rfl)) ?_
      try simp only [List.setIfInBounds_toArray, List.set_cons_zero, List.set_cons_succ]
      refine takeL (i := 18) (d := 34) (v := .pointer (some ⟨bR, offR + i * 3 + 2, none⟩)) rfl rfl (by kernel_rfl) (by kernel_rfl) (by kernel_rfl) (by kernel_rfl) (by kernel_rfl) (fun _ _ _ h => h) (Or.inl ⟨by rfl, fun wS hSw => by obtain ⟨s0, s1, s2, s3, s4⟩ := hSw; go_simp⟩) (SC.out wr.drew (fun _ _ _ => rfl)) ?_
      try simp only [List.setIfInBounds_toArray, List.set_cons_zero, List.set_cons_succ]
      refine takeL (i := 19) (d := 35) (v := .string ⟨x.line.toArray⟩) rfl rfl (by kernel_rfl) (by kernel_rfl) (by kernel_rfl) (by kernel_rfl) (by kernel_rfl) (fun _ _ _ h => h) (Or.inl ⟨by rfl, fun wS hSw => by obtain ⟨s0, s1, s2, s3, s4⟩ := hSw; go_simp⟩) (SC.out wr.drew (fun _ _ _ => rfl)) ?_
      try simp only [List.setIfInBounds_toArray, List.set_cons_zero, List.set_cons_succ]
      refine takeL (i := 20) (d := 36) (v := .agg #[.int .i64 x.seq, .int .i64 x.time, .string ⟨x.line.toArray⟩]) rfl rfl (by kernel_rfl) (by kernel_rfl) (by kernel_rfl) (by kernel_rfl) (by kernel_rfl) (fun _ _ _ h => h) (Or.inl ⟨by rfl, fun wS hSw => by obtain ⟨s0, s1, s2, s3, s4⟩ := hSw; go_simp⟩) (SC.out wr.drew (fun _ _ _ => rfl)) ?_
      try simp only [List.setIfInBounds_toArray, List.set_cons_zero, List.set_cons_succ]
      refine readyL (rs := [21]) (by kernel_rfl) (by simp) ?_
      refine AllReadyL.cons rfl (fun K hK => ?_) AllReadyL.nil
      rw [if_pos (by rfl)]
      go_simp
      refine hK.out _ _ (SC.out _ (fun k hk _ => heap_alloc_old _ _ hk)) ?_
      clear hK K
      try simp only [Act.put, List.setIfInBounds_toArray, List.set_cons_zero, List.set_cons_succ]
      refine readyL (rs := [22]) (by kernel_rfl) (by simp) ?_
      refine AllReadyL.cons rfl (fun K hK => ?_) AllReadyL.nil
      refine Kd.step_app1 (K := KRw) rfl (.tmp 17) (.tmp 37) 37 rfl Tryd.underlying37 infoRw rfl W2.heap.size v acc x rfl (ow _) wr.heap.size (heap_alloc_new wr.drew _) rfl (by unfold maxLen; omega) (by omega) (by have := HW.out.size; simp; omega) ?_
      intro v6 w6 o6 b6 g6
      have y6 := HCell.out _ _ g6
      have c6 := held_cell (i := 1) y6 rfl
      have f6 := held_frozen (i := 1) y6
      have HY6 := hid y6
      obtain ⟨A6, k6, hv6, _⟩ := o6.rd.form
      obtain ⟨n6, hn6⟩ : ∃ n, n = (acc ++ [x]).length := ⟨_, rfl⟩
      rw [← hn6] at hv6
      subst hv6
      have HN6 := hid hn6
      clear hn6
      refine hK.out _ _ (SC.out _ (fun k hk hne => (g6.block k (by simp; omega) hne).trans (heap_alloc_old _ _ hk))) ?_
      clear hK K y6
      try simp only [Act.put, List.setIfInBounds_toArray, List.set_cons_zero, List.set_cons_succ]
      refine takeL (i := 23) (d := 39) (v := .pointer (some ⟨w1.heap.size, 1, none⟩)) rfl rfl (by kernel_rfl) (by kernel_rfl) (by kernel_rfl) (by kernel_rfl) (by kernel_rfl) (fun _ _ _ h => h) (Or.inl ⟨by rfl, fun wS hSw => by obtain ⟨s0, s1, s2, s3, s4⟩ := hSw; go_simp⟩) (SC.out _ (fun k hk hne => (g6.block k (by simp; omega) hne).trans (heap_alloc_old _ _ hk))) ?_
      try simp only [List.setIfInBounds_toArray, List.set_cons_zero, List.set_cons_succ]
      refine readyL (rs := [24]) (by kernel_rfl) (by simp) ?_
      refine AllReadyL.last rfl (fun K hK => ?_)
      rw [if_pos (by rfl)]
      go_simp
      refine hK.out _ _ ?_
      clear hK K
      refine doneL (by kernel_rfl) ?_
      all_goals
        go_wp2_with fail
        go_roundw
        case rel =>
          have g6l : w1.heap.size < w6.heap.size := row_lt HY6.out
          have bw6 : Below w1.heap.size W2 w6 := (HW.out.trans ((Below.refl _ wr).drew.alloc (Nat.le_of_lt hlt) _)).trans (b6.mono (by have := HZ2.out.1; omega))
          exact ⟨i + 1, .slice A6 n6 k6, by go_num, HIL, hid (row_set HY6.out _), hid (by rw [HT.out]; exact o6.touch (Tch.set (· = w1.heap.size) w6 ⟨w1.heap.size, 1, none⟩ _ rfl) (fun j hj e => by have := (o6.lt _ e).1; have := HZ2.out.1; omega)), hid (bw6.setCell (Nat.le_refl _) _)⟩
        case measure => have := HIL.out; simp [intOf]; omega
    · have he : rows.take i = rows := List.take_of_length_le (by omega)
      have hii : ¬ (i : Int) < (rows.length : Int) := by omega
      have hv := HV.out
      rw [he] at hv
      obtain ⟨A6, k6, rfl, _⟩ := hv.rd.form
      have bb : Below W0.heap.size W0 wr := HO.out.1.trans (HW.out.mono HZ2.out.2)
      have y0 := (bb.block _ (row_lt HX0.out)).trans HX0.out
      have y1 := (bb.block _ (row_lt HX1.out)).trans HX1.out
      have cc0 := held_cell (i := 1) y0 rfl
      have d0 := held_cell (i := 0) HX.out rfl
      have d1 := held_cell (i := 1) HX.out rfl
      have p0 := held_cell (i := 0) y1 rfl
      have p1 := held_cell (i := 1) y1 rfl
      have f0 := held_frozen (i := 0) y1
      have f1 := held_frozen (i := 1) y1
      have hbw : Below w.heap.size w wr := HB0.out.trans (bb.mono HB0.out.size)
      have HBW := hid hbw
      have HOWN := hid hv
      have OL := hid (HO.out.2.1.below (HO.out.2.2.trans HW.out))
      have HY1 := hid y1
      clear he hv hbw bb y0 y1 hil
      go_wp2_with fail
      have hr1 := row_set (i := 1) (row_set (i := 0) HY1.out (.slice A1 labs.length c1)) (.slice A6 rows.length k6)
      refine bodyPost_ret (results_cell_row rfl _ _ (w.heap.size + 1) 39 #[.slice A1 labs.length c1, .slice A6 rows.length k6] (0, 0) _ rfl hr1 Tryd.underlying39 rfl (by kernel_rfl)) rfl ?_
      have z0 := HZ0.out
      have z2 := HZ2.out
      have tt : Tch (· = w.heap.size + 1) wr ((wr.setCell ⟨w.heap.size + 1, 0, none⟩ (.slice A1 labs.length c1)).setCell ⟨w.heap.size + 1, 1, none⟩ (.slice A6 rows.length k6)) := (Tch.set (fun k => k = w.heap.size + 1) wr ⟨w.heap.size + 1, 0, none⟩ _ rfl).trans (Tch.set (fun k => k = w.heap.size + 1) _ ⟨w.heap.size + 1, 1, none⟩ _ rfl)
      exact ⟨A1, c1, A6, k6, rfl, (OwnL.grown (OwnL.grown OL.out (grown_set _ _ _ _) (by omega)) (grown_set _ _ _ _) (by omega)).mono HB0.out.size, (HOWN.out.touch tt (fun j hj e => by have := (HOWN.out.lt _ e).1; omega)).mono (by omega), Tch.below HBW.out tt (fun j hj => by omega) HBW.out.size⟩
end Go.Proofs.YtaoeabnpmpimgaaDoor
end
section
namespace Go.Proofs.YtaoeabnpmpimgaaDoor
open Go.ChangeShapes Go.WideShapes Go.ChangeAt Go.RowKit Go.Icz
theorem cellsRow4 : Tryd.prog.cellsOf 46 = 3 := by kernel_rfl
theorem cellsRows4 : Tryd.prog.cellsOf 33 = 1 := by kernel_rfl
theorem cellsChk4 : Tryd.prog.cellsOf 35 = 2 := by kernel_rfl
theorem bytesRow4 : Tryd.prog.bytesOf 46 = 32 := by kernel_rfl
set_option maxRecDepth 100000 in
theorem open_row4 {H : Type} {enc : TypeId × Value → H} {W : World} {n : Nat} {cs : List Value} {D : DataW H} {Pl : List MemPlace} (h : DataW.trod enc Tryd.prog W 0 (fun _ => true) true n 46 cs = some (D, Pl)) :
    ∃ x : CRow, cs = KRr.enc x ∧ x.line.length ≤ maxLen := by
  obtain ⟨xs, k, hk, hxy, hcl, hxl, hf⟩ := DataW.trod_struct Tryd.underlying46 h
  rw [cellsRow4] at hcl
  match cs, hcl, xs, hxl with
  | [v0, v1, v2], _, [y0, y1, y2], _ =>
    have g0 := hf 0 _ rfl
    have g1 := hf 1 _ rfl
    have g2 := hf 2 _ rfl
    simp [cellsInt, cellsStr] at g0 g1 g2
    obtain ⟨z0, e0, f0⟩ := DataW.trod_int Tryd.underlying3 g0
    obtain ⟨z1, e1, f1⟩ := DataW.trod_int Tryd.underlying3 g1
    obtain ⟨s3, e3, f3, b3⟩ := DataW.trod_string Tryd.underlying9 g2
    injection e0 with e0 _
    injection e1 with e1 _
    injection e3 with e3 _
    subst e0 e1 e3
    exact ⟨⟨z0, z1, s3.data.toList⟩, by simp [KRr], by simp only; rw [Array.length_toList]; exact b3⟩
set_option maxRecDepth 100000 in
theorem open_kdp {α : Type} [Inhabited α] (K : Kd α) {H : Type} {enc : TypeId × Value → H} {W : World} {t : TypeId} (ht : Tryd.prog.underlying t = some (.slice K.e)) (hc : Tryd.prog.cellsOf K.e = K.z) (Q : α → Prop)
    (each : ∀ n cs D Pl, DataW.trod enc Tryd.prog W 0 (fun _ => true) true n K.e cs = some (D, Pl) → ∃ x, cs = K.enc x ∧ Q x)
    {fuel : Nat} {a : Option Addr} {len cap : Nat} {d : DataW H} {p : List MemPlace} (hf : DataW.trod enc Tryd.prog W 0 (fun _ => true) true fuel t [.slice a len cap] = some (d, p)) :
    ∃ l : List α, l.length = len ∧ K.Rd W (.slice a len cap) l ∧ (∀ x ∈ l, Q x) ∧ (l = [] ∨ ∃ el sp, d = .slice el sp ∧ el.length = len) := by
  rcases Go.Deep.open_slice ht hf with ⟨hcs, hx⟩ | ⟨x, ln, cp, m, n, D, Pl, hcs, _, hl, hm, hmm, hx, hall⟩
  · simp only [List.cons.injEq, Value.slice.injEq, and_true] at hcs
    obtain ⟨rfl, rfl, rfl⟩ := hcs
    exact ⟨[], rfl, Kd.Rd.nil W, by simp, .inl rfl⟩
  · simp only [List.cons.injEq, Value.slice.injEq, and_true] at hcs
    obtain ⟨rfl, rfl, rfl⟩ := hcs
    simp only [if_true] at hmm
    subst hmm
    simp only [Prod.mk.injEq] at hx
    obtain ⟨hd, _⟩ := hx
    have each2 : ∀ i, i < len → ∃ y : α, (∀ j u, j < K.z → (K.enc y)[j]? = some u → W.cell? (x.add (i * K.z + j)) = some u) ∧ Q y := by
      intro i hi
      obtain ⟨cs', h1, h2⟩ := hall i (by omega)
      rw [hc] at h1
      obtain ⟨_, hlen, hcell⟩ := World.cells?_some h1
      obtain ⟨y, hcs, hq⟩ := each _ _ _ _ h2
      refine ⟨y, fun j u hj hu => ?_, hq⟩
      have := hcell j (by omega)
      rw [Go.Deep.add_add] at this
      rw [this, hcs, hu]
    obtain ⟨Y, hY⟩ := Go.Deep.choose_lt each2
    have hlen : ((List.range len).map Y).length = len := by simp
    refine ⟨(List.range len).map Y, hlen, ⟨some x, _, by rw [hlen], by rw [hlen]; omega, fun h0 => ?_⟩, ?_, .inr ⟨_, _, hd, by simp⟩⟩
    · rw [hlen] at h0
      obtain ⟨b, off, spot⟩ := x
      obtain ⟨u0, hu0⟩ : ∃ u, (K.enc (Y 0))[0]? = some u := by
        have h1 : 0 < (K.enc (Y 0)).length := by rw [K.len]; exact K.pos
        exact ⟨_, List.getElem?_eq_getElem h1⟩
      have hc0 := (hY 0 (by omega)).1 0 u0 K.pos hu0
      have hspot : spot = none := by simpa [Addr.add] using World.cell?_spot hc0
      subst hspot
      refine ⟨b, off, rfl, World.block_lt_of_cell? W _ (by simpa [Addr.add] using hc0), fun j u hj => ?_⟩
      have hjl := (List.getElem?_eq_some_iff.1 hj).1
      rw [K.cells_len, hlen] at hjl
      have hq : j / K.z < len := by rw [Nat.div_lt_iff_lt_mul K.pos]; exact hjl
      have hr : j % K.z < K.z := Nat.mod_lt _ K.pos
      have hj2 : j = j / K.z * K.z + j % K.z := by rw [Nat.mul_comm]; exact (Nat.div_add_mod j K.z).symm
      have hg := K.cells_get ((List.range len).map Y) (j / K.z) (by rw [hlen]; exact hq) (j % K.z) hr
      rw [← hj2, hj] at hg
      have hg2 : (K.enc (Y (j / K.z)))[j % K.z]? = some u := by
        rw [hg]
        simp
      have := (hY (j / K.z) hq).1 (j % K.z) u hr hg2
      rw [add_flat, ← hj2] at this
      exact this
    · intro y hy
      obtain ⟨i, hi, rfl⟩ := List.mem_map.1 hy
      exact (hY i (List.mem_range.1 hi)).2
set_option maxRecDepth 100000 in
theorem open_chk {H : Type} {enc : TypeId × Value → H} {W : World} {r : Reach} {b0 : Nat} {v : Value} {d : DataW H} {p : List MemPlace} (hv : Value.okWide Tryd.prog W r b0 35 v) (h : DataW.Trod enc Tryd.prog W 0 (fun _ => true) true 35 v d p)
    (hsz : ∀ n ∈ d.weights Tryd.prog 35, n ≤ reachBytes) :
    ∃ (labs : List Lab) (rows : List CRow) (A A2 : Option Addr) (C C2 : Nat), v = .agg #[.slice A labs.length C, .slice A2 rows.length C2] ∧ RdL W (.slice A labs.length C) labs ∧ KRr.Rd W (.slice A2 rows.length C2) rows ∧ labs.length * 32 ≤ 140737488351232 ∧ rows.length * 32 ≤ 140737488351232 ∧ (∀ x ∈ rows, entZ (entC labs x)) ∧ ∀ y ∈ labs, y.1.length ≤ 9223372036854775807 ∧ y.2.length ≤ 9223372036854775807 := by
  obtain ⟨cs, rfl, hcs⟩ := okWide_struct Tryd.underlying35 hv
  obtain ⟨c0, c1, rfl⟩ := Go.Joins.array2 (hcs.trans cellsChk4)
  obtain ⟨fuel, hf⟩ := h
  have hf' : DataW.trod enc Tryd.prog W 0 (fun _ => true) true fuel 35 [c0, c1] = some (d, p) := by simpa [Value.cells] using hf
  obtain ⟨xs, k, hk, hxy, hcl, hxl, hg⟩ := DataW.trod_struct Tryd.underlying35 hf'
  match xs, hxl with
  | [y0, y1], _ =>
    have g0 := hg 0 _ rfl
    have g1 := hg 1 _ rfl
    simp [cellsLabs, cellsRows4] at g0 g1
    obtain ⟨A, n0, C, e0⟩ : ∃ A n2 c2, c0 = .slice A n2 c2 := by
      rcases Go.Deep.open_slice Tryd.underlying32 g0 with ⟨hcs, _⟩ | ⟨a, len, cap, _, _, _, _, hcs, _⟩
      · injection hcs with hcs _; exact ⟨none, 0, 0, hcs⟩
      · injection hcs with hcs _; exact ⟨some a, len, cap, hcs⟩
    obtain ⟨A2, n1, C2, e1⟩ : ∃ A n2 c2, c1 = .slice A n2 c2 := by
      rcases Go.Deep.open_slice Tryd.underlying33 g1 with ⟨hcs, _⟩ | ⟨a, len, cap, _, _, _, _, hcs, _⟩
      · injection hcs with hcs _; exact ⟨none, 0, 0, hcs⟩
      · injection hcs with hcs _; exact ⟨some a, len, cap, hcs⟩
    subst e0 e1
    obtain ⟨d0, p0⟩ := y0
    obtain ⟨d1, p1⟩ := y1
    obtain ⟨l, hl, hr, hb, hd⟩ := open_labs (d := d0) (p := p0) ⟨k, by simpa [Value.cells] using g0⟩
    haveI : Inhabited CRow := ⟨⟨0, 0, []⟩⟩
    obtain ⟨rows, hl2, hr2, hq2, hd2⟩ := open_kdp KRr (t := 33) Tryd.underlying33 cellsRow4 (fun x => x.line.length ≤ maxLen) (fun n cs D Pl hh => open_row4 hh) (d := d1) (p := p1) g1
    subst hl hl2
    simp only [Prod.mk.injEq] at hxy
    have hD : d = .agg [d0, d1] := by simpa using hxy.1
    have z0 : l.length * 32 ≤ 140737488351232 := by
      rcases hd with ⟨_, h0⟩ | ⟨el, sp, h0, h3, _, _⟩
      · rw [h0]; simp
      · have hw : (el.length + sp.length) * 32 ≤ reachBytes := by
          apply hsz
          rw [hD, h0]
          unfold DataW.weights
          rw [Tryd.underlying35]
          refine DataW.weights_mem_each (j := 0) (t := 32) (d := .slice el sp) rfl rfl _ ?_
          unfold DataW.weights
          rw [Tryd.underlying32, ← bytesLab]
          exact List.mem_cons_self ..
        rw [h3, List.length_map] at hw
        simp only [reachBytes] at hw
        omega
    have z1 : rows.length * 32 ≤ 140737488351232 := by
      rcases hd2 with h0 | ⟨el, sp, h0, h3⟩
      · rw [h0]; simp
      · have hw : (el.length + sp.length) * 32 ≤ reachBytes := by
          apply hsz
          rw [hD, h0]
          unfold DataW.weights
          rw [Tryd.underlying35]
          refine DataW.weights_mem_each (j := 1) (t := 33) (d := .slice el sp) rfl rfl _ ?_
          unfold DataW.weights
          rw [Tryd.underlying33, ← bytesRow4]
          exact List.mem_cons_self ..
        rw [h3] at hw
        simp only [reachBytes] at hw
        omega
    have hyb : ∀ y ∈ l, y.1.length ≤ 9223372036854775807 ∧ y.2.length ≤ 9223372036854775807 := fun y hy => by
      have := hb y hy
      unfold maxLen at this
      omega
    refine ⟨l, rows, A, A2, C, C2, rfl, hr, hr2, z0, z1, fun x hx => ⟨z0, ?_, hyb⟩, hyb⟩
    have := hq2 x hx
    unfold maxLen at this
    unfold entC
    simp only
    omega
end Go.Proofs.YtaoeabnpmpimgaaDoor
end
section
namespace Go.Proofs.YtaoeabnpmpimgaaDoor
open Go.ChangeShapes Go.WideShapes Go.ChangeAt Go.RowKit Go.Icz
set_option maxRecDepth 100000 in
theorem ent_wf {H : Type} {enc : TypeId × Value → H} {W : World} {n : Nat} {cs : List Value} {D : DataW H} {Pl : List MemPlace} (h : DataW.trod enc Tryd.prog W 0 (fun _ => true) true n 50 cs = some (D, Pl)) : ∃ z t, cs = .int .i64 z :: t ∧ wfI z := by
  obtain ⟨xs, k, hk, hxy, hcl, hxl, hf⟩ := DataW.trod_struct Tryd.underlying50 h
  rw [cellsEnt] at hcl
  match cs, hcl, xs, hxl with
  | [v0, v1, v2, v3], _, [y0, y1, y2, y3], _ =>
    have g0 := hf 0 _ rfl
    simp [cellsInt] at g0
    obtain ⟨z0, e0, f0, w0⟩ := DataW.trod_int Tryd.underlying3 g0
    injection e0 with e0 _
    exact ⟨z0, _, by rw [e0], w0⟩
theorem ents_wf {H : Type} {enc : TypeId × Value → H} {W : World} {a : Option Addr} {len cap : Nat} {d : DataW H} {p : List MemPlace} (h : DataW.Trod enc Tryd.prog W 0 (fun _ => true) true 22 (.slice a len cap) d p) {l : List Ent} (hl : l.length = len) (hr : RdE W (.slice a len cap) l) : ∀ x ∈ l, wfI x.seq := by
  obtain ⟨fuel, hf⟩ := h
  obtain ⟨A, c, hv, hc, hcell⟩ := hr
  injection hv with e1 e2 e3
  rcases Go.Deep.open_slice Tryd.underlying22 hf with ⟨hcs, hx⟩ | ⟨x, ln, cp, m, n, D, Pl, hcs, _, hl2, hm, hmm, hx, hall⟩
  · simp [Value.cells] at hcs
    obtain ⟨rfl, rfl, rfl⟩ := hcs
    obtain rfl := List.eq_nil_of_length_eq_zero hl
    simp
  · simp [Value.cells] at hcs
    obtain ⟨rfl, rfl, rfl⟩ := hcs
    simp only [if_true] at hmm
    subst hmm
    intro y hy
    obtain ⟨i, hi, rfl⟩ := List.mem_iff_getElem.1 hy
    obtain ⟨b, off, hA, hb, hce⟩ := hcell (by omega)
    rw [← e1] at hA
    injection hA with hA
    subst hA
    obtain ⟨cs', h1, h2⟩ := hall i (by omega)
    rw [cellsEnt] at h1
    obtain ⟨_, hlen, hcs⟩ := World.cells?_some h1
    obtain ⟨z, t, rfl, wz⟩ := ent_wf h2
    have c0 := hcs 0 (by omega)
    rw [Go.Deep.add_add] at c0
    obtain ⟨A1, c1, k0, _⟩ := hce i hi
    have c0' : W.cell? ⟨b, off + i * 4, none⟩ = some (.int .i64 z) := by
      rw [add_flat, Nat.add_zero] at c0
      exact c0
    rw [k0] at c0'
    injection c0' with c0'
    injection c0' with _ c0'
    rw [c0']
    exact wz
end Go.Proofs.YtaoeabnpmpimgaaDoor
end
