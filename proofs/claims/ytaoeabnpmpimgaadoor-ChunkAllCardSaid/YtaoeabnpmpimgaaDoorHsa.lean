/-
  What the law's Same of chunks answers where both read as the same. Conditions: the chunks can be read; sizes as each theorem names.
-/
import Derived.Test.YtaoeabnpmpimgaaDoorHpw
import Derived.BigQuiet
import Derived.Deep.QuietTactic
namespace Go.Proofs.YtaoeabnpmpimgaaDoor
open Go.RowKit Go.Icz Go.Shelf
attribute [local go_sem] Oper.semAt_some
set_option maxRecDepth 100000
set_option maxHeartbeats 4000000
theorem CSame_refl (labs : List Lab) (rows : List CRow) (A A2 A3 A4 : Option Addr) (C C2 C3 C4 : Nat) (w : World) (h1 : RdL w (.slice A labs.length C) labs) (h2 : KRw.Rd w (.slice A2 rows.length C2) rows) (h3 : RdL w (.slice A3 labs.length C3) labs) (h4 : KRr.Rd w (.slice A4 rows.length C4) rows) (hm : labs.length ≤ 4611686018427387904) (hn : rows.length ≤ 4611686018427387904) :
    Calls Tryd.prog 16 #[.agg #[.slice A labs.length C, .slice A2 rows.length C2], .agg #[.slice A3 labs.length C3, .slice A4 rows.length C4]] w fun e w' => e = .returned (.bool true) ∧ Below w.heap.size w w' := by
  obtain ⟨W0, hW0⟩ : ∃ W0, W0 = (w.alloc (.cells #[.slice A labs.length C, .slice A2 rows.length C2] 39)).alloc (.cells #[.slice A3 labs.length C3, .slice A4 rows.length C4] 35) := ⟨_, rfl⟩
  have b0 : Below w.heap.size w W0 := by rw [hW0]; exact ((Below.refl _ w).alloc (Nat.le_refl _) _).alloc (by simp) _
  have x0 : W0.heap[w.heap.size]? = some (.cells #[.slice A labs.length C, .slice A2 rows.length C2] 39 (0, 0)) := by rw [hW0]; exact heap_alloc2_old w _ _
  have x1 : W0.heap[w.heap.size + 1]? = some (.cells #[.slice A3 labs.length C3, .slice A4 rows.length C4] 35 (0, 0)) := by rw [hW0]; exact heap_alloc2_new w _ _
  have hS := Same_is (.slice A labs.length C) (.slice A3 labs.length C3) labs labs W0 (h1.below b0) (h3.below b0) hm
  rw [decide_eq_true rfl] at hS
  have cells : ∀ wx, Below W0.heap.size W0 wx → wx.cell? ⟨w.heap.size, 1, none⟩ = some (.slice A2 rows.length C2) ∧ wx.cell? ⟨w.heap.size + 1, 1, none⟩ = some (.slice A4 rows.length C4) := fun wx b =>
    ⟨held_cell ((b.block _ (row_lt x0)).trans x0) rfl, held_cell ((b.block _ (row_lt x1)).trans x1) rfl⟩
  have e00 := held_cell (i := 0) x0 rfl
  have e10 := held_cell (i := 0) x1 rfl
  obtain ⟨e01, e11⟩ := cells W0 (Below.refl _ _)
  have HB0 := hid b0
  have HCE := hid cells
  have R2 := hid (h2.below b0)
  have R4 := hid (h4.below b0)
  rw [hW0] at hS e00 e10 e01 e11
  clear x0 x1 h1 h2 h3 h4 b0 cells hm
  go_enter Tryd.func16, Tryd.ntmps16
  go_wp2_with (go_at_call 15; refine hS.mono ?_; rintro e w1 ⟨rfl, b1⟩; clear hS; rw [← hW0] at b1; obtain ⟨e2, e3⟩ := HCE.out w1 b1; clear e00 e10 e01 e11)
  have HB1 := hid b1
  clear b1 e2 e3 hW0
  go_loopw [5] (fun iv wr => ∃ (i : Nat), iv = .int .i64 (i : Int) ∧ Hid (i ≤ rows.length) ∧ Hid (Below W0.heap.size W0 wr)) (fun iv _ => rows.length - (intOf iv).toNat)
  case atStart => exact ⟨0, rfl, hid (Nat.zero_le _), HB1⟩
  case round =>
    obtain ⟨i, rfl, hi, HW⟩ := hrel
    obtain ⟨e2, e3⟩ := HCE.out wr HW.out
    by_cases hil : i < rows.length
    · have hii : (i : Int) < (rows.length : Int) := by omega
      obtain ⟨b, off, c, hv, hb, hc⟩ := (R2.out.below HW.out).ats hil
      obtain ⟨b', off', c', hv', hb', hc'⟩ := (R4.out.below HW.out).ats hil
      injection hv with hv1 _ hv2
      subst hv1
      subst hv2
      injection hv' with hv1' _ hv2'
      subst hv1'
      subst hv2'
      have q0 : wr.cell? ⟨b, off + i * 3, none⟩ = some (.int .i64 rows[i].seq) := hc i hil 0 _ (by decide) rfl
      have q1 : wr.cell? ⟨b, off + i * 3 + 1, none⟩ = some (.int .i64 rows[i].time) := hc i hil 1 _ (by decide) rfl
      have q2 : wr.cell? ⟨b, off + i * 3 + 2, none⟩ = some (.string ⟨rows[i].line.toArray⟩) := hc i hil 2 _ (by decide) rfl
      have p0 : wr.cell? ⟨b', off' + i * 3, none⟩ = some (.int .i64 rows[i].seq) := hc' i hil 0 _ (by decide) rfl
      have p1 : wr.cell? ⟨b', off' + i * 3 + 1, none⟩ = some (.int .i64 rows[i].time) := hc' i hil 1 _ (by decide) rfl
      have p2 : wr.cell? ⟨b', off' + i * 3 + 2, none⟩ = some (.string ⟨rows[i].line.toArray⟩) := hc' i hil 2 _ (by decide) rfl
      have HIL := hid hil
      have hi2 : (i : Int) + 1 ≤ 4611686018427387904 := by omega
      clear hc hc' hb hb'
      generalize rows[i] = x at *
      clear hil
      go_wp2
      go_quiet (fail)
      go_wp2
      go_roundw
      case rel => exact ⟨i + 1, by go_num, HIL, hid ⟨HW.out.os, HW.out.tape, HW.out.output, HW.out.size, HW.out.block⟩⟩
      case measure => have := HIL.out; simp [intOf]; omega
    · have hii : ¬ (i : Int) < (rows.length : Int) := by omega
      clear hil
      go_wp2
      go_ret
      exact ⟨rfl, HB0.out.trans (HW.out.mono HB0.out.size)⟩
end Go.Proofs.YtaoeabnpmpimgaaDoor
