/-
  chunk.Bounds: the bounds of a chunk. Conditions: those that each theorem names.
  What the law's knows answers. Conditions: the tables of package utf8 are in place.
-/
import Derived.Test.YtaoeabnpmpimgaaDoorHpw
import Derived.Lib.MinMax
import Derived.BigQuiet
import Derived.BigRegion
import Derived.RegionTactic
import Derived.Deep.QuietTactic
section
namespace Go.Icz
open Go.RowKit
def row0 : CRow := ⟨0, 0, []⟩
def minS (z : Int) (l : List CRow) : Int := l.foldl (fun m x => min m x.seq) z
def maxS (z : Int) (l : List CRow) : Int := l.foldl (fun m x => max m x.seq) z
/-- The bounds of a chunk. -/
def bndC (labs : List Lab) (rows : List CRow) : Int × Int × Int × Int := if chR labs rows = true then ((rows.headD row0).time, (rows.getD (rows.length - 1) row0).time, minS (rows.headD row0).seq rows, maxS (rows.headD row0).seq rows) else (0, 0, 0, 0)
def bndV (b : Int × Int × Int × Int) : Value := .tuple #[.int .i64 b.1, .int .i64 b.2.1, .int .i64 b.2.2.1, .int .i64 b.2.2.2]
theorem minS_snoc (z : Int) (l : List CRow) (x : CRow) : minS z (l ++ [x]) = min (minS z l) x.seq := by unfold minS; rw [List.foldl_append]; rfl
theorem maxS_snoc (z : Int) (l : List CRow) (x : CRow) : maxS z (l ++ [x]) = max (maxS z l) x.seq := by unfold maxS; rw [List.foldl_append]; rfl
end Go.Icz
namespace Go.Proofs.YtaoeabnpmpimgaaDoor
open Go.RowKit Go.Icz Go.Shelf
attribute [local go_sem] Oper.semAt_some
set_option maxRecDepth 100000
set_option maxHeartbeats 4000000
theorem results_tmp4 {fn : Func} {t u v x : Tmp} (h : fn.results = #[.tmp t, .tmp u, .tmp v, .tmp x]) (tmps : Array Value) (P : Program) (w : World) :
    (results fn tmps).run P w = .ok (.tuple #[tmps.getD t undef, tmps.getD u undef, tmps.getD v undef, tmps.getD x undef]) w := by
  simp [results, h]
theorem Bounds_no (labs : List Lab) (rows : List CRow) (A A2 : Option Addr) (C C2 : Nat) (w : World) (hL : RdL w (.slice A labs.length C) labs) (hR : KRw.Rd w (.slice A2 rows.length C2) rows) (hT : Tabs w) (hz : ∀ x ∈ rows, entZ (entC labs x)) (hln : rows.length ≤ 4611686018427387904) (hf : chR labs rows = false) :
    Calls Tryd.prog 32 #[.agg #[.slice A labs.length C, .slice A2 rows.length C2]] w fun e w' => e = .returned (bndV (bndC labs rows)) ∧ Below w.heap.size w w' := by
  have b0 : Below w.heap.size w (w.alloc (.cells #[.slice A labs.length C, .slice A2 rows.length C2] 39)) := (Below.refl _ w).alloc (Nat.le_refl _) _
  have hr := CRight_is labs rows A A2 C C2 _ (hL.below b0) (hR.below b0) (hT.below b0) hz hln
  rw [hf] at hr
  have HB := hid b0
  have hv : bndC labs rows = (0, 0, 0, 0) := by unfold bndC; rw [hf]; rfl
  rw [hv]
  clear hL hR hT hz hf b0 hln hv
  go_enter Tryd.func32, Tryd.ntmps32
  go_wp2_with (go_at_call 14; refine hr.mono ?_; rintro e w1 ⟨rfl, b1⟩; clear hr)
  refine bodyPost_ret (results_tmp4 rfl _ _ _) rfl ?_
  exact ⟨rfl, HB.out.trans (b1.mono HB.out.size)⟩
theorem Bounds_yes (labs : List Lab) (rows : List CRow) (A A2 : Option Addr) (C C2 : Nat) (w : World) (hL : RdL w (.slice A labs.length C) labs) (hR : KRw.Rd w (.slice A2 rows.length C2) rows) (hT : Tabs w) (hz : ∀ x ∈ rows, entZ (entC labs x)) (hln : rows.length ≤ 4611686018427387904) (hf : chR labs rows = true) :
    Calls Tryd.prog 32 #[.agg #[.slice A labs.length C, .slice A2 rows.length C2]] w fun e w' => e = .returned (bndV (bndC labs rows)) ∧ Below w.heap.size w w' := by
  obtain ⟨W0, hW0⟩ : ∃ W0, W0 = w.alloc (.cells #[.slice A labs.length C, .slice A2 rows.length C2] 39) := ⟨_, rfl⟩
  have b0 : Below w.heap.size w W0 := by rw [hW0]; exact (Below.refl _ w).alloc (Nat.le_refl _) _
  have x0 : W0.heap[w.heap.size]? = some (.cells #[.slice A labs.length C, .slice A2 rows.length C2] 39 (0, 0)) := by rw [hW0]; exact heap_alloc_new w _
  have hr := CRight_is labs rows A A2 C C2 _ (hL.below b0) (hR.below b0) (hT.below b0) hz hln
  rw [hf] at hr
  have hf2 := hf
  unfold chR at hf2
  simp only [Bool.and_eq_true, decide_eq_true_eq] at hf2
  obtain ⟨⟨⟨⟨n1, n2⟩, -⟩, -⟩, _⟩ := hf2
  obtain ⟨r0, hr0⟩ : ∃ r0, ∀ h : 0 < rows.length, rows[0]'h = r0 := ⟨rows[0]'(by omega), fun _ => rfl⟩
  obtain ⟨r1, hr1⟩ : ∃ r1, ∀ h : rows.length - 1 < rows.length, rows[rows.length - 1]'h = r1 := ⟨rows[rows.length - 1]'(by omega), fun _ => rfl⟩
  have hhd : rows.headD row0 = r0 := by
    rw [← hr0 (by omega)]
    cases rows with
    | nil => exact absurd n1 (by decide)
    | cons a t => rfl
  have hlt : rows.getD (rows.length - 1) row0 = r1 := by
    rw [← hr1 (by omega), List.getD_eq_getElem?_getD, List.getElem?_eq_getElem (by omega)]
    rfl
  have hv : Hid (bndC labs rows = (r0.time, r1.time, minS r0.seq rows, maxS r0.seq rows)) := hid (by unfold bndC; rw [hf, if_pos rfl, hhd, hlt])
  have cells : ∀ wx, Below W0.heap.size W0 wx → wx.cell? ⟨w.heap.size, 0, none⟩ = some (.slice A labs.length C) ∧ wx.cell? ⟨w.heap.size, 1, none⟩ = some (.slice A2 rows.length C2) := fun wx b => by
    have y := (b.block w.heap.size (row_lt x0)).trans x0
    exact ⟨held_cell y rfl, held_cell y rfl⟩
  obtain ⟨bR, offR, cR, hvR, hltR, hcs1⟩ := hR.ats (j := 0) (by omega)
  injection hvR with hv1 _ hv2
  subst hv1
  subst hv2
  have row : ∀ wx, Below W0.heap.size W0 wx → ∀ j (hj : j < rows.length), wx.cell? ⟨bR, offR + j * 3, none⟩ = some (.int .i64 rows[j].seq) ∧ wx.cell? ⟨bR, offR + j * 3 + 1, none⟩ = some (.int .i64 rows[j].time) ∧ wx.cell? ⟨bR, offR + j * 3 + 2, none⟩ = some (.string ⟨rows[j].line.toArray⟩) := fun wx b j hj => by
    have bb := b0.trans (b.mono b0.size)
    have q0 := hcs1 j hj 0 _ (by decide) rfl
    have q1 := hcs1 j hj 1 _ (by decide) rfl
    have q2 := hcs1 j hj 2 _ (by decide) rfl
    exact ⟨(bb.cell (p := ⟨bR, offR + j * 3, none⟩) hltR).trans q0, (bb.cell (p := ⟨bR, offR + j * 3 + 1, none⟩) hltR).trans q1, (bb.cell (p := ⟨bR, offR + j * 3 + 2, none⟩) hltR).trans q2⟩
  have HB0 := hid b0
  have HCE := hid cells
  have HROW := hid row
  have HN := hid (And.intro n1 n2)
  have d1 : (0 : Int) < (rows.length : Int) := by omega
  have d2 : (rows.length : Int) ≤ 1000 := by omega
  have hR0 := hid hr0
  have hR1 := hid hr1
  rw [hW0] at hr
  clear hL hR hT hz hf hln x0 n1 n2 hr0 hr1 hhd hlt cells hcs1 row b0 hltR
  go_enter Tryd.func32, Tryd.ntmps32
  have e0 := HCE.out W0 (Below.refl _ _)
  rw [hW0] at e0
  obtain ⟨e1, e2⟩ := e0
  go_wp2_with (go_at_call 14; refine hr.mono ?_; rintro e w1 ⟨rfl, b1⟩; clear hr; rw [← hW0] at b1; obtain ⟨e3, e4⟩ := HCE.out w1 b1; have q1 := (HROW.out w1 b1 0 (by have := HN.out.1; omega)); have q2 := (HROW.out w1 b1 (rows.length - 1) (by have := HN.out.1; omega)); rw [hR0.out] at q1; rw [hR1.out] at q2; obtain ⟨q10, q11, -⟩ := q1; obtain ⟨-, q21, -⟩ := q2; clear e1 e2)
  simp only [Nat.zero_mul, Nat.add_zero] at q10 q11
  go_quiet (fail)
  go_wp2
  go_quiet (fail)
  go_wp2
  have HB1 := hid b1
  clear b1 e3 e4 q10 q11 q21 hW0
  go_loopw [4, 5, 38] (fun fv lv iv wr => ∃ (i : Nat), iv = .int .i64 (i : Int) ∧ fv = .int .i64 (minS r0.seq (rows.take i)) ∧ lv = .int .i64 (maxS r0.seq (rows.take i)) ∧ Hid (i ≤ rows.length) ∧ Hid (Below W0.heap.size W0 wr)) (fun _ _ iv _ => rows.length - (intOf iv).toNat)
  case atStart => exact ⟨0, rfl, rfl, rfl, hid (Nat.zero_le _), hid (HB1.out.trans ⟨rfl, rfl, rfl, Nat.le_refl _, fun _ _ => rfl⟩)⟩
  case round =>
    obtain ⟨i, rfl, rfl, rfl, hi, HW⟩ := hrel
    by_cases hil : i < rows.length
    · have hii : (i : Int) < (rows.length : Int) := by omega
      obtain ⟨c0, c1, c2⟩ := HROW.out wr HW.out i hil
      have ht1 : minS r0.seq (rows.take (i + 1)) = min (minS r0.seq (rows.take i)) rows[i].seq := by rw [List.take_succ_eq_append_getElem hil, minS_snoc]
      have ht2 : maxS r0.seq (rows.take (i + 1)) = max (maxS r0.seq (rows.take i)) rows[i].seq := by rw [List.take_succ_eq_append_getElem hil, maxS_snoc]
      have HT := hid (And.intro hil (And.intro ht1 ht2))
      clear ht1 ht2
      generalize rows[i] = x at *
      generalize minS r0.seq (rows.take i) = mn at *
      generalize maxS r0.seq (rows.take i) = mx at *
      have HWa : Hid (Below W0.heap.size W0 (wr.alloc (.cells #[.int .i64 x.seq, .int .i64 x.time, .string ⟨x.line.toArray⟩] 45))) := hid (HW.out.trans ((Below.refl _ wr).alloc HW.out.size _))
      have hi2 : (i : Int) + 1 ≤ 1000 := by omega
      go_wp2
      go_region
      all_goals
        go_wp2
        go_roundw
        case rel => exact ⟨i + 1, by go_num, by rw [HT.out.2.1], by rw [HT.out.2.2], hid HT.out.1, hid (HWa.out.trans (Below.refl _ _).drew)⟩
        case measure => have := HT.out.1; simp [intOf]; omega
    · have he : rows.take i = rows := List.take_of_length_le (by omega)
      have hii : ¬ (i : Int) < (rows.length : Int) := by omega
      rw [he]
      clear he hil
      go_wp2
      refine bodyPost_ret (results_tmp4 rfl _ _ _) rfl ?_
      exact ⟨by rw [hv.out]; rfl, HB0.out.trans (HW.out.mono HB0.out.size)⟩
theorem Bounds_is (labs : List Lab) (rows : List CRow) (A A2 : Option Addr) (C C2 : Nat) (w : World) (hL : RdL w (.slice A labs.length C) labs) (hR : KRw.Rd w (.slice A2 rows.length C2) rows) (hT : Tabs w) (hz : ∀ x ∈ rows, entZ (entC labs x)) (hln : rows.length ≤ 4611686018427387904) :
    Calls Tryd.prog 32 #[.agg #[.slice A labs.length C, .slice A2 rows.length C2]] w fun e w' => e = .returned (bndV (bndC labs rows)) ∧ Below w.heap.size w w' := by
  cases hf : chR labs rows
  · exact Bounds_no labs rows A A2 C C2 w hL hR hT hz hln hf
  · exact Bounds_yes labs rows A A2 C C2 w hL hR hT hz hln hf
end Go.Proofs.YtaoeabnpmpimgaaDoor
end
section
namespace Go.Proofs.YtaoeabnpmpimgaaDoor
open Go.RowKit Go.Icz Go.Shelf
def kcl : List Lab := [([97], [120])]
def kcr : List CRow := [⟨4, 10, [117]⟩, ⟨2, 11, [118]⟩]
theorem kc_right : chR kcl kcr = true := by decide +kernel
theorem kc_bnd : bndC kcl kcr = (10, 11, 2, 4) := by
  unfold bndC
  rw [kc_right]
  rfl
theorem kc_bytes : chB kcl kcr = [5, 1, 1, 97, 1, 120, 2, 10, 4, 1, 117, 1, 3, 1, 118] := by
  have n1 : num 1 = [1] := num_lo (by omega)
  have n2 : num 2 = [2] := num_lo (by omega)
  have n3 : num 3 = [3] := num_lo (by omega)
  have n4 : num 4 = [4] := num_lo (by omega)
  have n5 : num 5 = [5] := num_lo (by omega)
  have n10 : num 10 = [10] := num_lo (by omega)
  have a1 : txt ⟨#[97]⟩ = [1, 97] := by
    show num 1 ++ nats ⟨#[97]⟩ = _
    rw [n1]; rfl
  have a2 : txt ⟨#[120]⟩ = [1, 120] := by
    show num 1 ++ nats ⟨#[120]⟩ = _
    rw [n1]; rfl
  have a3 : bytesN kcl = [1, 1, 97, 1, 120] := by
    show num 1 ++ ((txt ⟨#[97]⟩ ++ txt ⟨#[120]⟩) ++ []) = _
    rw [n1, a1, a2]; rfl
  have a4 : txt (str [1, 1, 97, 1, 120]) = [5, 1, 1, 97, 1, 120] := by
    show num 5 ++ nats (str [1, 1, 97, 1, 120]) = _
    rw [n5]; rfl
  have a5 : txt ⟨#[117]⟩ = [1, 117] := by
    show num 1 ++ nats ⟨#[117]⟩ = _
    rw [n1]; rfl
  have a6 : txt ⟨#[118]⟩ = [1, 118] := by
    show num 1 ++ nats ⟨#[118]⟩ = _
    rw [n1]; rfl
  unfold chB headB
  rw [a3, a4]
  show ([5, 1, 1, 97, 1, 120] ++ num 2 ++ num 10 ++ num 4 ++ txt ⟨#[117]⟩) ++ ((num 1 ++ num 3 ++ txt ⟨#[118]⟩) ++ []) = _
  rw [n1, n2, n3, n4, n10, a5, a6]; rfl
theorem num4_is (n : Int) (w : World) : Calls Tryd.prog 33 #[.int .i64 n] w fun e w' => e = .returned (.int .i64 n) ∧ w' = w := by
  go_enter Tryd.func33, Tryd.ntmps33
  go_wp2
  go_ret
  exact ⟨rfl, rfl⟩
set_option maxHeartbeats 4000000 in
set_option maxRecDepth 100000 in
theorem knows4_is (w : World) (hT : Tabs w) : Calls Tryd.prog 10 #[] w fun e w' => e = .returned (.bool true) ∧ Below w.heap.size w w' := by
  have hz : ∀ x ∈ kcr, entZ (entC kcl x) := by
    intro x hx
    have hx' : x = ⟨4, 10, [117]⟩ ∨ x = ⟨2, 11, [118]⟩ := by simpa [kcr] using hx
    rcases hx' with rfl | rfl <;> exact ⟨by decide, by decide, by decide⟩
  have hP := fun wx A A2 C C2 (hL : RdL wx (.slice A kcl.length C) kcl) (hR : KRw.Rd wx (.slice A2 kcr.length C2) kcr) (hT : Tabs wx) => Put_yes kcl kcr A A2 C C2 wx hL hR hT hz (by decide) kc_right
  have hBd := fun wx A A2 C C2 (hL : RdL wx (.slice A kcl.length C) kcl) (hR : KRw.Rd wx (.slice A2 kcr.length C2) kcr) (hT : Tabs wx) => Bounds_yes kcl kcr A A2 C C2 wx hL hR hT hz (by decide) kc_right
  have hRi := fun wx A A2 C C2 (hL : RdL wx (.slice A kcl.length C) kcl) (hR : KRw.Rd wx (.slice A2 kcr.length C2) kcr) (hT : Tabs wx) => CRight_is kcl kcr A A2 C C2 wx hL hR hT hz (by decide)
  rw [kc_bytes] at hP
  rw [kc_bnd] at hBd
  rw [kc_right] at hRi
  obtain ⟨W3, hW3⟩ : ∃ W3, W3 = ((w.alloc (.cells #[.string ⟨#[97]⟩, .string ⟨#[120]⟩] 65)).alloc (.cells #[.int .i64 4, .int .i64 10, .string ⟨#[117]⟩, .int .i64 2, .int .i64 11, .string ⟨#[118]⟩] 45)).alloc (.cells #[.slice (some ⟨w.heap.size, 0, none⟩) 1 1, .slice (some ⟨w.heap.size + 1, 0, none⟩) 2 2] 39) := ⟨_, rfl⟩
  have b1 : Below w.heap.size w (w.alloc (.cells #[.string ⟨#[97]⟩, .string ⟨#[120]⟩] 65)) := (Below.refl _ w).alloc (Nat.le_refl _) _
  have b2 : Below (w.heap.size + 1) (w.alloc (.cells #[.string ⟨#[97]⟩, .string ⟨#[120]⟩] 65)) ((w.alloc (.cells #[.string ⟨#[97]⟩, .string ⟨#[120]⟩] 65)).alloc (.cells #[.int .i64 4, .int .i64 10, .string ⟨#[117]⟩, .int .i64 2, .int .i64 11, .string ⟨#[118]⟩] 45)) := (Below.refl _ _).alloc (by simp) _
  have b3 : Below (w.heap.size + 2) ((w.alloc (.cells #[.string ⟨#[97]⟩, .string ⟨#[120]⟩] 65)).alloc (.cells #[.int .i64 4, .int .i64 10, .string ⟨#[117]⟩, .int .i64 2, .int .i64 11, .string ⟨#[118]⟩] 45)) W3 := by rw [hW3]; exact (Below.refl _ _).alloc (by simp) _
  have rl : ∀ wx, Below W3.heap.size W3 wx → RdL wx (.slice (some ⟨w.heap.size, 0, none⟩) 1 1) kcl := fun wx bx => by
    have r := (ownL1 w ([97], [120]) (Nat.le_refl _)).rd
    have q2 := b2.mono (B := w.heap.size + 1) (Nat.le_refl _)
    exact ((r.below (w' := W3) (((b2.trans (b3.mono (by omega))).mono (by simp)))).below bx)
  have rr : ∀ wx, Below W3.heap.size W3 wx → KRw.Rd wx (.slice (some ⟨w.heap.size + 1, 0, none⟩) 2 2) kcr := fun wx bx => by
    have r := (Kd.Own.lit (K := KRw) (B := 0) (w.alloc (.cells #[.string ⟨#[97]⟩, .string ⟨#[120]⟩] 65)) kcr (by decide) (Nat.zero_le _)).rd
    rw [World.size_alloc] at r
    exact (r.below (b3.mono (by simp))).below bx
  have tt : ∀ wx, Below W3.heap.size W3 wx → Tabs wx := fun wx bx => (hT.below ((b1.trans (b2.mono (by omega))).trans (b3.mono (by omega)))).below bx
  have x3 : W3.heap[w.heap.size + 2]? = some (.cells #[.slice (some ⟨w.heap.size, 0, none⟩) 1 1, .slice (some ⟨w.heap.size + 1, 0, none⟩) 2 2] 39 (0, 0)) := by
    have := heap_alloc_new ((w.alloc (.cells #[.string ⟨#[97]⟩, .string ⟨#[120]⟩] 65)).alloc (.cells #[.int .i64 4, .int .i64 10, .string ⟨#[117]⟩, .int .i64 2, .int .i64 11, .string ⟨#[118]⟩] 45)) (.cells #[.slice (some ⟨w.heap.size, 0, none⟩) 1 1, .slice (some ⟨w.heap.size + 1, 0, none⟩) 2 2] 39)
    rw [World.size_alloc, World.size_alloc] at this
    rw [hW3]
    exact this
  have cl : ∀ wx, Below W3.heap.size W3 wx → wx.cell? ⟨w.heap.size + 2, 0, none⟩ = some (.slice (some ⟨w.heap.size, 0, none⟩) 1 1) ∧ wx.cell? ⟨w.heap.size + 2, 1, none⟩ = some (.slice (some ⟨w.heap.size + 1, 0, none⟩) 2 2) := fun wx bx => by
    have y := (bx.block _ (row_lt x3)).trans x3
    exact ⟨held_cell y rfl, held_cell y rfl⟩
  have BW : Hid (Below w.heap.size w W3) := hid ((b1.trans (b2.mono (by omega))).trans (b3.mono (by omega)))
  have hP3 := hP W3 _ _ _ _ (rl W3 (Below.refl _ _)) (rr W3 (Below.refl _ _)) (tt W3 (Below.refl _ _))
  have hB3 := fun wx (bx : Below W3.heap.size W3 wx) => hBd wx _ _ _ _ (rl wx bx) (rr wx bx) (tt wx bx)
  have hR3 := fun wx (bx : Below W3.heap.size W3 wx) => hRi wx _ _ _ _ (rl wx bx) (rr wx bx) (tt wx bx)
  unfold bndV at hB3
  simp only at hB3
  have ll : kcl.length = 1 := rfl
  have lr : kcr.length = 2 := rfl
  rw [ll, lr] at hP3
  simp only [ll, lr] at hB3 hR3
  obtain ⟨c0, c1⟩ := cl W3 (Below.refl _ _)
  have CL := hid cl
  have HW3 := hid hW3
  rw [hW3] at c0 c1 hP3
  clear hP hBd hRi b1 b2 b3 rl rr tt x3 cl hz hT ll lr
  go_enter Tryd.func10, Tryd.ntmps10
  go_wp2_with (first
    | (go_at_call 31; go_loud (refine hP3.mono ?_; rintro e w4 ⟨v4, rfl, o4, b4⟩; rw [← HW3.out] at b4; obtain ⟨c2, c3⟩ := CL.out _ b4; have hB4 := hB3 _ b4; have r4 := o4.rd; clear hP3 hB3 c0 c1))
    | (go_at_call 32; go_loud (refine hB4.mono ?_; rintro e w5 ⟨rfl, b5⟩; have b5' := b4.trans (b5.mono b4.size); obtain ⟨c4, c5⟩ := CL.out _ b5'; have hR4 := hR3 _ b5'; have cv := conv_kbs _ _ (r4.below b5); rw [show str [5, 1, 1, 97, 1, 120, 2, 10, 4, 1, 117, 1, 3, 1, 118] = ⟨#[5, 1, 1, 97, 1, 120, 2, 10, 4, 1, 117, 1, 3, 1, 118]⟩ from rfl] at cv; clear hB4 hR3 c2 c3))
    | (go_at_call 33; refine (num4_is _ _).mono ?_; rintro e w6 ⟨rfl, rfl⟩)
    | (go_at_call 14; go_loud (refine hR4.mono ?_; rintro e w7 ⟨rfl, b7⟩; clear hR4))
    | fail)
  go_ret
  exact ⟨rfl, BW.out.trans ((b5'.trans (b7.mono b5'.size)).mono BW.out.size)⟩
end Go.Proofs.YtaoeabnpmpimgaaDoor
end
