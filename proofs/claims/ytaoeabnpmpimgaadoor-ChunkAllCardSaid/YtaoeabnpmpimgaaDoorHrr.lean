/-
  Maps of booleans by numbers. No condition.
  Which chunks may be, row by row. No condition.
  What the reference's Right of a chunk answers. Conditions: the chunk can be read; sizes as each theorem names.
-/
import Derived.Test.YtaoeabnpmpimgaaDoorHpw
import Derived.Maps.OwnSet
import Derived.Maps.OwnOps
import Derived.Maps.Views
import Derived.Lib.SliceRun
import Derived.Test.YtaoeabnpmpimgaaDoorHkn
import Derived.BigQuiet
import Derived.Deep.QuietTactic
section
namespace Go.Icz
open Go.RowKit Go.Maps Go.ChangeMaps Go.MapKept
theorem ownsMap_touch {H : Type} {P : Program} {k : TypeId} {R : Value → Option (DataW H × List MemPlace)} {S : Nat → Prop} {w w' : World} {b n : Nat} {D : DataW H} (h : w.ownsMap P k R b n D) (t : Tch S w w') (hS : ¬ S b) : w'.ownsMap P k R b n D := by
  obtain ⟨es, clock, h1, h2, h3, h4⟩ := h
  exact ⟨es, clock, (t.block b (Array.getElem?_eq_some_iff.1 h1).1 hS).trans h1, h2, h3, h4⟩
theorem Tch.turned {w w' : World} {b : Nat} (h : w.mapTurned w' b) : Tch (· = b) w w' := by
  have g := h.grown
  exact ⟨g.os, g.tape, g.output, g.size, fun k hk hn => g.block k hk (fun e => by injection e with e; exact hn e)⟩
def wfI (k : Int) : Prop := (Lit.int .i64 k).wf = true
theorem il_ne {a b : Int} (h : a ≠ b) : Lit.int .i64 a ≠ Lit.int .i64 b := fun e => by injection e with _ e; exact h e
theorem il_key (a : Int) : WideAt.IsKeyLit (Lit.int .i64 a) := trivial
end Go.Icz
namespace Go.Proofs.YtaoeabnpmpimgaaDoor
open Go.RowKit Go.Icz Go.Maps Go.ChangeMaps Go.MapKept
set_option maxRecDepth 10000
theorem keyI {k : Int} (hk : wfI k) : keyOf Tryd.prog 3 (.int .i64 k) = some (.int .i64 k) := keyOf_int_mk Tryd.underlying3 hk
/-- A map of booleans in block m: what f says; at most n numbers were written. -/
def MBf (w : World) (m n : Nat) (f : Int → Bool) : Prop := ∃ D : DataW Unit, w.ownsMap Tryd.prog 3 (plainElem Tryd.prog 4) m n D ∧ ∀ k, D.atKey (.int .i64 k) (.lit (.bool false)) = .lit (.bool (f k))
theorem MBf.touch {S : Nat → Prop} {w w' : World} {m n : Nat} {f : Int → Bool} (h : MBf w m n f) (t : Tch S w w') (hS : ¬ S m) : MBf w' m n f := by
  obtain ⟨D, h1, h2⟩ := h
  exact ⟨D, ownsMap_touch h1 t hS, h2⟩
theorem MBf.lt {w : World} {m n : Nat} {f : Int → Bool} (h : MBf w m n f) : m < w.heap.size := by
  obtain ⟨D, h1, _⟩ := h
  exact h1.lt
theorem MBf.noRow {w : World} {m n : Nat} {f : Int → Bool} (h : MBf w m n f) : ∀ cur t z, w.heap[m]? ≠ some (.cells cur t z) := by
  obtain ⟨D, ⟨es, clock, h1, _⟩, _⟩ := h
  intro cur t z hc
  rw [h1] at hc
  cases hc
theorem MBf.look {w : World} {m n : Nat} {f : Int → Bool} (h : MBf w m n f) (k : Int) (hk : wfI k) : (Instr.lookup 52 (.map (some m)) (.int .i64 k) false).run Tryd.prog w = .ok (.bool (f k)) w := by
  obtain ⟨D, ho, ha⟩ := h
  obtain ⟨v, ps, hrun, hv⟩ := ho.lookup (int_keyed Tryd.underlying3) Tryd.underlying52 (Tryd.zeroValue4 w) (zd := .lit (.bool false)) (zp := []) (plainElem_bool Tryd.underlying4 false) (keyI hk)
  rw [ha k] at hv
  have hv2 : v = .bool (f k) := by
    unfold plainElem at hv
    rw [Tryd.underlying4] at hv
    cases v <;> simp at hv
    rw [hv.1]
  rw [hrun, hv2]
theorem MBf.store {w : World} {m n : Nat} {f : Int → Bool} (h : MBf w m n f) (k : Int) (b : Bool) (hk : wfI k) (hn : n < maxLen) : ∃ w', (Instr.mapUpdate 52 (.map (some m)) (.int .i64 k) (.bool b)).run Tryd.prog w = .ok () w' ∧ MBf w' m (n + 1) (fun j => if j = k then b else f j) ∧ Tch (· = m) w w' := by
  obtain ⟨D, ho, ha⟩ := h
  obtain ⟨w', hrun, ho', ht⟩ := ho.store (int_keyed Tryd.underlying3) Tryd.underlying52 hn (keyI hk) (val := .bool b) (d := .lit (.bool b)) (ps := []) (plainElem_bool Tryd.underlying4 b)
  refine ⟨w', hrun, ⟨_, ho', fun j => ?_⟩, Tch.turned ht⟩
  by_cases hj : j = k
  · subst hj
    rw [Maps.atKey_put_same ho.isMap (il_key _)]
    simp
  · rw [Maps.atKey_put_other (il_ne hj), ha]
    simp [hj]
theorem MBf.made (w : World) : MBf (w.alloc (.map #[] 0)) w.heap.size 0 (fun _ => false) := ⟨.map [], World.ownsMap_made .., fun k => by simp [DataW.atKey]⟩
end Go.Proofs.YtaoeabnpmpimgaaDoor
end
section
namespace Go.Icz
open Go.RowKit
def rowOk (x : CRow) : Prop := (1 ≤ x.seq ∧ x.seq < 1099511627776) ∧ (0 ≤ x.time ∧ x.time < 1099511627776) ∧ x.line.length ≤ 1024
instance (x : CRow) : Decidable (rowOk x) := by unfold rowOk; infer_instance
def crAt (rows : List CRow) (j : Nat) : CRow := rows.getD j row0
/-- The j-th row may stand where it stands. -/
def okAt (rows : List CRow) (j : Nat) : Prop := rowOk (crAt rows j) ∧ (0 < j → (crAt rows (j - 1)).time < (crAt rows j).time ∨ (crAt rows (j - 1)).time = (crAt rows j).time ∧ (crAt rows (j - 1)).seq < (crAt rows j).seq) ∧ ∀ k, k < j → (crAt rows k).seq ≠ (crAt rows j).seq
theorem crAt_eq {rows : List CRow} {j : Nat} (h : j < rows.length) : crAt rows j = rows[j] := by
  unfold crAt
  rw [List.getD_eq_getElem?_getD, List.getElem?_eq_getElem h]
  rfl
theorem entR_row (labs : List Lab) (x : CRow) : entR (entC labs x) = true ↔ rowOk x ∧ rightS labs = true := by
  unfold entR entC rowOk
  simp only [Bool.and_eq_true, decide_eq_true_eq]
  constructor
  · rintro ⟨⟨⟨a, b⟩, c⟩, d⟩
    exact ⟨⟨a, b, c⟩, d⟩
  · rintro ⟨⟨a, b, c⟩, d⟩
    exact ⟨⟨⟨a, b⟩, c⟩, d⟩
theorem cmpE_lt (labs : List Lab) (x y : CRow) : cmpE (entC labs x) (entC labs y) < 0 ↔ x.time < y.time ∨ x.time = y.time ∧ x.seq < y.seq := by
  unfold cmpE icmp or2 entC
  simp only
  by_cases h1 : x.time < y.time
  · simp [h1]
  · by_cases h2 : y.time < x.time
    · have : ¬ x.time = y.time := by omega
      simp [h1, h2, this]
    · have : x.time = y.time := by omega
      by_cases h3 : x.seq < y.seq
      · simp [this, h3]
      · by_cases h4 : y.seq < x.seq
        · simp [this, h3, h4]
        · simp [this, h3, h4]
theorem prs_get (rows : List CRow) (p : CRow × CRow) : p ∈ prs rows 0 ↔ ∃ j, j + 1 < rows.length ∧ p = (crAt rows j, crAt rows (j + 1)) := by
  unfold prs
  rw [List.mem_iff_getElem]
  constructor
  · rintro ⟨j, hj, rfl⟩
    have hl : j + 1 < rows.length := by rw [List.length_zip, List.length_drop, List.length_drop] at hj; omega
    refine ⟨j, hl, ?_⟩
    rw [List.getElem_zip, crAt_eq (by omega), crAt_eq hl]
    simp [List.getElem_drop, Nat.add_comm]
  · rintro ⟨j, hj, rfl⟩
    refine ⟨j, by rw [List.length_zip, List.length_drop, List.length_drop]; omega, ?_⟩
    rw [List.getElem_zip, crAt_eq (by omega), crAt_eq hj]
    simp [List.getElem_drop, Nat.add_comm]
theorem chR_iff (labs : List Lab) (rows : List CRow) : chR labs rows = true ↔ (1 ≤ rows.length ∧ rows.length ≤ 1000) ∧ rightS labs = true ∧ ∀ j, j < rows.length → okAt rows j := by
  unfold chR rowsR rowsB onceB
  simp only [Bool.and_eq_true, decide_eq_true_eq, List.all_eq_true, entR_row, cmpE_lt]
  constructor
  · rintro ⟨⟨⟨⟨h1, h2⟩, h3⟩, h4⟩, h5⟩
    refine ⟨⟨h1, h2⟩, (h3 rows[0] (List.getElem_mem (by omega))).2, fun j hj => ⟨?_, fun h0 => ?_, fun k hk => ?_⟩⟩
    · rw [crAt_eq hj]
      exact (h3 _ (List.getElem_mem hj)).1
    · have := h4 (crAt rows (j - 1), crAt rows j) ((prs_get rows _).2 ⟨j - 1, by omega, by rw [Nat.sub_add_cancel h0]⟩)
      exact this
    · rw [List.Nodup, List.pairwise_iff_getElem] at h5
      have := h5 k j (by simpa using by omega) (by simpa using hj) hk
      rw [List.getElem_map, List.getElem_map] at this
      rw [crAt_eq hj, crAt_eq (by omega)]
      exact this
  · rintro ⟨⟨h1, h2⟩, h3, h4⟩
    refine ⟨⟨⟨⟨h1, h2⟩, fun x hx => ⟨?_, h3⟩⟩, fun p hp => ?_⟩, ?_⟩
    · obtain ⟨j, hj, rfl⟩ := List.getElem_of_mem hx
      rw [← crAt_eq hj]
      exact (h4 j hj).1
    · obtain ⟨j, hj, rfl⟩ := (prs_get rows p).1 hp
      exact (h4 (j + 1) hj).2.1 (by omega)
    · rw [List.Nodup, List.pairwise_iff_getElem]
      intro k j hk hj hkj
      rw [List.getElem_map, List.getElem_map]
      have hj' : j < rows.length := by simpa using hj
      have := (h4 j hj').2.2 k hkj
      rw [crAt_eq hj', crAt_eq (by omega)] at this
      exact this
theorem chR_false {labs : List Lab} {rows : List CRow} {j : Nat} (hj : j < rows.length) (h : ¬ okAt rows j) : chR labs rows = false := by
  cases hc : chR labs rows
  · rfl
  · exact absurd (((chR_iff labs rows).1 hc).2.2 j hj) h
end Go.Icz
end
section
namespace Go.Proofs.YtaoeabnpmpimgaaDoor
open Go.RowKit Go.Icz Go.Shelf Go.Maps
attribute [local go_sem] Oper.semAt_some
set_option maxRecDepth 100000
set_option maxHeartbeats 4000000
theorem wfI_in {k : Int} (h1 : -9223372036854775808 ≤ k) (h2 : k ≤ 9223372036854775807) : wfI k := by
  unfold wfI
  simp [Lit.wf, IntKind.min, IntKind.max, IntKind.signed, IntKind.bits]
  omega
theorem R4Right_few (labs : List Lab) (rows : List CRow) (A A2 : Option Addr) (C C2 : Nat) (w : World) (hc : ¬ (1 ≤ rows.length ∧ rows.length ≤ 1000)) :
    Calls Tryd.prog 13 #[.agg #[.slice A labs.length C, .slice A2 rows.length C2]] w fun e w' => e = .returned (.bool (chR labs rows)) ∧ Below w.heap.size w w' := by
  have hf : chR labs rows = false := by
    cases h : chR labs rows
    · rfl
    · exact absurd ((chR_iff labs rows).1 h).1 hc
  have HB := hid ((Below.refl _ w).alloc (Nat.le_refl _) (.cells #[.slice A labs.length C, .slice A2 rows.length C2] 35))
  rw [hf]
  clear hf
  by_cases h1 : rows.length < 1
  · have d1 : (rows.length : Int) < 1 := by omega
    clear hc h1
    go_enter Tryd.func13, Tryd.ntmps13
    go_wp2
    go_ret
    exact ⟨rfl, HB.out⟩
  · have d1 : ¬ (rows.length : Int) < 1 := by omega
    have d2 : (1000 : Int) < (rows.length : Int) := by omega
    clear hc h1
    go_enter Tryd.func13, Tryd.ntmps13
    go_wp2
    go_ret
    exact ⟨rfl, HB.out⟩
theorem R4Right_lab (labs : List Lab) (rows : List CRow) (A A2 : Option Addr) (C C2 : Nat) (w : World) (hL : RdL w (.slice A labs.length C) labs) (hlz : labs.length * 32 ≤ 140737488351232) (hls : ∀ y ∈ labs, y.1.length ≤ 9223372036854775807 ∧ y.2.length ≤ 9223372036854775807) (h1 : 1 ≤ rows.length) (h2 : rows.length ≤ 1000) (hr : rightS labs = false) :
    Calls Tryd.prog 13 #[.agg #[.slice A labs.length C, .slice A2 rows.length C2]] w fun e w' => e = .returned (.bool (chR labs rows)) ∧ Below w.heap.size w w' := by
  have hf : chR labs rows = false := by
    cases h : chR labs rows
    · rfl
    · have := ((chR_iff labs rows).1 h).2.1
      rw [hr] at this
      cases this
  have hb := (Below.refl _ w).alloc (Nat.le_refl _) (.cells #[.slice A labs.length C, .slice A2 rows.length C2] 35)
  have hRt := RefRight_is _ labs _ (hL.below hb) (by omega) hls
  rw [hr] at hRt
  have HB := hid hb
  rw [hf]
  have d1 : ¬ (rows.length : Int) < 1 := by omega
  have d2 : ¬ (1000 : Int) < (rows.length : Int) := by omega
  clear hf hb hL hr hlz hls h1 h2
  go_enter Tryd.func13, Tryd.ntmps13
  go_wp2_with (go_at_call 35; refine hRt.mono ?_; rintro e w1 ⟨rfl, b1⟩; clear hRt)
  go_ret
  exact ⟨rfl, HB.out.trans (b1.mono HB.out.size)⟩
theorem R4Right_yes (labs : List Lab) (rows : List CRow) (A A2 : Option Addr) (C C2 : Nat) (w : World) (hL : RdL w (.slice A labs.length C) labs) (hR : KRr.Rd w (.slice A2 rows.length C2) rows) (hlz : labs.length * 32 ≤ 140737488351232) (hls : ∀ y ∈ labs, y.1.length ≤ 9223372036854775807 ∧ y.2.length ≤ 9223372036854775807) (n1 : 1 ≤ rows.length) (n2 : rows.length ≤ 1000) (hrr : rightS labs = true) :
    Calls Tryd.prog 13 #[.agg #[.slice A labs.length C, .slice A2 rows.length C2]] w fun e w' => e = .returned (.bool (chR labs rows)) ∧ Below w.heap.size w w' := by
  obtain ⟨W0, hW0⟩ : ∃ W0, W0 = w.alloc (.cells #[.slice A labs.length C, .slice A2 rows.length C2] 35) := ⟨_, rfl⟩
  have b0 : Below w.heap.size w W0 := by rw [hW0]; exact (Below.refl _ w).alloc (Nat.le_refl _) _
  have x0 : W0.heap[w.heap.size]? = some (.cells #[.slice A labs.length C, .slice A2 rows.length C2] 35 (0, 0)) := by rw [hW0]; exact heap_alloc_new w _
  have hRt := RefRight_is _ labs _ (hL.below b0) (by omega) hls
  rw [hrr] at hRt
  have cells : ∀ wx, Below W0.heap.size W0 wx → wx.cell? ⟨w.heap.size, 1, none⟩ = some (.slice A2 rows.length C2) := fun wx b => held_cell ((b.block w.heap.size (row_lt x0)).trans x0) rfl
  obtain ⟨bR, offR, cR, hvR, hltR, hcs1⟩ := hR.ats (j := 0) (by omega)
  injection hvR with hv1 _ hv2
  subst hv1
  subst hv2
  have row : ∀ wx, Below W0.heap.size W0 wx → ∀ j, j < rows.length → wx.cell? ⟨bR, offR + j * 3, none⟩ = some (.int .i64 (crAt rows j).seq) ∧ wx.cell? ⟨bR, offR + j * 3 + 1, none⟩ = some (.int .i64 (crAt rows j).time) ∧ wx.cell? ⟨bR, offR + j * 3 + 2, none⟩ = some (.string ⟨(crAt rows j).line.toArray⟩) := fun wx b j hj => by
    have bb := b0.trans (b.mono b0.size)
    have q0 := hcs1 j hj 0 _ (by decide) rfl
    have q1 := hcs1 j hj 1 _ (by decide) rfl
    have q2 := hcs1 j hj 2 _ (by decide) rfl
    rw [crAt_eq hj]
    exact ⟨(bb.cell (p := ⟨bR, offR + j * 3, none⟩) hltR).trans q0, (bb.cell (p := ⟨bR, offR + j * 3 + 1, none⟩) hltR).trans q1, (bb.cell (p := ⟨bR, offR + j * 3 + 2, none⟩) hltR).trans q2⟩
  have HFALSE : Hid (∀ j, j < rows.length → ¬ okAt rows j → chR labs rows = false) := hid (fun j hj h => chR_false hj h)
  have HTRUE : Hid ((∀ j, j < rows.length → okAt rows j) → chR labs rows = true) := hid (fun h => (chR_iff labs rows).2 ⟨⟨n1, n2⟩, hrr, h⟩)
  have hMM := @run_makeMap Tryd.prog
  have HB0 := hid b0
  have HCE := hid cells
  have HROW := hid row
  have d1 : ¬ (rows.length : Int) < 1 := by omega
  have d2 : ¬ (1000 : Int) < (rows.length : Int) := by omega
  have HN := hid (And.intro n1 n2)
  rw [hW0] at hRt
  clear hL hR hlz hls n1 n2 hrr x0 cells row hcs1 hltR b0
  have e0 := HCE.out W0 (Below.refl _ _)
  rw [hW0] at e0
  go_enter Tryd.func13, Tryd.ntmps13
  go_upto_region 3 with (go_at_call 35; refine hRt.mono ?_; rintro e w1 ⟨rfl, b1⟩; clear hRt; rw [← hW0] at b1)
  clear e0 hW0
  have hM0 := MBf.made w1
  have hb0 : Below w1.heap.size w1 (w1.alloc (.map #[] 0)) := (Below.refl _ w1).alloc (Nat.le_refl _) _
  have e1 := HCE.out _ (b1.trans (hb0.mono b1.size))
  go_wp2
  have HB1 := hid b1
  generalize w1.alloc (.map #[] 0) = W1 at *
  clear e1 b1 hMM
  go_loopw [4] (fun iv wr => ∃ (i n : Nat) (f : Int → Bool), iv = .int .i64 (i : Int) ∧ Hid (i ≤ rows.length ∧ n ≤ i) ∧ Hid (MBf wr w1.heap.size n f) ∧ Hid ((∀ z, f z = true ↔ ∃ k, k < i ∧ (crAt rows k).seq = z) ∧ ∀ j, j < i → okAt rows j) ∧ Hid (Below w1.heap.size w1 wr)) (fun iv _ => rows.length - (intOf iv).toNat)
  case atStart => exact ⟨0, 0, _, rfl, hid ⟨Nat.zero_le _, Nat.le_refl _⟩, hid hM0, hid ⟨fun z => ⟨fun h => (by cases h), fun ⟨k, hk, _⟩ => absurd hk (Nat.not_lt_zero _)⟩, fun j hj => absurd hj (Nat.not_lt_zero _)⟩, hid hb0⟩
  case round =>
    obtain ⟨i, n, f, rfl, hi, HMf, HOK, HW⟩ := hrel
    have bb : Below W0.heap.size W0 wr := HB1.out.trans (HW.out.mono HB1.out.size)
    have ce := HCE.out wr bb
    by_cases hil : i < rows.length
    · have hii : (i : Int) < (rows.length : Int) := by omega
      obtain ⟨c0, c1, c2⟩ := HROW.out wr bb i hil
      have bA : Below wr.heap.size wr (wr.alloc (.cells #[.int .i64 (crAt rows i).seq, .int .i64 (crAt rows i).time, .string ⟨(crAt rows i).line.toArray⟩] 46)) := (Below.refl _ wr).alloc (Nat.le_refl _) _
      have bbA := bb.trans (bA.mono bb.size)
      have ceA := HCE.out _ bbA
      have BEL : Hid (Below w1.heap.size w1 (wr.alloc (.cells #[.int .i64 (crAt rows i).seq, .int .i64 (crAt rows i).time, .string ⟨(crAt rows i).line.toArray⟩] 46))) := hid (HW.out.trans (bA.mono HW.out.size))
      have BELW : Hid (Below w.heap.size w w1) := hid (HB0.out.trans (HB1.out.mono HB0.out.size))
      have HBBA := hid bbA
      have hMA := HMf.out.touch (Tch.of_below (S := fun _ => False) bA) (fun h => h)
      have HSTEP : Hid (okAt rows i → ∀ y : Int, y = (crAt rows i).seq → (∀ z, (if z = y then true else f z) = true ↔ ∃ k, k < i + 1 ∧ (crAt rows k).seq = z) ∧ ∀ j, j < i + 1 → okAt rows j) := hid (fun hk y hy => by
        refine ⟨fun z => ?_, fun j hj => ?_⟩
        · by_cases hz : z = y
          · rw [if_pos hz]
            exact ⟨fun _ => ⟨i, by omega, by rw [hz, hy]⟩, fun _ => rfl⟩
          · rw [if_neg hz, HOK.out.1 z]
            constructor
            · rintro ⟨k, hk, e⟩; exact ⟨k, by omega, e⟩
            · rintro ⟨k, hk, e⟩
              rcases Nat.lt_or_ge k i with h | h
              · exact ⟨k, h, e⟩
              · have : k = i := by omega
                subst this
                exact absurd (e.symm.trans hy.symm) hz
        · rcases Nat.lt_or_ge j i with h | h
          · exact HOK.out.2 j h
          · have : j = i := by omega
            subst this
            exact hk)
      have HIL := hid hil
      have hni : n ≤ 1000 := by have := HN.out; have := hi.out; omega
      have hi2 : (i : Int) + 1 ≤ 1000 := by have := HN.out; omega
      have hx : Hid (crAt rows i = crAt rows i) := hid rfl
      obtain ⟨x, hxe⟩ : ∃ x, x = crAt rows i := ⟨_, rfl⟩
      have HX := hid hxe
      rw [← hxe] at c0 c1 c2 bA bbA ceA BEL HBBA hMA
      have hll : (⟨x.line.toArray⟩ : ByteArray).size = x.line.length := Lib.size_mk _
      have HMA := hid hMA
      clear hxe hx bA bbA hMA bb hil

      by_cases k1 : 1 ≤ x.seq
      · by_cases k2 : x.seq < 1099511627776
        · by_cases k3 : 0 ≤ x.time
          · by_cases k4 : x.time < 1099511627776
            · by_cases k5 : x.line.length ≤ 1024
              · have k5' : (x.line.length : Int) ≤ 1024 := by omega
                have wx : wfI x.seq := wfI_in (by omega) (by omega)
                have lk := HMA.out.look x.seq wx
                have hseen := HOK.out.1 x.seq
                generalize hfy : f x.seq = y at lk hseen
                have HFY := hid hfy
                clear hfy
                cases y
                · have hnew : ∀ k, k < i → (crAt rows k).seq ≠ x.seq := fun k hk e => by have := hseen.2 ⟨k, hk, e⟩; cases this
                  have HNEW := hid hnew
                  clear hseen hnew
                  have hst := fun n2 => (HMA.out.touch (tch_drewN (fun _ => False) _ n2) (fun h => h) : MBf ((wr.alloc (.cells #[.int .i64 x.seq, .int .i64 x.time, .string ⟨x.line.toArray⟩] 46)).drewN n2) w1.heap.size n f).store x.seq true wx (by unfold maxLen; omega)
                  obtain ⟨G, hG⟩ : ∃ G : Nat → World, ∀ n2, (Instr.mapUpdate 52 (.map (some w1.heap.size)) (.int .i64 x.seq) (.bool true)).run Tryd.prog ((wr.alloc (.cells #[.int .i64 x.seq, .int .i64 x.time, .string ⟨x.line.toArray⟩] 46)).drewN n2) = .ok () (G n2) ∧ MBf (G n2) w1.heap.size (n + 1) (fun j => if j = x.seq then true else f j) ∧ Tch (· = w1.heap.size) ((wr.alloc (.cells #[.int .i64 x.seq, .int .i64 x.time, .string ⟨x.line.toArray⟩] 46)).drewN n2) (G n2) := ⟨fun n2 => Classical.choose (hst n2), fun n2 => Classical.choose_spec (hst n2)⟩
                  have hup := fun n2 => (hG n2).1
                  have HG := hid hG
                  clear hst hG
                  have BELN : Hid (∀ n2, Below w1.heap.size w1 ((wr.alloc (.cells #[.int .i64 x.seq, .int .i64 x.time, .string ⟨x.line.toArray⟩] 46)).drewN n2)) := hid (fun n2 => BEL.out.trans ⟨rfl, rfl, rfl, Nat.le_refl _, fun _ _ => rfl⟩)
                  by_cases h0 : i = 0
                  · have g0 : ¬ (0 : Int) < (i : Int) := by omega
                    have g0' : decide ((0 : Int) < (i : Int)) = false := decide_eq_false g0
                    have g0n : decide (0 < i) = false := decide_eq_false (by omega)
                    have HOKI : Hid (okAt rows i) := hid ⟨by rw [← HX.out]; exact ⟨⟨k1, k2⟩, ⟨k3, k4⟩, k5⟩, fun h => absurd h (by omega), fun k hk => by rw [← HX.out]; exact HNEW.out k hk⟩
                    clear h0
                    go_wp2
                    go_quiet (fail)
                    go_wp2
                    go_roundw
                    case rel => exact ⟨i + 1, n + 1, _, by go_num, hid ⟨HIL.out, by have := hi.out.2; omega⟩, hid (HG.out _).2.1, hid (HSTEP.out HOKI.out x.seq (by rw [HX.out])), hid (Tch.below (BELN.out _) (HG.out _).2.2 (fun j e => by rw [e]; exact Nat.le_refl _) (BELN.out _).size)⟩
                    case measure => have := HIL.out; simp [intOf]; omega
                  · have g0 : (0 : Int) < (i : Int) := by omega
                    have g0' : decide ((0 : Int) < (i : Int)) = true := decide_eq_true g0
                    have g0n : decide (0 < i) = true := decide_eq_true (by omega)
                    have hi1 : i - 1 < rows.length := by have := HIL.out; omega
                    obtain ⟨p0, p1, -⟩ := HROW.out _ HBBA.out (i - 1) hi1
                    obtain ⟨p, hpe⟩ : ∃ p, p = crAt rows (i - 1) := ⟨_, rfl⟩
                    have HP := hid hpe
                    rw [← hpe] at p0 p1
                    have i1 : (((i : Int) - 1).toNat) = i - 1 := by omega
                    have H0 := hid h0
                    clear hpe h0 hi1

                    by_cases q1 : x.time < p.time
                    · have q1' : decide (x.time < p.time) = true := decide_eq_true q1
                      have HF := hid (HFALSE.out i HIL.out (fun h => by have h2 := h.2.1 (by have := H0.out; omega); rw [← HX.out, ← HP.out] at h2; omega))
                      clear HSTEP HNEW
                      go_wp2
                      go_quiet (fail)
                      go_wp2
                      go_ret
                      exact ⟨by rw [HF.out]; rfl, BELW.out.trans ((BELN.out _).mono BELW.out.size)⟩
                    · have q1' : decide (x.time < p.time) = false := decide_eq_false q1
                      by_cases q2 : x.time = p.time
                      · have q2' : (x.time == p.time) = true := by simp [q2]
                        have Q2 := hid q2
                        clear q2
                        by_cases q3 : x.seq < p.seq
                        · have q3' : decide (x.seq < p.seq) = true := decide_eq_true q3
                          have HF := hid (HFALSE.out i HIL.out (fun h => by have h2 := h.2.1 (by have := H0.out; omega); rw [← HX.out, ← HP.out] at h2; have := Q2.out; omega))
                          clear HSTEP HNEW
                          go_wp2
                          go_quiet (fail)
                          go_wp2
                          go_ret
                          exact ⟨by rw [HF.out]; rfl, BELW.out.trans ((BELN.out _).mono BELW.out.size)⟩
                        · have q3' : decide (x.seq < p.seq) = false := decide_eq_false q3
                          have q4 : p.seq ≠ x.seq := by rw [HP.out]; exact HNEW.out (i - 1) (by have := H0.out; omega)
                          have HOKI : Hid (okAt rows i) := hid ⟨by rw [← HX.out]; exact ⟨⟨k1, k2⟩, ⟨k3, k4⟩, k5⟩, fun _ => by rw [← HX.out, ← HP.out]; right; have := Q2.out; omega, fun k hk => by rw [← HX.out]; exact HNEW.out k hk⟩
                          clear HNEW
                          go_wp2
                          go_quiet (fail)
                          go_wp2
                          go_roundw
                          case rel => exact ⟨i + 1, n + 1, _, by go_num, hid ⟨HIL.out, by have := hi.out.2; omega⟩, hid (HG.out _).2.1, hid (HSTEP.out HOKI.out x.seq (by rw [HX.out])), hid (Tch.below (BELN.out _) (HG.out _).2.2 (fun j e => by rw [e]; exact Nat.le_refl _) (BELN.out _).size)⟩
                          case measure => have := HIL.out; simp [intOf]; omega
                      · have q2' : (x.time == p.time) = false := by simpa using q2
                        have HOKI : Hid (okAt rows i) := hid ⟨by rw [← HX.out]; exact ⟨⟨k1, k2⟩, ⟨k3, k4⟩, k5⟩, fun _ => by rw [← HX.out, ← HP.out]; left; omega, fun k hk => by rw [← HX.out]; exact HNEW.out k hk⟩
                        clear HNEW
                        go_wp2
                        go_quiet (fail)
                        go_wp2
                        go_roundw
                        case rel => exact ⟨i + 1, n + 1, _, by go_num, hid ⟨HIL.out, by have := hi.out.2; omega⟩, hid (HG.out _).2.1, hid (HSTEP.out HOKI.out x.seq (by rw [HX.out])), hid (Tch.below (BELN.out _) (HG.out _).2.2 (fun j e => by rw [e]; exact Nat.le_refl _) (BELN.out _).size)⟩
                        case measure => have := HIL.out; simp [intOf]; omega
                · obtain ⟨k, hk, hke⟩ := hseen.1 rfl
                  have HF := hid (HFALSE.out i HIL.out (fun h => h.2.2 k hk (by rw [← HX.out]; exact hke)))
                  clear HSTEP hke
                  go_wp2
                  go_ret
                  exact ⟨by rw [HF.out]; rfl, BELW.out.trans (BEL.out.mono BELW.out.size)⟩
              · have k5' : (1024 : Int) < (x.line.length : Int) := by omega
                have HF := hid (HFALSE.out i HIL.out (fun h => by have h1 := h.1; rw [← HX.out] at h1; exact k5 h1.2.2))
                clear HSTEP 
                go_wp2
                go_ret
                exact ⟨by rw [HF.out]; rfl, BELW.out.trans (BEL.out.mono BELW.out.size)⟩
            · skip
              have HF := hid (HFALSE.out i HIL.out (fun h => by have h1 := h.1; rw [← HX.out] at h1; exact k4 h1.2.1.2))
              clear HSTEP 
              go_wp2
              go_ret
              exact ⟨by rw [HF.out]; rfl, BELW.out.trans (BEL.out.mono BELW.out.size)⟩
          · skip
            have HF := hid (HFALSE.out i HIL.out (fun h => by have h1 := h.1; rw [← HX.out] at h1; exact k3 h1.2.1.1))
            clear HSTEP 
            go_wp2
            go_ret
            exact ⟨by rw [HF.out]; rfl, BELW.out.trans (BEL.out.mono BELW.out.size)⟩
        · skip
          have HF := hid (HFALSE.out i HIL.out (fun h => by have h1 := h.1; rw [← HX.out] at h1; exact k2 h1.1.2))
          clear HSTEP 
          go_wp2
          go_ret
          exact ⟨by rw [HF.out]; rfl, BELW.out.trans (BEL.out.mono BELW.out.size)⟩
      · skip
        have HF := hid (HFALSE.out i HIL.out (fun h => by have h1 := h.1; rw [← HX.out] at h1; exact k1 h1.1.1))
        clear HSTEP 
        go_wp2
        go_ret
        exact ⟨by rw [HF.out]; rfl, BELW.out.trans (BEL.out.mono BELW.out.size)⟩
    · have hii : ¬ (i : Int) < (rows.length : Int) := by omega
      have HT := hid (HTRUE.out (fun j hj => HOK.out.2 j (by omega)))
      have BEL : Hid (Below w.heap.size w wr) := hid ((HB0.out.trans (HB1.out.mono HB0.out.size)).trans (HW.out.mono (Nat.le_trans HB0.out.size HB1.out.size)))
      clear bb hil
      go_wp2
      go_ret
      exact ⟨by rw [HT.out]; rfl, BEL.out⟩
theorem R4Right_is (labs : List Lab) (rows : List CRow) (A A2 : Option Addr) (C C2 : Nat) (w : World) (hL : RdL w (.slice A labs.length C) labs) (hR : KRr.Rd w (.slice A2 rows.length C2) rows) (hlz : labs.length * 32 ≤ 140737488351232) (hls : ∀ y ∈ labs, y.1.length ≤ 9223372036854775807 ∧ y.2.length ≤ 9223372036854775807) :
    Calls Tryd.prog 13 #[.agg #[.slice A labs.length C, .slice A2 rows.length C2]] w fun e w' => e = .returned (.bool (chR labs rows)) ∧ Below w.heap.size w w' := by
  by_cases h : 1 ≤ rows.length ∧ rows.length ≤ 1000
  · cases hr : rightS labs
    · exact R4Right_lab labs rows A A2 C C2 w hL hlz hls h.1 h.2 hr
    · exact R4Right_yes labs rows A A2 C C2 w hL hR hlz hls h.1 h.2 hr
  · exact R4Right_few labs rows A A2 C C2 w h
end Go.Proofs.YtaoeabnpmpimgaaDoor
end
