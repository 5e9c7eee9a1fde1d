/-
  What the law's Same of chunks answers where both read as the same. Conditions: the chunks can be read; sizes as each theorem names.
  Labels that are spoilt. Conditions: those that each theorem names.
-/
import Derived.Test.YtogahjeeglnogaaDoorHbt
import Derived.BigQuiet
import Derived.Deep.QuietTactic
section
namespace Go.Proofs.YtogahjeeglnogaaDoor
open Go.RowKit Go.Icz Go.Shelf
attribute [local go_sem] Oper.semAt_some
set_option maxRecDepth 100000
set_option maxHeartbeats 4000000
theorem CSame_refl (labs : List Lab) (rows : List CRow) (A A2 A3 A4 : Option Addr) (C C2 C3 C4 : Nat) (w : World) (h1 : RdL w (.slice A labs.length C) labs) (h2 : KRw.Rd w (.slice A2 rows.length C2) rows) (h3 : RdL w (.slice A3 labs.length C3) labs) (h4 : KRr.Rd w (.slice A4 rows.length C4) rows) (hm : labs.length ≤ 4611686018427387904) (hn : rows.length ≤ 4611686018427387904) :
    Calls Tryd.prog 13 #[.agg #[.slice A labs.length C, .slice A2 rows.length C2], .agg #[.slice A3 labs.length C3, .slice A4 rows.length C4]] w fun e w' => e = .returned (.bool true) ∧ Below w.heap.size w w' := by
  obtain ⟨W0, hW0⟩ : ∃ W0, W0 = (w.alloc (.cells #[.slice A labs.length C, .slice A2 rows.length C2] 28)).alloc (.cells #[.slice A3 labs.length C3, .slice A4 rows.length C4] 25) := ⟨_, rfl⟩
  have b0 : Below w.heap.size w W0 := by rw [hW0]; exact ((Below.refl _ w).alloc (Nat.le_refl _) _).alloc (by simp) _
  have x0 : W0.heap[w.heap.size]? = some (.cells #[.slice A labs.length C, .slice A2 rows.length C2] 28 (0, 0)) := by rw [hW0]; exact heap_alloc2_old w _ _
  have x1 : W0.heap[w.heap.size + 1]? = some (.cells #[.slice A3 labs.length C3, .slice A4 rows.length C4] 25 (0, 0)) := by rw [hW0]; exact heap_alloc2_new w _ _
  have hS := Same_is (.slice A labs.length C) (.slice A3 labs.length C3) labs labs W0 (h1.below b0) (h3.below b0) hm
  rw [decide_eq_true rfl] at hS
  have cells : ∀ wx, Below W0.heap.size W0 wx → wx.cell? ⟨w.heap.size, 1, none⟩ = some (.slice A2 rows.length C2) ∧ wx.cell? ⟨w.heap.size + 1, 1, none⟩ = some (.slice A4 rows.length C4) := fun wx b =>
    ⟨held_cell ((b.block _ (row_lt x0)).trans x0) rfl, held_cell ((b.block _ (row_lt x1)).trans x1) rfl⟩
  have e00 := held_cell (i := 0) x0 rfl
  have e10 := held_cell (i := 0) x1 rfl
  obtain ⟨e01, e11⟩ := cells W0 (Below.refl _ _)
  have HB0 := hid b0
  have HCE := hid cells
  have R2 := hid (h2.below b0)
  have R4 := hid (h4.below b0)
  rw [hW0] at hS e00 e10 e01 e11
  clear x0 x1 h1 h2 h3 h4 b0 cells hm
  go_enter Tryd.func13, Tryd.ntmps13
  go_wp2_with (go_at_call 25; refine hS.mono ?_; rintro e w1 ⟨rfl, b1⟩; clear hS; rw [← hW0] at b1; obtain ⟨e2, e3⟩ := HCE.out w1 b1; clear e00 e10 e01 e11)
  have HB1 := hid b1
  clear b1 e2 e3 hW0
  go_loopw [5] (fun iv wr => ∃ (i : Nat), iv = .int .i64 (i : Int) ∧ Hid (i ≤ rows.length) ∧ Hid (Below W0.heap.size W0 wr)) (fun iv _ => rows.length - (intOf iv).toNat)
  case atStart => exact ⟨0, rfl, hid (Nat.zero_le _), HB1⟩
  case round =>
    obtain ⟨i, rfl, hi, HW⟩ := hrel
    obtain ⟨e2, e3⟩ := HCE.out wr HW.out
    by_cases hil : i < rows.length
    · have hii : (i : Int) < (rows.length : Int) := by omega
      obtain ⟨b, off, c, hv, hb, hc⟩ := (R2.out.below HW.out).ats hil
      obtain ⟨b', off', c', hv', hb', hc'⟩ := (R4.out.below HW.out).ats hil
      injection hv with hv1 _ hv2
      subst hv1
      subst hv2
      injection hv' with hv1' _ hv2'
      subst hv1'
      subst hv2'
      have q0 : wr.cell? ⟨b, off + i * 3, none⟩ = some (.int .i64 rows[i].seq) := hc i hil 0 _ (by decide) rfl
      have q1 : wr.cell? ⟨b, off + i * 3 + 1, none⟩ = some (.int .i64 rows[i].time) := hc i hil 1 _ (by decide) rfl
      have q2 : wr.cell? ⟨b, off + i * 3 + 2, none⟩ = some (.string ⟨rows[i].line.toArray⟩) := hc i hil 2 _ (by decide) rfl
      have p0 : wr.cell? ⟨b', off' + i * 3, none⟩ = some (.int .i64 rows[i].seq) := hc' i hil 0 _ (by decide) rfl
      have p1 : wr.cell? ⟨b', off' + i * 3 + 1, none⟩ = some (.int .i64 rows[i].time) := hc' i hil 1 _ (by decide) rfl
      have p2 : wr.cell? ⟨b', off' + i * 3 + 2, none⟩ = some (.string ⟨rows[i].line.toArray⟩) := hc' i hil 2 _ (by decide) rfl
      have HIL := hid hil
      have hi2 : (i : Int) + 1 ≤ 4611686018427387904 := by omega
      clear hc hc' hb hb'
      generalize rows[i] = x at *
      clear hil
      go_wp2
      go_quiet (fail)
      go_wp2
      go_roundw
      case rel => exact ⟨i + 1, by go_num, HIL, hid ⟨HW.out.os, HW.out.tape, HW.out.output, HW.out.size, HW.out.block⟩⟩
      case measure => have := HIL.out; simp [intOf]; omega
    · have hii : ¬ (i : Int) < (rows.length : Int) := by omega
      clear hil
      go_wp2
      go_ret
      exact ⟨rfl, HB0.out.trans (HW.out.mono HB0.out.size)⟩
end Go.Proofs.YtogahjeeglnogaaDoor
end
section
namespace Go.Icz
open Go.RowKit
theorem Tch.trans' {S T : Nat → Prop} {a b c : World} (h : Tch S a b) (k : Tch T b c) (hT : ∀ j, T j → S j) : Tch S a c := h.trans (k.mono hT)
/-- The entry's labels lie in a block of the call's own. -/
def LbB (w : World) (B : Nat) (x : EV) : Prop := x.1.labs = [] ∨ ∃ g cap cur, x.2 = (some ⟨g, 0, none⟩, cap) ∧ w.heap[g]? = some (.cells cur 58 (0, 0)) ∧ cur.size = cap * 2 ∧ x.1.labs.length ≤ cap ∧ B ≤ g
theorem LbB.of {w : World} {B : Nat} {x : EV} (h : OwnL w B (lbV x) x.1.labs) : LbB w B x := by
  rcases h.2 with ⟨_, hn⟩ | ⟨g, cap, cur, hv, hg, hh, hnc, _, hcs, _⟩
  · exact .inl (List.eq_nil_of_length_eq_zero hn)
  · injection hv with e1 e2 e3
    exact .inr ⟨g, cap, cur, Prod.ext e1 e3, hh, hcs, hnc, hg⟩
theorem LbB.set {w : World} {B : Nat} {x : EV} (h : LbB w B x) (g i : Nat) (u : Value) : LbB (w.setCell ⟨g, i, none⟩ u) B x := by
  rcases h with h | ⟨g', cap, cur, hv, hh, hcs, hnc, hg⟩
  · exact .inl h
  · right
    by_cases e : g' = g
    · subst e
      exact ⟨g', cap, _, hv, row_set hh u, by simpa using hcs, hnc, hg⟩
    · exact ⟨g', cap, cur, hv, row_far hh u e, hcs, hnc, hg⟩
/-- Blocks of labels from B on. -/
def isLab (w : World) (B k : Nat) : Prop := B ≤ k ∧ ∃ cur, w.heap[k]? = some (.cells cur 58 (0, 0))
/-- What has turned are labels from B on. -/
structure LT (B : Nat) (w w' : World) : Prop where
  tch : Tch (isLab w B) w w'
  keep : ∀ k cur, B ≤ k → w.heap[k]? = some (.cells cur 58 (0, 0)) → ∃ cur', w'.heap[k]? = some (.cells cur' 58 (0, 0)) ∧ cur'.size = cur.size
theorem LT.refl (B : Nat) (w : World) : LT B w w := ⟨Tch.refl _ w, fun _ cur _ h => ⟨cur, h, rfl⟩⟩
theorem LT.set {B : Nat} {w w' : World} (h : LT B w w') {g : Nat} (hg : isLab w B g) (i : Nat) (u : Value) : LT B w (w'.setCell ⟨g, i, none⟩ u) := by
  refine ⟨h.tch.trans' (Tch.set (· = g) w' ⟨g, i, none⟩ u rfl) (fun k e => by rw [e]; exact hg), fun k cur hB hk => ?_⟩
  obtain ⟨cur', hc, hs⟩ := h.keep k cur hB hk
  by_cases e : k = g
  · subst e
    exact ⟨_, row_set hc u, by simpa using hs⟩
  · exact ⟨cur', row_far hc u e, hs⟩
theorem LT.below {B : Nat} {w w' : World} (h : LT B w w') (hB : B ≤ w.heap.size) : Below B w w' := Tch.below (Below.refl B w) h.tch (fun j hj => hj.1) hB
end Go.Icz
namespace Go.Proofs.YtogahjeeglnogaaDoor
open Go.RowKit Go.Icz
def SzE (l : List EV) : Prop := l.length ≤ 1099511627776 ∧ ∀ x ∈ l, x.1.labs.length ≤ 1099511627776
theorem Rd4 {w : World} {A : Option Addr} {n c : Nat} {l : List EV} (h : KEv.Rd w (.slice A n c) l) {j : Nat} (hj : j < l.length) : ∃ b off, A = some ⟨b, off, none⟩ ∧ b < w.heap.size ∧ w.cell? ⟨b, off + j * 4, none⟩ = some (.int .i64 (l[j]).1.seq) ∧ w.cell? ⟨b, off + j * 4 + 1, none⟩ = some (.int .i64 (l[j]).1.time) ∧ w.cell? ⟨b, off + j * 4 + 2, none⟩ = some (.slice (l[j]).2.1 (l[j]).1.labs.length (l[j]).2.2) ∧ w.cell? ⟨b, off + j * 4 + 3, none⟩ = some (.string ⟨(l[j]).1.line.toArray⟩) := by
  obtain ⟨b, off, hA, hb, hc⟩ := h.at hj
  exact ⟨b, off, hA, hb, hc 0 _ (by decide) rfl, hc 1 _ (by decide) rfl, hc 2 _ (by decide) rfl, hc 3 _ (by decide) rfl⟩
set_option maxHeartbeats 4000000 in
set_option maxRecDepth 100000 in
theorem Spoil_is (v : Value) (B : Nat) (l : List EV) (w : World) (h : OwQ w B v l) (hz : SzE l) :
    Calls Tryd.prog 12 #[v] w fun e w' => e = .returned (.tuple #[]) ∧ LT B w w' := by
  obtain ⟨A, c, rfl, hlc⟩ := h.1.rd.form
  have hlen := hz.1
  have hlb : ∀ x ∈ l, LbB w B x := fun x hx => LbB.of (h.2 x hx)
  have hRd := h.1.rd
  have hEnt : ∀ b off, A = some ⟨b, off, none⟩ → ∃ cur, w.heap[b]? = some (.cells cur 55 (0, 0)) := by
    intro b off e
    rcases h.1.2 with ⟨hv, _⟩ | ⟨g, cap, cur, hv, _, hh, _⟩
    · injection hv with e1; rw [e] at e1; cases e1
    · injection hv with e1
      rw [e] at e1
      injection e1 with e1
      injection e1 with e1
      exact ⟨cur, by rw [e1]; exact hh⟩
  have KC : ∀ wr, LT B w wr → ∀ b off, A = some ⟨b, off, none⟩ → ∀ i, wr.cell? ⟨b, i, none⟩ = w.cell? ⟨b, i, none⟩ := by
    intro wr hw b off e i
    obtain ⟨cur, hc⟩ := hEnt b off e
    exact hw.tch.cell (row_lt hc) (fun hl => by
      obtain ⟨_, cur', hc'⟩ := hl
      rw [hc] at hc'
      injection hc' with hc'
      injection hc' with _ h2 _
      exact absurd h2 (by decide))
  clear h
  go_enter Tryd.func12, Tryd.ntmps12
  go_wp2
  go_loopw [2] (fun iv wr => ∃ i : Nat, iv = .int .i64 i ∧ i ≤ l.length ∧ LT B w wr) (fun iv _ => l.length - (intOf iv).toNat)
  case atStart => exact ⟨0, rfl, by omega, LT.refl _ _⟩
  case round =>
    obtain ⟨i, rfl, hi, hw⟩ := hrel
    by_cases hLt : i < l.length
    · obtain ⟨b, off, hA, hb, _, _, q2, _⟩ := Rd4 hRd hLt
      subst hA
      have hx := hlb _ (List.getElem_mem hLt)
      have hxz := hz.2 _ (List.getElem_mem hLt)
      have KC2 : ∀ wr, LT B w wr → wr.cell? ⟨b, off + i * 4 + 2, none⟩ = some (.slice (l[i]).2.1 (l[i]).1.labs.length (l[i]).2.2) := fun wr hw => (KC wr hw b off rfl _).trans q2
      have hil : (i : Int) < (l.length : Int) := by omega
      have HI := hid hLt
      clear hRd hlb KC hEnt q2 hz
      generalize l[i] = x at *
      go_wp2
      generalize hwr0 : wr = wo at *
      go_loopw [3] (fun kv ws => ∃ k : Nat, kv = .int .i64 k ∧ k ≤ x.1.labs.length ∧ LT B w ws) (fun kv _ => x.1.labs.length - (intOf kv).toNat)
      case atStart => exact ⟨0, rfl, by omega, hw⟩
      case round =>
        obtain ⟨k, rfl, hk, hw2⟩ := hrel
        have c2 := KC2 _ hw2
        by_cases hkl : k < x.1.labs.length
        · rcases hx with hx | ⟨g, cap, cur, hv, hh, hcs, hnc, hg⟩
          · rw [hx] at hkl; simp at hkl
          · have hIs : isLab w B g := ⟨hg, cur, hh⟩
            obtain ⟨x1, xA, xc⟩ := x
            injection hv with e1 e2
            subst e1 e2
            have hkI : (k : Int) < (x1.labs.length : Int) := by simpa using hkl
            have hstore : ∃ u, wr.cell? ⟨g, k * 2 + 1, none⟩ = some u ∧ wr.frozen? ⟨g, k * 2 + 1, none⟩ = false := by
              obtain ⟨cur2, hc2, hs2⟩ := hw2.keep g cur hg hh
              have hlt : k * 2 + 1 < cur2.size := by simp only at hnc; omega
              exact ⟨_, held_cell hc2 (Array.getElem?_eq_getElem hlt), held_frozen hc2⟩
            obtain ⟨u, hu, hfz⟩ := hstore
            have HK := hid hkl
            have hw3 := fun u' => hw2.set hIs (k * 2 + 1) u'
            simp only at c2
            go_wp2
            go_roundw
            case rel => exact ⟨k + 1, by go_num, HK.out, hw3 _⟩
            case measure => have := HK.out; simp [intOf]; simp at this; omega
        · have hke : ¬ (k : Int) < (x.1.labs.length : Int) := by omega
          go_wp2
          go_roundw
          case rel => exact ⟨i + 1, by go_num, HI.out, hw2⟩
          case measure => have := HI.out; simp [intOf]; omega
    · obtain rfl : i = l.length := by omega
      go_wp2
      go_end0
      exact ⟨rfl, hw⟩
end Go.Proofs.YtogahjeeglnogaaDoor
end
