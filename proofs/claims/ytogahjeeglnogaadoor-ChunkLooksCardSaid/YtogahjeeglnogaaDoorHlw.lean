/-
  Labels that are spoilt. Conditions: those that each theorem names.
  What the law's Same of chunks answers where both read as the same. Conditions: the chunks can be read; sizes as each theorem names.
  The bounds of any chunk, and its entries of any times: the law's walk. Conditions: those that each theorem names.
-/
import Derived.Test.YtogahjeeglnogaaDoorHbt
import Derived.BigQuiet
import Derived.Deep.QuietTactic
import Derived.Test.YtogahjeeglnogaaDoorHrb
section
namespace Go.Icz
open Go.RowKit
theorem Tch.trans' {S T : Nat → Prop} {a b c : World} (h : Tch S a b) (k : Tch T b c) (hT : ∀ j, T j → S j) : Tch S a c := h.trans (k.mono hT)
/-- The entry's labels lie in a block of the call's own. -/
def LbB (w : World) (B : Nat) (x : EV) : Prop := x.1.labs = [] ∨ ∃ g cap cur, x.2 = (some ⟨g, 0, none⟩, cap) ∧ w.heap[g]? = some (.cells cur 58 (0, 0)) ∧ cur.size = cap * 2 ∧ x.1.labs.length ≤ cap ∧ B ≤ g
theorem LbB.of {w : World} {B : Nat} {x : EV} (h : OwnL w B (lbV x) x.1.labs) : LbB w B x := by
  rcases h.2 with ⟨_, hn⟩ | ⟨g, cap, cur, hv, hg, hh, hnc, _, hcs, _⟩
  · exact .inl (List.eq_nil_of_length_eq_zero hn)
  · injection hv with e1 e2 e3
    exact .inr ⟨g, cap, cur, Prod.ext e1 e3, hh, hcs, hnc, hg⟩
theorem LbB.set {w : World} {B : Nat} {x : EV} (h : LbB w B x) (g i : Nat) (u : Value) : LbB (w.setCell ⟨g, i, none⟩ u) B x := by
  rcases h with h | ⟨g', cap, cur, hv, hh, hcs, hnc, hg⟩
  · exact .inl h
  · right
    by_cases e : g' = g
    · subst e
      exact ⟨g', cap, _, hv, row_set hh u, by simpa using hcs, hnc, hg⟩
    · exact ⟨g', cap, cur, hv, row_far hh u e, hcs, hnc, hg⟩
/-- Blocks of labels from B on. -/
def isLab (w : World) (B k : Nat) : Prop := B ≤ k ∧ ∃ cur, w.heap[k]? = some (.cells cur 58 (0, 0))
/-- What has turned are labels from B on. -/
structure LT (B : Nat) (w w' : World) : Prop where
  tch : Tch (isLab w B) w w'
  keep : ∀ k cur, B ≤ k → w.heap[k]? = some (.cells cur 58 (0, 0)) → ∃ cur', w'.heap[k]? = some (.cells cur' 58 (0, 0)) ∧ cur'.size = cur.size
theorem LT.refl (B : Nat) (w : World) : LT B w w := ⟨Tch.refl _ w, fun _ cur _ h => ⟨cur, h, rfl⟩⟩
theorem LT.set {B : Nat} {w w' : World} (h : LT B w w') {g : Nat} (hg : isLab w B g) (i : Nat) (u : Value) : LT B w (w'.setCell ⟨g, i, none⟩ u) := by
  refine ⟨h.tch.trans' (Tch.set (· = g) w' ⟨g, i, none⟩ u rfl) (fun k e => by rw [e]; exact hg), fun k cur hB hk => ?_⟩
  obtain ⟨cur', hc, hs⟩ := h.keep k cur hB hk
  by_cases e : k = g
  · subst e
    exact ⟨_, row_set hc u, by simpa using hs⟩
  · exact ⟨cur', row_far hc u e, hs⟩
theorem LT.below {B : Nat} {w w' : World} (h : LT B w w') (hB : B ≤ w.heap.size) : Below B w w' := Tch.below (Below.refl B w) h.tch (fun j hj => hj.1) hB
end Go.Icz
namespace Go.Proofs.YtogahjeeglnogaaDoor
open Go.RowKit Go.Icz
def SzE (l : List EV) : Prop := l.length ≤ 1099511627776 ∧ ∀ x ∈ l, x.1.labs.length ≤ 1099511627776
theorem Rd4 {w : World} {A : Option Addr} {n c : Nat} {l : List EV} (h : KEv.Rd w (.slice A n c) l) {j : Nat} (hj : j < l.length) : ∃ b off, A = some ⟨b, off, none⟩ ∧ b < w.heap.size ∧ w.cell? ⟨b, off + j * 4, none⟩ = some (.int .i64 (l[j]).1.seq) ∧ w.cell? ⟨b, off + j * 4 + 1, none⟩ = some (.int .i64 (l[j]).1.time) ∧ w.cell? ⟨b, off + j * 4 + 2, none⟩ = some (.slice (l[j]).2.1 (l[j]).1.labs.length (l[j]).2.2) ∧ w.cell? ⟨b, off + j * 4 + 3, none⟩ = some (.string ⟨(l[j]).1.line.toArray⟩) := by
  obtain ⟨b, off, hA, hb, hc⟩ := h.at hj
  exact ⟨b, off, hA, hb, hc 0 _ (by decide) rfl, hc 1 _ (by decide) rfl, hc 2 _ (by decide) rfl, hc 3 _ (by decide) rfl⟩
set_option maxHeartbeats 4000000 in
set_option maxRecDepth 100000 in
theorem Spoil_is (v : Value) (B : Nat) (l : List EV) (w : World) (h : OwQ w B v l) (hz : SzE l) :
    Calls Tryd.prog 12 #[v] w fun e w' => e = .returned (.tuple #[]) ∧ LT B w w' := by
  obtain ⟨A, c, rfl, hlc⟩ := h.1.rd.form
  have hlen := hz.1
  have hlb : ∀ x ∈ l, LbB w B x := fun x hx => LbB.of (h.2 x hx)
  have hRd := h.1.rd
  have hEnt : ∀ b off, A = some ⟨b, off, none⟩ → ∃ cur, w.heap[b]? = some (.cells cur 55 (0, 0)) := by
    intro b off e
    rcases h.1.2 with ⟨hv, _⟩ | ⟨g, cap, cur, hv, _, hh, _⟩
    · injection hv with e1; rw [e] at e1; cases e1
    · injection hv with e1
      rw [e] at e1
      injection e1 with e1
      injection e1 with e1
      exact ⟨cur, by rw [e1]; exact hh⟩
  have KC : ∀ wr, LT B w wr → ∀ b off, A = some ⟨b, off, none⟩ → ∀ i, wr.cell? ⟨b, i, none⟩ = w.cell? ⟨b, i, none⟩ := by
    intro wr hw b off e i
    obtain ⟨cur, hc⟩ := hEnt b off e
    exact hw.tch.cell (row_lt hc) (fun hl => by
      obtain ⟨_, cur', hc'⟩ := hl
      rw [hc] at hc'
      injection hc' with hc'
      injection hc' with _ h2 _
      exact absurd h2 (by decide))
  clear h
  go_enter Tryd.func12, Tryd.ntmps12
  go_wp2
  go_loopw [2] (fun iv wr => ∃ i : Nat, iv = .int .i64 i ∧ i ≤ l.length ∧ LT B w wr) (fun iv _ => l.length - (intOf iv).toNat)
  case atStart => exact ⟨0, rfl, by omega, LT.refl _ _⟩
  case round =>
    obtain ⟨i, rfl, hi, hw⟩ := hrel
    by_cases hLt : i < l.length
    · obtain ⟨b, off, hA, hb, _, _, q2, _⟩ := Rd4 hRd hLt
      subst hA
      have hx := hlb _ (List.getElem_mem hLt)
      have hxz := hz.2 _ (List.getElem_mem hLt)
      have KC2 : ∀ wr, LT B w wr → wr.cell? ⟨b, off + i * 4 + 2, none⟩ = some (.slice (l[i]).2.1 (l[i]).1.labs.length (l[i]).2.2) := fun wr hw => (KC wr hw b off rfl _).trans q2
      have hil : (i : Int) < (l.length : Int) := by omega
      have HI := hid hLt
      clear hRd hlb KC hEnt q2 hz
      generalize l[i] = x at *
      go_wp2
      generalize hwr0 : wr = wo at *
      go_loopw [3] (fun kv ws => ∃ k : Nat, kv = .int .i64 k ∧ k ≤ x.1.labs.length ∧ LT B w ws) (fun kv _ => x.1.labs.length - (intOf kv).toNat)
      case atStart => exact ⟨0, rfl, by omega, hw⟩
      case round =>
        obtain ⟨k, rfl, hk, hw2⟩ := hrel
        have c2 := KC2 _ hw2
        by_cases hkl : k < x.1.labs.length
        · rcases hx with hx | ⟨g, cap, cur, hv, hh, hcs, hnc, hg⟩
          · rw [hx] at hkl; simp at hkl
          · have hIs : isLab w B g := ⟨hg, cur, hh⟩
            obtain ⟨x1, xA, xc⟩ := x
            injection hv with e1 e2
            subst e1 e2
            have hkI : (k : Int) < (x1.labs.length : Int) := by simpa using hkl
            have hstore : ∃ u, wr.cell? ⟨g, k * 2 + 1, none⟩ = some u ∧ wr.frozen? ⟨g, k * 2 + 1, none⟩ = false := by
              obtain ⟨cur2, hc2, hs2⟩ := hw2.keep g cur hg hh
              have hlt : k * 2 + 1 < cur2.size := by simp only at hnc; omega
              exact ⟨_, held_cell hc2 (Array.getElem?_eq_getElem hlt), held_frozen hc2⟩
            obtain ⟨u, hu, hfz⟩ := hstore
            have HK := hid hkl
            have hw3 := fun u' => hw2.set hIs (k * 2 + 1) u'
            simp only at c2
            go_wp2
            go_roundw
            case rel => exact ⟨k + 1, by go_num, HK.out, hw3 _⟩
            case measure => have := HK.out; simp [intOf]; simp at this; omega
        · have hke : ¬ (k : Int) < (x.1.labs.length : Int) := by omega
          go_wp2
          go_roundw
          case rel => exact ⟨i + 1, by go_num, HI.out, hw2⟩
          case measure => have := HI.out; simp [intOf]; omega
    · obtain rfl : i = l.length := by omega
      go_wp2
      go_end0
      exact ⟨rfl, hw⟩
end Go.Proofs.YtogahjeeglnogaaDoor
end
section
namespace Go.Proofs.YtogahjeeglnogaaDoor
open Go.RowKit Go.Icz Go.Shelf
attribute [local go_sem] Oper.semAt_some
set_option maxRecDepth 100000
set_option maxHeartbeats 4000000
theorem CSame_refl (labs : List Lab) (rows : List CRow) (A A2 A3 A4 : Option Addr) (C C2 C3 C4 : Nat) (w : World) (h1 : RdL w (.slice A labs.length C) labs) (h2 : KRw.Rd w (.slice A2 rows.length C2) rows) (h3 : RdL w (.slice A3 labs.length C3) labs) (h4 : KRr.Rd w (.slice A4 rows.length C4) rows) (hm : labs.length ≤ 4611686018427387904) (hn : rows.length ≤ 4611686018427387904) :
    Calls Tryd.prog 13 #[.agg #[.slice A labs.length C, .slice A2 rows.length C2], .agg #[.slice A3 labs.length C3, .slice A4 rows.length C4]] w fun e w' => e = .returned (.bool true) ∧ Below w.heap.size w w' := by
  obtain ⟨W0, hW0⟩ : ∃ W0, W0 = (w.alloc (.cells #[.slice A labs.length C, .slice A2 rows.length C2] 28)).alloc (.cells #[.slice A3 labs.length C3, .slice A4 rows.length C4] 25) := ⟨_, rfl⟩
  have b0 : Below w.heap.size w W0 := by rw [hW0]; exact ((Below.refl _ w).alloc (Nat.le_refl _) _).alloc (by simp) _
  have x0 : W0.heap[w.heap.size]? = some (.cells #[.slice A labs.length C, .slice A2 rows.length C2] 28 (0, 0)) := by rw [hW0]; exact heap_alloc2_old w _ _
  have x1 : W0.heap[w.heap.size + 1]? = some (.cells #[.slice A3 labs.length C3, .slice A4 rows.length C4] 25 (0, 0)) := by rw [hW0]; exact heap_alloc2_new w _ _
  have hS := Same_is (.slice A labs.length C) (.slice A3 labs.length C3) labs labs W0 (h1.below b0) (h3.below b0) hm
  rw [decide_eq_true rfl] at hS
  have cells : ∀ wx, Below W0.heap.size W0 wx → wx.cell? ⟨w.heap.size, 1, none⟩ = some (.slice A2 rows.length C2) ∧ wx.cell? ⟨w.heap.size + 1, 1, none⟩ = some (.slice A4 rows.length C4) := fun wx b =>
    ⟨held_cell ((b.block _ (row_lt x0)).trans x0) rfl, held_cell ((b.block _ (row_lt x1)).trans x1) rfl⟩
  have e00 := held_cell (i := 0) x0 rfl
  have e10 := held_cell (i := 0) x1 rfl
  obtain ⟨e01, e11⟩ := cells W0 (Below.refl _ _)
  have HB0 := hid b0
  have HCE := hid cells
  have R2 := hid (h2.below b0)
  have R4 := hid (h4.below b0)
  rw [hW0] at hS e00 e10 e01 e11
  clear x0 x1 h1 h2 h3 h4 b0 cells hm
  go_enter Tryd.func13, Tryd.ntmps13
  go_wp2_with (go_at_call 25; refine hS.mono ?_; rintro e w1 ⟨rfl, b1⟩; clear hS; rw [← hW0] at b1; obtain ⟨e2, e3⟩ := HCE.out w1 b1; clear e00 e10 e01 e11)
  have HB1 := hid b1
  clear b1 e2 e3 hW0
  go_loopw [5] (fun iv wr => ∃ (i : Nat), iv = .int .i64 (i : Int) ∧ Hid (i ≤ rows.length) ∧ Hid (Below W0.heap.size W0 wr)) (fun iv _ => rows.length - (intOf iv).toNat)
  case atStart => exact ⟨0, rfl, hid (Nat.zero_le _), HB1⟩
  case round =>
    obtain ⟨i, rfl, hi, HW⟩ := hrel
    obtain ⟨e2, e3⟩ := HCE.out wr HW.out
    by_cases hil : i < rows.length
    · have hii : (i : Int) < (rows.length : Int) := by omega
      obtain ⟨b, off, c, hv, hb, hc⟩ := (R2.out.below HW.out).ats hil
      obtain ⟨b', off', c', hv', hb', hc'⟩ := (R4.out.below HW.out).ats hil
      injection hv with hv1 _ hv2
      subst hv1
      subst hv2
      injection hv' with hv1' _ hv2'
      subst hv1'
      subst hv2'
      have q0 : wr.cell? ⟨b, off + i * 3, none⟩ = some (.int .i64 rows[i].seq) := hc i hil 0 _ (by decide) rfl
      have q1 : wr.cell? ⟨b, off + i * 3 + 1, none⟩ = some (.int .i64 rows[i].time) := hc i hil 1 _ (by decide) rfl
      have q2 : wr.cell? ⟨b, off + i * 3 + 2, none⟩ = some (.string ⟨rows[i].line.toArray⟩) := hc i hil 2 _ (by decide) rfl
      have p0 : wr.cell? ⟨b', off' + i * 3, none⟩ = some (.int .i64 rows[i].seq) := hc' i hil 0 _ (by decide) rfl
      have p1 : wr.cell? ⟨b', off' + i * 3 + 1, none⟩ = some (.int .i64 rows[i].time) := hc' i hil 1 _ (by decide) rfl
      have p2 : wr.cell? ⟨b', off' + i * 3 + 2, none⟩ = some (.string ⟨rows[i].line.toArray⟩) := hc' i hil 2 _ (by decide) rfl
      have HIL := hid hil
      have hi2 : (i : Int) + 1 ≤ 4611686018427387904 := by omega
      clear hc hc' hb hb'
      generalize rows[i] = x at *
      clear hil
      go_wp2
      go_quiet (fail)
      go_wp2
      go_roundw
      case rel => exact ⟨i + 1, by go_num, HIL, hid ⟨HW.out.os, HW.out.tape, HW.out.output, HW.out.size, HW.out.block⟩⟩
      case measure => have := HIL.out; simp [intOf]; omega
    · have hii : ¬ (i : Int) < (rows.length : Int) := by omega
      clear hil
      go_wp2
      go_ret
      exact ⟨rfl, HB0.out.trans (HW.out.mono HB0.out.size)⟩
end Go.Proofs.YtogahjeeglnogaaDoor
end
section
namespace Go.Proofs.YtogahjeeglnogaaDoor
open Go.RowKit Go.Icz Go.Shelf
attribute [local go_sem] Oper.semAt_some
set_option maxRecDepth 100000
set_option maxHeartbeats 4000000
theorem bet_sz2 {labs : List Lab} {rows : List CRow} {fr til : Int} : (betC labs rows fr til).length ≤ 1000 ∧ ∀ x ∈ betC labs rows fr til, x.labs.length ≤ 16 := by
  refine ⟨bet_sz.1, fun x hx => ?_⟩
  unfold betC at hx
  cases hf : chR labs rows
  · rw [hf] at hx
    cases hx
  · rw [hf, if_pos rfl] at hx
    obtain ⟨y, _, rfl⟩ := List.mem_map.1 hx
    exact (right_lens ((chR_iff labs rows).1 hf).2.1).1
theorem looks_walk (labs : List Lab) (rows : List CRow) (A A2 : Option Addr) (C C2 : Nat) (fr til : Int) (w : World) (hL : RdL w (.slice A labs.length C) labs) (hR : KRr.Rd w (.slice A2 rows.length C2) rows) (hlz : labs.length * 32 ≤ 140737488351232) (hrz : rows.length * 32 ≤ 140737488351232) (hls : ∀ y ∈ labs, y.1.length ≤ 9223372036854775807 ∧ y.2.length ≤ 9223372036854775807) (hz : ∀ x ∈ rows, entZ (entC labs x)) (hT : Tabs w) :
    Calls Tryd.prog 3 #[.agg #[.slice A labs.length C, .slice A2 rows.length C2], .int .i64 fr, .int .i64 til] w fun e w' => e = .returned (.bool true) ∧ Below w.heap.size w w' := by
  obtain ⟨W0, hW0⟩ : ∃ W0, W0 = w.alloc (.cells #[.slice A labs.length C, .slice A2 rows.length C2] 25) := ⟨_, rfl⟩
  have b0 : Below w.heap.size w W0 := by rw [hW0]; exact (Below.refl _ w).alloc (Nat.le_refl _) _
  have x0 : W0.heap[w.heap.size]? = some (.cells #[.slice A labs.length C, .slice A2 rows.length C2] 25 (0, 0)) := by rw [hW0]; exact heap_alloc_new w _
  have hO := COwn_is labs rows A A2 C C2 _ (hL.below b0) (hR.below b0) hlz hrz
  unfold ChOut at hO
  have cl0 : ∀ wx, Below W0.heap.size W0 wx → wx.cell? ⟨w.heap.size, 0, none⟩ = some (.slice A labs.length C) ∧ wx.cell? ⟨w.heap.size, 1, none⟩ = some (.slice A2 rows.length C2) := fun wx bx => by
    have y := (bx.block _ (row_lt x0)).trans x0
    exact ⟨held_cell y rfl, held_cell y rfl⟩
  have hRB := fun wx (bx : Below W0.heap.size W0 wx) => R4Bounds_is labs rows A A2 C C2 wx ((hL.below b0).below bx) ((hR.below b0).below bx) hlz hls
  have hRT := fun wx (bx : Below W0.heap.size W0 wx) => R4Between_is labs rows A A2 C C2 fr til wx ((hL.below b0).below bx) ((hR.below b0).below bx) hlz hls
  have hBt := fun A C A2 C2 wx (hL : RdL wx (.slice A labs.length C) labs) (hR : KRw.Rd wx (.slice A2 rows.length C2) rows) (hT : Tabs wx) => Between_is labs rows A A2 C C2 fr til wx hL hR hT hz (by omega)
  have hBd := fun A C A2 C2 wx (hL : RdL wx (.slice A labs.length C) labs) (hR : KRw.Rd wx (.slice A2 rows.length C2) rows) (hT : Tabs wx) => Bounds_is labs rows A A2 C C2 wx hL hR hT hz (by omega)
  have hSm := fun A C A2 C2 A3 C3 A4 C4 wx h1 h2 h3 h4 => CSame_refl labs rows A A2 A3 A4 C C2 C3 C4 wx h1 h2 h3 h4 (by omega) (by omega)
  unfold BetOut at hBt hRT
  have HRB := hid hRB
  have HRT := hid hRT
  have HBT := hid hBt
  have HBD := hid hBd
  have HSM := hid hSm
  have HT := hid (hT.below b0)
  have HB0 := hid b0
  have HCL0 := hid cl0
  have HL0 := hid (hL.below b0)
  have HR0 := hid (hR.below b0)
  have HSZ : Hid ((betC labs rows fr til).length ≤ 1000 ∧ ∀ x ∈ betC labs rows fr til, x.labs.length ≤ 16) := hid bet_sz2
  obtain ⟨e0, e1⟩ := cl0 W0 (Below.refl _ _)
  rw [hW0] at hO e0 e1
  clear hT hL hR hlz hrz hls hz hBt hBd hSm hRB hRT b0 x0 cl0
  go_enter Tryd.func3, Tryd.ntmps3
  go_upto_region 2 with (first
    | (go_at_call 6; refine hO.mono ?_; rintro e w1 ⟨A1, c1, A3, c3, rfl, o1, o3, b1⟩; clear hO e0 e1; rw [← hW0] at b1 o1 o3))
  clear hW0
  obtain ⟨W1, hW1⟩ : ∃ W1, W1 = w1.alloc (.cells #[.slice A1 labs.length c1, .slice A3 rows.length c3] 28) := ⟨_, rfl⟩
  have b2 : Below w1.heap.size w1 W1 := by rw [hW1]; exact (Below.refl _ w1).alloc (Nat.le_refl _) _
  have x2 : W1.heap[w1.heap.size]? = some (.cells #[.slice A1 labs.length c1, .slice A3 rows.length c3] 28 (0, 0)) := by rw [hW1]; exact heap_alloc_new w1 _
  have r1 := o1.rd.below b2
  have r3 := o3.rd.below b2
  have b01 : Below W0.heap.size W0 W1 := b1.trans (b2.mono b1.size)
  have t1 := HT.out.below b01
  have fact : ∀ wx, Below W1.heap.size W1 wx → (wx.cell? ⟨w.heap.size, 0, none⟩ = some (.slice A labs.length C) ∧ wx.cell? ⟨w.heap.size, 1, none⟩ = some (.slice A2 rows.length C2) ∧ wx.cell? ⟨w1.heap.size, 0, none⟩ = some (.slice A1 labs.length c1) ∧ wx.cell? ⟨w1.heap.size, 1, none⟩ = some (.slice A3 rows.length c3)) ∧ RdL wx (.slice A1 labs.length c1) labs ∧ KRw.Rd wx (.slice A3 rows.length c3) rows ∧ Tabs wx ∧ Below W0.heap.size W0 wx := fun wx bx => by
    have b' := b01.trans (bx.mono b01.size)
    have y := (bx.block _ (row_lt x2)).trans x2
    exact ⟨⟨(HCL0.out wx b').1, (HCL0.out wx b').2, held_cell y rfl, held_cell y rfl⟩, r1.below bx, r3.below bx, t1.below bx, b'⟩
  have FA := hid fact
  have BW1 := hid (HB0.out.trans (b01.mono HB0.out.size))
  obtain ⟨⟨f0, f1, f2, f3⟩, rl1, rr1, tt1, bb1⟩ := fact W1 (Below.refl _ _)
  have hB1 := HBD.out A1 c1 A3 c3 W1 rl1 rr1 tt1
  clear x2 r1 r3 b01 t1 fact b2 b1 o1 o3 rl1 rr1 tt1 bb1
  rw [← hW1]
  clear hW1
  unfold bndV at hB1
  have HRB2 := HRB.out
  unfold bndV at HRB2
  have HRB3 := hid HRB2
  clear HRB HRB2
  obtain ⟨⟨ba, bb, bc, bd⟩, hbn⟩ : ∃ q : Int × Int × Int × Int, q = bndC labs rows := ⟨_, rfl⟩
  rw [← hbn] at hB1 HRB3
  clear hbn
  try simp only at hB1
  have ST : ∀ wa wb : World, Hid (Below W1.heap.size W1 wa) → Below wa.heap.size wa wb → Hid (Below W1.heap.size W1 wb) := fun wa wb h k => hid (h.out.trans (k.mono h.out.size))
  have HST := hid ST
  clear ST
  have H1 : Hid (Below W1.heap.size W1 W1) := hid (Below.refl _ _)
  go_upto_region 3 with (first
    | (go_at_call 7; refine hB1.mono ?_; rintro e w2 ⟨rfl, b2⟩; have H2 := HST.out _ _ H1 b2; clear b2 hB1))
  obtain ⟨⟨g0, g1, g2, g3⟩, rl2, rr2, tt2, bb2⟩ := FA.out w2 H2.out
  have hB2 := HRB3.out w2 bb2
  try simp only at hB2
  clear f0 f1 f2 f3 rl2 rr2 tt2 bb2
  go_upto_region 4 with (first
    | (go_at_call 8; refine hB2.mono ?_; rintro e w3 ⟨rfl, b3⟩; have H3 := HST.out _ _ H2 b3; clear b3 hB2))
  obtain ⟨⟨h0, h1, h2, h3⟩, rl3, rr3, tt3, bb3⟩ := FA.out w3 H3.out
  have hB3 := HBT.out A1 c1 A3 c3 w3 rl3 rr3 tt3
  clear g0 g1 g2 g3 rl3 rr3 tt3 bb3
  go_upto_region 5 with (first
    | (go_at_call 9; refine hB3.mono ?_; rintro e w4 ⟨v4, m4, rfl, o4, hm4, b4⟩; have H4 := HST.out _ _ H3 b4; clear hB3))
  obtain ⟨⟨i0, i1, i2, i3⟩, rl4, rr4, tt4, bb4⟩ := FA.out w4 H4.out
  have hB4 := HRT.out w4 bb4
  have HM4 := hid hm4
  have HO4 := hid o4
  have HB4 := hid b4
  obtain ⟨A4, c4, rfl, _⟩ := o4.1.rd.form
  clear h0 h1 h2 h3 rl4 rr4 tt4 bb4 hm4 o4 b4
  go_upto_region 6 with (first
    | (go_at_call 11; refine hB4.mono ?_; rintro e w5 ⟨v5, m5, rfl, o5, hm5, b5⟩; have H5 := HST.out _ _ H4 b5; have Z5 := hid b5.size; have q4 : RdE w5 (.slice A4 m4.length c4) (betC labs rows fr til) := (by have h9 := (HO4.out.rd.below b5).rde; rw [HM4.out] at h9; exact h9); have q5 : RdE w5 v5 (betC labs rows fr til) := (by have h9 := o5.rd.rde; rw [hm5] at h9; exact h9); have O5 := hid (HO4.out.below b5); clear hB4 b5 o5 hm5)
    | (go_at_call 10; refine (ESames_refl _ v5 (betC labs rows fr til) _ q4 q5 (fun x hx => by have := HSZ.out.2 x hx; omega) (by have := HSZ.out.1; omega)).mono ?_; rintro e w6 ⟨rfl, b6⟩; have H6 := HST.out _ _ H5 b6; have Z6 := hid b6.size; have O6 := hid (O5.out.below b6); clear q4 q5 b6))
  have hsz : SzE m4 := by
    have hl : m4.length = (betC labs rows fr til).length := by rw [← HM4.out, List.length_map]
    refine ⟨by have := HSZ.out.1; omega, fun x hx => ?_⟩
    have := HSZ.out.2 x.1 (by rw [← HM4.out]; exact List.mem_map_of_mem hx)
    omega
  have hSp := Spoil_is _ _ m4 w6 O6.out hsz
  have z3 : w3.heap.size ≤ w6.heap.size := by
    have := HB4.out.size
    have := Z5.out
    have := Z6.out
    omega
  clear i0 i1 i2 i3 hsz
  go_upto_region 7 with (first
    | (go_at_call 12; go_loud (refine hSp.mono ?_; rintro e w7 ⟨rfl, lt7⟩; have b67 := lt7.below z3; clear hSp lt7)))
  have H7 : Hid (Below W1.heap.size W1 w7) := hid (H6.out.trans (b67.mono H3.out.size))
  obtain ⟨⟨j0, j1, j2, j3⟩, rl7, rr7, tt7, bb7⟩ := FA.out w7 H7.out
  have hS7 := HSM.out A1 c1 A3 c3 A C A2 C2 w7 rl7 rr7 (HL0.out.below bb7) (HR0.out.below bb7)
  clear b67 rl7 rr7 tt7 bb7
  go_wp2_with (first
    | (go_at_call 13; refine hS7.mono ?_; rintro e w8 ⟨rfl, b8⟩; have H8 := HST.out _ _ H7 b8; clear hS7 b8)
    | (go_at_call 14; refine (knows4_is _ (FA.out _ H8.out).2.2.2.1).mono ?_; rintro e w9 ⟨rfl, b9⟩; have H9 := HST.out _ _ H8 b9; clear b9))
  go_ret
  exact ⟨rfl, BW1.out.trans (H9.out.mono BW1.out.size)⟩
end Go.Proofs.YtogahjeeglnogaaDoor
end
