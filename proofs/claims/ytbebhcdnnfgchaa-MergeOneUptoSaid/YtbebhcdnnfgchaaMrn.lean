/-
  The reference's Next. Conditions: those that each theorem names.
-/
import Derived.Test.YtbebhcdnnfgchaaMrf
import Derived.BigRegion
import Derived.BigQuiet
import Derived.Deep.QuietTactic
import Derived.Deep.RegionHeld3
namespace Go.Proofs.Ytbebhcdnnfgchaa
open Go.RowKit Go.Icz Go.Maps
/-- A row of the reference's Iter. -/
theorem RIt.row {W0 w : World} {q m : Nat} {vr : Value} {nb : Bool} {L : List SR} {met : List Int} {sk : Nat} (h : RIt W0 w q m vr nb L met sk) {i : Nat} (hi : i < L.length) :
    ∃ g c, vr = .slice (some ⟨g, 0, none⟩) L.length c ∧ g ≠ q ∧ g ≠ m ∧ W0.heap.size ≤ g ∧ ∀ j (hj : j < L.length), w.cell? ⟨g, j, none⟩ = some (.slice (L[j]).A (L[j]).l.length (L[j]).c) := by
  obtain ⟨g, c, hv, hg, _, _, hc⟩ := h.own.block (by omega)
  have hm := h.mq.2 g (by rw [hv]; rfl)
  refine ⟨g, c, hv, hm.1, hm.2.1, hm.2.2.1, fun j hj => ?_⟩
  have := hc j hj 0 (by decide)
  have e : j * KSl.z + 0 = j := by show j * 1 + 0 = j; omega
  rw [e] at this
  exact this
/-- The first entry of a row that is not empty. -/
theorem RIt.head {W0 w : World} {q m : Nat} {vr : Value} {nb : Bool} {L : List SR} {met : List Int} {sk : Nat} (h : RIt W0 w q m vr nb L met sk) {r : SR} (hr : r ∈ L) {y : EV} {u : List EV} (hl : r.l = y :: u) :
    ∃ b off, r.A = some ⟨b, off, none⟩ ∧ b < W0.heap.size ∧ ∀ w', Below W0.heap.size W0 w' → w'.cell? ⟨b, off, none⟩ = some (.int .i64 y.1.seq) ∧ w'.cell? ⟨b, off + 1, none⟩ = some (.int .i64 y.1.time) ∧ w'.cell? ⟨b, off + 2, none⟩ = some (.slice y.2.1 y.1.labs.length y.2.2) ∧ w'.cell? ⟨b, off + 3, none⟩ = some (.string ⟨y.1.line.toArray⟩) := by
  have hrd := (h.rd r hr).1
  rw [hl] at hrd
  obtain ⟨b, off, hA, hb, hc⟩ := hrd.at (j := 0) (by simp)
  refine ⟨b, off, hA, hb, fun w' hw => ?_⟩
  have k := fun i u hi hu => (hw.cell (p := ⟨b, off + (0 * 4 + i), none⟩) hb).trans (hc i u hi hu)
  simp only [Nat.zero_mul, Nat.zero_add] at k
  exact ⟨k 0 _ (by decide) rfl, k 1 _ (by decide) rfl, k 2 _ (by decide) rfl, k 3 _ (by decide) rfl⟩
/-- What the reference's Next answers. -/
def RNextOut (W0 w : World) (q m : Nat) (vr : Value) (nb : Bool) (S : List EV) (met : List Int) (sk : Nat) (e : Ending) (w' : World) : Prop :=
  Tch (RE q m vr) w w' ∧ match (nx kyV met S).1 with
    | none => e = .returned (.tuple #[.agg zeroE, .bool false]) ∧ ∃ L, RIt W0 w' q m vr nb L met (sk + (nx kyV met S).2) ∧ strm kyV nb (rowsOf L) = []
    | some (x, T) => e = .returned (.tuple #[entV x, .bool true]) ∧ GoodE W0 x ∧ ∃ L, RIt W0 w' q m vr nb L (x.1.seq :: met) (sk + (nx kyV met S).2) ∧ strm kyV nb (rowsOf L) = T
theorem rowsOf_set (L : List SR) (p : Nat) (r : SR) : rowsOf (L.set p r) = (rowsOf L).set p r.l := by unfold rowsOf; rw [List.map_set]
theorem tch_box {S : Nat → Prop} {w w1 : World} {p : Nat} (h : Tch S w w1) (hp : w.heap.size ≤ p) (u0 u1 u2 u3 : Value) : Tch S w ((((w1.setCell ⟨p, 0, none⟩ u0).setCell ⟨p, 1, none⟩ u1).setCell ⟨p, 2, none⟩ u2).setCell ⟨p, 3, none⟩ u3) :=
  Tch.out h ((((Tch.set (· = p) w1 ⟨p, 0, none⟩ u0 rfl).trans (Tch.set _ _ ⟨p, 1, none⟩ u1 rfl)).trans (Tch.set _ _ ⟨p, 2, none⟩ u2 rfl)).trans (Tch.set _ _ ⟨p, 3, none⟩ u3 rfl)) (fun j hj => .inr (by rw [hj]; exact hp))
theorem RIt.box {W0 w1 : World} {p q m : Nat} {vr : Value} {nb : Bool} {L : List SR} {met : List Int} {sk : Nat} (h : RIt W0 w1 q m vr nb L met sk) (hp : ¬ RE q m vr p) (hlo : W0.heap.size ≤ p) (u0 u1 u2 u3 : Value) :
    RIt W0 ((((w1.setCell ⟨p, 0, none⟩ u0).setCell ⟨p, 1, none⟩ u1).setCell ⟨p, 2, none⟩ u2).setCell ⟨p, 3, none⟩ u3) q m vr nb L met sk :=
  h.touch ((((Tch.set (· = p) w1 ⟨p, 0, none⟩ u0 rfl).trans (Tch.set _ _ ⟨p, 1, none⟩ u1 rfl)).trans (Tch.set _ _ ⟨p, 2, none⟩ u2 rfl)).trans (Tch.set _ _ ⟨p, 3, none⟩ u3 rfl)) (fun k e => by rw [e]; exact hp) (fun k e => by rw [e]; exact hlo)
theorem RIt.skip {W0 w : World} {q m : Nat} {vr : Value} {nb : Bool} {L : List SR} {met : List Int} {sk : Nat} (h : RIt W0 w q m vr nb L met sk) (hz : sk + 1 + totR (rowsOf L) ≤ 4398046511104) :
    RIt W0 (w.setCell ⟨q, 3, none⟩ (.int .i64 ((sk : Int) + 1))) q m vr nb L met (sk + 1) := by
  have t := Tch.set (· = q) w ⟨q, 3, none⟩ (.int .i64 ((sk : Int) + 1)) rfl
  have e : ((sk + 1 : Nat) : Int) = (sk : Int) + 1 := by omega
  refine ⟨by rw [e]; exact row_set h.at_ _, h.own.touch t (fun k e1 e2 => (h.mq.2 k e2).1 e1), h.rd, h.mp.touch t (fun e1 => h.mq.1 e1), Tch.below h.bel t (fun k e1 => by rw [e1]; exact h.lo.1) h.bel.size, h.lo, ⟨h.bd.1, hz, h.bd.2.2⟩⟩
theorem RIt.seen {W0 w w' : World} {q m : Nat} {vr : Value} {nb : Bool} {L : List SR} {met : List Int} {sk : Nat} {a : Int} (h : RIt W0 w q m vr nb L met sk) (s : MBo w' m (a :: met)) (t : Tch (· = m) w w') (hz : met.length + 1 + totR (rowsOf L) ≤ 4398046511104) : RIt W0 w' q m vr nb L (a :: met) sk :=
  ⟨t.row h.at_ (fun e => h.mq.1 e.symm), h.own.touch t (fun k e e2 => (h.mq.2 k e2).2.1 e), h.rd, s, Tch.below h.bel t (fun k e => by rw [e]; exact h.lo.2) h.bel.size, h.lo, ⟨h.bd.1, h.bd.2.1, by rw [List.length_cons]; exact hz⟩⟩
set_option maxRecDepth 100000 in
set_option maxHeartbeats 8000000 in
theorem RNext_is {W0 w : World} {q m : Nat} {vr : Value} {nb : Bool} {L0 : List SR} {met : List Int} {sk : Nat} (h : RIt W0 w q m vr nb L0 met sk) :
    Calls Try.prog 17 #[.pointer (some ⟨q, 0, none⟩)] w (RNextOut W0 w q m vr nb (strm kyV nb (rowsOf L0)) met sk) := by
  have hb0 : Below w.heap.size w (w.alloc (.cells zeroE 33)) := (Below.refl _ w).alloc (Nat.le_refl _) _
  have hr0 := heap_alloc_new w (.cells zeroE 33)
  have h0 := h.below hb0
  have hqlt : q < w.heap.size := row_lt h.at_
  have hlo := h.bel.size
  have hRE : ∀ k, RE q m vr k → k < w.heap.size := by
    rintro k (rfl | rfl | hk)
    · exact row_lt h.at_
    · exact h.mp.lt
    · exact (h.own.lt k hk).2
  have hNR : ¬ RE q m vr w.heap.size := fun e => by have := hRE _ e; omega
  clear h
  unfold zeroE at hb0 hr0 h0
  go_enter Try.func17, Try.ntmps17
  go_wp2
  generalize hW1 : w.alloc (.cells #[.int .i64 0, .int .i64 0, .slice none 0 0, .string ⟨#[]⟩] 33) = W1 at *
  generalize hS : strm kyV nb (rowsOf L0) = S at *
  go_loopw [4] (fun _ wr => ∃ (L : List SR) (k : Nat), RIt W0 wr q m vr nb L met (sk + k) ∧ Hid (nx kyV met S = ((nx kyV met (strm kyV nb (rowsOf L))).1, (nx kyV met (strm kyV nb (rowsOf L))).2 + k) ∧ k + (strm kyV nb (rowsOf L)).length = S.length) ∧ wr.heap[w.heap.size]? = some (.cells #[.int .i64 0, .int .i64 0, .slice none 0 0, .string ⟨#[]⟩] 33 (0, 0)) ∧ Tch (RE q m vr) W1 wr) (fun _ wr => (sk + S.length) - (intOf ((wr.cell? ⟨q, 3, none⟩).getD undef)).toNat)
  case atStart => exact ⟨L0, 0, h0, hid (by rw [hS]; exact ⟨by simp, by simp⟩), hr0, Tch.refl _ _⟩
  case round =>
    obtain ⟨L, k, hT, HX, hr, hf⟩ := hrel
    have hLl := hT.bd.1
    go_wp2
    generalize hwo : wr = wo at *
    go_loopw [4, 5] (fun bv iv ws => ∃ i : Nat, bv = .int .i64 (bI kyV nb (rowsOf L) i) ∧ iv = .int .i64 i ∧ i ≤ L.length ∧ Below wo.heap.size wo ws) (fun _ iv _ => L.length - (intOf iv).toNat)
    case atStart => exact ⟨0, rfl, rfl, by omega, Below.refl _ _⟩
    case round =>
      obtain ⟨i, rfl, rfl, hi, hbs⟩ := hrel
      have hT2 := hT.below hbs
      have c0 := held_cell (i := 0) hT2.at_ rfl
      have c1 := held_cell (i := 1) hT2.at_ rfl
      by_cases hLt : i < L.length
      · obtain ⟨g, c, rfl, hgq, hgm, hglo, hrow⟩ := hT2.row hLt
        have ri := hrow i hLt
        have hiI : (i : Int) < (L.length : Int) := by omega
        have HI := hid hLt
        have hRi : (rowsOf L)[i]? = some (L[i]).l := by unfold rowsOf; rw [List.getElem?_map, List.getElem?_eq_getElem hLt]; rfl
        have hmem : L[i] ∈ L := List.getElem_mem hLt
        generalize L[i] = r at ri hRi hmem
        obtain ⟨rA, rc, rl⟩ := r
        simp only at ri hRi
        cases rl with
        | nil =>
          have HB := hid (bI_nil kyV (nb := nb) hRi)
          clear hrow hRi HX hmem
          go_wp2_with fail
          go_quiet (fail)
          go_wp2_with fail
          go_roundw
          case rel => exact ⟨i + 1, by rw [HB.out], by go_num, HI.out, hbs.trans ⟨rfl, rfl, rfl, Nat.le_refl _, fun _ _ => rfl⟩⟩
          case measure => have := HI.out; simp [intOf]; omega
        | cons y u =>
          obtain ⟨b, off, rfl, hb, hcy⟩ := hT2.head hmem (y := y) (u := u) rfl
          rw [List.length_cons] at ri
          have hlen0 : decide ((0 : Int) < ((u.length + 1 : Nat) : Int)) = true := by simp
          have hul : (0 : Int) < (u.length : Int) + 1 := by omega
          rcases hU : bU kyV nb (rowsOf L) i with _ | ⟨x, p⟩
          · have HB := hid (bI_new kyV hRi hU)
            have hB0 : bI kyV nb (rowsOf L) i = -1 := by unfold bI; rw [hU]
            rw [hB0]
            clear hrow hRi HX hmem hU hB0 hcy
            go_wp2_with fail
            go_quiet (fail)
            go_wp2_with fail
            go_roundw
            case rel => exact ⟨i + 1, by rw [HB.out], by go_num, HI.out, hbs.trans ⟨rfl, rfl, rfl, Nat.le_refl _, fun _ _ => rfl⟩⟩
            case measure => have := HI.out; simp [intOf]; omega
          · have hB0 : bI kyV nb (rowsOf L) i = (p : Int) := by unfold bI; rw [hU]
            obtain ⟨x', t, p', hU', hp', hRp, _⟩ := (bU_is kyV nb (rowsOf L) i).resolve_left (by rw [hU]; simp)
            rw [hU] at hU'
            injection hU' with hU'
            injection hU' with e1 e2
            subst e1 e2
            have hpL : p < L.length := by omega
            have rp := hrow p hpL
            have hmemp : L[p] ∈ L := List.getElem_mem hpL
            have hRp2 : (L[p]).l = x :: t := by
              unfold rowsOf at hRp
              rw [List.getElem?_map, List.getElem?_eq_getElem hpL] at hRp
              simpa using hRp
            generalize L[p] = rr at rp hmemp hRp2
            obtain ⟨sA, sc, sl⟩ := rr
            simp only at rp hRp2
            subst hRp2
            obtain ⟨b2, off2, rfl, hb2, hcx⟩ := hT2.head hmemp (y := x) (u := t) rfl
            rw [List.length_cons] at rp
            rw [hB0]
            have hpI : (p : Int) < (L.length : Int) := by omega
            have hp0 : decide ((p : Int) < 0) = false := by simp
            have htl : (0 : Int) < (t.length : Int) + 1 := by omega
            have bel := hT2.bel
            have mkS : ∀ w', Below wr.heap.size wr w' → Below wr.heap.size wr w' ∧ w'.cell? ⟨q, 0, none⟩ = some (.slice (some ⟨g, 0, none⟩) L.length c) ∧ w'.cell? ⟨q, 1, none⟩ = some (.bool nb) ∧ w'.cell? ⟨g, i, none⟩ = some (.slice (some ⟨b, off, none⟩) (u.length + 1) rc) ∧ w'.cell? ⟨g, p, none⟩ = some (.slice (some ⟨b2, off2, none⟩) (t.length + 1) sc) ∧ w'.cell? ⟨b, off, none⟩ = some (.int .i64 y.1.seq) ∧ w'.cell? ⟨b, off + 1, none⟩ = some (.int .i64 y.1.time) ∧ w'.cell? ⟨b, off + 2, none⟩ = some (.slice y.2.1 y.1.labs.length y.2.2) ∧ w'.cell? ⟨b, off + 3, none⟩ = some (.string ⟨y.1.line.toArray⟩) ∧ w'.cell? ⟨b2, off2, none⟩ = some (.int .i64 x.1.seq) ∧ w'.cell? ⟨b2, off2 + 1, none⟩ = some (.int .i64 x.1.time) ∧ w'.cell? ⟨b2, off2 + 2, none⟩ = some (.slice x.2.1 x.1.labs.length x.2.2) ∧ w'.cell? ⟨b2, off2 + 3, none⟩ = some (.string ⟨x.1.line.toArray⟩) := fun w' h => by
              have hq2 := row_lt hT2.at_
              have hg2 : g < wr.heap.size := World.block_lt_of_cell? wr ⟨g, i, none⟩ ri
              have bw := bel.trans (h.mono bel.size)
              obtain ⟨y0, y1, y2, y3⟩ := hcy _ bw
              obtain ⟨x0, x1, x2, x3⟩ := hcx _ bw
              exact ⟨h, (h.cell (p := ⟨q, 0, none⟩) hq2).trans c0, (h.cell (p := ⟨q, 1, none⟩) hq2).trans c1, (h.cell (p := ⟨g, i, none⟩) hg2).trans ri, (h.cell (p := ⟨g, p, none⟩) hg2).trans rp, y0, y1, y2, y3, x0, x1, x2, x3⟩
            have hk := mkS wr.drew (Below.refl _ _).drew
            have hF := fun w1 => Rfirst_is y x nb w1
            unfold entV at hF
            clear hcy hcx c1 ri rp
            cases hfr : frst kyV nb y x with
              | true =>
                have HB := hid (bI_fst kyV hRi hU hfr)
                rw [hfr] at hF
                clear hfr hrow hRi HX hmem hRp hmemp hU hT2 hB0
                go_wp2_with fail
                clear c0
                go_region_held3 (fun w' => Below wr.heap.size wr w' ∧ w'.cell? ⟨q, 0, none⟩ = some (.slice (some ⟨g, 0, none⟩) L.length c) ∧ w'.cell? ⟨q, 1, none⟩ = some (.bool nb) ∧ w'.cell? ⟨g, i, none⟩ = some (.slice (some ⟨b, off, none⟩) (u.length + 1) rc) ∧ w'.cell? ⟨g, p, none⟩ = some (.slice (some ⟨b2, off2, none⟩) (t.length + 1) sc) ∧ w'.cell? ⟨b, off, none⟩ = some (.int .i64 y.1.seq) ∧ w'.cell? ⟨b, off + 1, none⟩ = some (.int .i64 y.1.time) ∧ w'.cell? ⟨b, off + 2, none⟩ = some (.slice y.2.1 y.1.labs.length y.2.2) ∧ w'.cell? ⟨b, off + 3, none⟩ = some (.string ⟨y.1.line.toArray⟩) ∧ w'.cell? ⟨b2, off2, none⟩ = some (.int .i64 x.1.seq) ∧ w'.cell? ⟨b2, off2 + 1, none⟩ = some (.int .i64 x.1.time) ∧ w'.cell? ⟨b2, off2 + 2, none⟩ = some (.slice x.2.1 x.1.labs.length x.2.2) ∧ w'.cell? ⟨b2, off2 + 3, none⟩ = some (.string ⟨x.1.line.toArray⟩)) (exact hk)
                  (first | (go_at_call 36; refine (hF _).mono ?_; rintro e w1 ⟨rfl, b1⟩; have hk := mkS _ (hk.1.trans (b1.mono hk.1.size))))
                go_wp2_with fail
                go_roundw
                case rel => exact ⟨i + 1, by rw [HB.out], by go_num, HI.out, hbs.trans (hk.1.mono hbs.size)⟩
                case measure => have := HI.out; simp [intOf]; omega
              | false =>
                have HB := hid ((bI_old kyV hRi hU hfr).trans hB0)
                rw [hfr] at hF
                clear hfr hrow hRi HX hmem hRp hmemp hU hT2 hB0
                go_wp2_with fail
                clear c0
                go_region_held3 (fun w' => Below wr.heap.size wr w' ∧ w'.cell? ⟨q, 0, none⟩ = some (.slice (some ⟨g, 0, none⟩) L.length c) ∧ w'.cell? ⟨q, 1, none⟩ = some (.bool nb) ∧ w'.cell? ⟨g, i, none⟩ = some (.slice (some ⟨b, off, none⟩) (u.length + 1) rc) ∧ w'.cell? ⟨g, p, none⟩ = some (.slice (some ⟨b2, off2, none⟩) (t.length + 1) sc) ∧ w'.cell? ⟨b, off, none⟩ = some (.int .i64 y.1.seq) ∧ w'.cell? ⟨b, off + 1, none⟩ = some (.int .i64 y.1.time) ∧ w'.cell? ⟨b, off + 2, none⟩ = some (.slice y.2.1 y.1.labs.length y.2.2) ∧ w'.cell? ⟨b, off + 3, none⟩ = some (.string ⟨y.1.line.toArray⟩) ∧ w'.cell? ⟨b2, off2, none⟩ = some (.int .i64 x.1.seq) ∧ w'.cell? ⟨b2, off2 + 1, none⟩ = some (.int .i64 x.1.time) ∧ w'.cell? ⟨b2, off2 + 2, none⟩ = some (.slice x.2.1 x.1.labs.length x.2.2) ∧ w'.cell? ⟨b2, off2 + 3, none⟩ = some (.string ⟨x.1.line.toArray⟩)) (exact hk)
                  (first | (go_at_call 36; refine (hF _).mono ?_; rintro e w1 ⟨rfl, b1⟩; have hk := mkS _ (hk.1.trans (b1.mono hk.1.size))))
                go_wp2_with fail
                go_roundw
                case rel => exact ⟨i + 1, by rw [HB.out], by go_num, HI.out, hbs.trans (hk.1.mono hbs.size)⟩
                case measure => have := HI.out; simp [intOf]; omega
      · obtain rfl : i = L.length := by omega
        have hlenR : (rowsOf L).length = L.length := by unfold rowsOf; rw [List.length_map]
        have hnI : ¬ (L.length : Int) < (L.length : Int) := by omega
        have rr := (hbs.block w.heap.size (row_lt hr)).trans hr
        rcases bU_is kyV nb (rowsOf L) L.length with ⟨hU, hN⟩ | ⟨x, t, p, hU, hB⟩
        · have hbI : bI kyV nb (rowsOf L) L.length = -1 := by unfold bI; rw [hU]
          rw [hbI]
          rw [← hlenR] at hN
          have hSn := strm_none kyV (nb := nb) hN
          have d0 := held_cell (i := 0) rr rfl
          have d1 := held_cell (i := 1) rr rfl
          have d2 := held_cell (i := 2) rr rfl
          have d3 := held_cell (i := 3) rr rfl
          have f0 := held_frozen (i := 0) rr
          have f1 := held_frozen (i := 1) rr
          have f2 := held_frozen (i := 2) rr
          have f3 := held_frozen (i := 3) rr
          have FIN : ∀ u0 u1 u2 u3, RNextOut W0 w q m vr nb S met sk (.returned (.tuple #[.agg zeroE, .bool false])) ((((wr.setCell ⟨w.heap.size, 0, none⟩ u0).setCell ⟨w.heap.size, 1, none⟩ u1).setCell ⟨w.heap.size, 2, none⟩ u2).setCell ⟨w.heap.size, 3, none⟩ u3) := by
            intro u0 u1 u2 u3
            have e2 := HX.out.1
            rw [hSn] at e2
            simp only [nx, Nat.zero_add] at e2
            unfold RNextOut
            refine ⟨tch_box (((Tch.of_below hb0).trans hf).trans (Tch.of_below hbs)) (Nat.le_refl _) u0 u1 u2 u3, ?_⟩
            rw [e2]
            exact ⟨rfl, L, hT2.box hNR hlo u0 u1 u2 u3, hSn⟩
          obtain ⟨Av, cv, hv, _⟩ := hT2.own.rd.form
          subst hv
          clear hT hT2 HX hf hr rr hb0 h0 hr0 hSn hN hU hbI
          go_wp2_with fail
          exact bodyPost_ret (v := .tuple #[.agg zeroE, .bool false]) (by unfold zeroE; simp [results, Try.results17, go_sem, *]) rfl (FIN _ _ _ _)
        · have hbI : bI kyV nb (rowsOf L) L.length = (p : Int) := by unfold bI; rw [hU]
          rw [hbI]
          have hB' := hB
          rw [← hlenR] at hB'
          have hSs := strm_some kyV hB'
          have hpL : p < L.length := hB.1
          obtain ⟨g, c, rfl, hgq, hgm, hglo, hrow⟩ := hT2.row hpL
          have rp := hrow p hpL
          have hmem : L[p] ∈ L := List.getElem_mem hpL
          have hRp2 : (L[p]).l = x :: t := by
            have hRp := hB.2.1
            unfold rowsOf at hRp
            rw [List.getElem?_map, List.getElem?_eq_getElem hpL] at hRp
            simpa using hRp
          have hrdp := hT2.rd _ hmem
          generalize L[p] = r at rp hmem hRp2 hrdp
          obtain ⟨rA, rc, rl⟩ := r
          simp only at rp hRp2 hrdp
          subst hRp2
          obtain ⟨b, off, rfl, hb, hcx⟩ := hT2.head hmem (y := x) (u := t) rfl
          obtain ⟨A', hrun, hrd'⟩ := tail_rd hrdp.1
          have hg := hrdp.2 x (List.mem_cons_self ..)
          rw [List.length_cons] at rp hrun
          have hpI : (p : Int) < (L.length : Int) := by omega
          have hp0 : ¬ (p : Int) < 0 := by omega
          have htl : (0 : Int) < (t.length : Int) + 1 := by omega
          obtain ⟨y0, y1, y2, y3⟩ := hcx _ hT2.bel
          have hgl := (hT2.own.lt g rfl).2
          have KEEP : ∀ o, RIt W0 (wr.alloc o) q m (.slice (some ⟨g, 0, none⟩) L.length c) nb L met (sk + k) ∧ (wr.alloc o).heap[w.heap.size]? = some (.cells #[.int .i64 0, .int .i64 0, .slice none 0 0, .string ⟨#[]⟩] 33 (0, 0)) ∧ (wr.alloc o).heap[wr.heap.size]? = some o ∧ (wr.alloc o).cell? ⟨g, p, none⟩ = some (.slice (some ⟨b, off, none⟩) (t.length + 1) rc) ∧ (wr.alloc o).frozen? ⟨g, p, none⟩ = false ∧ Tch (RE q m (.slice (some ⟨g, 0, none⟩) L.length c)) w (wr.alloc o) ∧ Tch (RE q m (.slice (some ⟨g, 0, none⟩) L.length c)) W1 (wr.alloc o) ∧ w.heap.size < wr.heap.size := by
            intro o
            have hba : Below wr.heap.size wr (wr.alloc o) := (Below.refl _ wr).alloc (Nat.le_refl _) o
            refine ⟨hT2.below hba, row_alloc rr o, heap_alloc_new wr o, cell_alloc rp o, ?_, (((Tch.of_below hb0).trans hf).trans (Tch.of_below hbs)).trans (Tch.of_below hba), (hf.trans (Tch.of_below hbs)).trans (Tch.of_below hba), row_lt rr⟩
            obtain ⟨cur, hc⟩ := (hT2.mq.2 g rfl).2.2.2.2
            exact held_frozen (row_alloc hc o)
          have OC : wo.cell? ⟨q, 3, none⟩ = some (.int .i64 ((sk + k : Nat) : Int)) := held_cell hT.at_ rfl
          have hbd := hT.bd
          clear hT hcx hrow hB hU hbI hmem hrdp hf hr rr h0 hr0 hb0 hbs
          go_wp2_with fail
          obtain ⟨k3, r3, b3, g3, z3, f3, f3w, hww⟩ := KEEP (.cells #[.int .i64 x.1.seq, .int .i64 x.1.time, .slice x.2.1 x.1.labs.length x.2.2, .string ⟨x.1.line.toArray⟩] 33)
          clear KEEP c0 c1 rp y0 y1 y2 y3 hT2
          generalize wr.heap.size = pb at *
          generalize (wr.alloc (.cells #[.int .i64 x.1.seq, .int .i64 x.1.time, .slice x.2.1 x.1.labs.length x.2.2, .string ⟨x.1.line.toArray⟩] 33)) = w3 at *
          have c0 := held_cell (i := 0) k3.at_ rfl
          have K4 : RIt W0 (w3.setCell ⟨g, p, none⟩ (.slice A' t.length (rc - 1))).drew q m (.slice (some ⟨g, 0, none⟩) L.length c) nb (L.set p ⟨A', rc - 1, t⟩) met (sk + k) ∧ Tch (RE q m (.slice (some ⟨g, 0, none⟩) L.length c)) w3 (w3.setCell ⟨g, p, none⟩ (.slice A' t.length (rc - 1))).drew ∧ totR (rowsOf (L.set p ⟨A', rc - 1, t⟩)) + 1 = totR (rowsOf L) := by
            have t4 : Tch (· = g) w3 (w3.setCell ⟨g, p, none⟩ (.slice A' t.length (rc - 1))).drew := (Tch.set (· = g) w3 ⟨g, p, none⟩ _ rfl).trans (Tch.drew _ _)
            have htt : totR (rowsOf (L.set p ⟨A', rc - 1, t⟩)) + 1 = totR (rowsOf L) := by rw [rowsOf_set]; exact totR_set _ _ _ _ hB'.2.1
            refine ⟨⟨t4.row k3.at_ (fun e => hgq e.symm), (ownS_put k3.own p hpL ⟨A', rc - 1, t⟩).below (Below.refl _ _).drew, fun r hr => ?_, k3.mp.touch t4 (fun e => hgm e.symm), Tch.below k3.bel t4 (fun j e => by rw [e]; exact hglo) k3.bel.size, k3.lo, ⟨by rw [List.length_set]; exact k3.bd.1, by have := k3.bd.2.1; omega, by have := k3.bd.2.2; omega⟩⟩, t4.mono (fun j e => .inr (.inr (by rw [e]; rfl))), htt⟩
            rcases List.mem_or_eq_of_mem_set hr with hr | rfl
            · exact k3.rd r hr
            · refine ⟨hrd', fun y hy => ?_⟩
              have hm2 := List.mem_of_getElem? hB'.2.1
              obtain ⟨r0, hr0, e0⟩ := List.mem_map.1 hm2
              exact (k3.rd r0 hr0).2 y (by rw [e0]; exact List.mem_cons_of_mem _ hy)
          have hpbg : pb ≠ g := fun e => by
            obtain ⟨cur, hc⟩ := (k3.mq.2 g rfl).2.2.2.2
            rw [← e, b3] at hc
            injection hc with hc
            injection hc with _ h2 _
            exact absurd h2 (by decide)
          have b4 : (w3.setCell ⟨g, p, none⟩ (.slice A' t.length (rc - 1))).drew.heap[pb]? = some (.cells #[.int .i64 x.1.seq, .int .i64 x.1.time, .slice x.2.1 x.1.labs.length x.2.2, .string ⟨x.1.line.toArray⟩] 33 (0, 0)) := row_far b3 _ hpbg
          have r4 : (w3.setCell ⟨g, p, none⟩ (.slice A' t.length (rc - 1))).drew.heap[w.heap.size]? = some (.cells #[.int .i64 0, .int .i64 0, .slice none 0 0, .string ⟨#[]⟩] 33 (0, 0)) := row_far r3 _ (fun e => hNR (.inr (.inr (by rw [e]; rfl))))
          go_region
          go_wp2_with fail
          obtain ⟨k4, t4, htt⟩ := K4
          have f4 := f3.trans t4
          have f4w := f3w.trans t4
          clear k3 r3 b3 g3 z3 f3 f3w c0 t4 hrun
          generalize (w3.setCell ⟨g, p, none⟩ (.slice A' t.length (rc - 1))).drew = w4 at *
          have hS2 : strm kyV nb (rowsOf L) = x :: strm kyV nb (rowsOf (L.set p ⟨A', rc - 1, t⟩)) := by rw [rowsOf_set]; exact hSs
          have HX1 := HX.out
          rw [hS2] at HX1
          have HBD : Hid (sk + (k + 1) + totR (rowsOf (L.set p ⟨A', rc - 1, t⟩)) ≤ 4398046511104 ∧ met.length + 1 + totR (rowsOf (L.set p ⟨A', rc - 1, t⟩)) ≤ 4398046511104) := hid (by have h1 := hbd.2.1; have h2 := hbd.2.2; exact ⟨by omega, by omega⟩)
          clear HX hSs hS2 hB' htt hbd
          generalize L.set p ⟨A', rc - 1, t⟩ = L' at *
          generalize hT : strm kyV nb (rowsOf L') = T at *
          have HX := hid HX1
          have HT := hid hT
          clear HX1 hT
          have c2 := held_cell (i := 2) k4.at_ rfl
          have c2d : w4.drew.cell? ⟨q, 2, none⟩ = some (.map (some m)) := c2
          have x0 := held_cell (i := 0) b4 rfl
          have lk := k4.mp.look x.1.seq hg.2.1
          have lkd := (k4.mp.touch (Tch.drew (fun _ => False) w4) (fun h => h)).look x.1.seq hg.2.1
          by_cases hmet : x.1.seq ∈ met
          · rw [decide_eq_true hmet] at lk lkd
            have hj' : ((sk + k : Nat) : Int) ≤ 4398046511104 := by have := HBD.out.1; omega
            have c3d : w4.drew.cell? ⟨q, 3, none⟩ = some (.int .i64 ((sk + k : Nat) : Int)) := held_cell (i := 3) k4.at_ rfl
            have e3d : w4.drew.frozen? ⟨q, 3, none⟩ = false := held_frozen (i := 3) k4.at_
            have NX : Hid (nx kyV met S = ((nx kyV met T).1, (nx kyV met T).2 + (k + 1)) ∧ (k + 1) + T.length = S.length) := hid (by
              have e : nx kyV met (x :: T) = ((nx kyV met T).1, (nx kyV met T).2 + 1) := by
                conv => lhs; unfold nx
                rw [if_pos (show (kyV x).2 ∈ met from hmet)]
              refine ⟨?_, by have := HX.out.2; simp at this; omega⟩
              rw [HX.out.1, e]
              simp
              omega)
            have k5 := (k4.below (Below.refl _ _).drew).skip (by have := HBD.out.1; omega)
            have FIN : RIt W0 (w4.drew.setCell ⟨q, 3, none⟩ (.int .i64 (((sk + k : Nat) : Int) + 1))) q m (.slice (some ⟨g, 0, none⟩) L.length c) nb L' met (sk + (k + 1)) ∧ (w4.drew.setCell ⟨q, 3, none⟩ (.int .i64 (((sk + k : Nat) : Int) + 1))).heap[w.heap.size]? = some (.cells #[.int .i64 0, .int .i64 0, .slice none 0 0, .string ⟨#[]⟩] 33 (0, 0)) ∧ Tch (RE q m (.slice (some ⟨g, 0, none⟩) L.length c)) W1 (w4.drew.setCell ⟨q, 3, none⟩ (.int .i64 (((sk + k : Nat) : Int) + 1))) ∧ (w4.drew.setCell ⟨q, 3, none⟩ (.int .i64 (((sk + k : Nat) : Int) + 1))).cell? ⟨q, 3, none⟩ = some (.int .i64 (((sk + k : Nat) : Int) + 1)) := by
              refine ⟨k5, row_far r4 _ (by omega), (f4w.trans (Tch.drew _ _)).trans (Tch.set _ _ _ _ (.inl rfl)), held_cell (row_set (show w4.drew.heap[q]? = _ from k4.at_) _) (by simp)⟩
            have HJ := hid (show ((sk + k : Nat) : Int) = ((sk + k : Nat) : Int) from rfl)
            clear k4 k5 r4 b4 f4 f4w
            generalize hj : sk + k = j at hj' c3d e3d OC FIN
            have HJ := hid hj
            clear hj
            go_region
            go_wp2_with fail
            obtain ⟨i5, r5, f5, n5⟩ := FIN
            go_roundw
            case rel => exact ⟨L', k + 1, i5, by rw [HT.out]; exact NX, r5, f5⟩
            case measure =>
              have h1 := NX.out.2
              have h2 := HJ.out
              have n6 : ((w4.setCell ⟨q, 3, none⟩ (.int .i64 ((j : Int) + 1))).drew.cell? ⟨q, 3, none⟩) = some (.int .i64 ((j : Int) + 1)) := n5
              rw [← hwo] at OC
              simp only [OC, n6, Option.getD_some, intOf]
              omega
          · rw [decide_eq_false hmet] at lk lkd
            have hml : met.length < maxLen := by have := HBD.out.2; unfold maxLen; omega
            go_region
            go_wp2_with fail
            have k5 := k4.below (Below.refl _ w4).drew
            have b5 : w4.drew.heap[pb]? = _ := b4
            have r5 : w4.drew.heap[w.heap.size]? = _ := r4
            have f5 := f4.trans (Tch.drew _ w4)
            clear k4 b4 r4 f4 f4w c2 c2d x0 lk lkd OC
            generalize w4.drew = w5 at *
            have c5 := held_cell (i := 2) k5.at_ rfl
            have x5 := held_cell (i := 0) b5 rfl
            obtain ⟨w6, hst, s6, t6⟩ := (k5.mp.touch (Tch.drew (fun _ => False) w5) (fun h => h)).store x.1.seq hg.2.1 hml
            have t56 : Tch (· = m) w5 w6 := (Tch.drew _ w5).trans t6
            have hpm : pb ≠ m := fun e => k5.mp.noRow _ _ _ (e ▸ b5)
            have hwm : w.heap.size ≠ m := fun e => k5.mp.noRow _ _ _ (e ▸ r5)
            have b6 := t56.row b5 hpm
            have r6 := t56.row r5 hwm
            have k6 := k5.seen s6 t56 HBD.out.2
            have f6 : Tch (RE q m (.slice (some ⟨g, 0, none⟩) L.length c)) w w6 := f5.trans (t56.mono (fun j e => .inr (.inl e)))
            have y0 := held_cell (i := 0) b6 rfl
            have y1 := held_cell (i := 1) b6 rfl
            have y2 := held_cell (i := 2) b6 rfl
            have y3 := held_cell (i := 3) b6 rfl
            have d0 := held_cell (i := 0) r6 rfl
            have d1 := held_cell (i := 1) r6 rfl
            have d2 := held_cell (i := 2) r6 rfl
            have d3 := held_cell (i := 3) r6 rfl
            have z0 := held_frozen (i := 0) r6
            have z1 := held_frozen (i := 1) r6
            have z2 := held_frozen (i := 2) r6
            have z3 := held_frozen (i := 3) r6
            have FIN : ∀ u0 u1 u2 u3, RNextOut W0 w q m (.slice (some ⟨g, 0, none⟩) L.length c) nb S met sk (.returned (.tuple #[entV x, .bool true])) ((((w6.setCell ⟨w.heap.size, 0, none⟩ u0).setCell ⟨w.heap.size, 1, none⟩ u1).setCell ⟨w.heap.size, 2, none⟩ u2).setCell ⟨w.heap.size, 3, none⟩ u3) := by
              intro u0 u1 u2 u3
              have e1 := HX.out.1
              have e2 : nx kyV met (x :: T) = (some (x, T), 0) := by
                conv => lhs; unfold nx
                rw [if_neg (show ¬ (kyV x).2 ∈ met from hmet)]
              rw [e2] at e1
              simp only [Nat.zero_add] at e1
              unfold RNextOut
              refine ⟨tch_box f6 (Nat.le_refl _) u0 u1 u2 u3, ?_⟩
              rw [e1]
              exact ⟨rfl, hg, L', k6.box hNR hlo u0 u1 u2 u3, HT.out⟩
            clear k5 k6 s6 t6 t56 b5 b6 r5 r6 f5 f6
            go_region
            go_wp2_with fail
            exact bodyPost_ret (v := .tuple #[entV x, .bool true]) (by simp [results, Try.results17, go_sem, entV, *]) rfl (FIN _ _ _ _)
end Go.Proofs.Ytbebhcdnnfgchaa
