/-
  An Iter in memory: over, Next, Skipped. Conditions: those that each theorem names.
-/
import Derived.Test.YtcffagfkpkfgbaaMgn
import Derived.Test.YtcffagfkpkfgbaaMgm2
namespace Go.Proofs.Ytcffagfkpkfgbaa
open Go.RowKit Go.Icz Go.Maps
/-- An Iter in block q, its set of numbers in block m: S is still to come, met are the numbers that were answered, sk were left away. -/
structure It (W0 w : World) (q m : Nat) (nb : Bool) (S : List EV) (met : List Int) (sk : Nat) : Prop where
  tk : TkS W0 w q [.map (some m), .int .i64 (sk : Int)] nb S
  mp : MSet w m met
  lo : W0.heap.size ≤ m
  bd : sk + S.length ≤ 4398046511104 ∧ met.length + S.length ≤ 4398046511104
theorem TkS.at_ {W0 w : World} {q : Nat} {rs : List Value} {nb : Bool} {S : List EV} (h : TkS W0 w q rs nb S) : ∃ v t, w.heap[q]? = some (.cells (v :: .bool nb :: rs).toArray t (0, 0)) ∧ t ≠ 58 ∧ W0.heap.size ≤ q ∧ Below W0.heap.size W0 w := by
  obtain ⟨l, R, ⟨⟨v, hp⟩, _⟩, _⟩ := h
  obtain ⟨t, h1, h2⟩ := hp.at_
  exact ⟨v, t, h1, h2, hp.lo, hp.bel⟩
theorem It.qm {W0 w : World} {q m : Nat} {nb : Bool} {S : List EV} {met : List Int} {sk : Nat} (h : It W0 w q m nb S met sk) : m ≠ q := by
  rintro rfl
  obtain ⟨v, t, h1, _⟩ := h.tk.at_
  exact h.mp.noRow _ _ _ h1
/-- What an Iter may turn. -/
def ItE (q m : Nat) (k : Nat) : Prop := k = q ∨ k = m
theorem It.touch {S' : Nat → Prop} {W0 w w' : World} {q m : Nat} {nb : Bool} {S : List EV} {met : List Int} {sk : Nat} (h : It W0 w q m nb S met sk) (t : Tch S' w w') (hq : ¬ S' q) (hm : ¬ S' m) (hr : ∀ k, S' k → ¬ isRow w k) (hlo : ∀ k, S' k → W0.heap.size ≤ k) : It W0 w' q m nb S met sk :=
  ⟨h.tk.tch t hq hr hlo, h.mp.touch t hm, h.lo, h.bd⟩
theorem It.below {W0 w w' : World} {q m : Nat} {nb : Bool} {S : List EV} {met : List Int} {sk : Nat} (h : It W0 w q m nb S met sk) (hb : Below w.heap.size w w') : It W0 w' q m nb S met sk :=
  h.touch (S' := fun _ => False) (Tch.of_below hb) (fun h => h) (fun h => h) (fun _ h => h.elim) (fun _ h => h.elim)
theorem Fr.map {w w' : World} {m : Nat} {met : List Int} {E : Nat → Prop} (h : MSet w m met) (f : Fr E w w') (hE : ¬ E m) : MSet w' m met :=
  h.touch f (fun hs => hs.elim hE (fun ⟨cur, z, hc⟩ => h.noRow cur _ z hc))
set_option maxRecDepth 100000 in
set_option maxHeartbeats 2000000 in
theorem over_is (v : Value) (nb : Bool) (R : List SR) (W0 : World) (hR : RdR W0 v R) (hlen : R.length ≤ 1099511627776) (htot : totR (rowsOf R) ≤ 1099511627776) :
    Calls Try.prog 15 #[v, .bool nb] W0 fun e w' => ∃ q m, e = .returned (.pointer (some ⟨q, 0, none⟩)) ∧ It W0 w' q m nb (strm kyV nb (rowsOf R)) [] 0 ∧ Below W0.heap.size W0 w' := by
  have hH := headsOf_is v nb R W0 hR hlen
  have hMM := @run_makeMap Try.prog
  have hSl := strm_length kyV nb _ (rowsOf R) rfl
  have hLb : LbR W0 (rowsOf R) := fun t ht x hx => by
    obtain ⟨r, hr, rfl⟩ := List.mem_map.1 ht
    exact (hR.2 r hr).2 x hx
  have fin : ∀ vv l w1, KRow.Own w1 W0.heap.size vv l → HpF (hlt nb) l l.length 0 → ItR l (rowsOf R) → (∀ r ∈ l, r.l ≠ [] ∧ KEnt.Rd W0 (.slice r.A r.l.length r.c) r.l) → l.length ≤ 1099511627776 → Below W0.heap.size W0 w1 →
      It W0 ((w1.alloc (.map #[] 0)).alloc (.cells #[vv, .bool nb, .map (some w1.heap.size), .int .i64 0] 50)) (w1.heap.size + 1) w1.heap.size nb (strm kyV nb (rowsOf R)) [] 0 ∧ Below W0.heap.size W0 ((w1.alloc (.map #[] 0)).alloc (.cells #[vv, .bool nb, .map (some w1.heap.size), .int .i64 0] 50)) := by
    intro vv l w1 h1 h2 h3 h4 h5 h6
    have hb : Below w1.heap.size w1 ((w1.alloc (.map #[] 0)).alloc (.cells #[vv, .bool nb, .map (some w1.heap.size), .int .i64 0] 50)) := ((Below.refl _ w1).alloc (Nat.le_refl _) _).alloc (by simp) _
    have hb' := h6.trans (hb.mono h6.size)
    have hr := heap_alloc_new (w1.alloc (.map #[] 0)) (.cells #[vv, .bool nb, .map (some w1.heap.size), .int .i64 0] 50)
    rw [World.size_alloc] at hr
    have hz := h6.size
    refine ⟨⟨⟨l, rowsOf R, ⟨⟨vv, ⟨⟨_, hr, by decide⟩, h1.below hb, by omega, hb', h4, h5⟩⟩, h2⟩, h3, hLb, rfl⟩, (MSet.made w1).touch (Tch.alloc (fun _ => False) _ _) (fun h => h), hz, ?_⟩, hb'⟩
    rw [hSl]
    simp
    omega
  go_enter Try.func15, Try.ntmps15
  go_wp2_with (go_at_call 21; refine hH.mono ?_; rintro e w1 ⟨vv, l, rfl, h1, h2, h3, h4, h5, h6⟩; have FN := fin _ _ _ h1 h2 h3 h4 h5 h6; obtain ⟨Av, cv, rfl, _⟩ := h1.rd.form; clear fin h1 h2 h3 h4 h5 h6)
  go_ret
  exact ⟨_, _, rfl, FN.1, FN.2⟩
theorem TkS.good {W0 w : World} {q : Nat} {rs : List Value} {nb : Bool} {x : EV} {S : List EV} (h : TkS W0 w q rs nb (x :: S)) : GoodE W0 x := by
  obtain ⟨_, _, _, _, _, _, _, hg, _⟩ := h.cons
  exact hg
theorem TkS.len {W0 w : World} {q : Nat} {rs : List Value} {nb : Bool} {S : List EV} (h : TkS W0 w q rs nb S) : ∃ n : Nat, Calls Try.prog 22 #[.pointer (some ⟨q, 0, none⟩)] w (fun e w' => e = .returned (.int .i64 n) ∧ w = w') ∧ n ≤ 1099511627776 ∧ (S = [] → n = 0) ∧ (S ≠ [] → 0 < n) := by
  cases S with
  | nil =>
    obtain ⟨⟨v, hp⟩, _⟩ := h.nil
    exact ⟨0, (Len_is hp).mono fun _ _ ⟨a, b⟩ => ⟨a, b.symm⟩, by omega, fun _ => rfl, fun h => absurd rfl h⟩
  | cons x S =>
    obtain ⟨r, l, t, ⟨⟨v, hp⟩, _⟩, _⟩ := h.cons
    exact ⟨l.length + 1, (Len_is hp).mono fun _ _ ⟨a, b⟩ => ⟨a, b.symm⟩, hp.len, (fun h => absurd h (by simp)), (fun _ => by omega)⟩
/-- A cell of the Iter's own, behind its heap, is turned. -/
theorem TkS.setRs {W0 w : World} {q : Nat} {rs : List Value} {nb : Bool} {S : List EV} (h : TkS W0 w q rs nb S) (i : Nat) (u : Value) : TkS W0 (w.setCell ⟨q, i + 2, none⟩ u) q (rs.set i u) nb S := by
  obtain ⟨l, R, ⟨⟨v, hp⟩, h1⟩, h2⟩ := h
  obtain ⟨ty, a1, a2⟩ := hp.at_
  have t := Tch.set (· = q) w ⟨q, i + 2, none⟩ u rfl
  refine ⟨l, R, ⟨⟨v, ⟨⟨ty, ?_, a2⟩, hp.own.touch t (fun j hj e => hp.apart q (by rw [e, hj]) rfl), hp.lo, Tch.below hp.bel t (fun j hj => by rw [hj]; exact hp.lo) hp.bel.size, hp.rd, hp.len⟩⟩, h1⟩, h2⟩
  have := row_set (i := i + 2) a1 u
  simpa using this
def zeroE : Array Value := #[.int .i64 0, .int .i64 0, .slice none 0 0, .string ⟨#[]⟩]
/-- What Next answers, and what becomes of the Iter. -/
def NextOut (W0 w : World) (q m : Nat) (nb : Bool) (S : List EV) (met : List Int) (sk : Nat) (e : Ending) (w' : World) : Prop :=
  Fr (ItE q m) w w' ∧ match (nx kyV met S).1 with
    | none => e = .returned (.tuple #[.agg zeroE, .bool false]) ∧ It W0 w' q m nb [] met (sk + (nx kyV met S).2)
    | some (x, T) => ∃ A c, e = .returned (.tuple #[entV (x.1, A, c), .bool true]) ∧ KLab.Own w' w.heap.size (.slice A x.1.labs.length c) x.1.labs ∧ It W0 w' q m nb T (x.1.seq :: met) (sk + (nx kyV met S).2)
theorem NextOut.no {W0 w w' : World} {q m : Nat} {nb : Bool} {S : List EV} {met : List Int} {sk : Nat} (h : (nx kyV met S).1 = none) (hf : Fr (ItE q m) w w') (hi : It W0 w' q m nb [] met (sk + (nx kyV met S).2)) : NextOut W0 w q m nb S met sk (.returned (.tuple #[.agg zeroE, .bool false])) w' := by
  unfold NextOut
  rw [h]
  exact ⟨hf, rfl, hi⟩
theorem NextOut.yes {W0 w w' : World} {q m : Nat} {nb : Bool} {S T : List EV} {x : EV} {met : List Int} {sk : Nat} (h : (nx kyV met S).1 = some (x, T)) (hf : Fr (ItE q m) w w') (A : Option Addr) (c : Nat) (ho : KLab.Own w' w.heap.size (.slice A x.1.labs.length c) x.1.labs) (hi : It W0 w' q m nb T (x.1.seq :: met) (sk + (nx kyV met S).2)) : NextOut W0 w q m nb S met sk (.returned (.tuple #[entV (x.1, A, c), .bool true])) w' := by
  unfold NextOut
  rw [h]
  exact ⟨hf, A, c, rfl, ho, hi⟩
/-- The box of the answer is written. -/
theorem It.box {W0 w1 : World} {p q m : Nat} {nb : Bool} {S : List EV} {met : List Int} {sk : Nat} {cs : Array Value} (h : It W0 w1 q m nb S met sk) (hp : w1.heap[p]? = some (.cells cs 34 (0, 0))) (hq : p ≠ q) (hm : p ≠ m) (hlo : W0.heap.size ≤ p) (u0 u1 u2 u3 : Value) :
    It W0 ((((w1.setCell ⟨p, 0, none⟩ u0).setCell ⟨p, 1, none⟩ u1).setCell ⟨p, 2, none⟩ u2).setCell ⟨p, 3, none⟩ u3) q m nb S met sk ∧ Tch (· = p) w1 ((((w1.setCell ⟨p, 0, none⟩ u0).setCell ⟨p, 1, none⟩ u1).setCell ⟨p, 2, none⟩ u2).setCell ⟨p, 3, none⟩ u3) := by
  have t : Tch (· = p) w1 ((((w1.setCell ⟨p, 0, none⟩ u0).setCell ⟨p, 1, none⟩ u1).setCell ⟨p, 2, none⟩ u2).setCell ⟨p, 3, none⟩ u3) := (((Tch.set (· = p) w1 ⟨p, 0, none⟩ u0 rfl).trans (Tch.set _ _ ⟨p, 1, none⟩ u1 rfl)).trans (Tch.set _ _ ⟨p, 2, none⟩ u2 rfl)).trans (Tch.set _ _ ⟨p, 3, none⟩ u3 rfl)
  refine ⟨h.touch t (fun e => hq e.symm) (fun e => hm e.symm) (fun k e hr => ?_) (fun k e => by rw [e]; exact hlo), t⟩
  subst e
  obtain ⟨cur, z, hc⟩ := hr
  rw [hp] at hc
  injection hc with hc
  injection hc with _ h2 _
  exact absurd h2 (by decide)
/-- What was made behind W1 may be written as well. -/
theorem frOut {E S' : Nat → Prop} {w w1 w2 : World} (h : Fr E w w1) (t : Tch S' w1 w2) (hS : ∀ k, S' k → w.heap.size ≤ k) : Fr E w w2 := Tch.out h t (fun j hj => .inr (hS j hj))
set_option maxRecDepth 100000 in
set_option maxHeartbeats 8000000 in
theorem Next_is {W0 w : World} {q m : Nat} {nb : Bool} {S : List EV} {met : List Int} {sk : Nat} (h : It W0 w q m nb S met sk) :
    Calls Try.prog 16 #[.pointer (some ⟨q, 0, none⟩)] w (NextOut W0 w q m nb S met sk) := by
  have hb0 : Below w.heap.size w (w.alloc (.cells zeroE 34)) := (Below.refl _ w).alloc (Nat.le_refl _) _
  have hr0 := heap_alloc_new w (.cells zeroE 34)
  have h0 := h.below hb0
  have hqlt : q < w.heap.size := by
    obtain ⟨_, _, h1, _⟩ := h.tk.at_
    exact row_lt h1
  have hmlt := h.mp.lt
  have hlo : W0.heap.size ≤ w.heap.size := by
    obtain ⟨_, _, _, _, _, hb⟩ := h.tk.at_
    exact hb.size
  clear h
  unfold zeroE at hb0 hr0 h0
  go_enter Try.func16, Try.ntmps16
  go_wp2
  generalize hW1 : w.alloc (.cells #[.int .i64 0, .int .i64 0, .slice none 0 0, .string ⟨#[]⟩] 34) = W1 at *
  go_loopw [6] (fun _ wr => ∃ (T : List EV) (k : Nat), It W0 wr q m nb T met (sk + k) ∧ Hid (nx kyV met S = ((nx kyV met T).1, (nx kyV met T).2 + k) ∧ k + T.length = S.length) ∧ wr.heap[w.heap.size]? = some (.cells #[.int .i64 0, .int .i64 0, .slice none 0 0, .string ⟨#[]⟩] 34 (0, 0)) ∧ Fr (ItE q m) W1 wr) (fun _ wr => (sk + S.length) - (intOf ((wr.cell? ⟨q, 3, none⟩).getD undef)).toNat)
  case atStart => exact ⟨S, 0, h0, hid ⟨by simp, by simp⟩, hr0, Fr.refl _ _⟩
  case round =>
    obtain ⟨T, k, hT, HX, hr, hf⟩ := hrel
    obtain ⟨n, hL, hn, hn0, hn1⟩ := hT.tk.len
    cases T with
    | nil =>
      obtain rfl := hn0 rfl
      have d0 := held_cell (i := 0) hr rfl
      have d1 := held_cell (i := 1) hr rfl
      have d2 := held_cell (i := 2) hr rfl
      have d3 := held_cell (i := 3) hr rfl
      have f0 := held_frozen (i := 0) hr
      have f1 := held_frozen (i := 1) hr
      have f2 := held_frozen (i := 2) hr
      have f3 := held_frozen (i := 3) hr
      have FIN : ∀ u0 u1 u2 u3, NextOut W0 w q m nb S met sk (.returned (.tuple #[.agg zeroE, .bool false])) ((((wr.setCell ⟨w.heap.size, 0, none⟩ u0).setCell ⟨w.heap.size, 1, none⟩ u1).setCell ⟨w.heap.size, 2, none⟩ u2).setCell ⟨w.heap.size, 3, none⟩ u3) := by
        intro u0 u1 u2 u3
        have e2 := HX.out.1
        simp only [nx, Nat.zero_add] at e2
        obtain ⟨i4, t4⟩ := hT.box hr (by omega) (by omega) hlo u0 u1 u2 u3
        exact NextOut.no (by rw [e2]) (frOut ((Fr.of_below hb0).trans hf) t4 (fun k e => by rw [e]; exact Nat.le_refl _)) (by rw [e2]; exact i4)
      clear hT HX hf hr hlo hb0 h0 hr0
      go_wp2_with (go_at_call 22; refine hL.mono ?_; rintro e w1 ⟨rfl, rfl⟩)
      exact bodyPost_ret (v := .tuple #[.agg zeroE, .bool false]) (by unfold zeroE; simp [results, Try.results16, go_sem, *]) rfl (FIN _ _ _ _)
    | cons x T =>
      have hnI : (0 : Int) < (n : Int) := by have := hn1 (by simp); omega
      have hTk := take_is hT.tk
      have hg := hT.tk.good
      have hqm := hT.qm
      have hmp := hT.mp
      have hlm := hT.lo
      have hbd := hT.bd
      unfold entV at hTk
      have ST : ∀ w2, TkS W0 w2 q [.map (some m), .int .i64 ((sk + k : Nat) : Int)] nb T → Fr (· = q) wr w2 → ∀ o, TkS W0 (w2.alloc o) q [.map (some m), .int .i64 ((sk + k : Nat) : Int)] nb T ∧ MSet (w2.alloc o) m met ∧ (w2.alloc o).heap[w.heap.size]? = some (.cells #[.int .i64 0, .int .i64 0, .slice none 0 0, .string ⟨#[]⟩] 34 (0, 0)) ∧ (w2.alloc o).heap[w2.heap.size]? = some o ∧ Fr (ItE q m) w (w2.alloc o) ∧ Fr (ItE q m) W1 (w2.alloc o) ∧ w.heap.size < w2.heap.size := by
        intro w2 k2 f2 o
        have hb := (Below.refl _ w2).alloc (Nat.le_refl _) o
        refine ⟨k2.below hb, (Fr.map hmp f2 hqm).touch (Tch.alloc (fun _ => False) w2 o) (fun h => h), row_alloc (f2.row hr (by omega) (by decide)) o, heap_alloc_new w2 o, ?_, (hf.trans (f2.mono (fun k e => .inl e))).trans (Fr.of_below hb), ?_⟩
        · exact (((Fr.of_below hb0).trans hf).trans (f2.mono (fun k e => .inl e))).trans (Fr.of_below hb)
        · have := row_lt hr
          have := f2.size
          omega
      have OC : wr.cell? ⟨q, 3, none⟩ = some (.int .i64 ((sk + k : Nat) : Int)) := by
        obtain ⟨_, _, h1, _⟩ := hT.tk.at_
        exact held_cell h1 rfl
      clear hT hf hr h0 hr0 hb0
      go_wp2_with (first | (go_at_call 22; refine hL.mono ?_; rintro e w1 ⟨rfl, rfl⟩) | (go_at_call 23; refine hTk.mono ?_; rintro e w2 ⟨rfl, k2, f2⟩; have ST2 := ST _ k2 f2; clear k2 f2 ST hTk hL))
      obtain ⟨k3, s3, r3, b3, f3, f3w, hww⟩ := ST2 (.cells #[.int .i64 x.1.seq, .int .i64 x.1.time, .slice x.2.1 x.1.labs.length x.2.2, .string ⟨x.1.line.toArray⟩] 34)
      clear ST2
      generalize w2.heap.size = p at *
      generalize (w2.alloc (.cells #[.int .i64 x.1.seq, .int .i64 x.1.time, .slice x.2.1 x.1.labs.length x.2.2, .string ⟨x.1.line.toArray⟩] 34)) = w3 at *
      obtain ⟨vq, tq, rq, hqt, hqlo, hq3⟩ := k3.at_
      have c2 := held_cell (i := 2) rq rfl
      have c2a := fun o => cell_alloc c2 o
      have x0 := held_cell (i := 0) b3 rfl
      have x0a := fun o => cell_alloc x0 o
      have lk := s3.look x.1.seq hg.2.1
      have lka := fun o => (s3.touch (Tch.alloc (fun _ => False) w3 o) (fun h => h)).look x.1.seq hg.2.1
      have lkd := (s3.touch (Tch.drew (fun _ => False) w3) (fun h => h)).look x.1.seq hg.2.1
      have lkad := fun o => ((s3.touch (Tch.alloc (fun _ => False) w3 o) (fun h => h)).touch (Tch.drew (fun _ => False) _) (fun h => h)).look x.1.seq hg.2.1
      have oldc := OC
      clear OC
      have HXN : k + T.length + 1 = S.length := by have := HX.out.2; simp at this; omega
      generalize hj : sk + k = j at *
      have HJ := hid hj
      have HXN := hid HXN
      by_cases hmet : x.1.seq ∈ met
      · rw [decide_eq_true hmet] at lk lka lkd lkad
        have c3a := fun o => held_cell (i := 3) (row_alloc rq o) rfl
        have e3a := fun o => held_frozen (i := 3) (row_alloc rq o)
        have hj' : (j : Int) ≤ 4398046511104 := by have := hbd.1; omega
        have NX : Hid (nx kyV met S = ((nx kyV met T).1, (nx kyV met T).2 + (k + 1)) ∧ (k + 1) + T.length = S.length) := hid (by
          refine ⟨?_, by have := HXN.out; omega⟩
          rw [HX.out.1]
          have e : nx kyV met (x :: T) = ((nx kyV met T).1, (nx kyV met T).2 + 1) := by
            conv => lhs; unfold nx
            rw [if_pos (show (kyV x).2 ∈ met from hmet)]
          rw [e]
          simp
          omega)
        have KIT : ∀ o, It W0 ((w3.alloc o).drew.setCell ⟨q, 3, none⟩ (.int .i64 ((j : Int) + 1))) q m nb T met (sk + (k + 1)) ∧ ((w3.alloc o).drew.setCell ⟨q, 3, none⟩ (.int .i64 ((j : Int) + 1))).heap[w.heap.size]? = some (.cells #[.int .i64 0, .int .i64 0, .slice none 0 0, .string ⟨#[]⟩] 34 (0, 0)) ∧ Fr (ItE q m) W1 ((w3.alloc o).drew.setCell ⟨q, 3, none⟩ (.int .i64 ((j : Int) + 1))) ∧ ((w3.alloc o).drew.setCell ⟨q, 3, none⟩ (.int .i64 ((j : Int) + 1))).cell? ⟨q, 3, none⟩ = some (.int .i64 ((j : Int) + 1)) := by
          intro o
          have hb : Below w3.heap.size w3 (w3.alloc o).drew := ((Below.refl _ w3).alloc (Nat.le_refl _) o).drew
          have k5 := (k3.below hb).setRs 1 (.int .i64 ((j : Int) + 1))
          have t5 := Tch.set (· = q) (w3.alloc o).drew ⟨q, 3, none⟩ (.int .i64 ((j : Int) + 1)) rfl
          have ej : (j : Int) + 1 = ((sk + (k + 1) : Nat) : Int) := by have := HJ.out; omega
          refine ⟨⟨?_, ((s3.touch (Tch.of_below hb (S := fun _ => False)) (fun h => h)).touch t5 hqm), hlm, ?_⟩, ?_, ?_, ?_⟩
          · rw [← ej]; exact k5
          · have := HJ.out
            have := hbd
            simp at this
            omega
          · exact row_far (row_alloc r3 o) _ (by omega)
          · exact (f3w.trans (Fr.of_below hb)).trans (Fr.set _ _ _ (.inl rfl))
          · exact held_cell (row_set (row_alloc rq o) _) (by simp)
        clear k3 s3 r3 f3 f3w hbd
        go_region
        go_wp2_with fail
        obtain ⟨i5, r5, f5, n5⟩ := KIT (.cells #[] 53)
        clear KIT
        go_roundw
        case rel => exact ⟨T, k + 1, i5, NX, r5, f5⟩
        case measure =>
          have h1 := HXN.out
          have h2 := HJ.out
          have n6 : (((w3.alloc (.cells #[] 53)).setCell ⟨q, 3, none⟩ (.int .i64 ((j : Int) + 1))).drew.cell? ⟨q, 3, none⟩) = some (.int .i64 ((j : Int) + 1)) := n5
          simp only [oldc, n6, Option.getD_some, intOf]
          omega
      · rw [decide_eq_false hmet] at lk lka lkd lkad
        have hml : met.length < maxLen := by have := hbd.2; unfold maxLen; simp at this; omega
        have W5 : ∀ o, TkS W0 (w3.alloc o).drew q [.map (some m), .int .i64 (j : Int)] nb T ∧ MSet (w3.alloc o).drew m met ∧ (w3.alloc o).drew.heap[w.heap.size]? = some (.cells #[.int .i64 0, .int .i64 0, .slice none 0 0, .string ⟨#[]⟩] 34 (0, 0)) ∧ (w3.alloc o).drew.heap[p]? = some (.cells #[.int .i64 x.1.seq, .int .i64 x.1.time, .slice x.2.1 x.1.labs.length x.2.2, .string ⟨x.1.line.toArray⟩] 34 (0, 0)) ∧ (w3.alloc o).drew.cell? ⟨q, 2, none⟩ = some (.map (some m)) ∧ Fr (ItE q m) w (w3.alloc o).drew := by
          intro o
          have hb : Below w3.heap.size w3 (w3.alloc o).drew := ((Below.refl _ w3).alloc (Nat.le_refl _) o).drew
          exact ⟨k3.below hb, s3.touch (Tch.of_below hb (S := fun _ => False)) (fun h => h), row_alloc r3 o, row_alloc b3 o, held_cell (row_alloc rq o) rfl, f3.trans (Fr.of_below hb)⟩
        go_region
        go_wp2_with fail
        obtain ⟨k5, s5, r5, b5, c5, f5⟩ := W5 (.cells #[] 53)
        clear W5 k3 s3 r3 b3 f3 f3w c2 c2a x0 x0a lk lka lkd lkad rq oldc
        generalize (w3.alloc (.cells #[] 53)).drew = w5 at *
        obtain ⟨w6, hst, s6, t6⟩ := (s5.touch (Tch.drew (fun _ => False) w5) (fun h => h)).store x.1.seq hg.2.1 hml
        have x5 := held_cell (i := 0) b5 rfl
        have hpne : p ≠ m := fun e => s5.noRow _ _ _ (e ▸ b5)
        have hwne : w.heap.size ≠ m := by omega
        have t56 : Tch (· = m) w5 w6 := (Tch.drew _ w5).trans t6
        have b6 := t56.row b5 hpne
        have r6 := t56.row r5 hwne
        have k6 : TkS W0 w6 q [.map (some m), .int .i64 (j : Int)] nb T := k5.tch t56 (fun e => hqm e.symm) (fun k e hr => by subst e; obtain ⟨cur, z, hc⟩ := hr; exact s5.noRow _ _ _ hc) (fun k e => by rw [e]; exact hlm)
        have f6 : Fr (ItE q m) w w6 := f5.trans (Fr.of_tch t56 (fun k e => .inl (.inr e)))
        have y0 := held_cell (i := 0) b6 rfl
        have y1 := held_cell (i := 1) b6 rfl
        have y2 := held_cell (i := 2) b6 rfl
        have y3 := held_cell (i := 3) b6 rfl
        have hbel6 : Below W0.heap.size W0 w6 := by
          obtain ⟨_, _, _, _, _, hb⟩ := k6.at_
          exact hb
        have O6 := own_is x w6 (hg.1.below hbel6) hg.2.2
        unfold EntOut entV at O6
        have HBD := hid hbd
        have FIN : ∀ w7 A1 c1, KLab.Own w7 w6.heap.size (.slice A1 x.1.labs.length c1) x.1.labs → Below w6.heap.size w6 w7 → ∀ u0 u1 u2 u3, NextOut W0 w q m nb S met sk (.returned (.tuple #[entV (x.1, A1, c1), .bool true])) ((((w7.setCell ⟨w.heap.size, 0, none⟩ u0).setCell ⟨w.heap.size, 1, none⟩ u1).setCell ⟨w.heap.size, 2, none⟩ u2).setCell ⟨w.heap.size, 3, none⟩ u3) := by
          intro w7 A1 c1 o7 b7 u0 u1 u2 u3
          have e1 := HX.out.1
          have e2 : nx kyV met (x :: T) = (some (x, T), 0) := by
            conv => lhs; unfold nx
            rw [if_neg (show ¬ (kyV x).2 ∈ met from hmet)]
          rw [e2] at e1
          simp only [Nat.zero_add] at e1
          have i6 : It W0 w6 q m nb T (x.1.seq :: met) (sk + k) := ⟨by rw [HJ.out]; exact k6, s6, hlm, by have := HBD.out; have := HJ.out; simp at this ⊢; simp at *; omega⟩
          have i7 := i6.below b7
          have r7 : w7.heap[w.heap.size]? = some (.cells #[.int .i64 0, .int .i64 0, .slice none 0 0, .string ⟨#[]⟩] 34 (0, 0)) := (b7.block _ (row_lt r6)).trans r6
          obtain ⟨i8, t8⟩ := i7.box r7 (by omega) (by omega) hlo u0 u1 u2 u3
          have hlt6 := row_lt r6
          refine NextOut.yes (x := x) (T := T) (by rw [e1]) (frOut (f6.trans (Fr.of_below b7)) t8 (fun k e => by rw [e]; exact Nat.le_refl _)) A1 c1 ?_ (by rw [e1]; exact i8)
          exact (o7.touch t8 (fun k e hk => by have := (o7.lt k hk).1; omega)).mono (by omega)
        have W7 : ∀ w7, Below w6.heap.size w6 w7 → w7.heap[w.heap.size]? = some (.cells #[.int .i64 0, .int .i64 0, .slice none 0 0, .string ⟨#[]⟩] 34 (0, 0)) := fun w7 b7 => (b7.block _ (row_lt r6)).trans r6
        clear k5 s5 r5 f5 k6 s6 b6 r6 f6 t6 t56 hbd b5 hmp hbel6
        go_region
        go_wp2_with (go_at_call 24; refine O6.mono ?_; rintro e w7 ⟨A1, c1, rfl, o7, b7⟩; have FN := FIN _ _ _ o7 b7; have r7 := W7 _ b7; have d0 := held_cell (i := 0) r7 rfl; have d1 := held_cell (i := 1) r7 rfl; have d2 := held_cell (i := 2) r7 rfl; have d3 := held_cell (i := 3) r7 rfl; have z0 := held_frozen (i := 0) r7; have z1 := held_frozen (i := 1) r7; have z2 := held_frozen (i := 2) r7; have z3 := held_frozen (i := 3) r7; clear FIN W7 O6 o7 b7 r7)
        exact bodyPost_ret (v := .tuple #[entV (x.1, A1, c1), .bool true]) (by simp [results, Try.results16, go_sem, entV, *]) rfl (FN _ _ _ _)
end Go.Proofs.Ytcffagfkpkfgbaa
