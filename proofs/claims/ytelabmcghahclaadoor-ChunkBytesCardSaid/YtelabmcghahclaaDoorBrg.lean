/-
  What chunk.Get tells, said step by step as the reference reads; the reference's reader in memory. Conditions: those that each theorem names.
  The reference's Get of a chunk: what getC says, of any bytes. Conditions: the slice reads as the bytes.
-/
import Derived.Test.YtelabmcghahclaaDoorBbk
import Derived.Test.YtelabmcghahclaaDoorRRead
import Derived.Test.YtelabmcghahclaaDoorHrr
section
namespace Go.Icz
open Go.RowKit
theorem numD_err (l : List Nat) {er : Nat} (h : er ≠ 0) : numD l er = (0, l, er) := by unfold numD; rw [if_pos h]
theorem txtD_err (l : List Nat) {er : Nat} (h : er ≠ 0) : txtD l er = ([], l, er) := by unfold txtD; rw [if_pos h]
theorem rowStep_err {k : Nat} {st : RSt} (h : st.er ≠ 0) : (rowStep k st).er = st.er := by
  unfold rowStep
  simp only
  rw [numD_err _ h]
  simp only
  unfold seqStep sgnD
  split
  · rw [numD_err _ h]
    simp only
    rw [txtD_err _ h]
  · rw [numD_err _ h]
    simp only
    rw [txtD_err _ h]
theorem rowsTo_err (l : List Nat) (er k : Nat) (h : (rowsTo l er k).er ≠ 0) : ∀ d, (rowsTo l er (k + d)).er ≠ 0
  | 0 => h
  | d + 1 => by
    show (rowStep (k + d) (rowsTo l er (k + d))).er ≠ 0
    rw [rowStep_err (rowsTo_err l er k h d)]
    exact rowsTo_err l er k h d
end Go.Icz
namespace Go.Proofs.YtelabmcghahclaaDoor
open Go.RowKit Go.Icz Go.Shelf
theorem far_row {w : World} {b k i : Nat} {o : Obj} (u : Value) (h : w.heap[b]? = some o) (hne : b ≠ k) : (w.setCell ⟨k, i, none⟩ u).heap[b]? = some o :=
  ((grown_set w k i u).block b (Array.getElem?_eq_some_iff.1 h).1 (fun e => hne (by injection e))).trans h
theorem infoRr4 : (Tryd.prog.info? 61).map (fun i => (i.zero, i.size, i.bytes)) = some (some (.agg #[.int .i64 0, .int .i64 0, .string ⟨#[]⟩]), 3, 32) := by kernel_rfl
theorem chR_nil (labs : List Lab) : chR labs [] = false := by
  cases h : chR labs [] with
  | false => rfl
  | true => have := ((chR_iff labs []).1 h).1.1; simp at this
theorem getC_bad {l : List Nat} (h : gOk l = false) : getC l = ([], [], 21) := by unfold getC; rw [h]; rfl
theorem getC_lab {l : List Nat} (h : (readS (txtD l 0).1).2 ≠ 0) : getC l = ([], [], 21) := getC_bad (by unfold gOk; simp [h])
theorem getC_many {l : List Nat} (h : 1000 < (numD (txtD l 0).2.1 (txtD l 0).2.2).1) : getC l = ([], [], 21) := getC_bad (by
  have e : (gRows l).rows = [] := by unfold gRows readR; rw [if_pos h]
  unfold gOk
  rw [e, chR_nil, Bool.and_false])
theorem gRows_few {l : List Nat} (h : ¬ 1000 < (numD (txtD l 0).2.1 (txtD l 0).2.2).1) : gRows l = rowsTo (numD (txtD l 0).2.1 (txtD l 0).2.2).2.1 (numD (txtD l 0).2.1 (txtD l 0).2.2).2.2 (numD (txtD l 0).2.1 (txtD l 0).2.2).1 := by
  unfold gRows readR
  rw [if_neg h]
theorem getC_done {l : List Nat} (h : doneD (gRows l).l (gRows l).er ≠ 0) : getC l = ([], [], 21) := getC_bad (by unfold gOk; simp [h])
theorem getC_not {l : List Nat} (h : chR (gLabs l) (gRows l).rows = false) : getC l = ([], [], 21) := getC_bad (by unfold gOk; rw [h, Bool.and_false])
theorem getC_yes {l : List Nat} (h0 : (readS (txtD l 0).1).2 = 0) (h1 : doneD (gRows l).l (gRows l).er = 0) (h2 : chR (gLabs l) (gRows l).rows = true) : getC l = (gLabs l, (gRows l).rows, 0) := by
  unfold getC gOk
  rw [h2]
  simp [h0, h1]
/-- The reference's reader in the midst of rows: the row behind, the chunk, the decoder, the rows, the labels. -/
structure RG (W0 : World) (B g Lb bc bw M : Nat) (Al : Option Addr) (cl : Nat) (labs : List Lab) (l : List Nat) (W : World) (t s : Int) (ln : B8) (ov : Value) (rows : List CRow) (a er : Nat) : Prop where
  X : W.heap[bw]? = some (.cells #[.int .i64 s, .int .i64 t, .string ⟨ln.toArray⟩] 61 (0, 0))
  C : W.heap[bc]? = some (.cells #[.slice Al labs.length cl, ov] 25 (0, 0))
  D : RDec W B g l a er
  O : KRr.Own W M ov rows
  L : OwnL W Lb (.slice Al labs.length cl) labs
  Z : Below W0.heap.size W0 W
/-- Which block lies where. -/
def Fx (W0 : World) (B g Lb bc bw M : Nat) (v : Value) : Prop := W0.heap.size ≤ g ∧ g < B ∧ B ≤ Lb ∧ B ≤ bc ∧ bc < bw ∧ bw < M ∧ ∀ k, v.ownBlock = some k → k < bc
theorem RG.turn {W0 : World} {B g Lb bc bw M : Nat} {Al : Option Addr} {cl : Nat} {labs : List Lab} {l : List Nat} {W W' : World} {t s : Int} {ln : B8} {ov : Value} {rows : List CRow} {a er : Nat}
    (h : RG W0 B g Lb bc bw M Al cl labs l W t s ln ov rows a er) (f : Fx W0 B g Lb bc bw M (.slice Al labs.length cl)) {k : Nat} (hk : M ≤ k) (hv : ∀ j, ov.ownBlock = some j → j ≠ k) (q : W.grownBy W' (some k)) :
    RG W0 B g Lb bc bw M Al cl labs l W' t s ln ov rows a er := by
  obtain ⟨f1, f2, f3, f4, f5, f6, f7⟩ := f
  have bB : Below B W W' := (Below.refl B W).grown q (by
    have := h.X
    have := row_lt h.X
    omega) (fun j hj => by cases hj; omega)
  exact ⟨(q.block _ (row_lt h.X) (fun e => by injection e with e; omega)).trans h.X, (q.block _ (row_lt h.C) (fun e => by injection e with e; omega)).trans h.C, h.D.below bB, h.O.far q hv, h.L.far q (fun j hj e => by have := f7 j hj; omega), h.Z.grown q h.Z.size (fun j hj => by cases hj; omega)⟩
theorem RG.took {W0 : World} {B g Lb bc bw M : Nat} {Al : Option Addr} {cl : Nat} {labs : List Lab} {l : List Nat} {W W' : World} {t s : Int} {ln : B8} {ov : Value} {rows : List CRow} {a er a' er' : Nat}
    (h : RG W0 B g Lb bc bw M Al cl labs l W t s ln ov rows a er) (f : Fx W0 B g Lb bc bw M (.slice Al labs.length cl)) (d : RDec W' B g l a' er') (q : W.grownBy W' (some g)) :
    RG W0 B g Lb bc bw M Al cl labs l W' t s ln ov rows a' er' := by
  obtain ⟨f1, f2, f3, f4, f5, f6, f7⟩ := f
  exact ⟨(q.block _ (row_lt h.X) (fun e => by injection e with e; omega)).trans h.X, (q.block _ (row_lt h.C) (fun e => by injection e with e; omega)).trans h.C, d, h.O.far q (fun j hj e => by have := (h.O.lt j hj).1; omega), h.L.far q (fun j hj e => by have := (World.ownsRow.lt h.L j hj).1; omega), h.Z.grown q h.Z.size (fun j hj => by cases hj; omega)⟩
theorem RG.alloc {W0 : World} {B g Lb bc bw M : Nat} {Al : Option Addr} {cl : Nat} {labs : List Lab} {l : List Nat} {W : World} {t s : Int} {ln : B8} {ov : Value} {rows : List CRow} {a er : Nat}
    (h : RG W0 B g Lb bc bw M Al cl labs l W t s ln ov rows a er) (f : Fx W0 B g Lb bc bw M (.slice Al labs.length cl)) (hM : M ≤ W.heap.size) (o : Obj) :
    RG W0 B g Lb bc bw M Al cl labs l (W.alloc o) t s ln ov rows a er :=
  h.turn f (k := W.heap.size) hM (fun j hj e => by have := (h.O.lt j hj).2; omega) ⟨rfl, rfl, rfl, by simp, fun k hk _ => heap_alloc_old _ _ hk⟩
theorem RG.drew1 {W0 : World} {B g Lb bc bw M : Nat} {Al : Option Addr} {cl : Nat} {labs : List Lab} {l : List Nat} {W : World} {t s : Int} {ln : B8} {ov : Value} {rows : List CRow} {a er : Nat}
    (h : RG W0 B g Lb bc bw M Al cl labs l W t s ln ov rows a er) : RG W0 B g Lb bc bw M Al cl labs l W.drew t s ln ov rows a er :=
  ⟨h.X, h.C, h.D.below (Below.refl B W).drew, h.O, h.L, h.Z.drew⟩
theorem RG.drew {W0 : World} {B g Lb bc bw M : Nat} {Al : Option Addr} {cl : Nat} {labs : List Lab} {l : List Nat} {W : World} {t s : Int} {ln : B8} {ov : Value} {rows : List CRow} {a er : Nat}
    (h : RG W0 B g Lb bc bw M Al cl labs l W t s ln ov rows a er) (n : Nat) : RG W0 B g Lb bc bw M Al cl labs l (W.drewN n) t s ln ov rows a er :=
  ⟨h.X, h.C, h.D.below (below_dn n (Below.refl B W)), h.O, h.L, below_dn n h.Z⟩
theorem RG.put {W0 : World} {B g Lb bc bw M : Nat} {Al : Option Addr} {cl : Nat} {labs : List Lab} {l : List Nat} {W : World} {t s : Int} {ln : B8} {ov : Value} {rows : List CRow} {a er : Nat}
    (h : RG W0 B g Lb bc bw M Al cl labs l W t s ln ov rows a er) (f : Fx W0 B g Lb bc bw M (.slice Al labs.length cl)) (t' s' : Int) (ln' : B8) :
    RG W0 B g Lb bc bw M Al cl labs l (((W.setCell ⟨bw, 0, none⟩ (.int .i64 s')).setCell ⟨bw, 1, none⟩ (.int .i64 t')).setCell ⟨bw, 2, none⟩ (.string ⟨ln'.toArray⟩)) t' s' ln' ov rows a er := by
  obtain ⟨f1, f2, f3, f4, f5, f6, f7⟩ := f
  have hz : B ≤ bw := by omega
  have hO : ∀ j, ov.ownBlock = some j → j ≠ bw := fun j hj e => by have := (h.O.lt j hj).1; omega
  have hL : ∀ j, (Value.slice Al labs.length cl).ownBlock = some j → j ≠ bw := fun j hj e => by have := f7 j hj; omega
  have hne : bc ≠ bw := by omega
  refine ⟨row_set (i := 2) (row_set (i := 1) (row_set (i := 0) h.X _) _) _, ?_, ?_, ?_, ?_, ?_⟩
  · exact far_row (i := 2) _ (far_row (i := 1) _ (far_row (i := 0) _ h.C hne) hne) hne
  · exact h.D.below ((((Below.refl B W).setCell (p := ⟨bw, 0, none⟩) hz _).setCell (p := ⟨bw, 1, none⟩) hz _).setCell (p := ⟨bw, 2, none⟩) hz _)
  · exact ((h.O.far (grown_set _ bw 0 _) hO).far (grown_set _ bw 1 _) hO).far (grown_set _ bw 2 _) hO
  · exact ((h.L.far (grown_set _ bw 0 _) hL).far (grown_set _ bw 1 _) hL).far (grown_set _ bw 2 _) hL
  · have hz0 : W0.heap.size ≤ bw := by omega
    exact ((h.Z.setCell (p := ⟨bw, 0, none⟩) hz0 _).setCell (p := ⟨bw, 1, none⟩) hz0 _).setCell (p := ⟨bw, 2, none⟩) hz0 _
/-- Rows appended, and laid into the chunk. -/
theorem RG.app {W0 : World} {B g Lb bc bw M : Nat} {Al : Option Addr} {cl : Nat} {labs : List Lab} {l : List Nat} {W W' : World} {t s : Int} {ln : B8} {ov ov' : Value} {rows rows' : List CRow} {a er : Nat}
    (h : RG W0 B g Lb bc bw M Al cl labs l W t s ln ov rows a er) (f : Fx W0 B g Lb bc bw M (.slice Al labs.length cl)) (o : KRr.Own W' M ov' rows') (b : Below M W W') :
    RG W0 B g Lb bc bw M Al cl labs l (W'.setCell ⟨bc, 1, none⟩ ov') t s ln ov' rows' a er := by
  obtain ⟨f1, f2, f3, f4, f5, f6, f7⟩ := f
  have hO : ∀ j, ov'.ownBlock = some j → j ≠ bc := fun j hj e => by have := (o.lt j hj).1; omega
  have hL : ∀ j, (Value.slice Al labs.length cl).ownBlock = some j → j ≠ bc := fun j hj e => by have := f7 j hj; omega
  have L' : OwnL W' Lb (.slice Al labs.length cl) labs := ⟨h.L.1, h.L.2.imp id (fun ⟨k, cap, cur, hv, hB, hc, r⟩ => ⟨k, cap, cur, hv, hB, (b.block k (by have := f7 k (by rw [hv]; rfl); omega)).trans hc, r⟩)⟩
  refine ⟨far_row (i := 1) _ ((b.block _ (by omega)).trans h.X) (by omega), row_set (i := 1) ((b.block _ (by omega)).trans h.C) _, ?_, o.far (grown_set _ bc 1 _) hO, L'.far (grown_set _ bc 1 _) hL, ?_⟩
  · exact (h.D.below (b.mono (by omega))).below ((Below.refl B W').setCell (p := ⟨bc, 1, none⟩) f4 _)
  · exact (h.Z.trans (b.mono (by omega))).setCell (p := ⟨bc, 1, none⟩) (by show W0.heap.size ≤ bc; omega) _
end Go.Proofs.YtelabmcghahclaaDoor
end
section
namespace Go.Proofs.YtelabmcghahclaaDoor
open Go.RowKit Go.Icz Go.Shelf
attribute [local go_sem] Oper.semAt_some
set_option maxRecDepth 100000
set_option maxHeartbeats 4000000
theorem R4Get_is (v : Value) (l : List Nat) (w : World) (hv : Rd w v l) (hl : ∀ c ∈ l, c < 256) (hlen : l.length ≤ 140737488351232) :
    Calls Tryd.prog 11 #[v] w (CgOut KRr (getC l) w) := by
  obtain ⟨W0, hW0⟩ : ∃ W0, W0 = w.alloc (.cells #[.slice none 0 0, .slice none 0 0] 25) := ⟨_, rfl⟩
  have b0 : Below w.heap.size w W0 := by rw [hW0]; exact (Below.refl _ w).alloc (Nat.le_refl _) _
  have z0 : W0.heap.size = w.heap.size + 1 := by rw [hW0]; simp
  have x0 : W0.heap[w.heap.size]? = some (.cells #[.slice none 0 0, .slice none 0 0] 25 (0, 0)) := by rw [hW0]; exact heap_alloc_new w _
  have HN := RNew_any v l W0 (hv.below b0) hlen
  obtain ⟨A0, c0, rfl, _, _⟩ := hv
  have q1 := txtR_D l 0 0
  rw [List.drop_zero] at q1
  have T1 := fun w1 B g (d : RDec w1 B g l 0 0) => RText_dec B g 0 0 l w1 d hl (by omega)
  have hsx := fun c h => hl c (txtD_mem l 0 c h)
  have hsn := (txtD_sub l 0).2.2
  have GL := fun h => getC_lab (l := l) h
  have GM := fun h => getC_many (l := l) h
  have GF := fun h => gRows_few (l := l) h
  have GY := fun h0 h1 h2 => getC_yes (l := l) h0 h1 h2
  have HGL : Hid (gLabs l = (readS (txtD l 0).1).1) := hid rfl
  have HGD := hid (fun h => getC_done (l := l) h)
  have HGT := hid (fun h => getC_not (l := l) h)
  rw [q1] at GL GM GF GY HGL hsx hsn
  simp only at GL GM GF GY HGL hsx hsn
  generalize (txtR l 0 0).1 = s1 at *
  generalize (txtR l 0 0).2.1 = p1 at *
  generalize (txtR l 0 0).2.2 = e1 at *
  have hlens : s1.length ≤ 140737488351232 := by omega
  have RD := fun v1 w1 (g : Rd w1 v1 s1) => RRead_own v1 s1 w1 g hsx hlens
  unfold ReadOwn at RD
  have CV := fun w1 n hn => conv_sb2 (str s1) w1 n hn
  rw [nats_str s1 hsx, str_len] at CV
  obtain ⟨rs1, rs2⟩ := readS_sub s1
  rw [← HGL.out] at RD rs1 rs2
  generalize (readS s1).2 = le at *
  generalize gLabs l = labs at *
  have q2 := numR_D l p1 e1
  rw [q2] at GM GF
  simp only at GM GF
  have N1 := fun w1 B g (d : RDec w1 B g l p1 e1) => RNumber_dec B g e1 p1 l w1 d hl (by omega)
  generalize (numR l p1 e1).1 = n at *
  generalize (numR l p1 e1).2.1 = p2 at *
  generalize (numR l p1 e1).2.2 = e2 at *
  have HLL : Hid ((∀ c ∈ l, c < 256) ∧ l.length ≤ 140737488351232) := hid ⟨hl, hlen⟩
  have RRt := fun (rows : List CRow) A A2 C C2 wx (hL : RdL wx (.slice A labs.length C) labs) (hR : KRr.Rd wx (.slice A2 rows.length C2) rows) => R4Right_is labs rows A A2 C C2 wx hL hR (by omega) (fun y hy => by have := rs2 y hy; omega)
  have HRR := hid RRt
  have HGL2 := hid GL
  have HGM := hid GM
  have HGF := hid GF
  have HGY := hid GY
  have HB0 := hid (And.intro b0 z0)
  have HX0 := hid x0
  have HN1 := hid N1
  clear HGL GL GM GF GY RRt N1 rs1 rs2 b0 z0 x0 hl hlen hsx hsn hlens q1 q2
  rw [hW0] at HN
  go_enter Tryd.func11, Tryd.ntmps11
  go_upto_region 2 with (first
    | (go_at_call 41; refine HN.mono ?_; rintro e w1 ⟨g, rfl, hg, d1, b1⟩; clear HN; rw [← hW0] at hg b1))
  clear hW0
  have D1 := T1 _ _ _ d1
  have hgB : g < w1.heap.size := by obtain ⟨_, _, _, h, _⟩ := d1; exact h
  have HG1 := hid (And.intro hg (And.intro b1 hgB))
  clear hg b1 d1 T1 hgB
  go_upto_region 4 with (first
    | (go_at_call 43; refine D1.mono ?_; rintro e w2 ⟨rfl, d2, q2⟩; obtain ⟨cc, cv, crd, cb⟩ := CV w2 w2.heap.size rfl; have HD2 := hid d2; have b2 : Below W0.heap.size W0 w2 := HG1.out.2.1.grown q2 HG1.out.2.1.size (fun k hk => by cases hk; exact HG1.out.1); have HQ2 := hid q2; have RDc := RD _ _ crd; have HCB := hid cb; have HB2 := hid b2; clear D1 d2 q2 CV RD crd b2 cb)
    | (go_at_call 42; refine RDc.mono ?_; rintro e w3 ⟨u3, rfl, ru3, b3⟩; obtain ⟨A3, c3, rfl, -, -⟩ := id ru3.rd; have HB3 := hid (HCB.out.trans (b3.mono HCB.out.size)); have HR3 := hid (ru3.mono HCB.out.size); clear RDc cv b3 ru3))
  have hlt3 := fun k hk => (World.ownsRow.lt HR3.out k hk).2
  obtain ⟨W3, hW3⟩ : ∃ W3, W3 = w3.alloc (.cells #[.slice A3 labs.length c3, .slice none 0 0] 25) := ⟨_, rfl⟩
  have b4 : Below w3.heap.size w3 W3 := by rw [hW3]; exact (Below.refl _ w3).alloc (Nat.le_refl _) _
  have z4 : W3.heap.size = w3.heap.size + 1 := by rw [hW3]; simp
  have x4 : W3.heap[w3.heap.size]? = some (.cells #[.slice A3 labs.length c3, .slice none 0 0] 25 (0, 0)) := by rw [hW3]; exact heap_alloc_new w3 _
  have b23 : Below w2.heap.size w2 W3 := HB3.out.trans (b4.mono HB3.out.size)
  have d3 := HD2.out.below (b23.mono HQ2.out.size)
  have ND := HN1.out W3 _ _ d3
  have b03 : Below W0.heap.size W0 W3 := HB2.out.trans (b23.mono HB2.out.size)
  have L3 := hid (HR3.out.below b4)
  have HX4 := hid x4
  have HZ4 := hid (And.intro z4 (And.intro b03 b23.size))
  have HLT := hid hlt3
  clear hlt3 b4 z4 x4 b23 d3 b03
  rw [← hW3]
  clear hW3
  go_upto_region 5 with (first
    | (go_at_call 44; refine ND.mono ?_; rintro e w5 ⟨rfl, d5, q5⟩; have HD5 := hid d5; have HQ5 := hid q5; clear ND d5 q5))
  have sz : Hid (w.heap.size < g ∧ g < w1.heap.size ∧ w1.heap.size ≤ w2.heap.size ∧ w2.heap.size ≤ w3.heap.size ∧ w3.heap.size < w5.heap.size) := hid (by
    have h1 := HG1.out.1; have h2 := HG1.out.2.2; have h3 := HQ2.out.size; have h4 := HB3.out.size; have h5 := HQ5.out.size; have h6 := HZ4.out.1; have h7 := HB0.out.2; omega)
  have b05 : Below W0.heap.size W0 w5 := HZ4.out.2.1.grown HQ5.out HZ4.out.2.1.size (fun k hk => by cases hk; exact HG1.out.1)
  have x5 : w5.heap[w3.heap.size]? = some (.cells #[.slice A3 labs.length c3, .slice none 0 0] 25 (0, 0)) := (HQ5.out.block _ (row_lt HX4.out) (fun e => by injection e with e; have := sz.out; omega)).trans HX4.out
  have L5 : OwnL w5 w2.heap.size (.slice A3 labs.length c3) labs := L3.out.far HQ5.out (fun k hk e => by have h1 := (World.ownsRow.lt HR3.out k hk).1; have := sz.out; omega)
  have y5 := (b05.block _ (row_lt HX0.out)).trans HX0.out
  have fin : ∀ (wx : World) (a b : Value), wx.heap[w.heap.size]? = some (.cells #[.slice none 0 0, .slice none 0 0] 25 (0, 0)) → ((wx.setCell ⟨w.heap.size, 0, none⟩ a).setCell ⟨w.heap.size, 1, none⟩ b).heap[w.heap.size]? = some (.cells #[a, b] 25 (0, 0)) := fun wx a b h => row_set (i := 1) (row_set (i := 0) h a) b
  have BADN : ∀ wx, Below W0.heap.size W0 wx → CgOut KRr ([], [], 21) w (.returned (.tuple #[.agg #[.slice none 0 0, .slice none 0 0], .int .i64 (21 : Int)])) ((wx.setCell ⟨w.heap.size, 0, none⟩ (.slice none 0 0)).setCell ⟨w.heap.size, 1, none⟩ (.slice none 0 0)) := fun wx b => ⟨none, 0, none, 0, rfl, (OwnL.nil _ 0).rd, (Kd.Own.nil (K := KRr) _ 0).rd, ((HB0.out.1.trans (b.mono HB0.out.1.size)).setCell (p := ⟨w.heap.size, 0, none⟩) (Nat.le_refl _) _).setCell (p := ⟨w.heap.size, 1, none⟩) (Nat.le_refl _) _⟩
  have HBAD := hid BADN
  have HFIN := hid fin
  have HB5 := hid b05
  have HX5 := hid x5
  have HL5 := hid L5
  have p00 := held_cell (i := 0) y5 rfl
  have p01 := held_cell (i := 1) y5 rfl
  have f00 := held_frozen (i := 0) y5
  have f01 := held_frozen (i := 1) y5
  have Y5 := hid y5
  clear BADN fin b05 x5 L5 y5 HR3 L3 HX4 HZ4 HG1 HB2 HB3 HQ2 HCB HD2 HN1
  by_cases hle : le = 0
  · subst hle
    by_cases hn : 1000 < n
    · have HC := hid (HGM.out hn)
      have hn2 : (1000 : Int) < (n : Int) := by omega
      clear hn
      go_wp2_with fail
      have kf := HFIN.out w5 (.slice none 0 0) (.slice none 0 0) Y5.out
      have r0 := held_cell (i := 0) kf rfl
      have r1 := held_cell (i := 1) kf rfl
      exact bodyPost_ret (v := .tuple #[.agg #[.slice none 0 0, .slice none 0 0], .int .i64 (21 : Int)]) (by simp [results, Tryd.results11, go_sem, r0, r1]) rfl (by rw [HC.out]; exact HBAD.out w5 HB5.out)
    · have hn2 : ¬ (1000 : Int) < (n : Int) := by omega
      have HNN : Hid (n ≤ 1000) := hid (by omega)
      have HGR := hid (HGF.out hn)
      clear hn p00 p01 f00 f01
      go_upto_region 8 with fail
      obtain ⟨bw, hbw⟩ : ∃ bw, bw = w5.heap.size := ⟨_, rfl⟩
      obtain ⟨W6, hW6⟩ : ∃ W6, W6 = w5.alloc (.cells #[.int .i64 0, .int .i64 0, .string ⟨#[]⟩] 61) := ⟨_, rfl⟩
      have b6 : Below w5.heap.size w5 W6 := by rw [hW6]; exact (Below.refl _ w5).alloc (Nat.le_refl _) _
      have z6 : W6.heap.size = bw + 1 := by rw [hW6, hbw]; simp
      have x6 : W6.heap[bw]? = some (.cells #[.int .i64 0, .int .i64 0, .string ⟨#[]⟩] 61 (0, 0)) := by rw [hW6, hbw]; exact heap_alloc_new w5 _
      have HFX : Hid (Fx W0 w1.heap.size g w2.heap.size w3.heap.size bw (bw + 1) (.slice A3 labs.length c3)) := hid (by
        have := sz.out; have := HB0.out.2
        exact ⟨by omega, by omega, by omega, by omega, by omega, by omega, fun k hk => HLT.out k hk⟩)
      have HRG : Hid (RG W0 w1.heap.size g w2.heap.size w3.heap.size bw (bw + 1) A3 c3 labs l W6 (rowsTo (l.drop p2) e2 0).t (rowsTo (l.drop p2) e2 0).s (rowsTo (l.drop p2) e2 0).ln (.slice none 0 0) (rowsTo (l.drop p2) e2 0).rows p2 (rowsTo (l.drop p2) e2 0).er) := hid ⟨x6, (b6.block _ (row_lt HX5.out)).trans HX5.out, HD5.out.below (b6.mono (by have := sz.out; omega)), Kd.Own.nil _ _, HL5.out.below b6, HB5.out.trans (b6.mono HB5.out.size)⟩
      have HZ6 : Hid (bw + 1 ≤ W6.heap.size ∧ w.heap.size + 1 ≤ W0.heap.size) := hid ⟨by omega, by have := HB0.out.2; omega⟩
      rw [← hW6, ← hbw]
      clear hW6 b6 z6 x6 hbw Y5 HX5 HL5 HB5 HD5 HQ5 sz HLT
      go_wp2_with fail
      go_loopw [10, 11] (fun iv rv wr => ∃ (i a : Nat) (ov : Value), iv = .int .i64 (i : Int) ∧ Hid (i ≤ n) ∧ Hid ((rowsTo (l.drop p2) e2 i).l = l.drop a) ∧ Hid (bw + 1 ≤ wr.heap.size) ∧ Hid (RG W0 w1.heap.size g w2.heap.size w3.heap.size bw (bw + 1) A3 c3 labs l wr (rowsTo (l.drop p2) e2 i).t (rowsTo (l.drop p2) e2 i).s (rowsTo (l.drop p2) e2 i).ln ov (rowsTo (l.drop p2) e2 i).rows a (rowsTo (l.drop p2) e2 i).er)) (fun iv _ _ => n - (intOf iv).toNat)
      case atStart => exact ⟨0, p2, .slice none 0 0, rfl, hid (Nat.zero_le _), hid rfl, hid HZ6.out.1, HRG⟩
      case round =>
        obtain ⟨i, a, ov, rfl, hi, HA, HM, HR⟩ := hrel
        have CE : wr.cell? ⟨g, 2, none⟩ = some (.int .i64 ((rowsTo (l.drop p2) e2 i).er : Int)) := by obtain ⟨_, _, _, _, _, _, _, _, c2, _⟩ := HR.out.D; exact c2
        have HY : Hid (wr.heap[w.heap.size]? = some (.cells #[.slice none 0 0, .slice none 0 0] 25 (0, 0))) := hid ((HR.out.Z.block _ (row_lt HX0.out)).trans HX0.out)
        obtain ⟨A4, c4, hov, _⟩ := HR.out.O.rd.form
        subst hov
        by_cases her : (rowsTo (l.drop p2) e2 i).er = 0
        · by_cases hil : i < n
          · have hii : (i : Int) < (n : Int) := by omega
            have HIL := hid hil
            have hi2 : (i : Int) + 1 ≤ 1000 := by have := HNN.out; omega
            have HST : Hid (rowsTo (l.drop p2) e2 (i + 1) = rowStep i (rowsTo (l.drop p2) e2 i)) := hid rfl
            have HRL : Hid ((rowsTo (l.drop p2) e2 i).rows.length ≤ 1000) := hid (by rw [rowsTo_len]; have := HNN.out; omega)
            generalize rowsTo (l.drop p2) e2 i = st at *
            obtain ⟨rows, tm, sq, ln, l3, er3⟩ := st
            simp only at HR HRL HA her CE
            have hl3 := HA.out
            subst hl3
            subst her
            have CE2 : wr.cell? ⟨g, 2, none⟩ = some (.int .i64 0) := CE
            clear CE
            obtain ⟨x1, p3, e3, hq1⟩ : ∃ x1 p3 e3, numR l a 0 = (x1, p3, e3) := ⟨_, _, _, rfl⟩
            have hD1 := numR_D l a 0
            have NUM1 := fun wx (h : RDec wx w1.heap.size g l a 0) => RNumber_dec w1.heap.size g 0 a l wx h HLL.out.1 (by have := HLL.out.2; omega)
            rw [hq1] at hD1
            rw [hq1] at NUM1
            simp only at hD1 NUM1
            obtain ⟨x2, p4, e4, hq2⟩ : ∃ x2 p4 e4, numR l p3 e3 = (x2, p4, e4) := ⟨_, _, _, rfl⟩
            have hD2 := numR_D l p3 e3
            have NUM2 := fun wx (h : RDec wx w1.heap.size g l p3 e3) => RNumber_dec w1.heap.size g e3 p3 l wx h HLL.out.1 (by have := HLL.out.2; omega)
            have SGN2 := fun wx (h : RDec wx w1.heap.size g l p3 e3) => RSigned_dec w1.heap.size g e3 p3 l wx h HLL.out.1 (by have := HLL.out.2; omega)
            rw [hq2] at hD2
            rw [hq2] at NUM2 SGN2
            simp only at hD2 NUM2 SGN2
            obtain ⟨tx, p5, e5, hq3⟩ : ∃ tx p5 e5, txtR l p4 e4 = (tx, p5, e5) := ⟨_, _, _, rfl⟩
            have hD3 := txtR_D l p4 e4
            have TXT := fun wx (h : RDec wx w1.heap.size g l p4 e4) => RText_bt w1.heap.size g e4 p4 l wx h HLL.out.1 (by have := HLL.out.2; omega)
            rw [hq3] at hD3
            rw [hq3] at TXT
            simp only at hD3 TXT
            rw [hD3] at TXT
            simp only at TXT
            unfold RTook at NUM1 NUM2 SGN2 TXT
            obtain ⟨sq2, hs2⟩ : ∃ sq2, sq2 = (if i = 0 then (x2 : Int) else IntKind.i64.wrap (sq + unz x2)) := ⟨_, rfl⟩
            have HSS := hid hs2
            have HUN : Hid (rowStep i ⟨rows, tm, sq, ln, l.drop a, 0⟩ = ⟨rows ++ [⟨sq2, IntKind.i64.wrap (tm + (x1 : Int)), bt tx⟩], IntKind.i64.wrap (tm + (x1 : Int)), sq2, bt tx, l.drop p5, e5⟩) := hid (by
              unfold rowStep seqStep sgnD
              rw [hD1]
              simp only
              rw [hD2]
              simp only
              rw [hs2]
              by_cases h0 : i = 0
              · simp only [if_pos h0]
                rw [hD3]
              · simp only [if_neg h0]
                rw [hD3])
            have HN2 := hid NUM2
            have HS2 := hid SGN2
            have HTX := hid TXT
            have A : Hid (RG W0 w1.heap.size g w2.heap.size w3.heap.size bw (bw + 1) A3 c3 labs l wr.drew tm sq ln (.slice A4 rows.length c4) rows a 0) := hid HR.out.drew1
            have HZQ : Hid True := hid trivial
            have HMD : Hid (bw + 1 ≤ wr.drew.heap.size) := hid HM.out
            clear hD1 hD2 hD3 hq1 hq2 hq3 NUM2 SGN2 TXT hs2 hil
            go_upto_region 11 with fail
            go_cut [11] from 33 to 71 (fun rb wx => ∃ br, rb = .pointer (some ⟨br, 0, none⟩) ∧ Hid (RG W0 w1.heap.size g w2.heap.size w3.heap.size bw (bw + 1) A3 c3 labs l wx tm sq ln (.slice A4 rows.length c4) rows p3 e3) ∧ Hid (wx.heap[br]? = some (.cells #[.int .i64 0, .int .i64 (IntKind.i64.wrap (tm + (x1 : Int))), .string ⟨#[]⟩] 61 (0, 0))) ∧ Hid (bw + 1 ≤ br ∧ ∀ k, (Value.slice A4 rows.length c4).ownBlock = some k → k ≠ br))
            case first =>
              refine wp_region_L 7 (fun wS => wS.cell? ⟨bw, 1, none⟩ = some (.int .i64 tm)) (by kernel_rfl) ?_
              refine takeL (i := 0) (d := 45) (v := .pointer (some ⟨bw, 1, none⟩)) rfl rfl (by kernel_rfl) (by kernel_rfl) (by kernel_rfl) (by kernel_rfl) (by kernel_rfl) (fun _ _ _ h => h) (Or.inl ⟨by rfl, fun wS hSw => by go_simp <;> first | rfl | exact HZQ.out⟩) (held_cell (i := 1) A.out.X rfl) ?_
              try simp only [List.setIfInBounds_toArray, List.set_cons_zero, List.set_cons_succ]
              refine takeL (i := 1) (d := 46) (v := .int .i64 tm) rfl rfl (by kernel_rfl) (by kernel_rfl) (by kernel_rfl) (by kernel_rfl) (by kernel_rfl) (fun _ _ _ h => h) (Or.inl ⟨by rfl, fun wS hSw => by go_simp <;> first | rfl | exact HZQ.out⟩) (held_cell (i := 1) A.out.X rfl) ?_
              try simp only [List.setIfInBounds_toArray, List.set_cons_zero, List.set_cons_succ]
              refine takeL (i := 2) (d := 47) (v := .pointer (some ⟨g, 0, none⟩)) rfl rfl (by kernel_rfl) (by kernel_rfl) (by kernel_rfl) (by kernel_rfl) (by kernel_rfl) (fun _ _ _ h => h) (Or.inl ⟨by rfl, fun wS hSw => by go_simp <;> first | rfl | exact HZQ.out⟩) (held_cell (i := 1) A.out.X rfl) ?_
              try simp only [List.setIfInBounds_toArray, List.set_cons_zero, List.set_cons_succ]
              refine readyL (rs := [3, 6]) (by kernel_rfl) (by simp) ?_
              refine AllReadyL.cons rfl (fun K hK => ?_) (AllReadyL.cons rfl (fun K hK => ?_) AllReadyL.nil)
              · go_simp
                go_at_call 44
                refine (NUM1 _ A.out.D).mono ?_
                rintro e vA ⟨rfl, dA, qA⟩
                have TA := hid (A.out.took HFX.out dA qA)
                have HMA : Hid (bw + 1 ≤ vA.heap.size) := hid (Nat.le_trans HMD.out qA.size)
                refine hK.out _ _ (held_cell (i := 1) TA.out.X rfl) ?_
                clear hK K qA dA
                try simp only [Act.put, List.setIfInBounds_toArray, List.set_cons_zero, List.set_cons_succ]
                refine takeL (i := 4) (d := 49) (v := .int .i64 (IntKind.i64.wrap (tm + (x1 : Int)))) rfl rfl (by kernel_rfl) (by kernel_rfl) (by kernel_rfl) (by kernel_rfl) (by kernel_rfl) (fun _ _ _ h => h) (Or.inl ⟨by rfl, fun wS hSw => by go_simp <;> first | rfl | exact HZQ.out⟩) (held_cell (i := 1) TA.out.X rfl) ?_
                try simp only [List.setIfInBounds_toArray, List.set_cons_zero, List.set_cons_succ]
                refine takeL (i := 5) (d := 50) (v := .agg #[.int .i64 0, .int .i64 (IntKind.i64.wrap (tm + (x1 : Int))), .string ⟨#[]⟩]) rfl rfl (by kernel_rfl) (by kernel_rfl) (by kernel_rfl) (by kernel_rfl) (by kernel_rfl) (fun _ _ _ h => h) (Or.inl ⟨by rfl, fun wS hSw => by go_simp <;> first | rfl | exact HZQ.out⟩) (held_cell (i := 1) TA.out.X rfl) ?_
                try simp only [List.setIfInBounds_toArray, List.set_cons_zero, List.set_cons_succ]
                refine readyL (rs := [6]) (by kernel_rfl) (by simp) ?_
                refine AllReadyL.cons rfl (fun K hK => ?_) AllReadyL.nil
                obtain ⟨VA, hVA⟩ : ∃ VA, VA = vA.alloc (.cells #[.int .i64 0, .int .i64 0, .string ⟨#[]⟩] 61) := ⟨_, rfl⟩
                have TB : Hid (RG W0 w1.heap.size g w2.heap.size w3.heap.size bw (bw + 1) A3 c3 labs l VA tm sq ln (.slice A4 rows.length c4) rows p3 e3) := hid (by rw [hVA]; exact TA.out.alloc HFX.out HMA.out _)
                have ZB : Hid (VA.heap[vA.heap.size]? = some (.cells #[.int .i64 0, .int .i64 0, .string ⟨#[]⟩] 61 (0, 0))) := hid (by rw [hVA]; exact heap_alloc_new vA _)
                go_simp
                try (rw [if_pos (by rfl)]; go_simp)
                rw [← hVA]
                clear hVA
                refine hK.out _ _ (held_cell (i := 1) TB.out.X rfl) ?_
                clear hK K
                try simp only [Act.put, List.setIfInBounds_toArray, List.set_cons_zero, List.set_cons_succ]
                refine readyL (rs := [7]) (by kernel_rfl) (by simp) ?_
                refine AllReadyL.last rfl (fun K hK => ?_)
                have cA0 := held_cell (i := 0) ZB.out rfl
                have cA1 := held_cell (i := 1) ZB.out rfl
                have cA2 := held_cell (i := 2) ZB.out rfl
                have fA0 := held_frozen (i := 0) ZB.out
                have fA1 := held_frozen (i := 1) ZB.out
                have fA2 := held_frozen (i := 2) ZB.out
                rw [if_pos (by rfl)]
                go_simp
                refine hK.out _ _ ?_
                clear hK K cA0 cA1 cA2 fA0 fA1 fA2
                refine doneL (by kernel_rfl) ?_
                have hno : ∀ k, (Value.slice A4 rows.length c4).ownBlock = some k → k ≠ vA.heap.size := fun k hk e => by have := (TA.out.O.lt k hk).2; omega
                go_wp2_with fail
                go_meet
                exact ⟨vA.heap.size, rfl, hid (((TB.out.turn HFX.out HMA.out hno (grown_set _ _ 0 _)).turn HFX.out HMA.out hno (grown_set _ _ 1 _)).turn HFX.out HMA.out hno (grown_set _ _ 2 _)), hid (row_set (i := 2) (row_set (i := 1) (row_set (i := 0) ZB.out _) _) _), hid ⟨HMA.out, hno⟩⟩
              · obtain ⟨VA, hVA⟩ : ∃ VA, VA = (wr.alloc (.cells #[.int .i64 0, .int .i64 0, .string ⟨#[]⟩] 61)).drew := ⟨_, rfl⟩
                have hzd : wr.drew.heap.size = wr.heap.size := rfl
                have TB : Hid (RG W0 w1.heap.size g w2.heap.size w3.heap.size bw (bw + 1) A3 c3 labs l VA tm sq ln (.slice A4 rows.length c4) rows a 0) := hid (by rw [hVA]; exact (HR.out.alloc HFX.out HM.out _).drew1)
                have ZB : Hid (VA.heap[wr.heap.size]? = some (.cells #[.int .i64 0, .int .i64 0, .string ⟨#[]⟩] 61 (0, 0))) := hid (by rw [hVA]; exact heap_alloc_new wr _)
                go_simp
                try (rw [if_pos (by rfl)]; go_simp)
                try rw [← hVA]
                clear hVA hzd
                refine hK.out _ _ (held_cell (i := 1) TB.out.X rfl) ?_
                clear hK K
                try simp only [Act.put, List.setIfInBounds_toArray, List.set_cons_zero, List.set_cons_succ]
                refine readyL (rs := [3]) (by kernel_rfl) (by simp) ?_
                refine AllReadyL.cons rfl (fun K hK => ?_) AllReadyL.nil
                go_simp
                go_at_call 44
                refine (NUM1 _ TB.out.D).mono ?_
                rintro e vA ⟨rfl, dA, qA⟩
                have TA := hid (TB.out.took HFX.out dA qA)
                have ZA : Hid (vA.heap[wr.heap.size]? = some (.cells #[.int .i64 0, .int .i64 0, .string ⟨#[]⟩] 61 (0, 0))) := hid ((qA.block _ (row_lt ZB.out) (fun e => by injection e with e; have := HFX.out.2.1; have := HM.out; obtain ⟨f1, f2, f3, f4, f5, f6, f7⟩ := HFX.out; omega)).trans ZB.out)
                refine hK.out _ _ (held_cell (i := 1) TA.out.X rfl) ?_
                clear hK K qA dA
                try simp only [Act.put, List.setIfInBounds_toArray, List.set_cons_zero, List.set_cons_succ]
                refine takeL (i := 4) (d := 49) (v := .int .i64 (IntKind.i64.wrap (tm + (x1 : Int)))) rfl rfl (by kernel_rfl) (by kernel_rfl) (by kernel_rfl) (by kernel_rfl) (by kernel_rfl) (fun _ _ _ h => h) (Or.inl ⟨by rfl, fun wS hSw => by go_simp <;> first | rfl | exact HZQ.out⟩) (held_cell (i := 1) TA.out.X rfl) ?_
                try simp only [List.setIfInBounds_toArray, List.set_cons_zero, List.set_cons_succ]
                refine takeL (i := 5) (d := 50) (v := .agg #[.int .i64 0, .int .i64 (IntKind.i64.wrap (tm + (x1 : Int))), .string ⟨#[]⟩]) rfl rfl (by kernel_rfl) (by kernel_rfl) (by kernel_rfl) (by kernel_rfl) (by kernel_rfl) (fun _ _ _ h => h) (Or.inl ⟨by rfl, fun wS hSw => by go_simp <;> first | rfl | exact HZQ.out⟩) (held_cell (i := 1) TA.out.X rfl) ?_
                try simp only [List.setIfInBounds_toArray, List.set_cons_zero, List.set_cons_succ]
                refine readyL (rs := [7]) (by kernel_rfl) (by simp) ?_
                refine AllReadyL.last rfl (fun K hK => ?_)
                have cA0 := held_cell (i := 0) ZA.out rfl
                have cA1 := held_cell (i := 1) ZA.out rfl
                have cA2 := held_cell (i := 2) ZA.out rfl
                have fA0 := held_frozen (i := 0) ZA.out
                have fA1 := held_frozen (i := 1) ZA.out
                have fA2 := held_frozen (i := 2) ZA.out
                rw [if_pos (by rfl)]
                go_simp
                refine hK.out _ _ ?_
                clear hK K cA0 cA1 cA2 fA0 fA1 fA2
                refine doneL (by kernel_rfl) ?_
                have hno : ∀ k, (Value.slice A4 rows.length c4).ownBlock = some k → k ≠ wr.heap.size := fun k hk e => by have := (HR.out.O.lt k hk).2; omega
                go_wp2_with fail
                go_meet
                exact ⟨wr.heap.size, rfl, hid (((TA.out.turn HFX.out HM.out hno (grown_set _ _ 0 _)).turn HFX.out HM.out hno (grown_set _ _ 1 _)).turn HFX.out HM.out hno (grown_set _ _ 2 _)), hid (row_set (i := 2) (row_set (i := 1) (row_set (i := 0) ZA.out _) _) _), hid ⟨HM.out, hno⟩⟩
            case rest =>
              obtain ⟨br, rfl, HB, HX, HBr⟩ := hcut
              have NGB : Hid (g < bw + 1) := hid (by obtain ⟨f1, f2, f3, f4, f5, f6, f7⟩ := HFX.out; omega)
              generalize IntKind.i64.wrap (tm + (x1 : Int)) = tw at *
              clear A HMD NUM1 CE2 HM
              by_cases h0 : i = 0
              · have NUM := HN2.out
                have h0' : ((i : Int) == 0) = true := by simp [h0]
                have h0'' : (i : Int) = 0 := by omega
                have hs := HSS.out
                rw [if_pos h0] at hs
                subst hs
                clear h0
                have TXT := HTX.out
                go_wp2_with (first
                  | (go_at_call 44; refine (NUM _ HB.out.D).mono ?_; rintro e w11 ⟨rfl, d11, q11⟩; have T11 := hid (HB.out.took HFX.out d11 q11); have X11 := hid ((q11.block _ (row_lt HX.out) (fun e => by injection e with e; have := NGB.out; have := HBr.out.1; omega)).trans HX.out); have f11 := held_frozen (i := 0) X11.out; have c11 := held_cell (i := 0) X11.out rfl; have PB := hid (T11.out.turn HFX.out HBr.out.1 HBr.out.2 (grown_set w11 br 0 (.int .i64 (x2 : Int)))); have XB := hid (row_set (i := 0) X11.out (.int .i64 (x2 : Int))); clear d11 q11 NUM)
                  |(go_at_call 43; refine (TXT _ PB.out.D).mono ?_; rintro e w13 ⟨rfl, d13, q13⟩; have T13 := hid (PB.out.took HFX.out d13 q13); have X13 := hid ((q13.block _ (row_lt XB.out) (fun e => by injection e with e; have := NGB.out; have := HBr.out.1; omega)).trans XB.out); have f13 := held_frozen (i := 2) X13.out; have c13 := held_cell (i := 2) X13.out rfl; have P14 := hid (T13.out.turn HFX.out HBr.out.1 HBr.out.2 (grown_set w13 br 2 (.string ⟨(bt tx).toArray⟩))); have X14 := hid (row_set (i := 2) X13.out (.string ⟨(bt tx).toArray⟩)); have e0 := held_cell (i := 0) X14.out rfl; have e1 := held_cell (i := 1) X14.out rfl; have e2 := held_cell (i := 2) X14.out rfl; have k1 := held_cell (i := 1) P14.out.C rfl; clear d13 q13 TXT)
                  | (at_builtin; go_loud (refine Kd.wp_app1 (K := KRr) rfl (.tmp 66) (.tmp 68) 23 rfl Tryd.underlying23 infoRr4 rfl (bw + 1) _ rows ⟨(x2 : Int), tw, bt tx⟩ rfl P14.out.O (n := w13.heap.size) (by simp [World.setCell]) rfl rfl (by have := HRL.out; unfold maxLen; omega) (by have := HRL.out; omega) (Nat.le_trans HBr.out.1 (Nat.le_of_lt (row_lt X14.out))) ?_; intro v14 w14 o14 b14 g14 n14); obtain ⟨L14, hL14⟩ : ∃ L, L = rows ++ [⟨(x2 : Int), tw, bt tx⟩] := ⟨_, rfl⟩; rw [← hL14] at o14; have HL14 := hid hL14; clear hL14; obtain ⟨A14, c14, rfl, -⟩ := o14.rd.form; have C15 : w14.heap[w3.heap.size]? = _ := (b14.block _ (by obtain ⟨f1, f2, f3, f4, f5, f6, f7⟩ := HFX.out; omega)).trans P14.out.C; have fc := held_frozen (i := 1) C15; have cc1 := held_cell (i := 1) C15 rfl; have PC := hid (P14.out.app HFX.out o14 b14); have X15 : (w14.setCell ⟨w3.heap.size, 1, none⟩ (.slice A14 L14.length c14)).heap[br]? = _ := far_row (i := 1) (.slice A14 L14.length c14) ((g14.block br (by simp [World.setCell]; exact Nat.lt_succ_of_lt (by have := row_lt X14.out; simpa [World.setCell] using this)) (fun e => HBr.out.2 br e.symm rfl)).trans ((heap_alloc_old _ _ (row_lt X14.out)).trans X14.out)) (by obtain ⟨f1, f2, f3, f4, f5, f6, f7⟩ := HFX.out; have := HBr.out.1; omega); have a0 := held_cell (i := 0) X15 rfl; have a1 := held_cell (i := 1) X15 rfl; have a2 := held_cell (i := 2) X15 rfl; have y0 := held_cell (i := 0) PC.out.X rfl; have y1 := held_cell (i := 1) PC.out.X rfl; have y2 := held_cell (i := 2) PC.out.X rfl; have z0 := held_frozen (i := 0) PC.out.X; have z1 := held_frozen (i := 1) PC.out.X; have z2 := held_frozen (i := 2) PC.out.X; have HO14 := hid o14; have HSZ : Hid (bw + 1 ≤ w14.heap.size) := hid (Nat.le_trans (Nat.le_trans HBr.out.1 (Nat.le_of_lt (row_lt X14.out))) b14.size); clear C15 X15 o14 b14 g14 n14 e0 e1 e2 k1))
                go_roundw
                case rel => exact ⟨i + 1, p5, .slice A14 L14.length c14, by go_num, HIL, hid (by rw [HST.out, HUN.out]), hid (by simpa [World.setCell] using HSZ.out), hid (by have h9 := PC.out.put HFX.out tw ((x2 : Int)) (bt tx); rw [HL14.out] at h9; rw [HST.out, HUN.out]; rw [HL14.out]; exact h9)⟩
                case measure => have := HIL.out; simp [intOf]; omega
              · have SGN := HS2.out
                have h0' : ((i : Int) == 0) = false := by simp [h0]
                have hs := HSS.out
                rw [if_neg h0] at hs
                have HZQ : Hid (IntKind.i64.wrap (sq + unz x2) = sq2) := hid hs.symm
                generalize unz x2 = z at *
                clear h0 hs HSS HN2
                have TXT := HTX.out
                go_upto_region 14 with fail
                have B : Hid (RG W0 w1.heap.size g w2.heap.size w3.heap.size bw (bw + 1) A3 c3 labs l wc.drew tm sq ln (.slice A4 rows.length c4) rows p3 e3) := hid HB.out.drew1
                have BX : Hid (wc.drew.heap[br]? = some (.cells #[.int .i64 0, .int .i64 tw, .string ⟨#[]⟩] 61 (0, 0))) := hid HX.out
                refine wp_region_L 6 (fun wS => wS.cell? ⟨bw, 0, none⟩ = some (.int .i64 sq)) (by kernel_rfl) ?_
                refine takeL (i := 0) (d := 56) (v := .pointer (some ⟨bw, 0, none⟩)) rfl rfl (by kernel_rfl) (by kernel_rfl) (by kernel_rfl) (by kernel_rfl) (by kernel_rfl) (fun _ _ _ h => h) (Or.inl ⟨by rfl, fun wS hSw => by go_simp <;> first | rfl | exact HZQ.out⟩) (held_cell (i := 0) B.out.X rfl) ?_
                try simp only [List.setIfInBounds_toArray, List.set_cons_zero, List.set_cons_succ]
                refine takeL (i := 1) (d := 57) (v := .int .i64 sq) rfl rfl (by kernel_rfl) (by kernel_rfl) (by kernel_rfl) (by kernel_rfl) (by kernel_rfl) (fun _ _ _ h => h) (Or.inl ⟨by rfl, fun wS hSw => by go_simp <;> first | rfl | exact HZQ.out⟩) (held_cell (i := 0) B.out.X rfl) ?_
                try simp only [List.setIfInBounds_toArray, List.set_cons_zero, List.set_cons_succ]
                refine takeL (i := 2) (d := 58) (v := .pointer (some ⟨g, 0, none⟩)) rfl rfl (by kernel_rfl) (by kernel_rfl) (by kernel_rfl) (by kernel_rfl) (by kernel_rfl) (fun _ _ _ h => h) (Or.inl ⟨by rfl, fun wS hSw => by go_simp <;> first | rfl | exact HZQ.out⟩) (held_cell (i := 0) B.out.X rfl) ?_
                try simp only [List.setIfInBounds_toArray, List.set_cons_zero, List.set_cons_succ]
                refine readyL (rs := [3]) (by kernel_rfl) (by simp) ?_
                refine AllReadyL.cons rfl (fun K hK => ?_) AllReadyL.nil
                go_simp
                go_at_call 45
                refine (SGN _ B.out.D).mono ?_
                rintro e vB ⟨rfl, dB, qB⟩
                have TB := hid (B.out.took HFX.out dB qB)
                have XA := hid ((qB.block _ (row_lt BX.out) (fun e => by injection e with e; have := NGB.out; have := HBr.out.1; omega)).trans BX.out)
                refine hK.out _ _ (held_cell (i := 0) TB.out.X rfl) ?_
                clear hK K qB dB
                try simp only [Act.put, List.setIfInBounds_toArray, List.set_cons_zero, List.set_cons_succ]
                refine takeL (i := 4) (d := 60) (v := .int .i64 sq2) rfl rfl (by kernel_rfl) (by kernel_rfl) (by kernel_rfl) (by kernel_rfl) (by kernel_rfl) (fun _ _ _ h => h) (Or.inl ⟨by rfl, fun wS hSw => by go_simp <;> first | rfl | exact HZQ.out⟩) (held_cell (i := 0) TB.out.X rfl) ?_
                try simp only [List.setIfInBounds_toArray, List.set_cons_zero, List.set_cons_succ]
                refine takeL (i := 5) (d := 61) (v := .pointer (some ⟨br, 0, none⟩)) rfl rfl (by kernel_rfl) (by kernel_rfl) (by kernel_rfl) (by kernel_rfl) (by kernel_rfl) (fun _ _ _ h => h) (Or.inl ⟨by rfl, fun wS hSw => by go_simp <;> first | rfl | exact HZQ.out⟩) (held_cell (i := 0) TB.out.X rfl) ?_
                try simp only [List.setIfInBounds_toArray, List.set_cons_zero, List.set_cons_succ]
                refine readyL (rs := [6]) (by kernel_rfl) (by simp) ?_
                refine AllReadyL.last rfl (fun K hK => ?_)
                have cB := held_cell (i := 0) XA.out rfl
                have fB := held_frozen (i := 0) XA.out
                rw [if_pos (by rfl)]
                go_simp
                refine hK.out _ _ ?_
                clear hK K cB fB
                refine doneL (by kernel_rfl) ?_
                have PB := hid (TB.out.turn HFX.out HBr.out.1 HBr.out.2 (grown_set vB br 0 (.int .i64 sq2)))
                have XB := hid (row_set (i := 0) XA.out (.int .i64 sq2))
                generalize vB.setCell ⟨br, 0, none⟩ (.int .i64 sq2) = WB at *
                clear TB XA B BX SGN
                go_wp2_with (first
                  |(go_at_call 43; refine (TXT _ PB.out.D).mono ?_; rintro e w13 ⟨rfl, d13, q13⟩; have T13 := hid (PB.out.took HFX.out d13 q13); have X13 := hid ((q13.block _ (row_lt XB.out) (fun e => by injection e with e; have := NGB.out; have := HBr.out.1; omega)).trans XB.out); have f13 := held_frozen (i := 2) X13.out; have c13 := held_cell (i := 2) X13.out rfl; have P14 := hid (T13.out.turn HFX.out HBr.out.1 HBr.out.2 (grown_set w13 br 2 (.string ⟨(bt tx).toArray⟩))); have X14 := hid (row_set (i := 2) X13.out (.string ⟨(bt tx).toArray⟩)); have e0 := held_cell (i := 0) X14.out rfl; have e1 := held_cell (i := 1) X14.out rfl; have e2 := held_cell (i := 2) X14.out rfl; have k1 := held_cell (i := 1) P14.out.C rfl; clear d13 q13 TXT)
                  | (at_builtin; go_loud (refine Kd.wp_app1 (K := KRr) rfl (.tmp 66) (.tmp 68) 23 rfl Tryd.underlying23 infoRr4 rfl (bw + 1) _ rows ⟨sq2, tw, bt tx⟩ rfl P14.out.O (n := w13.heap.size) (by simp [World.setCell]) rfl rfl (by have := HRL.out; unfold maxLen; omega) (by have := HRL.out; omega) (Nat.le_trans HBr.out.1 (Nat.le_of_lt (row_lt X14.out))) ?_; intro v14 w14 o14 b14 g14 n14); obtain ⟨L14, hL14⟩ : ∃ L, L = rows ++ [⟨sq2, tw, bt tx⟩] := ⟨_, rfl⟩; rw [← hL14] at o14; have HL14 := hid hL14; clear hL14; obtain ⟨A14, c14, rfl, -⟩ := o14.rd.form; have C15 : w14.heap[w3.heap.size]? = _ := (b14.block _ (by obtain ⟨f1, f2, f3, f4, f5, f6, f7⟩ := HFX.out; omega)).trans P14.out.C; have fc := held_frozen (i := 1) C15; have cc1 := held_cell (i := 1) C15 rfl; have PC := hid (P14.out.app HFX.out o14 b14); have X15 : (w14.setCell ⟨w3.heap.size, 1, none⟩ (.slice A14 L14.length c14)).heap[br]? = _ := far_row (i := 1) (.slice A14 L14.length c14) ((g14.block br (by simp [World.setCell]; exact Nat.lt_succ_of_lt (by have := row_lt X14.out; simpa [World.setCell] using this)) (fun e => HBr.out.2 br e.symm rfl)).trans ((heap_alloc_old _ _ (row_lt X14.out)).trans X14.out)) (by obtain ⟨f1, f2, f3, f4, f5, f6, f7⟩ := HFX.out; have := HBr.out.1; omega); have a0 := held_cell (i := 0) X15 rfl; have a1 := held_cell (i := 1) X15 rfl; have a2 := held_cell (i := 2) X15 rfl; have y0 := held_cell (i := 0) PC.out.X rfl; have y1 := held_cell (i := 1) PC.out.X rfl; have y2 := held_cell (i := 2) PC.out.X rfl; have z0 := held_frozen (i := 0) PC.out.X; have z1 := held_frozen (i := 1) PC.out.X; have z2 := held_frozen (i := 2) PC.out.X; have HO14 := hid o14; have HSZ : Hid (bw + 1 ≤ w14.heap.size) := hid (Nat.le_trans (Nat.le_trans HBr.out.1 (Nat.le_of_lt (row_lt X14.out))) b14.size); clear C15 X15 o14 b14 g14 n14 e0 e1 e2 k1))
                go_roundw
                case rel => exact ⟨i + 1, p5, .slice A14 L14.length c14, by go_num, HIL, hid (by rw [HST.out, HUN.out]), hid (by simpa [World.setCell] using HSZ.out), hid (by have h9 := PC.out.put HFX.out tw (sq2) (bt tx); rw [HL14.out] at h9; rw [HST.out, HUN.out]; rw [HL14.out]; exact h9)⟩
                case measure => have := HIL.out; simp [intOf]; omega
          · have hii : ¬ (i : Int) < (n : Int) := by omega
            have hie : i = n := by have := hi.out; omega
            subst hie
            have DN := fun W' (d : RDec W' w1.heap.size g l a (rowsTo (l.drop p2) e2 i).er) => RDone_dec w1.heap.size g (rowsTo (l.drop p2) e2 i).er a l W' d (by have := HLL.out.2; omega)
            have DNw := DN wr HR.out.D
            clear hil
            rw [← HA.out] at DNw
            by_cases hdn : doneD (rowsTo (l.drop p2) e2 i).l (rowsTo (l.drop p2) e2 i).er = 0
            · cases hr : chR labs (rowsTo (l.drop p2) e2 i).rows
              · have HC : Hid (getC l = ([], [], 21)) := hid (HGT.out (by rw [HGR.out]; exact hr))
                have RRw := HRR.out (rowsTo (l.drop p2) e2 i).rows A3 A4 c3 c4
                rw [hr] at RRw
                rw [hdn] at DNw
                have HRN := hid (fun m => HR.out.drew m)
                generalize (rowsTo (l.drop p2) e2 i).er = er at *
                generalize (rowsTo (l.drop p2) e2 i).rows = rows at *
                subst her
                clear hdn hr
                go_wp2_with (first
                  | (go_at_call 46; refine DNw.mono ?_; rintro e w7 ⟨rfl, m, rfl⟩; have e0 := held_cell (i := 0) (HRN.out m).C rfl; have e1 := held_cell (i := 1) (HRN.out m).C rfl; have RRm := RRw (wr.drewN m) (HRN.out m).L.rd (HRN.out m).O.rd; clear DNw CE RRw)
                  | (go_at_call 13; refine RRm.mono ?_; rintro e w8 ⟨rfl, b8⟩; have HB8 := hid b8; have HYN : Hid (w8.heap[w.heap.size]? = some (.cells #[.slice none 0 0, .slice none 0 0] 25 (0, 0))) := hid ((b8.block _ (row_lt HY.out)).trans HY.out); have HC8 : Hid (w8.heap[w3.heap.size]? = some (.cells #[.slice A3 labs.length c3, .slice A4 rows.length c4] 25 (0, 0))) := hid ((b8.block _ (row_lt (HRN.out m).C)).trans (HRN.out m).C); have k0 := held_cell (i := 0) HC8.out rfl; have k1 := held_cell (i := 1) HC8.out rfl; have q00 := held_cell (i := 0) HYN.out rfl; have q01 := held_cell (i := 1) HYN.out rfl; have g00 := held_frozen (i := 0) HYN.out; have g01 := held_frozen (i := 1) HYN.out; clear RRm e0 e1 b8))
                have HZ8 : Hid (Below W0.heap.size W0 w8) := hid ((HRN.out m).Z.trans (HB8.out.mono (HRN.out m).Z.size))
                have kf := HFIN.out w8 (.slice none 0 0) (.slice none 0 0) HYN.out
                have r0 := held_cell (i := 0) kf rfl
                have r1 := held_cell (i := 1) kf rfl
                exact bodyPost_ret (v := .tuple #[.agg #[.slice none 0 0, .slice none 0 0], .int .i64 (21 : Int)]) (by simp [results, Tryd.results11, go_sem, r0, r1]) rfl (by rw [HC.out]; exact HBAD.out w8 HZ8.out)
              · have HC : Hid (getC l = (labs, (rowsTo (l.drop p2) e2 i).rows, 0)) := hid (by rw [HGY.out (by simp) (by rw [HGR.out]; exact hdn) (by rw [HGR.out]; exact hr), HGR.out])
                have RRw := HRR.out (rowsTo (l.drop p2) e2 i).rows A3 A4 c3 c4
                rw [hr] at RRw
                rw [hdn] at DNw
                have HRN := hid (fun m => HR.out.drew m)
                generalize (rowsTo (l.drop p2) e2 i).er = er at *
                generalize (rowsTo (l.drop p2) e2 i).rows = rows at *
                subst her
                clear hdn hr
                go_wp2_with (first
                  | (go_at_call 46; refine DNw.mono ?_; rintro e w7 ⟨rfl, m, rfl⟩; have e0 := held_cell (i := 0) (HRN.out m).C rfl; have e1 := held_cell (i := 1) (HRN.out m).C rfl; have RRm := RRw (wr.drewN m) (HRN.out m).L.rd (HRN.out m).O.rd; clear DNw CE RRw)
                  | (go_at_call 13; refine RRm.mono ?_; rintro e w8 ⟨rfl, b8⟩; have HB8 := hid b8; have HYN : Hid (w8.heap[w.heap.size]? = some (.cells #[.slice none 0 0, .slice none 0 0] 25 (0, 0))) := hid ((b8.block _ (row_lt HY.out)).trans HY.out); have HC8 : Hid (w8.heap[w3.heap.size]? = some (.cells #[.slice A3 labs.length c3, .slice A4 rows.length c4] 25 (0, 0))) := hid ((b8.block _ (row_lt (HRN.out m).C)).trans (HRN.out m).C); have k0 := held_cell (i := 0) HC8.out rfl; have k1 := held_cell (i := 1) HC8.out rfl; have q00 := held_cell (i := 0) HYN.out rfl; have q01 := held_cell (i := 1) HYN.out rfl; have g00 := held_frozen (i := 0) HYN.out; have g01 := held_frozen (i := 1) HYN.out; clear RRm e0 e1 b8))
                have HZ8 : Hid (Below W0.heap.size W0 w8) := hid ((HRN.out m).Z.trans (HB8.out.mono (HRN.out m).Z.size))
                have kf := HFIN.out w8 (.slice A3 labs.length c3) (.slice A4 rows.length c4) HYN.out
                have r0 := held_cell (i := 0) kf rfl
                have r1 := held_cell (i := 1) kf rfl
                have hLN : ∀ k, (Value.slice A3 labs.length c3).ownBlock = some k → k ≠ w.heap.size := fun k hk e => by have h1 := (World.ownsRow.lt (HRN.out m).L k hk).1; have h2 := HFX.out.2.1; have h3 := HFX.out.2.2.1; have h4 := HFX.out.1; have h5 := HZ6.out.2; omega
                have hON : ∀ k, (Value.slice A4 rows.length c4).ownBlock = some k → k ≠ w.heap.size := fun k hk e => by have h1 := ((HRN.out m).O.lt k hk).1; obtain ⟨f1, f2, f3, f4, f5, f6, f7⟩ := HFX.out; have h5 := HZ6.out.2; omega
                have ol9 := OwnL.far (OwnL.far ((HRN.out m).L.below HB8.out) (grown_set w8 w.heap.size 0 (.slice A3 labs.length c3)) hLN) (grown_set _ w.heap.size 1 (.slice A4 rows.length c4)) hLN
                have or9 := Kd.Own.far (Kd.Own.far ((HRN.out m).O.below HB8.out) (grown_set w8 w.heap.size 0 (.slice A3 labs.length c3)) hON) (grown_set _ w.heap.size 1 (.slice A4 rows.length c4)) hON
                exact bodyPost_ret (v := .tuple #[.agg #[.slice A3 labs.length c3, .slice A4 rows.length c4], .int .i64 (0 : Int)]) (by simp [results, Tryd.results11, go_sem, r0, r1]) rfl (by rw [HC.out]; exact ⟨A3, c3, A4, c4, rfl, ol9.rd, or9.rd, ((HB0.out.1.trans (HZ8.out.mono HB0.out.1.size)).setCell (p := ⟨w.heap.size, 0, none⟩) (Nat.le_refl _) _).setCell (p := ⟨w.heap.size, 1, none⟩) (Nat.le_refl _) _⟩)
            · have HC := hid (HGD.out (by rw [HGR.out]; exact hdn))
              have HDN := hid hdn
              generalize (rowsTo (l.drop p2) e2 i).er = er at *
              generalize doneD (rowsTo (l.drop p2) e2 i).l er = dn at *
              have hd0 : ((dn : Int) == 0) = false := by simp; omega
              have hd1 : ((dn : Int) != 0) = true := by rw [bne, hd0]; rfl
              subst her
              clear hdn HDN
              go_wp2_with (first
                | (go_at_call 46; refine DNw.mono ?_; rintro e w7 ⟨rfl, m, rfl⟩; have HYN : Hid ((wr.drewN m).heap[w.heap.size]? = some (.cells #[.slice none 0 0, .slice none 0 0] 25 (0, 0))) := hid HY.out; have q00 := held_cell (i := 0) HYN.out rfl; have q01 := held_cell (i := 1) HYN.out rfl; have g00 := held_frozen (i := 0) HYN.out; have g01 := held_frozen (i := 1) HYN.out; clear DNw CE))
              have kf := HFIN.out (wr.drewN m) (.slice none 0 0) (.slice none 0 0) HYN.out
              have r0 := held_cell (i := 0) kf rfl
              have r1 := held_cell (i := 1) kf rfl
              exact bodyPost_ret (v := .tuple #[.agg #[.slice none 0 0, .slice none 0 0], .int .i64 (21 : Int)]) (by simp [results, Tryd.results11, go_sem, r0, r1]) rfl (by rw [HC.out]; exact HBAD.out _ (below_dn m HR.out.Z))
        · have hne : (((rowsTo (l.drop p2) e2 i).er : Int) == 0) = false := by simp; omega
          have DNw := RDone_dec w1.heap.size g (rowsTo (l.drop p2) e2 i).er a l wr HR.out.D (by have := HLL.out.2; omega)
          have hdn : doneD (l.drop a) (rowsTo (l.drop p2) e2 i).er ≠ 0 := by unfold doneD; rw [if_pos her]; exact her
          have HC : Hid (getC l = ([], [], 21)) := hid (HGD.out (by
            rw [HGR.out]
            have h9 := rowsTo_err (l.drop p2) e2 i her (n - i)
            rw [show i + (n - i) = n by have := hi.out; omega] at h9
            unfold doneD
            rw [if_pos h9]
            exact h9))
          by_cases hil : i < n
          · have hii : (i : Int) < (n : Int) := by omega
            generalize (rowsTo (l.drop p2) e2 i).er = er at *
            generalize doneD (l.drop a) er = dn at *
            have hd0 : ((dn : Int) == 0) = false := by simp; omega
            have hd1 : ((dn : Int) != 0) = true := by rw [bne, hd0]; rfl
            clear hdn her
            go_wp2_with (first
              | (go_at_call 46; refine DNw.mono ?_; rintro e w7 ⟨rfl, m, rfl⟩; have HYN : Hid ((wr.drewN m).heap[w.heap.size]? = some (.cells #[.slice none 0 0, .slice none 0 0] 25 (0, 0))) := hid HY.out; have q00 := held_cell (i := 0) HYN.out rfl; have q01 := held_cell (i := 1) HYN.out rfl; have g00 := held_frozen (i := 0) HYN.out; have g01 := held_frozen (i := 1) HYN.out; clear DNw CE))
            have kf := HFIN.out (wr.drewN m) (.slice none 0 0) (.slice none 0 0) HYN.out
            have r0 := held_cell (i := 0) kf rfl
            have r1 := held_cell (i := 1) kf rfl
            exact bodyPost_ret (v := .tuple #[.agg #[.slice none 0 0, .slice none 0 0], .int .i64 (21 : Int)]) (by simp [results, Tryd.results11, go_sem, r0, r1]) rfl (by rw [HC.out]; exact HBAD.out _ (below_dn m HR.out.Z))
          · have hii : ¬ (i : Int) < (n : Int) := by omega
            generalize (rowsTo (l.drop p2) e2 i).er = er at *
            generalize doneD (l.drop a) er = dn at *
            have hd0 : ((dn : Int) == 0) = false := by simp; omega
            have hd1 : ((dn : Int) != 0) = true := by rw [bne, hd0]; rfl
            clear hdn her
            go_wp2_with (first
              | (go_at_call 46; refine DNw.mono ?_; rintro e w7 ⟨rfl, m, rfl⟩; have HYN : Hid ((wr.drewN m).heap[w.heap.size]? = some (.cells #[.slice none 0 0, .slice none 0 0] 25 (0, 0))) := hid HY.out; have q00 := held_cell (i := 0) HYN.out rfl; have q01 := held_cell (i := 1) HYN.out rfl; have g00 := held_frozen (i := 0) HYN.out; have g01 := held_frozen (i := 1) HYN.out; clear DNw CE))
            have kf := HFIN.out (wr.drewN m) (.slice none 0 0) (.slice none 0 0) HYN.out
            have r0 := held_cell (i := 0) kf rfl
            have r1 := held_cell (i := 1) kf rfl
            exact bodyPost_ret (v := .tuple #[.agg #[.slice none 0 0, .slice none 0 0], .int .i64 (21 : Int)]) (by simp [results, Tryd.results11, go_sem, r0, r1]) rfl (by rw [HC.out]; exact HBAD.out _ (below_dn m HR.out.Z))
  · have HC := hid (HGL2.out hle)
    have hne : ((le : Int) == 0) = false := by simp; omega
    have hne2 : ((le : Int) != 0) = true := by rw [bne, hne]; rfl
    clear hle
    go_wp2_with fail
    have kf := HFIN.out w5 (.slice none 0 0) (.slice none 0 0) Y5.out
    have r0 := held_cell (i := 0) kf rfl
    have r1 := held_cell (i := 1) kf rfl
    exact bodyPost_ret (v := .tuple #[.agg #[.slice none 0 0, .slice none 0 0], .int .i64 (21 : Int)]) (by simp [results, Tryd.results11, go_sem, r0, r1]) rfl (by rw [HC.out]; exact HBAD.out w5 HB5.out)
end Go.Proofs.YtelabmcghahclaaDoor
end
