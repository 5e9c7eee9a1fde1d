/-
  What the law's own helpers Lent and Stays answer. Conditions: the slices read as bytes, of at most 2^47 - 4096.
  Any chunk as bytes, any bytes as a chunk: the law's walk. Conditions: those that each theorem names.
-/
import Derived.Test.YtelabmcghahclaaDoorWrite
import Derived.Deep.QuietTactic
import Derived.BigQuiet
import Derived.Test.YtelabmcghahclaaDoorBrp
import Derived.Test.YtelabmcghahclaaDoorBrg
import Derived.Test.YtelabmcghahclaaDoorHsa
section
namespace Go.Proofs.YtelabmcghahclaaDoor
open Go.RowKit Go.Icz
set_option maxRecDepth 100000 in
theorem Lent_any (v : Value) (l : List Nat) (w : World) (hv : Rd w v l) (hlen : l.length ≤ 140737488351232) :
    Calls Tryd.prog 6 #[v] w fun e w' => ∃ u, e = .returned u ∧ Lt w' w.heap.size u l ∧ Below w.heap.size w w' := by
  have hv0 := hv
  obtain ⟨A, c, rfl, _, _⟩ := hv
  have HV := hid hv0
  clear hv0
  go_enter Tryd.func6, Tryd.ntmps6
  go_wp2_with (first
    | (at_builtin; refine wp_appR std rfl (.tmp 4) (.tmp 5) rfl w.heap.size _ _ [] l rfl (Own.made w (Nat.le_refl _)) rfl (HV.out.below ((Below.refl _ _).alloc (Nat.le_refl _) _)) (by simp; omega) (by simp) ?_; intro v1 w1 o1 b1; simp only [List.nil_append] at o1; have hs1 : w.heap.size ≤ w1.heap.size := Nat.le_trans (by simp) b1.size)
    | (at_builtin; refine wp_appR std rfl (.tmp 7) (.tmp 8) rfl w.heap.size _ _ l [77, 78] rfl (o1.alloc _) rfl (Rd.two _ 77 78) ?_ ?_ ?_; (focus (simp; omega)); (focus (simp; omega)); intro v2 w2 o2 b2; clear o1; obtain ⟨g, cap, rfl, hg, hg2, hcap, hcell⟩ := o2.form (by simp); have hlc : (l ++ [77, 78]).length = l.length + 2 := by simp))
  go_ret
  refine ⟨_, rfl, ⟨g, cap, rfl, hg, hg2, by omega, hcell⟩, ?_⟩
  exact (((Below.refl _ _).alloc (Nat.le_refl _) _).trans b1).trans (((Below.refl _ _).alloc hs1 _).trans b2)

set_option maxRecDepth 100000 in
set_option maxHeartbeats 400000 in
theorem Stays_any (B : Nat) (x u : Value) (l : List Nat) (w : World) (hx : Lt w B x l) (hu : Rd w u l) (hlen : l.length ≤ 140737488351232) :
    Calls Tryd.prog 16 #[x, u] w fun e w' => e = .returned (.bool true) ∧ Below w.heap.size w w' := by
  have r1 := hx.rd
  obtain ⟨g, cap, rfl, hg, hlt, hcap, hcell⟩ := hx
  have c2 := fun n => conv_rd std (show Rd (w.drewN n) u l from hu)
  obtain ⟨A, c, rfl, hc, _⟩ := hu
  have c1 := fun n => conv_rd std (show Rd (w.drewN n) _ l from r1)
  have k1 := hcell l.length (by simp)
  have k2 := hcell (l.length + 1) (by simp)
  simp only [List.getElem_append_right (Nat.le_refl _), List.getElem_append_right (Nat.le_succ _), Nat.sub_self, List.getElem_cons_zero] at k1 k2
  have h0 : l.length ≤ cap := by omega
  clear hcell r1
  go_enter Tryd.func16, Tryd.ntmps16
  go_wp2_with fail
  go_quiet (fail)
  go_wp2
  go_ret
  exact ⟨rfl, rfl, rfl, rfl, Nat.le_refl _, fun _ _ => rfl⟩
end Go.Proofs.YtelabmcghahclaaDoor
end
section
namespace Go.Proofs.YtelabmcghahclaaDoor
open Go.RowKit Go.Icz Go.Shelf
attribute [local go_sem] Oper.semAt_some
set_option maxRecDepth 100000
set_option maxHeartbeats 4000000
theorem getC_len (l : List Nat) : (getC l).1.length ≤ 16 ∧ (getC l).2.1.length ≤ 1000 := by
  unfold getC
  split
  · exact ⟨(readS_sub _).1, (readR_sub _ _).2.2.1⟩
  · exact ⟨by simp, by simp⟩
theorem putM_len (labs : List Lab) (rows : List CRow) : (putM labs rows).length ≤ 2097152 := by
  unfold putM
  split
  · rename_i h; exact (chB_fit h).2.1
  · simp
theorem bytes_walk (labs : List Lab) (rows : List CRow) (A A2 : Option Addr) (C C2 : Nat) (bv : Value) (bs : List Nat) (w : World) (hL : RdL w (.slice A labs.length C) labs) (hR : KRr.Rd w (.slice A2 rows.length C2) rows) (hlz : labs.length * 32 ≤ 140737488351232) (hrz : rows.length * 32 ≤ 140737488351232) (hls : ∀ y ∈ labs, y.1.length ≤ 9223372036854775807 ∧ y.2.length ≤ 9223372036854775807) (hz : ∀ x ∈ rows, entZ (entC labs x)) (hT : Tabs w)
    (hb : Go.Icz.Rd w bv bs) (hbl : ∀ c ∈ bs, c < 256) (hbn : bs.length ≤ 140737488351232) :
    Calls Tryd.prog 3 #[.agg #[.slice A labs.length C, .slice A2 rows.length C2], bv] w fun e w' => e = .returned (.bool true) ∧ Below w.heap.size w w' := by
  obtain ⟨W0, hW0⟩ : ∃ W0, W0 = w.alloc (.cells #[.slice A labs.length C, .slice A2 rows.length C2] 25) := ⟨_, rfl⟩
  have b0 : Below w.heap.size w W0 := by rw [hW0]; exact (Below.refl _ w).alloc (Nat.le_refl _) _
  have x0 : W0.heap[w.heap.size]? = some (.cells #[.slice A labs.length C, .slice A2 rows.length C2] 25 (0, 0)) := by rw [hW0]; exact heap_alloc_new w _
  have cl0 : ∀ wx, Below W0.heap.size W0 wx → wx.cell? ⟨w.heap.size, 0, none⟩ = some (.slice A labs.length C) ∧ wx.cell? ⟨w.heap.size, 1, none⟩ = some (.slice A2 rows.length C2) := fun wx bx => by
    have y := (bx.block _ (row_lt x0)).trans x0
    exact ⟨held_cell y rfl, held_cell y rfl⟩
  have hLn := Lent_any bv bs W0 (hb.below b0) hbn
  have hO := fun wx (bx : Below W0.heap.size W0 wx) => COwn_is labs rows A A2 C C2 wx ((hL.below b0).below bx) ((hR.below b0).below bx) hlz hrz
  unfold ChOut at hO
  have hP := fun A C A2 C2 wx (hL : RdL wx (.slice A labs.length C) labs) (hR : KRw.Rd wx (.slice A2 rows.length C2) rows) (hT : Tabs wx) => CPut_any labs rows A A2 C C2 wx hL hR hT hz (by omega)
  have hP4 := fun wx (bx : Below W0.heap.size W0 wx) => R4Put_is labs rows A A2 C C2 wx ((hL.below b0).below bx) ((hR.below b0).below bx) hlz hls
  have hRR := fun wx (bx : Below W0.heap.size W0 wx) => R4Right_is labs rows A A2 C C2 wx ((hL.below b0).below bx) ((hR.below b0).below bx) hlz hls
  have hRC := fun A C A2 C2 wx (hL : RdL wx (.slice A labs.length C) labs) (hR : KRw.Rd wx (.slice A2 rows.length C2) rows) (hT : Tabs wx) => CRight_is labs rows A A2 C C2 wx hL hR hT hz (by omega)
  have hSm := fun A3 C3 A4 C4 wx (h1 : RdL wx (.slice A3 labs.length C3) labs) (h2 : KRw.Rd wx (.slice A4 rows.length C4) rows) (bx : Below W0.heap.size W0 wx) => CSame_refl labs rows A3 A4 A A2 C3 C4 C C2 wx h1 h2 ((hL.below b0).below bx) ((hR.below b0).below bx) (by omega) (by omega)
  have hG := fun v wx (h : Go.Icz.Rd wx v bs) (t : Tabs wx) => CGet_is v bs wx h hbl hbn t
  have hG4 := fun wx (bx : Below W0.heap.size W0 wx) => R4Get_is bv bs wx ((hb.below b0).below bx) hbl hbn
  have hSy := fun x wx (hx : Lt wx W0.heap.size x bs) (bx : Below W0.heap.size W0 wx) => Stays_any W0.heap.size x bv bs wx hx ((hb.below b0).below bx) hbn
  obtain ⟨gl1, gl2⟩ := getC_len bs
  have hmm := putM_len labs rows
  unfold PtOut at hP hP4
  unfold CgOut at hG hG4
  generalize putM labs rows = m at *
  generalize putN labs rows = pn at *
  generalize getC bs = q at *
  obtain ⟨ql, qr, qe⟩ := q
  simp only at hG hG4 gl1 gl2
  have hSq := fun A3 C3 A4 C4 A5 C5 A6 C6 wx (h1 : RdL wx (.slice A3 ql.length C3) ql) (h2 : KRw.Rd wx (.slice A4 qr.length C4) qr) (h3 : RdL wx (.slice A5 ql.length C5) ql) (h4 : KRr.Rd wx (.slice A6 qr.length C6) qr) => CSame_refl ql qr A3 A4 A5 A6 C3 C4 C5 C6 wx h1 h2 h3 h4 (by omega) (by omega)
  have HO := hid hO
  have HP := hid hP
  have HP4 := hid hP4
  have HRR := hid hRR
  have HRC := hid hRC
  have HSM := hid hSm
  have HSQ := hid hSq
  have HG := hid hG
  have HG4 := hid hG4
  have HSY := hid hSy
  have HT := hid (hT.below b0)
  have HB0 := hid b0
  have HCL0 := hid cl0
  rw [hW0] at hLn
  clear hT hL hR hlz hrz hls hz hb hbl hbn hO hP hP4 hRR hRC hSm hSq hG hG4 hSy b0 x0 cl0 gl1 gl2 hmm
  generalize chR labs rows = rb at *
  go_enter Tryd.func3, Tryd.ntmps3
  go_upto_region 2 with (first
    | (go_at_call 6; refine hLn.mono ?_; rintro e w1 ⟨v1, rfl, lt1, b1⟩; clear hLn; rw [← hW0] at b1 lt1))
  clear hW0
  have hO1 := HO.out w1 b1
  obtain ⟨e0, e1⟩ := HCL0.out w1 b1
  have B1 := hid b1
  have LT1 := hid lt1
  clear b1 lt1
  go_upto_region 3 with (first
    | (go_at_call 7; refine hO1.mono ?_; rintro e w2 ⟨A2x, c2x, A3, c3, rfl, o2, o3, b2⟩; clear hO1 e0 e1))
  obtain ⟨W2, hW2⟩ : ∃ W2, W2 = w2.alloc (.cells #[.slice A2x labs.length c2x, .slice A3 rows.length c3] 30) := ⟨_, rfl⟩
  have b2' : Below w2.heap.size w2 W2 := by rw [hW2]; exact (Below.refl _ w2).alloc (Nat.le_refl _) _
  have x2 : W2.heap[w2.heap.size]? = some (.cells #[.slice A2x labs.length c2x, .slice A3 rows.length c3] 30 (0, 0)) := by rw [hW2]; exact heap_alloc_new w2 _
  have b12 : Below w1.heap.size w1 W2 := b2.trans (b2'.mono b2.size)
  have B02 : Hid (Below W0.heap.size W0 W2) := hid (B1.out.trans (b12.mono B1.out.size))
  have LT2 : Hid (Lt W2 W0.heap.size v1 bs) := hid (LT1.out.below b12)
  have OL := hid (o2.rd.below b2')
  have OR := hid (o3.rd.below b2')
  have X2 := hid x2
  have f2 := held_cell (i := 0) x2 rfl
  have f3 := held_cell (i := 1) x2 rfl
  have hP1 := HP.out A2x c2x A3 c3 W2 OL.out OR.out (HT.out.below B02.out)
  clear b2 b2' x2 b12 o2 o3
  rw [← hW2]
  clear hW2
  go_upto_region 4 with (first
    | (go_at_call 8; refine hP1.mono ?_; rintro e w3 ⟨v3, rfl, r3, b3⟩; clear hP1 f2 f3))
  have B23 := hid b3
  have B03 : Hid (Below W0.heap.size W0 w3) := hid (B02.out.trans (b3.mono B02.out.size))
  have R3 := hid r3
  obtain ⟨e0, e1⟩ := HCL0.out w3 B03.out
  have hP3 := HP4.out w3 B03.out
  clear b3 r3
  go_upto_region 5 with (first
    | (go_at_call 9; refine hP3.mono ?_; rintro e w4 ⟨v4, rfl, r4, b4⟩; clear hP3 e0 e1))
  have B24 : Hid (Below W2.heap.size W2 w4) := hid (B23.out.trans (b4.mono B23.out.size))
  have B04 : Hid (Below W0.heap.size W0 w4) := hid (B03.out.trans (b4.mono B03.out.size))
  have R34 := hid (R3.out.below b4)
  have R4 := hid r4
  have LT4 := hid (LT2.out.below B24.out)
  have hG5 := HG.out v1 w4 LT4.out.rd (HT.out.below B04.out)
  clear b4 r4 R3 B03 B23
  go_upto_region 6 with (first
    | (go_at_call 10; refine hG5.mono ?_; rintro e w5 ⟨A5, c5, A6, c6, rfl, rl5, rr6, b5⟩; clear hG5))
  obtain ⟨W5, hW5⟩ : ∃ W5, W5 = w5.alloc (.cells #[.slice A5 ql.length c5, .slice A6 qr.length c6] 30) := ⟨_, rfl⟩
  have b5' : Below w5.heap.size w5 W5 := by rw [hW5]; exact (Below.refl _ w5).alloc (Nat.le_refl _) _
  have x5 : W5.heap[w5.heap.size]? = some (.cells #[.slice A5 ql.length c5, .slice A6 qr.length c6] 30 (0, 0)) := by rw [hW5]; exact heap_alloc_new w5 _
  have b45 : Below w4.heap.size w4 W5 := b5.trans (b5'.mono b5.size)
  have B25 : Hid (Below W2.heap.size W2 W5) := hid (B24.out.trans (b45.mono B24.out.size))
  have B05 : Hid (Below W0.heap.size W0 W5) := hid (B04.out.trans (b45.mono B04.out.size))
  have R35 := hid (R34.out.below b45)
  have R45 := hid (R4.out.below b45)
  have RL5 := hid (rl5.below b5')
  have RR5 := hid (rr6.below b5')
  have X5 := hid x5
  have hG6 := HG4.out W5 B05.out
  clear b5 b5' x5 b45 rl5 rr6 R34 R4
  rw [← hW5]
  clear hW5
  go_upto_region 7 with (first
    | (go_at_call 11; refine hG6.mono ?_; rintro e w6 ⟨A7, c7, A8, c8, rfl, rl7, rr8, b6⟩; clear hG6))
  obtain ⟨W6, hW6⟩ : ∃ W6, W6 = w6.alloc (.cells #[.slice A7 ql.length c7, .slice A8 qr.length c8] 25) := ⟨_, rfl⟩
  have b6' : Below w6.heap.size w6 W6 := by rw [hW6]; exact (Below.refl _ w6).alloc (Nat.le_refl _) _
  have x6 : W6.heap[w6.heap.size]? = some (.cells #[.slice A7 ql.length c7, .slice A8 qr.length c8] 25 (0, 0)) := by rw [hW6]; exact heap_alloc_new w6 _
  have b56 : Below W5.heap.size W5 W6 := b6.trans (b6'.mono b6.size)
  have B26 : Hid (Below W2.heap.size W2 W6) := hid (B25.out.trans (b56.mono B25.out.size))
  have B06 : Hid (Below W0.heap.size W0 W6) := hid (B05.out.trans (b56.mono B05.out.size))
  have FA : Hid (∀ wx, Below W6.heap.size W6 wx → Below W0.heap.size W0 wx ∧ Go.Icz.Rd wx v3 m ∧ Go.Icz.Rd wx v4 m ∧ RdL wx (.slice A2x labs.length c2x) labs ∧ KRw.Rd wx (.slice A3 rows.length c3) rows ∧ RdL wx (.slice A5 ql.length c5) ql ∧ KRw.Rd wx (.slice A6 qr.length c6) qr ∧ RdL wx (.slice A7 ql.length c7) ql ∧ KRr.Rd wx (.slice A8 qr.length c8) qr ∧ Lt wx W0.heap.size v1 bs ∧ wx.heap[w2.heap.size]? = some (.cells #[.slice A2x labs.length c2x, .slice A3 rows.length c3] 30 (0, 0)) ∧ wx.heap[w5.heap.size]? = some (.cells #[.slice A5 ql.length c5, .slice A6 qr.length c6] 30 (0, 0)) ∧ wx.heap[w6.heap.size]? = some (.cells #[.slice A7 ql.length c7, .slice A8 qr.length c8] 25 (0, 0))) := hid (fun wx bx => by
    have k5 := b56.trans (bx.mono b56.size)
    have k2 := B26.out.trans (bx.mono B26.out.size)
    have k0 := B06.out.trans (bx.mono B06.out.size)
    have kb := b6'.trans (bx.mono b6'.size)
    exact ⟨k0, R35.out.below k5, R45.out.below k5, OL.out.below k2, OR.out.below k2, RL5.out.below k5, RR5.out.below k5, rl7.below kb, rr8.below kb, LT2.out.below k2, (k2.block _ (row_lt X2.out)).trans X2.out, (k5.block _ (row_lt X5.out)).trans X5.out, (bx.block _ (row_lt x6)).trans x6⟩)
  clear b6 b6' x6 b56 rl7 rr8 R35 R45 OL OR RL5 RR5 X2 X5 LT1 LT2 LT4 B1 B02 B04 B05 B24 B25 B26 B06
  rw [← hW6]
  clear hW6
  have mkS : ∀ wx, Below W6.heap.size W6 wx → Below W6.heap.size W6 wx ∧ (convert 26 9 v3).run Tryd.prog wx = .ok (.string (str m)) wx ∧ (convert 26 9 v4).run Tryd.prog wx = .ok (.string (str m)) wx ∧ wx.cell? ⟨w.heap.size, 0, none⟩ = some (.slice A labs.length C) ∧ wx.cell? ⟨w.heap.size, 1, none⟩ = some (.slice A2 rows.length C2) ∧ wx.cell? ⟨w2.heap.size, 0, none⟩ = some (.slice A2x labs.length c2x) ∧ wx.cell? ⟨w2.heap.size, 1, none⟩ = some (.slice A3 rows.length c3) ∧ wx.cell? ⟨w5.heap.size, 0, none⟩ = some (.slice A5 ql.length c5) ∧ wx.cell? ⟨w5.heap.size, 1, none⟩ = some (.slice A6 qr.length c6) ∧ wx.cell? ⟨w6.heap.size, 0, none⟩ = some (.slice A7 ql.length c7) ∧ wx.cell? ⟨w6.heap.size, 1, none⟩ = some (.slice A8 qr.length c8) := fun wx bx => by
    obtain ⟨k0, r3, r4, -, -, -, -, -, -, -, x2, x5, x6⟩ := FA.out wx bx
    exact ⟨bx, conv_rd std r3, conv_rd std r4, (HCL0.out wx k0).1, (HCL0.out wx k0).2, held_cell (i := 0) x2 rfl, held_cell (i := 1) x2 rfl, held_cell (i := 0) x5 rfl, held_cell (i := 1) x5 rfl, held_cell (i := 0) x6 rfl, held_cell (i := 1) x6 rfl⟩
  have hk := mkS W6.drew (Below.refl _ _).drew
  have MK := hid mkS
  have t1 := True.intro
  have t2 := True.intro
  clear mkS
  go_region_held3 (fun wx => Below W6.heap.size W6 wx ∧ (convert 26 9 v3).run Tryd.prog wx = .ok (.string (str m)) wx ∧ (convert 26 9 v4).run Tryd.prog wx = .ok (.string (str m)) wx ∧ wx.cell? ⟨w.heap.size, 0, none⟩ = some (.slice A labs.length C) ∧ wx.cell? ⟨w.heap.size, 1, none⟩ = some (.slice A2 rows.length C2) ∧ wx.cell? ⟨w2.heap.size, 0, none⟩ = some (.slice A2x labs.length c2x) ∧ wx.cell? ⟨w2.heap.size, 1, none⟩ = some (.slice A3 rows.length c3) ∧ wx.cell? ⟨w5.heap.size, 0, none⟩ = some (.slice A5 ql.length c5) ∧ wx.cell? ⟨w5.heap.size, 1, none⟩ = some (.slice A6 qr.length c6) ∧ wx.cell? ⟨w6.heap.size, 0, none⟩ = some (.slice A7 ql.length c7) ∧ wx.cell? ⟨w6.heap.size, 1, none⟩ = some (.slice A8 qr.length c8)) (exact hk)
    (first
      | (go_at_call 12; refine (HRC.out A2x c2x A3 c3 _ (FA.out _ hk.1).2.2.2.1 (FA.out _ hk.1).2.2.2.2.1 (HT.out.below (FA.out _ hk.1).1)).mono ?_; rintro e w8 ⟨rfl, b8⟩; have hk := MK.out _ (hk.1.trans (b8.mono hk.1.size)); clear b8)
      | (go_at_call 13; refine (HRR.out _ (FA.out _ hk.1).1).mono ?_; rintro e w9 ⟨rfl, b9⟩; have hk := MK.out _ (hk.1.trans (b9.mono hk.1.size)); clear b9)
      | (go_at_call 14; refine (num4_is _ _).mono ?_; rintro e w13 ⟨rfl, rfl⟩)
      | (clear t1; go_at_call 15; refine (HSQ.out A5 c5 A6 c6 A7 c7 A8 c8 _ (FA.out _ hk.1).2.2.2.2.2.1 (FA.out _ hk.1).2.2.2.2.2.2.1 (FA.out _ hk.1).2.2.2.2.2.2.2.1 (FA.out _ hk.1).2.2.2.2.2.2.2.2.1).mono ?_; rintro e w10 ⟨rfl, b10⟩; have hk := MK.out _ (hk.1.trans (b10.mono hk.1.size)); clear b10)
      | (clear t2; go_at_call 15; refine (HSM.out A2x c2x A3 c3 _ (FA.out _ hk.1).2.2.2.1 (FA.out _ hk.1).2.2.2.2.1 (FA.out _ hk.1).1).mono ?_; rintro e w11 ⟨rfl, b11⟩; have hk := MK.out _ (hk.1.trans (b11.mono hk.1.size)); clear b11)
      | (go_at_call 16; refine (HSY.out v1 _ (FA.out _ hk.1).2.2.2.2.2.2.2.2.2.1 (FA.out _ hk.1).1).mono ?_; rintro e w15 ⟨rfl, b15⟩; have hk := MK.out _ (hk.1.trans (b15.mono hk.1.size)); clear b15)
      | (go_at_call 17; refine (knows4_is _ (HT.out.below (FA.out _ hk.1).1)).mono ?_; rintro e w16 ⟨rfl, b16⟩; have hk := MK.out _ (hk.1.trans (b16.mono hk.1.size)); clear b16))
  have HFI := hid (FA.out _ hk.1).1
  clear hk
  go_wp2_with fail
  go_ret
  exact ⟨rfl, HB0.out.trans (HFI.out.mono HB0.out.size)⟩
end Go.Proofs.YtelabmcghahclaaDoor
end
