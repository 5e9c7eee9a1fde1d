/-
  What the reference's Get of an entry answers, of any bytes: what getE and getN say. Conditions: the slice reads as the bytes.
-/
import Derived.Test.YtffpphigmdehfaaDoorEntGet2
import Derived.Test.YtffpphigmdehfaaDoorRRead
import Derived.Test.YtffpphigmdehfaaDoorEntRef
namespace Go.Proofs.YtffpphigmdehfaaDoor
open Go.RowKit Go.Icz
/-- A row that lies elsewhere. -/
theorem far_row {w : World} {b k i : Nat} {o : Obj} (u : Value) (h : w.heap[b]? = some o) (hne : b ≠ k) : (w.setCell ⟨k, i, none⟩ u).heap[b]? = some o :=
  ((grown_set w k i u).block b (Array.getElem?_eq_some_iff.1 h).1 (fun e => hne (by injection e))).trans h
theorem grown_row {w w' : World} {b g : Nat} {o : Obj} (h : w.heap[b]? = some o) (hg : w.grownBy w' (some g)) (hne : b ≠ g) : w'.heap[b]? = some o :=
  (hg.block b (Array.getElem?_eq_some_iff.1 h).1 (fun e => hne (by injection e))).trans h
theorem rdec_lt {w : World} {B g : Nat} {l : List Nat} {a er : Nat} (h : RDec w B g l a er) : g < B := by
  obtain ⟨_, _, _, h, _⟩ := h
  exact h
theorem drewN_row {w : World} {b n : Nat} {o : Obj} (h : w.heap[b]? = some o) : (w.drewN n).heap[b]? = some o := h
set_option maxHeartbeats 1000000 in
set_option maxRecDepth 100000 in
theorem R3Get_is (v : Value) (l : List Nat) (w : World) (hv : Rd w v l) (hl : ∀ c ∈ l, c < 256) (hlen : l.length ≤ 140737488351232) :
    Calls Tryd.prog 19 #[v] w (GetOut l w) := by
  have hvA := fun o => hv.alloc o
  have HN := fun w1 (g : Rd w1 v l) => RNew_any v l w1 g hlen
  obtain ⟨A0, c0, rfl, -, -⟩ := hv
  have q1 := numR_D l 0 0
  rw [List.drop_zero] at q1
  have N1 := fun w1 B g (d : RDec w1 B g l 0 0) => RNumber_dec B g 0 0 l w1 d hl (by omega)
  have sn1 := numD_sub l 0
  have EP : entParts l = ((numD l 0).1, (numD (numD l 0).2.1 (numD l 0).2.2).1, (txtD (numD (numD l 0).2.1 (numD l 0).2.2).2.1 (numD (numD l 0).2.1 (numD l 0).2.2).2.2).1,
    (txtD (txtD (numD (numD l 0).2.1 (numD l 0).2.2).2.1 (numD (numD l 0).2.1 (numD l 0).2.2).2.2).2.1 (txtD (numD (numD l 0).2.1 (numD l 0).2.2).2.1 (numD (numD l 0).2.1 (numD l 0).2.2).2.2).2.2).1,
    doneD (txtD (txtD (numD (numD l 0).2.1 (numD l 0).2.2).2.1 (numD (numD l 0).2.1 (numD l 0).2.2).2.2).2.1 (txtD (numD (numD l 0).2.1 (numD l 0).2.2).2.1 (numD (numD l 0).2.1 (numD l 0).2.2).2.2).2.2).2.1 (txtD (txtD (numD (numD l 0).2.1 (numD l 0).2.2).2.1 (numD (numD l 0).2.1 (numD l 0).2.2).2.2).2.1 (txtD (numD (numD l 0).2.1 (numD l 0).2.2).2.1 (numD (numD l 0).2.1 (numD l 0).2.2).2.2).2.2).2.2) := rfl
  rw [q1] at EP
  simp only at EP
  generalize (numR l 0 0).1 = a1 at *
  generalize (numR l 0 0).2.1 = p1 at *
  generalize (numR l 0 0).2.2 = e1 at *
  have q2 := numR_D l p1 e1
  have N2 := fun w1 B g (d : RDec w1 B g l p1 e1) => RNumber_dec B g e1 p1 l w1 d hl (by omega)
  rw [q2] at EP
  simp only at EP
  generalize (numR l p1 e1).1 = a2 at *
  generalize (numR l p1 e1).2.1 = p2 at *
  generalize (numR l p1 e1).2.2 = e2 at *
  have q3 := txtR_D l p2 e2
  have T1 := fun w1 B g (d : RDec w1 B g l p2 e2) => RText_dec B g e2 p2 l w1 d hl (by omega)
  have hsx := fun c h => hl c (List.mem_of_mem_drop (txtD_mem (l.drop p2) e2 c h))
  have hsn := (txtD_sub (l.drop p2) e2).2.2
  rw [q3] at EP hsx hsn
  simp only at EP hsx hsn
  generalize (txtR l p2 e2).1 = s1 at *
  generalize (txtR l p2 e2).2.1 = p3 at *
  generalize (txtR l p2 e2).2.2 = e3 at *
  have q4 := txtR_D l p3 e3
  have T2 := fun w1 B g (d : RDec w1 B g l p3 e3) => RText_bt B g e3 p3 l w1 d hl (by omega)
  have hs2n := (txtD_sub (l.drop p3) e3).2.2
  rw [q4] at EP hs2n
  rw [q4] at T2
  simp only at EP hs2n T2
  generalize (txtR l p3 e3).1 = s2 at *
  generalize (txtR l p3 e3).2.1 = p4 at *
  generalize (txtR l p3 e3).2.2 = e4 at *
  have DN := fun w1 B g (d : RDec w1 B g l p4 e4) => RDone_dec B g e4 p4 l w1 d (by omega)
  generalize doneD (l.drop p4) e4 = dn at *
  rw [List.length_drop] at hsn hs2n
  have hlens : s1.length ≤ 140737488351232 := by omega
  have RD := fun v1 w1 (g : Rd w1 v1 s1) => RRead_own v1 s1 w1 g hsx hlens
  unfold ReadOwn at RD
  have CV := fun w1 n hn => conv_sb2 (str s1) w1 n hn
  rw [nats_str s1 hsx, str_len] at CV
  obtain ⟨rs1, rs2⟩ := readS_sub s1
  have HEO : Hid (entOf l = ⟨(a1 : Int), (a2 : Int), (readS s1).1, bt s2⟩) := hid (by unfold entOf; rw [EP])
  have HOK : Hid (entOk l = (decide (dn = 0 ∧ (readS s1).2 = 0) && entR ⟨(a1 : Int), (a2 : Int), (readS s1).1, bt s2⟩)) := hid (by rw [← HEO.out]; unfold entOk; rw [EP])
  have hz : entZ ⟨(a1 : Int), (a2 : Int), (readS s1).1, bt s2⟩ := ⟨by simp only; omega, by simp only [bt, List.length_map]; omega, fun y hy => by have := rs2 y hy; omega⟩
  clear EP q1 q2 q3 q4 sn1 hl hlen hsn hs2n hsx rs1 rs2 hlens
  generalize (readS s1).1 = ls at *
  generalize (readS s1).2 = le at *
  have hER := fun w1 A c (g : RdL w1 (.slice A ls.length c) ls) => R3Right_is ⟨(a1 : Int), (a2 : Int), ls, bt s2⟩ A c w1 g hz
  unfold entV at hER
  simp only at hER
  clear hz
  by_cases hdn : dn = 0
  · subst hdn
    by_cases hre : le = 0
    · subst hre
      have HK : Hid (entOk l = entR ⟨(a1 : Int), (a2 : Int), ls, bt s2⟩) := hid (by rw [HOK.out]; simp)
      clear HOK
      cases hr : entR ⟨(a1 : Int), (a2 : Int), ls, bt s2⟩ with
      | true =>
        rw [hr] at hER
        have HY : Hid (entOk l = true) := hid (by rw [HK.out, hr])
        clear hr HK
        have t1 := True.intro
        have t2 := True.intro
        have t3 := True.intro
        go_enter Tryd.func19, Tryd.ntmps19
        go_wp2_with (first
          | (go_at_call 70; refine (HN _ (hvA _)).mono ?_; rintro e w1 ⟨g, rfl, hg, d1, b1⟩; have hgB := rdec_lt d1; have k1 := box4 b1; have hBg : w.heap.size ≠ g := (by simp at hg; omega); have hg0 : w.heap.size < g := (by simp at hg; omega); have bw1 := below_push b1; have z1 := bw1.size; have D1 := N1 _ _ _ d1; clear HN hvA N1 hg)
          | (clear t1; go_at_call 71; refine D1.mono ?_; rintro e w2 ⟨rfl, d2, b2⟩; have z2 := b2.size; have k2 := grown_row k1 b2 hBg; have bw2 := bw1.grown b2 z1 (fun k hk => by cases hk; omega); have d2' := d2.below ((Below.refl w1.heap.size w2).alloc z2 (.cells #[.int .i64 (a1 : Int), .int .i64 0, .slice none 0 0, .string ⟨#[]⟩] 24)); have k2' := keep4 k2 ((Below.refl _ _).alloc (Nat.le_refl _) (.cells #[.int .i64 (a1 : Int), .int .i64 0, .slice none 0 0, .string ⟨#[]⟩] 24)); have bw2' := bw2.alloc bw2.size (.cells #[.int .i64 (a1 : Int), .int .i64 0, .slice none 0 0, .string ⟨#[]⟩] 24); have hgx : g < w2.heap.size := (by omega); have hwx : w.heap.size ≠ w2.heap.size := (by omega); have D2 := N2 _ _ _ d2'; clear D1)
          | (clear t2; go_at_call 71; refine D2.mono ?_; rintro e w3 ⟨rfl, d3, b3⟩; have x3 : w3.heap[w2.heap.size]? = some (.cells #[.int .i64 (a1 : Int), .int .i64 0, .slice none 0 0, .string ⟨#[]⟩] 24 (0, 0)) := grown_new b3 hgx; have k3 := grown_row k2' b3 hBg; have bw3 := bw2'.grown b3 bw2'.size (fun k hk => by cases hk; omega); have p1 := held_cell (i := 1) x3 rfl; have pf1 := held_frozen (i := 1) x3; have x3' : (w3.setCell ⟨w2.heap.size, 1, none⟩ (.int .i64 (a2 : Int))).heap[w2.heap.size]? = some (.cells #[.int .i64 (a1 : Int), .int .i64 (a2 : Int), .slice none 0 0, .string ⟨#[]⟩] 24 (0, 0)) := set_row (i := 1) (u := .int .i64 (a2 : Int)) x3; have k3' := far_row (i := 1) (.int .i64 (a2 : Int)) k3 hwx; have d3' := d3.below ((Below.refl w1.heap.size w3).setCell (p := ⟨w2.heap.size, 1, none⟩) z2 (.int .i64 (a2 : Int))); have bw3' := bw3.setCell (p := ⟨w2.heap.size, 1, none⟩) (Nat.le_trans z1 z2) (.int .i64 (a2 : Int)); have D3 := T1 _ _ _ d3'; clear D2 N2)
          | (clear t3; go_at_call 73; refine D3.mono ?_; rintro e w4 ⟨rfl, d4, b4⟩; have x4 := grown_row x3' b4 (by omega); have k4 := grown_row k3' b4 hBg; have bw4 := bw3'.grown b4 bw3'.size (fun k hk => by cases hk; omega); obtain ⟨cc, cv, crd, cb⟩ := CV w4 w4.heap.size rfl; have RDc := RD _ _ crd; have cbz := cb.size; clear D3 T1 RD crd CV)
          | (go_at_call 72; refine RDc.mono ?_; rintro e w5 ⟨u5, rfl, ru5, b5'⟩; obtain ⟨A5, c5, rfl, -, -⟩ := id ru5.rd; have b5 := cb.trans (b5'.mono cb.size); have lx4 := (Array.getElem?_eq_some_iff.1 x4).1; have x5 := keep4 x4 b5; have k5 := keep4 k4 b5; have bw5 := bw4.trans (b5.mono bw4.size); have d5 := d4.below (b5.mono (by omega)); have p2 := held_cell (i := 2) x5 rfl; have pf2 := held_frozen (i := 2) x5; have x5' : (w5.setCell ⟨w2.heap.size, 2, none⟩ (.slice A5 ls.length c5)).heap[w2.heap.size]? = some (.cells #[.int .i64 (a1 : Int), .int .i64 (a2 : Int), .slice A5 ls.length c5, .string ⟨#[]⟩] 24 (0, 0)) := set_row (i := 2) (u := .slice A5 ls.length c5) x5; have k5' := far_row (i := 2) (.slice A5 ls.length c5) k5 hwx; have d5' := d5.below ((Below.refl w1.heap.size w5).setCell (p := ⟨w2.heap.size, 2, none⟩) z2 (.slice A5 ls.length c5)); have bw5' := bw5.setCell (p := ⟨w2.heap.size, 2, none⟩) (Nat.le_trans z1 z2) (.slice A5 ls.length c5); have o5 := OwnL.grown ru5 (grown_set w5 w2.heap.size 2 (.slice A5 ls.length c5)) (by omega); have D5 := T2 _ _ _ d5'; clear RDc cv T2)
          | (go_at_call 73; refine D5.mono ?_; rintro e w6 ⟨rfl, d6, b6⟩; have x6 := grown_row x5' b6 (by omega); have k6 := grown_row k5' b6 hBg; have bw6 := bw5'.grown b6 bw5'.size (fun k hk => by cases hk; omega); have o6 := OwnL.grown o5 b6 (by omega); have p3 := held_cell (i := 3) x6 rfl; have pf3 := held_frozen (i := 3) x6; have x6' : (w6.setCell ⟨w2.heap.size, 3, none⟩ (.string ⟨(bt s2).toArray⟩)).heap[w2.heap.size]? = some (.cells #[.int .i64 (a1 : Int), .int .i64 (a2 : Int), .slice A5 ls.length c5, .string ⟨(bt s2).toArray⟩] 24 (0, 0)) := set_row (i := 3) (u := .string ⟨(bt s2).toArray⟩) x6; have k6' := far_row (i := 3) (.string ⟨(bt s2).toArray⟩) k6 hwx; have d6' := d6.below ((Below.refl w1.heap.size w6).setCell (p := ⟨w2.heap.size, 3, none⟩) z2 (.string ⟨(bt s2).toArray⟩)); have bw6' := bw6.setCell (p := ⟨w2.heap.size, 3, none⟩) (Nat.le_trans z1 z2) (.string ⟨(bt s2).toArray⟩); have o6' := OwnL.grown o6 (grown_set w6 w2.heap.size 3 (.string ⟨(bt s2).toArray⟩)) (by omega); have D6 := DN _ _ _ d6'; clear D5 DN)
          | (go_at_call 74; refine D6.mono ?_; rintro e w7 ⟨rfl, n, rfl⟩; have x7 := drewN_row (n := n) x6'; have k7 := drewN_row (n := n) k6'; have p0 := held_cell (i := 0) x7 rfl; have pf0 := held_frozen (i := 0) x7; have p1 := held_cell (i := 1) x7 rfl; have pf1 := held_frozen (i := 1) x7; have p2 := held_cell (i := 2) x7 rfl; have pf2 := held_frozen (i := 2) x7; have p3 := held_cell (i := 3) x7 rfl; have pf3 := held_frozen (i := 3) x7; have q0 := held_cell (i := 0) k7 rfl; have qf0 := held_frozen (i := 0) k7; have q1 := held_cell (i := 1) k7 rfl; have qf1 := held_frozen (i := 1) k7; have q2 := held_cell (i := 2) k7 rfl; have qf2 := held_frozen (i := 2) k7; have q3 := held_cell (i := 3) k7 rfl; have qf3 := held_frozen (i := 3) k7; have bw7 := below_dn n bw6'; have rl7 : OwnL ((w6.setCell ⟨w2.heap.size, 3, none⟩ (.string ⟨(bt s2).toArray⟩)).drewN n) (Lib.bytesWorld w4 5 (str s1)).heap.size (.slice A5 ls.length c5) ls := o6'; have ER := hER _ A5 c5 rl7.rd; clear hER; clear D6)
          | (go_at_call 21; refine ER.mono ?_; rintro e w8 ⟨rfl, b8⟩; have x8 := keep4 x7 b8; have k8 := keep4 k7 b8; have p0 := held_cell (i := 0) x8 rfl; have pf0 := held_frozen (i := 0) x8; have p1 := held_cell (i := 1) x8 rfl; have pf1 := held_frozen (i := 1) x8; have p2 := held_cell (i := 2) x8 rfl; have pf2 := held_frozen (i := 2) x8; have p3 := held_cell (i := 3) x8 rfl; have pf3 := held_frozen (i := 3) x8; have q0 := held_cell (i := 0) k8 rfl; have qf0 := held_frozen (i := 0) k8; have q1 := held_cell (i := 1) k8 rfl; have qf1 := held_frozen (i := 1) k8; have q2 := held_cell (i := 2) k8 rfl; have qf2 := held_frozen (i := 2) k8; have q3 := held_cell (i := 3) k8 rfl; have qf3 := held_frozen (i := 3) k8; have bw8 := bw7.trans (b8.mono bw7.size); have rl8 := rl7.below b8; clear ER)
          | fail)
        have bf := put4_below bw8 (Nat.le_refl _) (.int .i64 (a1 : Int)) (.int .i64 (a2 : Int)) (.slice A5 ls.length c5) (.string ⟨(bt s2).toArray⟩)
        have kf := put4_row k8 (.int .i64 (a1 : Int)) (.int .i64 (a2 : Int)) (.slice A5 ls.length c5) (.string ⟨(bt s2).toArray⟩)
        have r0 := held_cell (i := 0) kf rfl
        have r1 := held_cell (i := 1) kf rfl
        have r2 := held_cell (i := 2) kf rfl
        have r3 := held_cell (i := 3) kf rfl
        exact bodyPost_ret (v := .tuple #[entV ⟨(a1 : Int), (a2 : Int), ls, bt s2⟩ A5 c5, .int .i64 0]) (by simp [results, Tryd.results19, go_sem, entV, r0, r1, r2, r3]) rfl ⟨A5, c5, by rw [getE_yes HY.out, getN_yes HY.out, HEO.out]; rfl, by rw [getE_yes HY.out, HEO.out]; exact (OwnL.put4 rl8 (by omega) _ _ _ _).mono (by omega), bf⟩
      | false =>
        rw [hr] at hER
        have HY : Hid (entOk l = false) := hid (by rw [HK.out, hr])
        clear hr HK
        have t1 := True.intro
        have t2 := True.intro
        have t3 := True.intro
        go_enter Tryd.func19, Tryd.ntmps19
        go_wp2_with (first
          | (go_at_call 70; refine (HN _ (hvA _)).mono ?_; rintro e w1 ⟨g, rfl, hg, d1, b1⟩; have hgB := rdec_lt d1; have k1 := box4 b1; have hBg : w.heap.size ≠ g := (by simp at hg; omega); have hg0 : w.heap.size < g := (by simp at hg; omega); have bw1 := below_push b1; have z1 := bw1.size; have D1 := N1 _ _ _ d1; clear HN hvA N1 hg)
          | (clear t1; go_at_call 71; refine D1.mono ?_; rintro e w2 ⟨rfl, d2, b2⟩; have z2 := b2.size; have k2 := grown_row k1 b2 hBg; have bw2 := bw1.grown b2 z1 (fun k hk => by cases hk; omega); have d2' := d2.below ((Below.refl w1.heap.size w2).alloc z2 (.cells #[.int .i64 (a1 : Int), .int .i64 0, .slice none 0 0, .string ⟨#[]⟩] 24)); have k2' := keep4 k2 ((Below.refl _ _).alloc (Nat.le_refl _) (.cells #[.int .i64 (a1 : Int), .int .i64 0, .slice none 0 0, .string ⟨#[]⟩] 24)); have bw2' := bw2.alloc bw2.size (.cells #[.int .i64 (a1 : Int), .int .i64 0, .slice none 0 0, .string ⟨#[]⟩] 24); have hgx : g < w2.heap.size := (by omega); have hwx : w.heap.size ≠ w2.heap.size := (by omega); have D2 := N2 _ _ _ d2'; clear D1)
          | (clear t2; go_at_call 71; refine D2.mono ?_; rintro e w3 ⟨rfl, d3, b3⟩; have x3 : w3.heap[w2.heap.size]? = some (.cells #[.int .i64 (a1 : Int), .int .i64 0, .slice none 0 0, .string ⟨#[]⟩] 24 (0, 0)) := grown_new b3 hgx; have k3 := grown_row k2' b3 hBg; have bw3 := bw2'.grown b3 bw2'.size (fun k hk => by cases hk; omega); have p1 := held_cell (i := 1) x3 rfl; have pf1 := held_frozen (i := 1) x3; have x3' : (w3.setCell ⟨w2.heap.size, 1, none⟩ (.int .i64 (a2 : Int))).heap[w2.heap.size]? = some (.cells #[.int .i64 (a1 : Int), .int .i64 (a2 : Int), .slice none 0 0, .string ⟨#[]⟩] 24 (0, 0)) := set_row (i := 1) (u := .int .i64 (a2 : Int)) x3; have k3' := far_row (i := 1) (.int .i64 (a2 : Int)) k3 hwx; have d3' := d3.below ((Below.refl w1.heap.size w3).setCell (p := ⟨w2.heap.size, 1, none⟩) z2 (.int .i64 (a2 : Int))); have bw3' := bw3.setCell (p := ⟨w2.heap.size, 1, none⟩) (Nat.le_trans z1 z2) (.int .i64 (a2 : Int)); have D3 := T1 _ _ _ d3'; clear D2 N2)
          | (clear t3; go_at_call 73; refine D3.mono ?_; rintro e w4 ⟨rfl, d4, b4⟩; have x4 := grown_row x3' b4 (by omega); have k4 := grown_row k3' b4 hBg; have bw4 := bw3'.grown b4 bw3'.size (fun k hk => by cases hk; omega); obtain ⟨cc, cv, crd, cb⟩ := CV w4 w4.heap.size rfl; have RDc := RD _ _ crd; have cbz := cb.size; clear D3 T1 RD crd CV)
          | (go_at_call 72; refine RDc.mono ?_; rintro e w5 ⟨u5, rfl, ru5, b5'⟩; obtain ⟨A5, c5, rfl, -, -⟩ := id ru5.rd; have b5 := cb.trans (b5'.mono cb.size); have lx4 := (Array.getElem?_eq_some_iff.1 x4).1; have x5 := keep4 x4 b5; have k5 := keep4 k4 b5; have bw5 := bw4.trans (b5.mono bw4.size); have d5 := d4.below (b5.mono (by omega)); have p2 := held_cell (i := 2) x5 rfl; have pf2 := held_frozen (i := 2) x5; have x5' : (w5.setCell ⟨w2.heap.size, 2, none⟩ (.slice A5 ls.length c5)).heap[w2.heap.size]? = some (.cells #[.int .i64 (a1 : Int), .int .i64 (a2 : Int), .slice A5 ls.length c5, .string ⟨#[]⟩] 24 (0, 0)) := set_row (i := 2) (u := .slice A5 ls.length c5) x5; have k5' := far_row (i := 2) (.slice A5 ls.length c5) k5 hwx; have d5' := d5.below ((Below.refl w1.heap.size w5).setCell (p := ⟨w2.heap.size, 2, none⟩) z2 (.slice A5 ls.length c5)); have bw5' := bw5.setCell (p := ⟨w2.heap.size, 2, none⟩) (Nat.le_trans z1 z2) (.slice A5 ls.length c5); have o5 := OwnL.grown ru5 (grown_set w5 w2.heap.size 2 (.slice A5 ls.length c5)) (by omega); have D5 := T2 _ _ _ d5'; clear RDc cv T2)
          | (go_at_call 73; refine D5.mono ?_; rintro e w6 ⟨rfl, d6, b6⟩; have x6 := grown_row x5' b6 (by omega); have k6 := grown_row k5' b6 hBg; have bw6 := bw5'.grown b6 bw5'.size (fun k hk => by cases hk; omega); have o6 := OwnL.grown o5 b6 (by omega); have p3 := held_cell (i := 3) x6 rfl; have pf3 := held_frozen (i := 3) x6; have x6' : (w6.setCell ⟨w2.heap.size, 3, none⟩ (.string ⟨(bt s2).toArray⟩)).heap[w2.heap.size]? = some (.cells #[.int .i64 (a1 : Int), .int .i64 (a2 : Int), .slice A5 ls.length c5, .string ⟨(bt s2).toArray⟩] 24 (0, 0)) := set_row (i := 3) (u := .string ⟨(bt s2).toArray⟩) x6; have k6' := far_row (i := 3) (.string ⟨(bt s2).toArray⟩) k6 hwx; have d6' := d6.below ((Below.refl w1.heap.size w6).setCell (p := ⟨w2.heap.size, 3, none⟩) z2 (.string ⟨(bt s2).toArray⟩)); have bw6' := bw6.setCell (p := ⟨w2.heap.size, 3, none⟩) (Nat.le_trans z1 z2) (.string ⟨(bt s2).toArray⟩); have o6' := OwnL.grown o6 (grown_set w6 w2.heap.size 3 (.string ⟨(bt s2).toArray⟩)) (by omega); have D6 := DN _ _ _ d6'; clear D5 DN)
          | (go_at_call 74; refine D6.mono ?_; rintro e w7 ⟨rfl, n, rfl⟩; have x7 := drewN_row (n := n) x6'; have k7 := drewN_row (n := n) k6'; have p0 := held_cell (i := 0) x7 rfl; have pf0 := held_frozen (i := 0) x7; have p1 := held_cell (i := 1) x7 rfl; have pf1 := held_frozen (i := 1) x7; have p2 := held_cell (i := 2) x7 rfl; have pf2 := held_frozen (i := 2) x7; have p3 := held_cell (i := 3) x7 rfl; have pf3 := held_frozen (i := 3) x7; have q0 := held_cell (i := 0) k7 rfl; have qf0 := held_frozen (i := 0) k7; have q1 := held_cell (i := 1) k7 rfl; have qf1 := held_frozen (i := 1) k7; have q2 := held_cell (i := 2) k7 rfl; have qf2 := held_frozen (i := 2) k7; have q3 := held_cell (i := 3) k7 rfl; have qf3 := held_frozen (i := 3) k7; have bw7 := below_dn n bw6'; have rl7 : OwnL ((w6.setCell ⟨w2.heap.size, 3, none⟩ (.string ⟨(bt s2).toArray⟩)).drewN n) (Lib.bytesWorld w4 5 (str s1)).heap.size (.slice A5 ls.length c5) ls := o6'; have ER := hER _ A5 c5 rl7.rd; clear hER; clear D6)
          | (go_at_call 21; refine ER.mono ?_; rintro e w8 ⟨rfl, b8⟩; have x8 := keep4 x7 b8; have k8 := keep4 k7 b8; have p0 := held_cell (i := 0) x8 rfl; have pf0 := held_frozen (i := 0) x8; have p1 := held_cell (i := 1) x8 rfl; have pf1 := held_frozen (i := 1) x8; have p2 := held_cell (i := 2) x8 rfl; have pf2 := held_frozen (i := 2) x8; have p3 := held_cell (i := 3) x8 rfl; have pf3 := held_frozen (i := 3) x8; have q0 := held_cell (i := 0) k8 rfl; have qf0 := held_frozen (i := 0) k8; have q1 := held_cell (i := 1) k8 rfl; have qf1 := held_frozen (i := 1) k8; have q2 := held_cell (i := 2) k8 rfl; have qf2 := held_frozen (i := 2) k8; have q3 := held_cell (i := 3) k8 rfl; have qf3 := held_frozen (i := 3) k8; have bw8 := bw7.trans (b8.mono bw7.size); have rl8 := rl7.below b8; clear ER)
          | fail)
        have bf := put4_below bw8 (Nat.le_refl _) (.int .i64 0) (.int .i64 0) (.slice none 0 0) (.string ⟨#[]⟩)
        have kf := put4_row k8 (.int .i64 0) (.int .i64 0) (.slice none 0 0) (.string ⟨#[]⟩)
        have r0 := held_cell (i := 0) kf rfl
        have r1 := held_cell (i := 1) kf rfl
        have r2 := held_cell (i := 2) kf rfl
        have r3 := held_cell (i := 3) kf rfl
        exact bodyPost_ret (v := .tuple #[entV ⟨0, 0, [], []⟩ none 0, .int .i64 21]) (by simp [results, Tryd.results19, go_sem, entV, r0, r1, r2, r3]) rfl ⟨none, 0, by rw [getE_no HY.out, getN_no HY.out]; rfl, by rw [getE_no HY.out]; exact OwnL.nil _ _, bf⟩
    · have HY : Hid (entOk l = false) := hid (by rw [HOK.out]; simp [hre])
      have hne : ((le : Int) == 0) = false := by simp; omega
      have hne2 : ((le : Int) != 0) = true := by rw [bne, hne]; rfl
      clear hre HEO HOK hER
      have t1 := True.intro
      have t2 := True.intro
      have t3 := True.intro
      go_enter Tryd.func19, Tryd.ntmps19
      go_wp2_with (first
        | (go_at_call 70; refine (HN _ (hvA _)).mono ?_; rintro e w1 ⟨g, rfl, hg, d1, b1⟩; have hgB := rdec_lt d1; have k1 := box4 b1; have hBg : w.heap.size ≠ g := (by simp at hg; omega); have hg0 : w.heap.size < g := (by simp at hg; omega); have bw1 := below_push b1; have z1 := bw1.size; have D1 := N1 _ _ _ d1; clear HN hvA N1 hg)
        | (clear t1; go_at_call 71; refine D1.mono ?_; rintro e w2 ⟨rfl, d2, b2⟩; have z2 := b2.size; have k2 := grown_row k1 b2 hBg; have bw2 := bw1.grown b2 z1 (fun k hk => by cases hk; omega); have d2' := d2.below ((Below.refl w1.heap.size w2).alloc z2 (.cells #[.int .i64 (a1 : Int), .int .i64 0, .slice none 0 0, .string ⟨#[]⟩] 24)); have k2' := keep4 k2 ((Below.refl _ _).alloc (Nat.le_refl _) (.cells #[.int .i64 (a1 : Int), .int .i64 0, .slice none 0 0, .string ⟨#[]⟩] 24)); have bw2' := bw2.alloc bw2.size (.cells #[.int .i64 (a1 : Int), .int .i64 0, .slice none 0 0, .string ⟨#[]⟩] 24); have hgx : g < w2.heap.size := (by omega); have hwx : w.heap.size ≠ w2.heap.size := (by omega); have D2 := N2 _ _ _ d2'; clear D1)
        | (clear t2; go_at_call 71; refine D2.mono ?_; rintro e w3 ⟨rfl, d3, b3⟩; have x3 : w3.heap[w2.heap.size]? = some (.cells #[.int .i64 (a1 : Int), .int .i64 0, .slice none 0 0, .string ⟨#[]⟩] 24 (0, 0)) := grown_new b3 hgx; have k3 := grown_row k2' b3 hBg; have bw3 := bw2'.grown b3 bw2'.size (fun k hk => by cases hk; omega); have p1 := held_cell (i := 1) x3 rfl; have pf1 := held_frozen (i := 1) x3; have x3' : (w3.setCell ⟨w2.heap.size, 1, none⟩ (.int .i64 (a2 : Int))).heap[w2.heap.size]? = some (.cells #[.int .i64 (a1 : Int), .int .i64 (a2 : Int), .slice none 0 0, .string ⟨#[]⟩] 24 (0, 0)) := set_row (i := 1) (u := .int .i64 (a2 : Int)) x3; have k3' := far_row (i := 1) (.int .i64 (a2 : Int)) k3 hwx; have d3' := d3.below ((Below.refl w1.heap.size w3).setCell (p := ⟨w2.heap.size, 1, none⟩) z2 (.int .i64 (a2 : Int))); have bw3' := bw3.setCell (p := ⟨w2.heap.size, 1, none⟩) (Nat.le_trans z1 z2) (.int .i64 (a2 : Int)); have D3 := T1 _ _ _ d3'; clear D2 N2)
        | (clear t3; go_at_call 73; refine D3.mono ?_; rintro e w4 ⟨rfl, d4, b4⟩; have x4 := grown_row x3' b4 (by omega); have k4 := grown_row k3' b4 hBg; have bw4 := bw3'.grown b4 bw3'.size (fun k hk => by cases hk; omega); obtain ⟨cc, cv, crd, cb⟩ := CV w4 w4.heap.size rfl; have RDc := RD _ _ crd; have cbz := cb.size; clear D3 T1 RD crd CV)
        | (go_at_call 72; refine RDc.mono ?_; rintro e w5 ⟨u5, rfl, ru5, b5'⟩; obtain ⟨A5, c5, rfl, -, -⟩ := id ru5.rd; have b5 := cb.trans (b5'.mono cb.size); have lx4 := (Array.getElem?_eq_some_iff.1 x4).1; have x5 := keep4 x4 b5; have k5 := keep4 k4 b5; have bw5 := bw4.trans (b5.mono bw4.size); have d5 := d4.below (b5.mono (by omega)); have p2 := held_cell (i := 2) x5 rfl; have pf2 := held_frozen (i := 2) x5; have x5' : (w5.setCell ⟨w2.heap.size, 2, none⟩ (.slice A5 ls.length c5)).heap[w2.heap.size]? = some (.cells #[.int .i64 (a1 : Int), .int .i64 (a2 : Int), .slice A5 ls.length c5, .string ⟨#[]⟩] 24 (0, 0)) := set_row (i := 2) (u := .slice A5 ls.length c5) x5; have k5' := far_row (i := 2) (.slice A5 ls.length c5) k5 hwx; have d5' := d5.below ((Below.refl w1.heap.size w5).setCell (p := ⟨w2.heap.size, 2, none⟩) z2 (.slice A5 ls.length c5)); have bw5' := bw5.setCell (p := ⟨w2.heap.size, 2, none⟩) (Nat.le_trans z1 z2) (.slice A5 ls.length c5); have o5 := OwnL.grown ru5 (grown_set w5 w2.heap.size 2 (.slice A5 ls.length c5)) (by omega); have D5 := T2 _ _ _ d5'; clear RDc cv T2)
        | (go_at_call 73; refine D5.mono ?_; rintro e w6 ⟨rfl, d6, b6⟩; have x6 := grown_row x5' b6 (by omega); have k6 := grown_row k5' b6 hBg; have bw6 := bw5'.grown b6 bw5'.size (fun k hk => by cases hk; omega); have o6 := OwnL.grown o5 b6 (by omega); have p3 := held_cell (i := 3) x6 rfl; have pf3 := held_frozen (i := 3) x6; have x6' : (w6.setCell ⟨w2.heap.size, 3, none⟩ (.string ⟨(bt s2).toArray⟩)).heap[w2.heap.size]? = some (.cells #[.int .i64 (a1 : Int), .int .i64 (a2 : Int), .slice A5 ls.length c5, .string ⟨(bt s2).toArray⟩] 24 (0, 0)) := set_row (i := 3) (u := .string ⟨(bt s2).toArray⟩) x6; have k6' := far_row (i := 3) (.string ⟨(bt s2).toArray⟩) k6 hwx; have d6' := d6.below ((Below.refl w1.heap.size w6).setCell (p := ⟨w2.heap.size, 3, none⟩) z2 (.string ⟨(bt s2).toArray⟩)); have bw6' := bw6.setCell (p := ⟨w2.heap.size, 3, none⟩) (Nat.le_trans z1 z2) (.string ⟨(bt s2).toArray⟩); have o6' := OwnL.grown o6 (grown_set w6 w2.heap.size 3 (.string ⟨(bt s2).toArray⟩)) (by omega); have D6 := DN _ _ _ d6'; clear D5 DN)
        | (go_at_call 74; refine D6.mono ?_; rintro e w7 ⟨rfl, n, rfl⟩; have x7 := drewN_row (n := n) x6'; have k7 := drewN_row (n := n) k6'; have p0 := held_cell (i := 0) x7 rfl; have pf0 := held_frozen (i := 0) x7; have p1 := held_cell (i := 1) x7 rfl; have pf1 := held_frozen (i := 1) x7; have p2 := held_cell (i := 2) x7 rfl; have pf2 := held_frozen (i := 2) x7; have p3 := held_cell (i := 3) x7 rfl; have pf3 := held_frozen (i := 3) x7; have q0 := held_cell (i := 0) k7 rfl; have qf0 := held_frozen (i := 0) k7; have q1 := held_cell (i := 1) k7 rfl; have qf1 := held_frozen (i := 1) k7; have q2 := held_cell (i := 2) k7 rfl; have qf2 := held_frozen (i := 2) k7; have q3 := held_cell (i := 3) k7 rfl; have qf3 := held_frozen (i := 3) k7; have bw7 := below_dn n bw6'; clear D6)
        | fail)
      have bf := put4_below bw7 (Nat.le_refl _) (.int .i64 0) (.int .i64 0) (.slice none 0 0) (.string ⟨#[]⟩)
      have kf := put4_row k7 (.int .i64 0) (.int .i64 0) (.slice none 0 0) (.string ⟨#[]⟩)
      have r0 := held_cell (i := 0) kf rfl
      have r1 := held_cell (i := 1) kf rfl
      have r2 := held_cell (i := 2) kf rfl
      have r3 := held_cell (i := 3) kf rfl
      exact bodyPost_ret (v := .tuple #[entV ⟨0, 0, [], []⟩ none 0, .int .i64 21]) (by simp [results, Tryd.results19, go_sem, entV, r0, r1, r2, r3]) rfl ⟨none, 0, by rw [getE_no HY.out, getN_no HY.out]; rfl, by rw [getE_no HY.out]; exact OwnL.nil _ _, bf⟩
  · have HY : Hid (entOk l = false) := hid (by rw [HOK.out]; simp [hdn])
    have hne : ((dn : Int) == 0) = false := by simp; omega
    have hne2 : ((dn : Int) != 0) = true := by rw [bne, hne]; rfl
    clear hdn HEO HOK hER
    have t1 := True.intro
    have t2 := True.intro
    have t3 := True.intro
    go_enter Tryd.func19, Tryd.ntmps19
    go_wp2_with (first
      | (go_at_call 70; refine (HN _ (hvA _)).mono ?_; rintro e w1 ⟨g, rfl, hg, d1, b1⟩; have hgB := rdec_lt d1; have k1 := box4 b1; have hBg : w.heap.size ≠ g := (by simp at hg; omega); have hg0 : w.heap.size < g := (by simp at hg; omega); have bw1 := below_push b1; have z1 := bw1.size; have D1 := N1 _ _ _ d1; clear HN hvA N1 hg)
      | (clear t1; go_at_call 71; refine D1.mono ?_; rintro e w2 ⟨rfl, d2, b2⟩; have z2 := b2.size; have k2 := grown_row k1 b2 hBg; have bw2 := bw1.grown b2 z1 (fun k hk => by cases hk; omega); have d2' := d2.below ((Below.refl w1.heap.size w2).alloc z2 (.cells #[.int .i64 (a1 : Int), .int .i64 0, .slice none 0 0, .string ⟨#[]⟩] 24)); have k2' := keep4 k2 ((Below.refl _ _).alloc (Nat.le_refl _) (.cells #[.int .i64 (a1 : Int), .int .i64 0, .slice none 0 0, .string ⟨#[]⟩] 24)); have bw2' := bw2.alloc bw2.size (.cells #[.int .i64 (a1 : Int), .int .i64 0, .slice none 0 0, .string ⟨#[]⟩] 24); have hgx : g < w2.heap.size := (by omega); have hwx : w.heap.size ≠ w2.heap.size := (by omega); have D2 := N2 _ _ _ d2'; clear D1)
      | (clear t2; go_at_call 71; refine D2.mono ?_; rintro e w3 ⟨rfl, d3, b3⟩; have x3 : w3.heap[w2.heap.size]? = some (.cells #[.int .i64 (a1 : Int), .int .i64 0, .slice none 0 0, .string ⟨#[]⟩] 24 (0, 0)) := grown_new b3 hgx; have k3 := grown_row k2' b3 hBg; have bw3 := bw2'.grown b3 bw2'.size (fun k hk => by cases hk; omega); have p1 := held_cell (i := 1) x3 rfl; have pf1 := held_frozen (i := 1) x3; have x3' : (w3.setCell ⟨w2.heap.size, 1, none⟩ (.int .i64 (a2 : Int))).heap[w2.heap.size]? = some (.cells #[.int .i64 (a1 : Int), .int .i64 (a2 : Int), .slice none 0 0, .string ⟨#[]⟩] 24 (0, 0)) := set_row (i := 1) (u := .int .i64 (a2 : Int)) x3; have k3' := far_row (i := 1) (.int .i64 (a2 : Int)) k3 hwx; have d3' := d3.below ((Below.refl w1.heap.size w3).setCell (p := ⟨w2.heap.size, 1, none⟩) z2 (.int .i64 (a2 : Int))); have bw3' := bw3.setCell (p := ⟨w2.heap.size, 1, none⟩) (Nat.le_trans z1 z2) (.int .i64 (a2 : Int)); have D3 := T1 _ _ _ d3'; clear D2 N2)
      | (clear t3; go_at_call 73; refine D3.mono ?_; rintro e w4 ⟨rfl, d4, b4⟩; have x4 := grown_row x3' b4 (by omega); have k4 := grown_row k3' b4 hBg; have bw4 := bw3'.grown b4 bw3'.size (fun k hk => by cases hk; omega); obtain ⟨cc, cv, crd, cb⟩ := CV w4 w4.heap.size rfl; have RDc := RD _ _ crd; have cbz := cb.size; clear D3 T1 RD crd CV)
      | (go_at_call 72; refine RDc.mono ?_; rintro e w5 ⟨u5, rfl, ru5, b5'⟩; obtain ⟨A5, c5, rfl, -, -⟩ := id ru5.rd; have b5 := cb.trans (b5'.mono cb.size); have lx4 := (Array.getElem?_eq_some_iff.1 x4).1; have x5 := keep4 x4 b5; have k5 := keep4 k4 b5; have bw5 := bw4.trans (b5.mono bw4.size); have d5 := d4.below (b5.mono (by omega)); have p2 := held_cell (i := 2) x5 rfl; have pf2 := held_frozen (i := 2) x5; have x5' : (w5.setCell ⟨w2.heap.size, 2, none⟩ (.slice A5 ls.length c5)).heap[w2.heap.size]? = some (.cells #[.int .i64 (a1 : Int), .int .i64 (a2 : Int), .slice A5 ls.length c5, .string ⟨#[]⟩] 24 (0, 0)) := set_row (i := 2) (u := .slice A5 ls.length c5) x5; have k5' := far_row (i := 2) (.slice A5 ls.length c5) k5 hwx; have d5' := d5.below ((Below.refl w1.heap.size w5).setCell (p := ⟨w2.heap.size, 2, none⟩) z2 (.slice A5 ls.length c5)); have bw5' := bw5.setCell (p := ⟨w2.heap.size, 2, none⟩) (Nat.le_trans z1 z2) (.slice A5 ls.length c5); have o5 := OwnL.grown ru5 (grown_set w5 w2.heap.size 2 (.slice A5 ls.length c5)) (by omega); have D5 := T2 _ _ _ d5'; clear RDc cv T2)
      | (go_at_call 73; refine D5.mono ?_; rintro e w6 ⟨rfl, d6, b6⟩; have x6 := grown_row x5' b6 (by omega); have k6 := grown_row k5' b6 hBg; have bw6 := bw5'.grown b6 bw5'.size (fun k hk => by cases hk; omega); have o6 := OwnL.grown o5 b6 (by omega); have p3 := held_cell (i := 3) x6 rfl; have pf3 := held_frozen (i := 3) x6; have x6' : (w6.setCell ⟨w2.heap.size, 3, none⟩ (.string ⟨(bt s2).toArray⟩)).heap[w2.heap.size]? = some (.cells #[.int .i64 (a1 : Int), .int .i64 (a2 : Int), .slice A5 ls.length c5, .string ⟨(bt s2).toArray⟩] 24 (0, 0)) := set_row (i := 3) (u := .string ⟨(bt s2).toArray⟩) x6; have k6' := far_row (i := 3) (.string ⟨(bt s2).toArray⟩) k6 hwx; have d6' := d6.below ((Below.refl w1.heap.size w6).setCell (p := ⟨w2.heap.size, 3, none⟩) z2 (.string ⟨(bt s2).toArray⟩)); have bw6' := bw6.setCell (p := ⟨w2.heap.size, 3, none⟩) (Nat.le_trans z1 z2) (.string ⟨(bt s2).toArray⟩); have o6' := OwnL.grown o6 (grown_set w6 w2.heap.size 3 (.string ⟨(bt s2).toArray⟩)) (by omega); have D6 := DN _ _ _ d6'; clear D5 DN)
      | (go_at_call 74; refine D6.mono ?_; rintro e w7 ⟨rfl, n, rfl⟩; have x7 := drewN_row (n := n) x6'; have k7 := drewN_row (n := n) k6'; have p0 := held_cell (i := 0) x7 rfl; have pf0 := held_frozen (i := 0) x7; have p1 := held_cell (i := 1) x7 rfl; have pf1 := held_frozen (i := 1) x7; have p2 := held_cell (i := 2) x7 rfl; have pf2 := held_frozen (i := 2) x7; have p3 := held_cell (i := 3) x7 rfl; have pf3 := held_frozen (i := 3) x7; have q0 := held_cell (i := 0) k7 rfl; have qf0 := held_frozen (i := 0) k7; have q1 := held_cell (i := 1) k7 rfl; have qf1 := held_frozen (i := 1) k7; have q2 := held_cell (i := 2) k7 rfl; have qf2 := held_frozen (i := 2) k7; have q3 := held_cell (i := 3) k7 rfl; have qf3 := held_frozen (i := 3) k7; have bw7 := below_dn n bw6'; clear D6)
      | fail)
    have bf := put4_below bw7 (Nat.le_refl _) (.int .i64 0) (.int .i64 0) (.slice none 0 0) (.string ⟨#[]⟩)
    have kf := put4_row k7 (.int .i64 0) (.int .i64 0) (.slice none 0 0) (.string ⟨#[]⟩)
    have r0 := held_cell (i := 0) kf rfl
    have r1 := held_cell (i := 1) kf rfl
    have r2 := held_cell (i := 2) kf rfl
    have r3 := held_cell (i := 3) kf rfl
    exact bodyPost_ret (v := .tuple #[entV ⟨0, 0, [], []⟩ none 0, .int .i64 21]) (by simp [results, Tryd.results19, go_sem, entV, r0, r1, r2, r3]) rfl ⟨none, 0, by rw [getE_no HY.out, getN_no HY.out]; rfl, by rw [getE_no HY.out]; exact OwnL.nil _ _, bf⟩
end Go.Proofs.YtffpphigmdehfaaDoor
