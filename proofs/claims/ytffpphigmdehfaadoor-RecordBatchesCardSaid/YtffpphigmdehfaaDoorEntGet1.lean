/-
  What the closure in record.Get answers, of any bytes. Conditions: the captured variable holds a slice that reads as the bytes.
-/
import Derived.Test.YtffpphigmdehfaaDoorEntGet
namespace Go.Proofs.YtffpphigmdehfaaDoor
open Go.RowKit Go.Icz
theorem conv_sb2 (s : ByteArray) (w : World) (n : Nat) (hn : w.heap.size = n) : ∃ c, (convert 9 25 (.string s)).run Tryd.prog w = .ok (.slice (some ⟨n, 0, none⟩) s.size c) (Lib.bytesWorld w 5 s) ∧ Rd (Lib.bytesWorld w 5 s) (.slice (some ⟨n, 0, none⟩) s.size c) (nats s) ∧ Below w.heap.size w (Lib.bytesWorld w 5 s) := by
  subst hn
  exact conv_sb s w
/-- An entry stored into a box. -/
theorem put4_row {w : World} {k : Nat} {a0 b0 c0 d0 : Value} {t : TypeId} (h : w.heap[k]? = some (.cells #[a0, b0, c0, d0] t (0, 0))) (a b c d : Value) : ((((w.setCell ⟨k, 0, none⟩ a).setCell ⟨k, 1, none⟩ b).setCell ⟨k, 2, none⟩ c).setCell ⟨k, 3, none⟩ d).heap[k]? = some (.cells #[a, b, c, d] t (0, 0)) :=
  set_row (i := 3) (u := d) (set_row (i := 2) (u := c) (set_row (i := 1) (u := b) (set_row (i := 0) (u := a) h)))
theorem put4_below {B : Nat} {w0 w : World} (h : Below B w0 w) {k : Nat} (hk : B ≤ k) (a b c d : Value) : Below B w0 ((((w.setCell ⟨k, 0, none⟩ a).setCell ⟨k, 1, none⟩ b).setCell ⟨k, 2, none⟩ c).setCell ⟨k, 3, none⟩ d) :=
  (((h.setCell (p := ⟨k, 0, none⟩) hk a).setCell (p := ⟨k, 1, none⟩) hk b).setCell (p := ⟨k, 2, none⟩) hk c).setCell (p := ⟨k, 3, none⟩) hk d
/-- Labels do not lie in an entry's box. -/
theorem OwnL.put4 {w : World} {B : Nat} {v : Value} {l : List Lab} (h : OwnL w B v l) {k : Nat} (hk : k < B) (a b c d : Value) : OwnL ((((w.setCell ⟨k, 0, none⟩ a).setCell ⟨k, 1, none⟩ b).setCell ⟨k, 2, none⟩ c).setCell ⟨k, 3, none⟩ d) B v l :=
  OwnL.grown (OwnL.grown (OwnL.grown (OwnL.grown h (grown_set _ k 0 a) hk) (grown_set _ k 1 b) hk) (grown_set _ k 2 c) hk) (grown_set _ k 3 d) hk
set_option maxHeartbeats 1000000 in
set_option maxRecDepth 100000 in
theorem EGet1_is (pb : Nat) (v : Value) (l : List Nat) (w : World) (hp : w.cell? ⟨pb, 0, none⟩ = some v) (hv : Rd w v l) (hl : ∀ c ∈ l, c < 256) (hlen : l.length ≤ 140737488351232) (hT : Tabs w) :
    Calls Tryd.prog 64 #[.pointer (some ⟨pb, 0, none⟩)] w (G1Out l w) := by
  have hpA := fun o => (World.cell?_alloc_lt w o ⟨pb, 0, none⟩ (World.block_lt_of_cell? w _ hp)).trans hp
  have hvA := fun o => hv.alloc o
  have HN := fun w1 (g : Rd w1 v l) => New_any v l w1 g (by omega)
  obtain ⟨A0, c0, rfl, _, _⟩ := hv
  obtain ⟨sn1, sm1⟩ := numD_sub l 0
  have N1 := fun w1 B0 B g (d : DecAt w1 B0 B g l 0) => Number_dec B0 B g 0 l w1 d hl (by omega)
  have EP : entParts l = ((numD l 0).1, (numD (numD l 0).2.1 (numD l 0).2.2).1, (txtD (numD (numD l 0).2.1 (numD l 0).2.2).2.1 (numD (numD l 0).2.1 (numD l 0).2.2).2.2).1,
    (txtD (txtD (numD (numD l 0).2.1 (numD l 0).2.2).2.1 (numD (numD l 0).2.1 (numD l 0).2.2).2.2).2.1 (txtD (numD (numD l 0).2.1 (numD l 0).2.2).2.1 (numD (numD l 0).2.1 (numD l 0).2.2).2.2).2.2).1,
    doneD (txtD (txtD (numD (numD l 0).2.1 (numD l 0).2.2).2.1 (numD (numD l 0).2.1 (numD l 0).2.2).2.2).2.1 (txtD (numD (numD l 0).2.1 (numD l 0).2.2).2.1 (numD (numD l 0).2.1 (numD l 0).2.2).2.2).2.2).2.1 (txtD (txtD (numD (numD l 0).2.1 (numD l 0).2.2).2.1 (numD (numD l 0).2.1 (numD l 0).2.2).2.2).2.1 (txtD (numD (numD l 0).2.1 (numD l 0).2.2).2.1 (numD (numD l 0).2.1 (numD l 0).2.2).2.2).2.2).2.2) := rfl
  generalize (numD l 0).1 = a1 at *
  generalize (numD l 0).2.1 = l1 at *
  generalize (numD l 0).2.2 = e1 at *
  have hl1 : ∀ c ∈ l1, c < 256 := fun c h => hl c (sn1 c h)
  obtain ⟨sn2, sm2⟩ := numD_sub l1 e1
  have N2 := fun w1 B0 B g (d : DecAt w1 B0 B g l1 e1) => Number_dec B0 B g e1 l1 w1 d hl1 (by omega)
  generalize (numD l1 e1).1 = a2 at *
  generalize (numD l1 e1).2.1 = l2 at *
  generalize (numD l1 e1).2.2 = e2 at *
  have hl2 : ∀ c ∈ l2, c < 256 := fun c h => hl1 c (sn2 c h)
  obtain ⟨sn3, sm3, sk3⟩ := txtD_sub l2 e2
  have hsx := fun c h => hl2 c (txtD_mem l2 e2 c h)
  have T1 := fun w1 B0 B g (d : DecAt w1 B0 B g l2 e2) => Text_dec B0 B g e2 l2 w1 d hl2 (by omega)
  generalize (txtD l2 e2).1 = s1 at *
  generalize (txtD l2 e2).2.1 = l3 at *
  generalize (txtD l2 e2).2.2 = e3 at *
  have hl3 : ∀ c ∈ l3, c < 256 := fun c h => hl2 c (sn3 c h)
  obtain ⟨sn4, sm4, sk4⟩ := txtD_sub l3 e3
  have T2 := fun w1 B0 B g (d : DecAt w1 B0 B g l3 e3) => Text_bt B0 B g e3 l3 w1 d hl3 (by omega)
  generalize hs2 : (txtD l3 e3).1 = s2 at *
  generalize (txtD l3 e3).2.1 = l4 at *
  generalize (txtD l3 e3).2.2 = e4 at *
  have DN := fun w1 B0 B g (d : DecAt w1 B0 B g l4 e4) => Done_dec B0 B g e4 l4 w1 d
  generalize doneD l4 e4 = dn at *
  have hlens : s1.length ≤ 140737488351232 := by omega
  have hlen2 : s2.length ≤ 140737488351232 := by omega
  have RD := fun v1 w1 (g : Rd w1 v1 s1) (t : Tabs w1) => LRead_own v1 s1 w1 g hsx (by omega) t
  unfold ReadOwn at RD
  have CV := fun w1 n hn => conv_sb2 (str s1) w1 n hn
  rw [nats_str s1 hsx, str_len] at CV
  obtain ⟨rs1, rs2⟩ := readS_sub s1
  have HEO : Hid (entOf l = ⟨(a1 : Int), (a2 : Int), (readS s1).1, bt s2⟩) := hid (by unfold entOf; rw [EP])
  have HOK : Hid (entOk l = (decide (dn = 0 ∧ (readS s1).2 = 0) && entR ⟨(a1 : Int), (a2 : Int), (readS s1).1, bt s2⟩)) := hid (by rw [← HEO.out]; unfold entOk; rw [EP])
  have hz : entZ ⟨(a1 : Int), (a2 : Int), (readS s1).1, bt s2⟩ := ⟨by simp only; omega, by simp only [bt, List.length_map]; omega, fun y hy => by have := rs2 y hy; omega⟩
  clear EP sn1 sn2 sn3 sn4 sm1 sm2 sm3 sm4 sk3 sk4 hl hl1 hl2 hl3 hs2 hsx rs1 rs2
  generalize (readS s1).1 = ls at *
  generalize (readS s1).2 = le at *
  have hER := fun w1 A c (g : RdL w1 (.slice A ls.length c) ls) (t : Tabs w1) => ERight_is ⟨(a1 : Int), (a2 : Int), ls, bt s2⟩ A c w1 g t hz
  unfold entV at hER
  simp only at hER
  clear hz hlen2
  by_cases hdn : dn = 0
  · subst hdn
    by_cases hre : le = 0
    · subst hre
      have HK : Hid (entOk l = entR ⟨(a1 : Int), (a2 : Int), ls, bt s2⟩) := hid (by rw [HOK.out]; simp)
      clear HOK
      cases hr : entR ⟨(a1 : Int), (a2 : Int), ls, bt s2⟩ with
      | true =>
        rw [hr] at hER
        have HY : Hid (entOk l = true) := hid (by rw [HK.out, hr])
        clear hr HK
        go_enter Tryd.func64, Tryd.ntmps64
        go_wp2_with (first
          | (go_at_call 65; refine (HN _ (hvA _)).mono ?_; rintro e w1 ⟨g, rfl, hg, d1, b1⟩; have k1 := box4 b1; have hB : w.heap.size < (w.alloc (.cells #[.int .i64 0, .int .i64 0, .slice none 0 0, .string ⟨#[]⟩] 24)).heap.size := (by simp); have hBg : w.heap.size ≠ g := (by omega); have bw1 := below_push b1; have lt1 := (Array.getElem?_eq_some_iff.1 k1).1; have D1 := N1 _ _ _ _ d1; clear HN hvA N1)
          | (go_at_call 66; refine D1.mono ?_; rintro e w2 ⟨rfl, d2, b2⟩; have k2 := (b2.block w.heap.size lt1 (fun e => hBg (by injection e))).trans k1; have f2 := held_frozen (i := 0) k2; have qq2 := held_cell (i := 0) k2 rfl; have bw2 := bw1.grown b2 bw1.size (fun k hk => by cases hk; omega); have d2' := d2.old (o := 0) hB (.int .i64 (a1 : Int)); have k2' := set_row (i := 0) (u := .int .i64 (a1 : Int)) k2; have bw2' := bw2.setCell (p := ⟨w.heap.size, 0, none⟩) (Nat.le_refl _) (.int .i64 (a1 : Int)); have D2 := N2 _ _ _ _ d2'; clear D1)
          | (go_at_call 66; refine D2.mono ?_; rintro e w3 ⟨rfl, d3, b3⟩; have lt2 := (Array.getElem?_eq_some_iff.1 k2').1; have k3 := (b3.block w.heap.size lt2 (fun e => hBg (by injection e))).trans k2'; have f3 := held_frozen (i := 1) k3; have qq3 := held_cell (i := 1) k3 rfl; have bw3 := bw2'.grown b3 bw2'.size (fun k hk => by cases hk; omega); have d3' := d3.old (o := 1) hB (.int .i64 (a2 : Int)); have k3' := set_row (i := 1) (u := .int .i64 (a2 : Int)) k3; have bw3' := bw3.setCell (p := ⟨w.heap.size, 1, none⟩) (Nat.le_refl _) (.int .i64 (a2 : Int)); have D3 := T1 _ _ _ _ d3'; clear D2 N2)
          | (go_at_call 67; refine D3.mono ?_; rintro e w4 ⟨rfl, d4, b4⟩; have lt3 := (Array.getElem?_eq_some_iff.1 k3').1; have k4 := (b4.block w.heap.size lt3 (fun e => hBg (by injection e))).trans k3'; have bw4 := bw3'.grown b4 bw3'.size (fun k hk => by cases hk; omega); have D4 := T2 _ _ _ _ d4; clear D3 T1)
          | (go_at_call 67; refine D4.mono ?_; rintro e w5 ⟨rfl, d5, b5⟩; have lt4 := (Array.getElem?_eq_some_iff.1 k4).1; have k5 := (b5.block w.heap.size lt4 (fun e => hBg (by injection e))).trans k4; have f5 := held_frozen (i := 3) k5; have qq5 := held_cell (i := 3) k5 rfl; have bw5 := bw4.grown b5 bw4.size (fun k hk => by cases hk; omega); have d5' := d5.old (o := 3) hB (.string ⟨(bt s2).toArray⟩); have k5' := set_row (i := 3) (u := .string ⟨(bt s2).toArray⟩) k5; have bw5' := bw5.setCell (p := ⟨w.heap.size, 3, none⟩) (Nat.le_refl _) (.string ⟨(bt s2).toArray⟩); have q0 := held_cell (i := 0) k5' rfl; have q1 := held_cell (i := 1) k5' rfl; have q2 := held_cell (i := 2) k5' rfl; have q3 := held_cell (i := 3) k5' rfl; have D5 := DN _ _ _ _ d5'; obtain ⟨cc, cv, crd, cb⟩ := CV (w5.setCell ⟨w.heap.size, 3, none⟩ (.string ⟨(bt s2).toArray⟩)) w5.heap.size (by simp [World.setCell]); have bwc := bw5'.trans (cb.mono bw5'.size); have kc := keep4 k5' cb; have Tc := hT.below bwc; have RDc := RD _ _ crd Tc; clear RD crd CV; clear D4 T2 DN)
          | (go_at_call 68; refine D5.mono ?_; rintro e w6 ⟨rfl, rfl⟩; clear D5)
          | (go_at_call 69; refine RDc.mono ?_; rintro e w8 ⟨u8, rfl, ru8, b8⟩; obtain ⟨A8, c8, rfl, -, -⟩ := id ru8.rd; have k8 := keep4 kc b8; have bw8 := bwc.trans (b8.mono bwc.size); have f8 := held_frozen (i := 2) k8; have qq8 := held_cell (i := 2) k8 rfl; have k8' := set_row (i := 2) (u := .slice A8 ls.length c8) k8; have bw8' := bw8.setCell (p := ⟨w.heap.size, 2, none⟩) (Nat.le_refl _) (.slice A8 ls.length c8); have p0 := held_cell (i := 0) k8' rfl; have p1 := held_cell (i := 1) k8' rfl; have p2 := held_cell (i := 2) k8' rfl; have p3 := held_cell (i := 3) k8' rfl; have h0 := held_frozen (i := 0) k8'; have h1 := held_frozen (i := 1) k8'; have h2 := held_frozen (i := 2) k8'; have h3 := held_frozen (i := 3) k8'; have zc : w.heap.size < (Lib.bytesWorld (w5.setCell ⟨w.heap.size, 3, none⟩ (.string ⟨(bt s2).toArray⟩)) 5 (str s1)).heap.size := (by have := cb.size; have := bw5'.size; have := (Array.getElem?_eq_some_iff.1 k5').1; omega); have ru8' := OwnL.grown ru8 (grown_set w8 w.heap.size 2 (.slice A8 ls.length c8)) zc; have T8 := hT.below bw8'; have ER := hER _ A8 c8 ru8'.rd T8; clear hER; clear RDc q0 q1 q2 q3 cv)
          | (go_at_call 20; refine ER.mono ?_; rintro e w9 ⟨rfl, b9⟩; have k9 := keep4 k8' b9; have bw9 := bw8'.trans (b9.mono bw8'.size); have ru9 := ru8'.below b9; have p0 := held_cell (i := 0) k9 rfl; have p1 := held_cell (i := 1) k9 rfl; have p2 := held_cell (i := 2) k9 rfl; have p3 := held_cell (i := 3) k9 rfl; have h0 := held_frozen (i := 0) k9; have h1 := held_frozen (i := 1) k9; have h2 := held_frozen (i := 2) k9; have h3 := held_frozen (i := 3) k9; clear ER)
          | fail)
        have kl : w9.heap[w.heap.size]? = some (.cells #[.int .i64 (a1 : Int), .int .i64 (a2 : Int), .slice A8 ls.length c8, .string ⟨(bt s2).toArray⟩] 24 (0, 0)) := k9
        have kf := put4_row kl (.int .i64 (a1 : Int)) (.int .i64 (a2 : Int)) (.slice A8 ls.length c8) (.string ⟨(bt s2).toArray⟩)
        have r0 := held_cell (i := 0) kf rfl
        have r1 := held_cell (i := 1) kf rfl
        have r2 := held_cell (i := 2) kf rfl
        have r3 := held_cell (i := 3) kf rfl
        exact bodyPost_ret (v := .tuple #[entV ⟨(a1 : Int), (a2 : Int), ls, bt s2⟩ A8 c8, .int .i64 (0 : Int)]) (by simp [results, Tryd.results64, go_sem, entV, r0, r1, r2, r3]) rfl ⟨⟨(a1 : Int), (a2 : Int), ls, bt s2⟩, A8, c8, 0, rfl, (OwnL.put4 ru9 zc _ _ _ _).mono (Nat.le_of_lt zc), .inl ⟨HY.out, rfl, HEO.out.symm⟩, put4_below bw9 (Nat.le_refl _) _ _ _ _⟩
      | false =>
        rw [hr] at hER
        have HY : Hid (entOk l = false) := hid (by rw [HK.out, hr])
        clear hr HK
        go_enter Tryd.func64, Tryd.ntmps64
        go_wp2_with (first
          | (go_at_call 65; refine (HN _ (hvA _)).mono ?_; rintro e w1 ⟨g, rfl, hg, d1, b1⟩; have k1 := box4 b1; have hB : w.heap.size < (w.alloc (.cells #[.int .i64 0, .int .i64 0, .slice none 0 0, .string ⟨#[]⟩] 24)).heap.size := (by simp); have hBg : w.heap.size ≠ g := (by omega); have bw1 := below_push b1; have lt1 := (Array.getElem?_eq_some_iff.1 k1).1; have D1 := N1 _ _ _ _ d1; clear HN hvA N1)
          | (go_at_call 66; refine D1.mono ?_; rintro e w2 ⟨rfl, d2, b2⟩; have k2 := (b2.block w.heap.size lt1 (fun e => hBg (by injection e))).trans k1; have f2 := held_frozen (i := 0) k2; have qq2 := held_cell (i := 0) k2 rfl; have bw2 := bw1.grown b2 bw1.size (fun k hk => by cases hk; omega); have d2' := d2.old (o := 0) hB (.int .i64 (a1 : Int)); have k2' := set_row (i := 0) (u := .int .i64 (a1 : Int)) k2; have bw2' := bw2.setCell (p := ⟨w.heap.size, 0, none⟩) (Nat.le_refl _) (.int .i64 (a1 : Int)); have D2 := N2 _ _ _ _ d2'; clear D1)
          | (go_at_call 66; refine D2.mono ?_; rintro e w3 ⟨rfl, d3, b3⟩; have lt2 := (Array.getElem?_eq_some_iff.1 k2').1; have k3 := (b3.block w.heap.size lt2 (fun e => hBg (by injection e))).trans k2'; have f3 := held_frozen (i := 1) k3; have qq3 := held_cell (i := 1) k3 rfl; have bw3 := bw2'.grown b3 bw2'.size (fun k hk => by cases hk; omega); have d3' := d3.old (o := 1) hB (.int .i64 (a2 : Int)); have k3' := set_row (i := 1) (u := .int .i64 (a2 : Int)) k3; have bw3' := bw3.setCell (p := ⟨w.heap.size, 1, none⟩) (Nat.le_refl _) (.int .i64 (a2 : Int)); have D3 := T1 _ _ _ _ d3'; clear D2 N2)
          | (go_at_call 67; refine D3.mono ?_; rintro e w4 ⟨rfl, d4, b4⟩; have lt3 := (Array.getElem?_eq_some_iff.1 k3').1; have k4 := (b4.block w.heap.size lt3 (fun e => hBg (by injection e))).trans k3'; have bw4 := bw3'.grown b4 bw3'.size (fun k hk => by cases hk; omega); have D4 := T2 _ _ _ _ d4; clear D3 T1)
          | (go_at_call 67; refine D4.mono ?_; rintro e w5 ⟨rfl, d5, b5⟩; have lt4 := (Array.getElem?_eq_some_iff.1 k4).1; have k5 := (b5.block w.heap.size lt4 (fun e => hBg (by injection e))).trans k4; have f5 := held_frozen (i := 3) k5; have qq5 := held_cell (i := 3) k5 rfl; have bw5 := bw4.grown b5 bw4.size (fun k hk => by cases hk; omega); have d5' := d5.old (o := 3) hB (.string ⟨(bt s2).toArray⟩); have k5' := set_row (i := 3) (u := .string ⟨(bt s2).toArray⟩) k5; have bw5' := bw5.setCell (p := ⟨w.heap.size, 3, none⟩) (Nat.le_refl _) (.string ⟨(bt s2).toArray⟩); have q0 := held_cell (i := 0) k5' rfl; have q1 := held_cell (i := 1) k5' rfl; have q2 := held_cell (i := 2) k5' rfl; have q3 := held_cell (i := 3) k5' rfl; have D5 := DN _ _ _ _ d5'; obtain ⟨cc, cv, crd, cb⟩ := CV (w5.setCell ⟨w.heap.size, 3, none⟩ (.string ⟨(bt s2).toArray⟩)) w5.heap.size (by simp [World.setCell]); have bwc := bw5'.trans (cb.mono bw5'.size); have kc := keep4 k5' cb; have Tc := hT.below bwc; have RDc := RD _ _ crd Tc; clear RD crd CV; clear D4 T2 DN)
          | (go_at_call 68; refine D5.mono ?_; rintro e w6 ⟨rfl, rfl⟩; clear D5)
          | (go_at_call 69; refine RDc.mono ?_; rintro e w8 ⟨u8, rfl, ru8, b8⟩; obtain ⟨A8, c8, rfl, -, -⟩ := id ru8.rd; have k8 := keep4 kc b8; have bw8 := bwc.trans (b8.mono bwc.size); have f8 := held_frozen (i := 2) k8; have qq8 := held_cell (i := 2) k8 rfl; have k8' := set_row (i := 2) (u := .slice A8 ls.length c8) k8; have bw8' := bw8.setCell (p := ⟨w.heap.size, 2, none⟩) (Nat.le_refl _) (.slice A8 ls.length c8); have p0 := held_cell (i := 0) k8' rfl; have p1 := held_cell (i := 1) k8' rfl; have p2 := held_cell (i := 2) k8' rfl; have p3 := held_cell (i := 3) k8' rfl; have h0 := held_frozen (i := 0) k8'; have h1 := held_frozen (i := 1) k8'; have h2 := held_frozen (i := 2) k8'; have h3 := held_frozen (i := 3) k8'; have zc : w.heap.size < (Lib.bytesWorld (w5.setCell ⟨w.heap.size, 3, none⟩ (.string ⟨(bt s2).toArray⟩)) 5 (str s1)).heap.size := (by have := cb.size; have := bw5'.size; have := (Array.getElem?_eq_some_iff.1 k5').1; omega); have ru8' := OwnL.grown ru8 (grown_set w8 w.heap.size 2 (.slice A8 ls.length c8)) zc; have T8 := hT.below bw8'; have ER := hER _ A8 c8 ru8'.rd T8; clear hER; clear RDc q0 q1 q2 q3 cv)
          | (go_at_call 20; refine ER.mono ?_; rintro e w9 ⟨rfl, b9⟩; have k9 := keep4 k8' b9; have bw9 := bw8'.trans (b9.mono bw8'.size); have ru9 := ru8'.below b9; have p0 := held_cell (i := 0) k9 rfl; have p1 := held_cell (i := 1) k9 rfl; have p2 := held_cell (i := 2) k9 rfl; have p3 := held_cell (i := 3) k9 rfl; have h0 := held_frozen (i := 0) k9; have h1 := held_frozen (i := 1) k9; have h2 := held_frozen (i := 2) k9; have h3 := held_frozen (i := 3) k9; clear ER)
          | fail)
        have kl : w9.heap[w.heap.size]? = some (.cells #[.int .i64 (a1 : Int), .int .i64 (a2 : Int), .slice A8 ls.length c8, .string ⟨(bt s2).toArray⟩] 24 (0, 0)) := k9
        have kf := put4_row kl (.int .i64 (a1 : Int)) (.int .i64 (a2 : Int)) (.slice A8 ls.length c8) (.string ⟨(bt s2).toArray⟩)
        have r0 := held_cell (i := 0) kf rfl
        have r1 := held_cell (i := 1) kf rfl
        have r2 := held_cell (i := 2) kf rfl
        have r3 := held_cell (i := 3) kf rfl
        exact bodyPost_ret (v := .tuple #[entV ⟨(a1 : Int), (a2 : Int), ls, bt s2⟩ A8 c8, .int .i64 (21 : Int)]) (by simp [results, Tryd.results64, go_sem, entV, r0, r1, r2, r3]) rfl ⟨⟨(a1 : Int), (a2 : Int), ls, bt s2⟩, A8, c8, 21, rfl, (OwnL.put4 ru9 zc _ _ _ _).mono (Nat.le_of_lt zc), .inr ⟨HY.out, by decide⟩, put4_below bw9 (Nat.le_refl _) _ _ _ _⟩
    · have HNO : Hid (entOk l = false) := hid (by rw [HOK.out]; simp [hre])
      have hne : ((le : Int) == 0) = false := by simp; omega
      have HD := hid hre
      clear hre HEO HOK hER
      go_enter Tryd.func64, Tryd.ntmps64
      go_wp2_with (first
        | (go_at_call 65; refine (HN _ (hvA _)).mono ?_; rintro e w1 ⟨g, rfl, hg, d1, b1⟩; have k1 := box4 b1; have hB : w.heap.size < (w.alloc (.cells #[.int .i64 0, .int .i64 0, .slice none 0 0, .string ⟨#[]⟩] 24)).heap.size := (by simp); have hBg : w.heap.size ≠ g := (by omega); have bw1 := below_push b1; have lt1 := (Array.getElem?_eq_some_iff.1 k1).1; have D1 := N1 _ _ _ _ d1; clear HN hvA N1)
        | (go_at_call 66; refine D1.mono ?_; rintro e w2 ⟨rfl, d2, b2⟩; have k2 := (b2.block w.heap.size lt1 (fun e => hBg (by injection e))).trans k1; have f2 := held_frozen (i := 0) k2; have qq2 := held_cell (i := 0) k2 rfl; have bw2 := bw1.grown b2 bw1.size (fun k hk => by cases hk; omega); have d2' := d2.old (o := 0) hB (.int .i64 (a1 : Int)); have k2' := set_row (i := 0) (u := .int .i64 (a1 : Int)) k2; have bw2' := bw2.setCell (p := ⟨w.heap.size, 0, none⟩) (Nat.le_refl _) (.int .i64 (a1 : Int)); have D2 := N2 _ _ _ _ d2'; clear D1)
        | (go_at_call 66; refine D2.mono ?_; rintro e w3 ⟨rfl, d3, b3⟩; have lt2 := (Array.getElem?_eq_some_iff.1 k2').1; have k3 := (b3.block w.heap.size lt2 (fun e => hBg (by injection e))).trans k2'; have f3 := held_frozen (i := 1) k3; have qq3 := held_cell (i := 1) k3 rfl; have bw3 := bw2'.grown b3 bw2'.size (fun k hk => by cases hk; omega); have d3' := d3.old (o := 1) hB (.int .i64 (a2 : Int)); have k3' := set_row (i := 1) (u := .int .i64 (a2 : Int)) k3; have bw3' := bw3.setCell (p := ⟨w.heap.size, 1, none⟩) (Nat.le_refl _) (.int .i64 (a2 : Int)); have D3 := T1 _ _ _ _ d3'; clear D2 N2)
        | (go_at_call 67; refine D3.mono ?_; rintro e w4 ⟨rfl, d4, b4⟩; have lt3 := (Array.getElem?_eq_some_iff.1 k3').1; have k4 := (b4.block w.heap.size lt3 (fun e => hBg (by injection e))).trans k3'; have bw4 := bw3'.grown b4 bw3'.size (fun k hk => by cases hk; omega); have D4 := T2 _ _ _ _ d4; clear D3 T1)
        | (go_at_call 67; refine D4.mono ?_; rintro e w5 ⟨rfl, d5, b5⟩; have lt4 := (Array.getElem?_eq_some_iff.1 k4).1; have k5 := (b5.block w.heap.size lt4 (fun e => hBg (by injection e))).trans k4; have f5 := held_frozen (i := 3) k5; have qq5 := held_cell (i := 3) k5 rfl; have bw5 := bw4.grown b5 bw4.size (fun k hk => by cases hk; omega); have d5' := d5.old (o := 3) hB (.string ⟨(bt s2).toArray⟩); have k5' := set_row (i := 3) (u := .string ⟨(bt s2).toArray⟩) k5; have bw5' := bw5.setCell (p := ⟨w.heap.size, 3, none⟩) (Nat.le_refl _) (.string ⟨(bt s2).toArray⟩); have q0 := held_cell (i := 0) k5' rfl; have q1 := held_cell (i := 1) k5' rfl; have q2 := held_cell (i := 2) k5' rfl; have q3 := held_cell (i := 3) k5' rfl; have D5 := DN _ _ _ _ d5'; obtain ⟨cc, cv, crd, cb⟩ := CV (w5.setCell ⟨w.heap.size, 3, none⟩ (.string ⟨(bt s2).toArray⟩)) w5.heap.size (by simp [World.setCell]); have bwc := bw5'.trans (cb.mono bw5'.size); have kc := keep4 k5' cb; have Tc := hT.below bwc; have RDc := RD _ _ crd Tc; clear RD crd CV; clear D4 T2 DN)
        | (go_at_call 68; refine D5.mono ?_; rintro e w6 ⟨rfl, rfl⟩; clear D5)
        | (go_at_call 69; refine RDc.mono ?_; rintro e w8 ⟨u8, rfl, ru8, b8⟩; obtain ⟨A8, c8, rfl, -, -⟩ := id ru8.rd; have k8 := keep4 kc b8; have bw8 := bwc.trans (b8.mono bwc.size); have f8 := held_frozen (i := 2) k8; have qq8 := held_cell (i := 2) k8 rfl; have k8' := set_row (i := 2) (u := .slice A8 ls.length c8) k8; have bw8' := bw8.setCell (p := ⟨w.heap.size, 2, none⟩) (Nat.le_refl _) (.slice A8 ls.length c8); have p0 := held_cell (i := 0) k8' rfl; have p1 := held_cell (i := 1) k8' rfl; have p2 := held_cell (i := 2) k8' rfl; have p3 := held_cell (i := 3) k8' rfl; have h0 := held_frozen (i := 0) k8'; have h1 := held_frozen (i := 1) k8'; have h2 := held_frozen (i := 2) k8'; have h3 := held_frozen (i := 3) k8'; have zc : w.heap.size < (Lib.bytesWorld (w5.setCell ⟨w.heap.size, 3, none⟩ (.string ⟨(bt s2).toArray⟩)) 5 (str s1)).heap.size := (by have := cb.size; have := bw5'.size; have := (Array.getElem?_eq_some_iff.1 k5').1; omega); have ru8' := OwnL.grown ru8 (grown_set w8 w.heap.size 2 (.slice A8 ls.length c8)) zc; clear RDc q0 q1 q2 q3 cv)
        | fail)
      have kl : (w8.setCell ⟨w.heap.size, 2, none⟩ (.slice A8 ls.length c8)).heap[w.heap.size]? = some (.cells #[.int .i64 (a1 : Int), .int .i64 (a2 : Int), .slice A8 ls.length c8, .string ⟨(bt s2).toArray⟩] 24 (0, 0)) := k8'
      have kf := put4_row kl (.int .i64 (a1 : Int)) (.int .i64 (a2 : Int)) (.slice A8 ls.length c8) (.string ⟨(bt s2).toArray⟩)
      have r0 := held_cell (i := 0) kf rfl
      have r1 := held_cell (i := 1) kf rfl
      have r2 := held_cell (i := 2) kf rfl
      have r3 := held_cell (i := 3) kf rfl
      exact bodyPost_ret (v := .tuple #[entV ⟨(a1 : Int), (a2 : Int), ls, bt s2⟩ A8 c8, .int .i64 (le : Int)]) (by simp [results, Tryd.results64, go_sem, entV, r0, r1, r2, r3]) rfl ⟨⟨(a1 : Int), (a2 : Int), ls, bt s2⟩, A8, c8, le, rfl, (OwnL.put4 ru8' zc _ _ _ _).mono (Nat.le_of_lt zc), .inr ⟨HNO.out, HD.out⟩, put4_below bw8' (Nat.le_refl _) _ _ _ _⟩
  · have HNO : Hid (entOk l = false) := hid (by rw [HOK.out]; simp [hdn])
    have hne : ((dn : Int) == 0) = false := by simp; omega
    have hne2 : ((dn : Int) != 0) = true := by rw [bne, hne]; rfl
    have HD := hid hdn
    clear hdn HEO HOK RD CV hER
    go_enter Tryd.func64, Tryd.ntmps64
    go_wp2_with (first
      | (go_at_call 65; refine (HN _ (hvA _)).mono ?_; rintro e w1 ⟨g, rfl, hg, d1, b1⟩; have k1 := box4 b1; have hB : w.heap.size < (w.alloc (.cells #[.int .i64 0, .int .i64 0, .slice none 0 0, .string ⟨#[]⟩] 24)).heap.size := (by simp); have hBg : w.heap.size ≠ g := (by omega); have bw1 := below_push b1; have lt1 := (Array.getElem?_eq_some_iff.1 k1).1; have D1 := N1 _ _ _ _ d1; clear HN hvA N1)
      | (go_at_call 66; refine D1.mono ?_; rintro e w2 ⟨rfl, d2, b2⟩; have k2 := (b2.block w.heap.size lt1 (fun e => hBg (by injection e))).trans k1; have f2 := held_frozen (i := 0) k2; have qq2 := held_cell (i := 0) k2 rfl; have bw2 := bw1.grown b2 bw1.size (fun k hk => by cases hk; omega); have d2' := d2.old (o := 0) hB (.int .i64 (a1 : Int)); have k2' := set_row (i := 0) (u := .int .i64 (a1 : Int)) k2; have bw2' := bw2.setCell (p := ⟨w.heap.size, 0, none⟩) (Nat.le_refl _) (.int .i64 (a1 : Int)); have D2 := N2 _ _ _ _ d2'; clear D1)
      | (go_at_call 66; refine D2.mono ?_; rintro e w3 ⟨rfl, d3, b3⟩; have lt2 := (Array.getElem?_eq_some_iff.1 k2').1; have k3 := (b3.block w.heap.size lt2 (fun e => hBg (by injection e))).trans k2'; have f3 := held_frozen (i := 1) k3; have qq3 := held_cell (i := 1) k3 rfl; have bw3 := bw2'.grown b3 bw2'.size (fun k hk => by cases hk; omega); have d3' := d3.old (o := 1) hB (.int .i64 (a2 : Int)); have k3' := set_row (i := 1) (u := .int .i64 (a2 : Int)) k3; have bw3' := bw3.setCell (p := ⟨w.heap.size, 1, none⟩) (Nat.le_refl _) (.int .i64 (a2 : Int)); have D3 := T1 _ _ _ _ d3'; clear D2 N2)
      | (go_at_call 67; refine D3.mono ?_; rintro e w4 ⟨rfl, d4, b4⟩; have lt3 := (Array.getElem?_eq_some_iff.1 k3').1; have k4 := (b4.block w.heap.size lt3 (fun e => hBg (by injection e))).trans k3'; have bw4 := bw3'.grown b4 bw3'.size (fun k hk => by cases hk; omega); have D4 := T2 _ _ _ _ d4; clear D3 T1)
      | (go_at_call 67; refine D4.mono ?_; rintro e w5 ⟨rfl, d5, b5⟩; have lt4 := (Array.getElem?_eq_some_iff.1 k4).1; have k5 := (b5.block w.heap.size lt4 (fun e => hBg (by injection e))).trans k4; have f5 := held_frozen (i := 3) k5; have qq5 := held_cell (i := 3) k5 rfl; have bw5 := bw4.grown b5 bw4.size (fun k hk => by cases hk; omega); have d5' := d5.old (o := 3) hB (.string ⟨(bt s2).toArray⟩); have k5' := set_row (i := 3) (u := .string ⟨(bt s2).toArray⟩) k5; have bw5' := bw5.setCell (p := ⟨w.heap.size, 3, none⟩) (Nat.le_refl _) (.string ⟨(bt s2).toArray⟩); have q0 := held_cell (i := 0) k5' rfl; have q1 := held_cell (i := 1) k5' rfl; have q2 := held_cell (i := 2) k5' rfl; have q3 := held_cell (i := 3) k5' rfl; have g0 := held_frozen (i := 0) k5'; have g1 := held_frozen (i := 1) k5'; have g2 := held_frozen (i := 2) k5'; have g3 := held_frozen (i := 3) k5'; have D5 := DN _ _ _ _ d5'; clear D4 T2 DN)
      | (go_at_call 68; refine D5.mono ?_; rintro e w6 ⟨rfl, rfl⟩; clear D5)
      | fail)
    have kl : (w5.setCell ⟨w.heap.size, 3, none⟩ (.string ⟨(bt s2).toArray⟩)).heap[w.heap.size]? = some (.cells #[.int .i64 (a1 : Int), .int .i64 (a2 : Int), .slice none 0 0, .string ⟨(bt s2).toArray⟩] 24 (0, 0)) := k5'
    have kf := put4_row kl (.int .i64 (a1 : Int)) (.int .i64 (a2 : Int)) (.slice none 0 0) (.string ⟨(bt s2).toArray⟩)
    have r0 := held_cell (i := 0) kf rfl
    have r1 := held_cell (i := 1) kf rfl
    have r2 := held_cell (i := 2) kf rfl
    have r3 := held_cell (i := 3) kf rfl
    exact bodyPost_ret (v := .tuple #[entV ⟨(a1 : Int), (a2 : Int), [], bt s2⟩ none 0, .int .i64 (dn : Int)]) (by simp [results, Tryd.results64, go_sem, entV, r0, r1, r2, r3]) rfl ⟨⟨(a1 : Int), (a2 : Int), [], bt s2⟩, none, 0, dn, rfl, OwnL.nil _ _, .inr ⟨HNO.out, HD.out⟩, put4_below bw5' (Nat.le_refl _) _ _ _ _⟩
end Go.Proofs.YtffpphigmdehfaaDoor
