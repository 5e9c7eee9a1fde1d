/-
  RecordEntries: whatever the entry and the bytes, the law returns true and its arguments read as before. Conditions: those of the given statement (the listed tables of Go's library are as the program lays them).
-/
import Derived.Test.YtffpphigmdehfaaDoorEntRGet
import Derived.Test.YtffpphigmdehfaaDoorEntSame
import Derived.Test.YtffpphigmdehfaaDoorEntOpen
import Derived.Test.YtffpphigmdehfaaDoorLent
namespace Go.Proofs.YtffpphigmdehfaaDoor.RecordEntries
open Go.ChangeMaps Go.ChangeShapes Go.WideShapes Go.ChangeAt Go.RowKit Go.Icz
theorem keep_push {w w1 : World} {k : Nat} {o o2 : Obj} (h : w.heap[k]? = some o) (hb : Below (w.alloc o2).heap.size (w.alloc o2) w1) : w1.heap[k]? = some o := keep4 h (below_push hb)
theorem lt_mono {w : World} {B B' : Nat} {v : Value} {l : List Nat} (h : Lt w B v l) (hb : B' ≤ B) : Lt w B' v l := by
  obtain ⟨g, cap, h1, h2, h3⟩ := h
  exact ⟨g, cap, h1, Nat.le_trans hb h2, h3⟩
theorem getE_z (l : List Nat) : (getE l).labs.length ≤ 16 := by
  unfold getE
  split
  · exact (readS_sub _).1
  · simp
set_option maxHeartbeats 4000000 in
set_option maxRecDepth 100000 in
theorem walk (x : Ent) (A : Option Addr) (c : Nat) (v1 : Value) (lb : List Nat) (W : World) (h0 : RdL W (.slice A x.labs.length c) x.labs) (h1 : Rd W v1 lb) (hz : entZ x) (z1 : lb.length ≤ 140737488351232) (hl : ∀ b ∈ lb, b < 256) (hT : Tabs W) :
    Calls Tryd.prog 3 #[entV x A c, v1] W fun e w' => e = .returned (.bool true) ∧ Below W.heap.size W w' := by
  have hlen := hz.1
  have L0 := fun o => Lent_any v1 lb (W.alloc o) (h1.alloc o) z1
  have hy := getE_z lb
  have O0 := fun w (hb : Below W.heap.size W w) => EOwn_is x A c w (h0.below hb) hz.1
  have P1 := fun w A2 c2 (g : RdL w (.slice A2 x.labs.length c2) x.labs) (hb : Below W.heap.size W w) => EPut_is x A2 c2 w g (hT.below hb) hz
  have P2 := fun w (hb : Below W.heap.size W w) => R3Put_is x A c w (h0.below hb) hz
  have G1 := fun u w (g : Rd w u lb) (hb : Below W.heap.size W w) => EGet_is u lb w g hl z1 (hT.below hb)
  have G2 := fun w (hb : Below W.heap.size W w) => R3Get_is v1 lb w (h1.below hb) hl z1
  have R1 := fun w A2 c2 (g : RdL w (.slice A2 x.labs.length c2) x.labs) (hb : Below W.heap.size W w) => ERight_is x A2 c2 w g (hT.below hb) hz
  have R2 := fun w (hb : Below W.heap.size W w) => R3Right_is x A c w (h0.below hb) hz
  have S1 := fun w A2 c2 (g : RdL w (.slice A2 x.labs.length c2) x.labs) (hb : Below W.heap.size W w) => ESize_is x A2 c2 w g (hT.below hb) hz
  have S2 := fun w (hb : Below W.heap.size W w) => R3Size_is x A c w (h0.below hb) hz
  have M1 := fun w A5 c5 A6 c6 g g' => ESame_refl (getE lb) A5 A6 c5 c6 w g g' (by omega)
  have M2 := fun w A2 c2 (g : RdL w (.slice A2 x.labs.length c2) x.labs) (hb : Below W.heap.size W w) => ESame_refl x A A2 c c2 w (h0.below hb) g (by omega)
  have T1 := fun u w (g : Lt w W.heap.size u lb) (hb : Below W.heap.size W w) => Stays_any W.heap.size u v1 lb w g (h1.below hb) z1
  have HK := fun w (hb : Below W.heap.size W w) => knows_is w (hT.below hb)
  unfold EntOut at O0
  unfold EPutOut at P1 P2
  unfold GetOut at G1 G2
  clear hz hlen h0 h1 hl hT z1 hy
  generalize (if entR x = true then (0 : Int) else 1) = n at *
  generalize (if entR x = true then entB x else []) = m at *
  generalize entR x = rr at *
  generalize ((getN lb : Nat) : Int) = n2 at *
  generalize getE lb = y at *
  unfold entV at *
  go_enter Tryd.func3, Tryd.ntmps3
  go_wp2_with (first
    | (go_at_call 14; refine (L0 _).mono ?_; rintro e w1 ⟨u1, rfl, lx1', b1'⟩; have k1 := box4 b1'; have b1 := below_push b1'; have lx1 := lt_mono lx1' (show W.heap.size ≤ _ by simp); have q0 := held_cell (i := 0) k1 rfl; have q1 := held_cell (i := 1) k1 rfl; have q2 := held_cell (i := 2) k1 rfl; have q3 := held_cell (i := 3) k1 rfl; clear L0 lx1' b1')
    | (go_at_call 15; refine (O0 _ b1).mono ?_; rintro e w2 ⟨A2, c2, rfl, o2, b2'⟩; have k2 := keep4 k1 b2'; have lx2 := lx1.below b2'; have b2 := (b1.trans (b2'.mono b1.size)).alloc (b1.trans (b2'.mono b1.size)).size (.cells #[.int .i64 x.seq, .int .i64 x.time, .slice A2 x.labs.length c2, .string ⟨x.line.toArray⟩] 24); have rl2 := o2.rd.alloc (.cells #[.int .i64 x.seq, .int .i64 x.time, .slice A2 x.labs.length c2, .string ⟨x.line.toArray⟩] 24); clear O0 k1 lx1 q0 q1 q2 q3 b2' o2)
    | (go_at_call 16; refine (P1 _ _ _ rl2 b2).mono ?_; rintro e w3 ⟨v3, rfl, r3, b3'⟩; have j3 := box4 b3'; have k3 := keep_push k2 b3'; have lx3 := lx2.below (below_push b3'); have b3 := b2.trans (b3'.mono b2.size); have rl3 := rl2.below b3'; have q0 := held_cell (i := 0) k3 rfl; have q1 := held_cell (i := 1) k3 rfl; have q2 := held_cell (i := 2) k3 rfl; have q3 := held_cell (i := 3) k3 rfl; clear P1 k2 lx2 b3' rl2)
    | (go_at_call 17; refine (P2 _ b3).mono ?_; rintro e w4 ⟨v4, rfl, r4, b4'⟩; have j4 := keep4 j3 b4'; have k4 := keep4 k3 b4'; have lx4 := lx3.below b4'; have b4 := b3.trans (b4'.mono b3.size); have rl4 := rl3.below b4'; have r3' := r3.below b4'; clear P2 j3 k3 lx3 b4' rl3 r3 q0 q1 q2 q3)
    | (go_at_call 18; refine (G1 _ _ lx4.rd b4).mono ?_; rintro e w5 ⟨A5, c5, rfl, r5', b5'⟩; have j5 := keep4 j4 b5'; have k5 := keep4 k4 b5'; have lx5 := lx4.below b5'; have b5 := (b4.trans (b5'.mono b4.size)).alloc (b4.trans (b5'.mono b4.size)).size (.cells #[.int .i64 y.seq, .int .i64 y.time, .slice A5 y.labs.length c5, .string ⟨y.line.toArray⟩] 24); have rl5 := rl4.below b5'; have r35 := r3'.below b5'; have r45 := r4.below b5'; have r5 := r5'.alloc (.cells #[.int .i64 y.seq, .int .i64 y.time, .slice A5 y.labs.length c5, .string ⟨y.line.toArray⟩] 24); clear G1 j4 k4 lx4 b5' rl4 r3' r4 r5')
    | (go_at_call 19; refine (G2 _ b5).mono ?_; rintro e w6 ⟨A6, c6, rfl, r6, b6'⟩; have i6 := box4 b6'; have bb6 := below_push b6'; have j6 := keep4 j5 bb6; have k6 := keep4 k5 bb6; have lx6 := lx5.below bb6; have b6 := b5.trans (b6'.mono b5.size); have rl6 := rl5.below bb6; have r36 := r35.below bb6; have r46 := r45.below bb6; have r56 := r5.below b6'; clear G2 j5 k5 lx5 rl5 r35 r45 r5)
    | fail)
  have j7 := keep4 j6 ((Below.refl _ _).alloc (Nat.le_refl _) (.cells #[.int .i64 y.seq, .int .i64 y.time, .slice A6 y.labs.length c6, .string ⟨y.line.toArray⟩] 24))
  have k7 := keep4 k6 ((Below.refl _ _).alloc (Nat.le_refl _) (.cells #[.int .i64 y.seq, .int .i64 y.time, .slice A6 y.labs.length c6, .string ⟨y.line.toArray⟩] 24))
  have i7 := keep4 i6 ((Below.refl _ _).alloc (Nat.le_refl _) (.cells #[.int .i64 y.seq, .int .i64 y.time, .slice A6 y.labs.length c6, .string ⟨y.line.toArray⟩] 24))
  have h7 := heap_alloc_new w6 (.cells #[.int .i64 y.seq, .int .i64 y.time, .slice A6 y.labs.length c6, .string ⟨y.line.toArray⟩] 24)
  have lx7 := lx6.below ((Below.refl _ _).alloc (Nat.le_refl _) (.cells #[.int .i64 y.seq, .int .i64 y.time, .slice A6 y.labs.length c6, .string ⟨y.line.toArray⟩] 24))
  have b7 := b6.alloc b6.size (.cells #[.int .i64 y.seq, .int .i64 y.time, .slice A6 y.labs.length c6, .string ⟨y.line.toArray⟩] 24)
  have rl7 := rl6.alloc (.cells #[.int .i64 y.seq, .int .i64 y.time, .slice A6 y.labs.length c6, .string ⟨y.line.toArray⟩] 24)
  have r37 := r36.alloc (.cells #[.int .i64 y.seq, .int .i64 y.time, .slice A6 y.labs.length c6, .string ⟨y.line.toArray⟩] 24)
  have r47 := r46.alloc (.cells #[.int .i64 y.seq, .int .i64 y.time, .slice A6 y.labs.length c6, .string ⟨y.line.toArray⟩] 24)
  have r57 := r56.alloc (.cells #[.int .i64 y.seq, .int .i64 y.time, .slice A6 y.labs.length c6, .string ⟨y.line.toArray⟩] 24)
  have r67 := r6.alloc (.cells #[.int .i64 y.seq, .int .i64 y.time, .slice A6 y.labs.length c6, .string ⟨y.line.toArray⟩] 24)
  clear j6 k6 i6 lx6 b6 rl6 r36 r46 r56 r6 bb6 b6' b5 b4 b3 b2 b1
  generalize w6.alloc (.cells #[.int .i64 y.seq, .int .i64 y.time, .slice A6 y.labs.length c6, .string ⟨y.line.toArray⟩] 24) = W7 at *
  have mkS : ∀ w', Below W7.heap.size W7 w' → Below W7.heap.size W7 w' ∧ (convert 25 9 v3).run Tryd.prog w' = .ok (.string (str m)) w' ∧ (convert 25 9 v4).run Tryd.prog w' = .ok (.string (str m)) w' ∧ w'.cell? ⟨W.heap.size, 0, none⟩ = some (.int .i64 x.seq) ∧ w'.cell? ⟨W.heap.size, 1, none⟩ = some (.int .i64 x.time) ∧ w'.cell? ⟨W.heap.size, 2, none⟩ = some (.slice A x.labs.length c) ∧ w'.cell? ⟨W.heap.size, 3, none⟩ = some (.string ⟨x.line.toArray⟩) ∧ w'.cell? ⟨w2.heap.size, 0, none⟩ = some (.int .i64 x.seq) ∧ w'.cell? ⟨w2.heap.size, 1, none⟩ = some (.int .i64 x.time) ∧ w'.cell? ⟨w2.heap.size, 2, none⟩ = some (.slice A2 x.labs.length c2) ∧ w'.cell? ⟨w2.heap.size, 3, none⟩ = some (.string ⟨x.line.toArray⟩) ∧ w'.cell? ⟨w5.heap.size, 0, none⟩ = some (.int .i64 y.seq) ∧ w'.cell? ⟨w5.heap.size, 1, none⟩ = some (.int .i64 y.time) ∧ w'.cell? ⟨w5.heap.size, 2, none⟩ = some (.slice A5 y.labs.length c5) ∧ w'.cell? ⟨w5.heap.size, 3, none⟩ = some (.string ⟨y.line.toArray⟩) ∧ w'.cell? ⟨w6.heap.size, 0, none⟩ = some (.int .i64 y.seq) ∧ w'.cell? ⟨w6.heap.size, 1, none⟩ = some (.int .i64 y.time) ∧ w'.cell? ⟨w6.heap.size, 2, none⟩ = some (.slice A6 y.labs.length c6) ∧ w'.cell? ⟨w6.heap.size, 3, none⟩ = some (.string ⟨y.line.toArray⟩) := fun w' h =>
    ⟨h, conv_rd std (r37.below h), conv_rd std (r47.below h), held_cell (i := 0) (keep4 k7 h) rfl, held_cell (i := 1) (keep4 k7 h) rfl, held_cell (i := 2) (keep4 k7 h) rfl, held_cell (i := 3) (keep4 k7 h) rfl, held_cell (i := 0) (keep4 j7 h) rfl, held_cell (i := 1) (keep4 j7 h) rfl, held_cell (i := 2) (keep4 j7 h) rfl, held_cell (i := 3) (keep4 j7 h) rfl, held_cell (i := 0) (keep4 i7 h) rfl, held_cell (i := 1) (keep4 i7 h) rfl, held_cell (i := 2) (keep4 i7 h) rfl, held_cell (i := 3) (keep4 i7 h) rfl, held_cell (i := 0) (keep4 h7 h) rfl, held_cell (i := 1) (keep4 h7 h) rfl, held_cell (i := 2) (keep4 h7 h) rfl, held_cell (i := 3) (keep4 h7 h) rfl⟩
  have hk := mkS W7.drew (Below.refl _ _).drew
  clear j7 k7 i7 h7 r37 r47
  go_region_held3 (fun w' => Below W7.heap.size W7 w' ∧ (convert 25 9 v3).run Tryd.prog w' = .ok (.string (str m)) w' ∧ (convert 25 9 v4).run Tryd.prog w' = .ok (.string (str m)) w' ∧ w'.cell? ⟨W.heap.size, 0, none⟩ = some (.int .i64 x.seq) ∧ w'.cell? ⟨W.heap.size, 1, none⟩ = some (.int .i64 x.time) ∧ w'.cell? ⟨W.heap.size, 2, none⟩ = some (.slice A x.labs.length c) ∧ w'.cell? ⟨W.heap.size, 3, none⟩ = some (.string ⟨x.line.toArray⟩) ∧ w'.cell? ⟨w2.heap.size, 0, none⟩ = some (.int .i64 x.seq) ∧ w'.cell? ⟨w2.heap.size, 1, none⟩ = some (.int .i64 x.time) ∧ w'.cell? ⟨w2.heap.size, 2, none⟩ = some (.slice A2 x.labs.length c2) ∧ w'.cell? ⟨w2.heap.size, 3, none⟩ = some (.string ⟨x.line.toArray⟩) ∧ w'.cell? ⟨w5.heap.size, 0, none⟩ = some (.int .i64 y.seq) ∧ w'.cell? ⟨w5.heap.size, 1, none⟩ = some (.int .i64 y.time) ∧ w'.cell? ⟨w5.heap.size, 2, none⟩ = some (.slice A5 y.labs.length c5) ∧ w'.cell? ⟨w5.heap.size, 3, none⟩ = some (.string ⟨y.line.toArray⟩) ∧ w'.cell? ⟨w6.heap.size, 0, none⟩ = some (.int .i64 y.seq) ∧ w'.cell? ⟨w6.heap.size, 1, none⟩ = some (.int .i64 y.time) ∧ w'.cell? ⟨w6.heap.size, 2, none⟩ = some (.slice A6 y.labs.length c6) ∧ w'.cell? ⟨w6.heap.size, 3, none⟩ = some (.string ⟨y.line.toArray⟩)) (exact hk)
    (first
      | (go_at_call 20; refine (R1 _ _ _ (rl7.below hk.1) (b7.trans (hk.1.mono b7.size))).mono ?_; rintro e w8 ⟨rfl, b8⟩; have hk := mkS _ (hk.1.trans (b8.mono hk.1.size)); clear R1)
      | (go_at_call 21; refine (R2 _ (b7.trans (hk.1.mono b7.size))).mono ?_; rintro e w9 ⟨rfl, b9⟩; have hk := mkS _ (hk.1.trans (b9.mono hk.1.size)); clear R2)
      | (go_at_call 22; refine (num_is _ _).mono ?_; rintro e w13 ⟨rfl, rfl⟩)
      | (go_at_call 23; refine (M1 _ A5 c5 A6 c6 (r57.below hk.1) (r67.below hk.1)).mono ?_; rintro e w10 ⟨rfl, b10⟩; have hk := mkS _ (hk.1.trans (b10.mono hk.1.size)); clear M1)
      | (go_at_call 24; refine (S1 _ _ _ (rl7.below hk.1) (b7.trans (hk.1.mono b7.size))).mono ?_; rintro e w11 ⟨rfl, b11⟩; have hk := mkS _ (hk.1.trans (b11.mono hk.1.size)); clear S1)
      | (go_at_call 25; refine (S2 _ (b7.trans (hk.1.mono b7.size))).mono ?_; rintro e w12 ⟨rfl, b12⟩; have hk := mkS _ (hk.1.trans (b12.mono hk.1.size)); clear S2)
      | (go_at_call 23; refine (M2 _ A2 c2 (rl7.below hk.1) (b7.trans (hk.1.mono b7.size))).mono ?_; rintro e w14 ⟨rfl, b14⟩; have hk := mkS _ (hk.1.trans (b14.mono hk.1.size)); clear M2)
      | (go_at_call 26; refine (T1 _ _ (lx7.below hk.1) (b7.trans (hk.1.mono b7.size))).mono ?_; rintro e w15 ⟨rfl, b15⟩; have hk := mkS _ (hk.1.trans (b15.mono hk.1.size)); clear T1)
      | (go_at_call 27; refine (HK _ (b7.trans (hk.1.mono b7.size))).mono ?_; rintro e w16 ⟨rfl, b16⟩; have hk := mkS _ (hk.1.trans (b16.mono hk.1.size)); clear HK))
  go_wp2_with fail
  go_ret
  exact ⟨rfl, b7.trans (hk.1.mono b7.size)⟩


set_option maxRecDepth 100000 in
theorem contract (H : Type) (enc : TypeId × Value → H) (W : World) (base : Nat) (args : Array Value) (ds gs : List (DataW H)) (before : List MemPlace)
    (hval : ∀ (j : Nat) t v, Tryd.f3.params[j]? = some t → args[j]? = some v → Value.okWide Tryd.prog W .any base t v)
    (hW : DataW.Whole enc Tryd.prog Tryd.f3.params.toList Rows.recordEntriesSpec.vars false W args.toList ds gs before)
    (hsz : (DataW.weightsEach Tryd.prog (Tryd.f3.params.toList ++ Rows.recordEntriesSpec.plain.varTypes Tryd.prog) (ds ++ gs)).all (· ≤ reachBytes) = true)
    (hL : laidMetH Tryd.prog Rows.recordEntriesRow.laid W) :
    Calls Tryd.prog 3 args W fun e W' => ∃ v, e = .returned v ∧ Rows.recordEntriesSpec.post enc Tryd.prog Tryd.f3 false true false false W args v W' := by
  have hW' := hW
  obtain ⟨p, q, hA0, hV, rfl, hfz, hnd⟩ := hW
  have hA : DataW.TrodAll enc Tryd.prog W 0 (fun _ => true) true Tryd.f3.params.toList args.toList ds p := hA0
  rw [Tryd.params3] at hA hval hsz
  obtain ⟨v0, vs0, d0, ds0, p0, q0, hargs, rfl, rfl, h0, r0⟩ := trodAll_cons hA
  obtain ⟨v1, vs1, d1, ds1, p1, q1, rfl, rfl, rfl, h1, r1⟩ := trodAll_cons r0
  obtain ⟨rfl, rfl, rfl⟩ := trodAll_nil r1
  obtain rfl : args = #[v0, v1] := by cases args; simp_all
  obtain ⟨rfl, rfl⟩ := trodVars_none hV
  have lt0 : ∀ x ∈ p0, x.block < W.heap.size := by
    obtain ⟨m, hm⟩ := h0
    exact DataW.trod_lt m _ _ _ hm
  obtain ⟨x0, A0, c0, rfl, hr0, hz0⟩ := open_entA (hval 0 24 v0 rfl rfl) h0 (fun n hn => by have h9 := List.all_eq_true.1 hsz n (DataW.weights_mem_each (j := 0) (t := 24) (d := d0) rfl rfl n hn); simpa using h9)
  obtain ⟨a1, len1, cap1, rfl⟩ := okWide_slice Tryd.underlying25 (hval 1 25 v1 rfl rfl)
  have lt1 : ∀ x ∈ p1, x.block < W.heap.size := by
    obtain ⟨m, hm⟩ := h1
    exact DataW.trod_lt m _ _ _ hm
  obtain ⟨l1, hll1, hr1, hb1, hd1⟩ := open_rd std cells5 h1
  have z1 : l1.length ≤ 140737488351232 := by
    rcases hd1 with ⟨_, rfl⟩ | ⟨el, sp, rfl, he, hc⟩
    · simp
    · have h1 := sized_slice hsz (j := 1) (t := 25) (e := 5) rfl rfl Tryd.underlying25
      rw [bytes5] at h1
      simp only [reachBytes] at h1
      omega
  clear hA0
  have hT : Tabs W := tabs_of hL (.tail _ (.head _)) (.head _)
  refine (walk x0 A0 c0 _ l1 W hr0 hr1 hz0 z1 hb1 hT).mono fun e W' ⟨he, bel⟩ => ?_
  subst he
  exact ⟨_, rfl, _, _, _, [], _, [], hW', trodAll_mk1 (shut_bool Tryd.underlying4 _), (trodAll_cons_mk (Below.trod laidOut (by kernel_rfl) (of_decide_eq_true (by kernel_rfl)) h0 bel lt0) (trodAll_cons_mk (Below.trod laidOut (by kernel_rfl) (of_decide_eq_true (by kernel_rfl)) h1 bel lt1) trodAll_mk0)), rfl, bel.frame _, fun h => by cases h⟩

theorem laid_met (os : Os) : laidMet Tryd.prog Rows.recordEntriesRow.laid ((World.laidAll Tryd.prog os Rows.recordEntriesRow.laid).forCall (fun _ _ => 0) ⟨#[], #[.agg #[.int .i64 0, .int .i64 0, .slice none 0 0, .string ByteArray.empty], .slice none 0 0], []⟩).memory :=
  laidMet_laidAll _ (by kernel_rfl) (by kernel_rfl)
theorem reads (os : Os) {H : Type} (enc : TypeId × Value → H) : ∃ places, DataW.whole enc Tryd.prog ((World.laidAll Tryd.prog os Rows.recordEntriesRow.laid).forCall (fun _ _ => 0) ⟨#[], #[.agg #[.int .i64 0, .int .i64 0, .slice none 0 0, .string ByteArray.empty], .slice none 0 0], []⟩).memory Tryd.f3.params.toList Rows.recordEntriesSpec.vars false #[.agg #[.int .i64 0, .int .i64 0, .slice none 0 0, .string ByteArray.empty], .slice none 0 0].toList 8 = some ([.agg [.lit (.int .i64 0), .lit (.int .i64 0), .nil, .lit (.string [])], .nil], [], places) :=
  ⟨[], by kernel_rfl⟩

set_option maxRecDepth 100000 in
theorem lifted (os : Os) (started : os.Started) (H : Type) (enc : TypeId × Value → H) (F : Stop.Interp) :
    ReturnsInHanded {} Tryd.checked os 3 .any ((OpenSpec.ofChange Rows.recordEntriesSpec).preRow enc Tryd.prog Tryd.f3 Rows.recordEntriesRow.domain false Rows.recordEntriesRow.laid) (((OpenSpec.ofChange Rows.recordEntriesSpec).at F).post enc Tryd.prog Tryd.f3 false true false false) := by
  obtain ⟨places, hx⟩ := reads os enc
  refine returnsInHanded_of_row (C := Tryd.checked) (s := OpenSpec.ofChange Rows.recordEntriesSpec) own started (by kernel_rfl) Tryd.func3
    (witness_row_at (enc := enc) (C := Tryd.checked) false (World.laidAll Tryd.prog os Rows.recordEntriesRow.laid) #[.agg #[.int .i64 0, .int .i64 0, .slice none 0 0, .string ByteArray.empty], .slice none 0 0] (World.laidAll_os _ _ _) (by kernel_rfl) (by kernel_rfl) (by kernel_rfl)
      (OpenSpec.preRow_of_cond 8 hx (by kernel_rfl) (fun k hk => by cases hk) (by kernel_rfl) (laid_met os))) ?_
  intro W base args ds gs before hval hW _ _ hsz hL _ _
  exact contract H enc W base args ds gs before hval hW hsz hL

theorem said : Rows.RecordEntriesSaid :=
  OpenClaim.holds_of_cond 3 Tryd.f3 rfl rfl rfl rfl rfl rfl rfl ⟨rfl, rfl, rfl, rfl, rfl⟩ rfl rfl rfl rfl rfl (by kernel_rfl) Tryd.func3 (by kernel_rfl)
    (of_decide_eq_true (by kernel_rfl)) (by unfold Func.isWrapper; first | (rw [if_pos (by decide +kernel)]; kernel_rfl) | (rw [if_neg (by decide +kernel)]; exact ⟨rfl, rfl⟩))
    (fun os started H enc _ F => by rw [OpenClaim.pre_eq_preRow]; exact lifted os started H enc F)

theorem plain (f : FuncId) (fn : Func) (hf : Tryd.pinned.checked.prog.funcNamed "icehouse/icehouselaw03.RecordEntries" = some f) (hfn : Tryd.pinned.checked.prog.funcs[f]? = some fn) :
    false = Tryd.pinned.checked.prog.looks [] ∧ ∀ (j : Nat) t, fn.params[j]? = some t → Tryd.pinned.checked.prog.wantsStandIn t = false := by
  obtain rfl : f = 3 := Option.some.inj ((show Tryd.prog.funcNamed "icehouse/icehouselaw03.RecordEntries" = some 3 by kernel_rfl).symm.trans hf) |>.symm
  obtain rfl : fn = Tryd.f3 := (Option.some.inj (Tryd.func3.symm.trans hfn)).symm
  refine ⟨by kernel_rfl, fun j t ht => ?_⟩
  rw [Tryd.params3] at ht
  have hm : t ∈ [24, 25] := by simpa using Array.mem_of_getElem? ht
  have hall : ([24, 25].all fun u => !Tryd.prog.wantsStandIn u) = true := by kernel_rfl
  exact (show Tryd.prog.wantsStandIn t = false by simpa using List.all_eq_true.1 hall t hm)

/-- THE STATEMENT. -/
theorem proved : Rows.RecordEntriesCardSaid :=
  Claim7.holds_tied_plain_at .later [] _ _ _ _ said (fun _ h => by cases h) (by kernel_rfl) (fun _ h => by cases h) recordEntries_row_tie rfl ⟨rfl, rfl⟩ (by kernel_rfl) rfl plain (by kernel_rfl)

end Go.Proofs.YtffpphigmdehfaaDoor.RecordEntries
