/-
  RecordBack: whatever the entries and the byte, the law returns true and its arguments read as before. Conditions: those of the given statement (the listed tables of Go's library are as the program lays them).
-/
import Derived.Test.YtffpphigmdehfaaDoorBatMath
import Derived.Test.YtffpphigmdehfaaDoorEntSames
import Derived.Test.YtffpphigmdehfaaDoorTable
namespace Go.Proofs.YtffpphigmdehfaaDoor.RecordBack
open Go.ChangeMaps Go.ChangeShapes Go.WideShapes Go.ChangeAt Go.RowKit Go.Icz
theorem rd_front {w : World} {A : Option Addr} {c : Nat} {l : List Nat} (h : Rd w (.slice A l.length c) l) (k : Nat) (hk : k ≤ l.length) : Rd w (sliced A 0 k c 1) (l.take k) := by
  have h2 : ∃ b0, RdAt w b0 (.slice A l.length c) l := by
    obtain ⟨A', c', hv, hc, hr⟩ := h
    injection hv with e1 e2 e3
    subst e1 e3
    by_cases h0 : 0 < l.length
    · obtain ⟨b, off, rfl, hb, hcell⟩ := hr h0
      exact ⟨b, _, _, rfl, hc, fun _ => ⟨off, rfl, hb, hcell⟩⟩
    · exact ⟨0, A, c, rfl, hc, fun h => absurd h h0⟩
  obtain ⟨b0, h2⟩ := h2
  have h3 := (h2.slice 0 k (Nat.zero_le _) hk).rd
  simpa using h3
set_option maxRecDepth 100000 in
theorem run_front {A : Option Addr} {n c : Nat} (hi : Int) (k : Nat) (hk : hi = (k : Int)) (h2 : k ≤ c) (wx : World) : (Instr.slice 25 (.slice A n c) none (some (.int .i64 hi)) none).run Tryd.prog wx = .ok (sliced A 0 k c 1) wx := by
  subst hk
  have := run_slice_h (P := Tryd.prog) (w := wx) 25 A n c Tryd.underlying25 .i64 (k : Int) (by omega) (by omega)
  rw [this]
  have hz : (sizeOf (Tryd.prog.elem 25)).run Tryd.prog wx = .ok 1 wx := by go_simp
  rw [hz]
  simp [Result.andThen]
theorem lt_app {l : List Nat} {m : Nat} (h : ∀ n ∈ l, n < 256) (hm : m < 256) : ∀ n ∈ l ++ [m], n < 256 := by
  intro n hn
  rcases List.mem_append.1 hn with h1 | h1
  · exact h n h1
  · obtain rfl := List.mem_singleton.1 h1
    exact hm
theorem get_back {x : Ent} (hx : entR x = true) : getE (entB x) = x ∧ getN (entB x) = 0 := by
  obtain ⟨h1, h2⟩ := entOk_bytes hx
  exact ⟨(getE_yes h1).trans h2, getN_yes h1⟩
set_option maxHeartbeats 4000000 in
set_option maxRecDepth 100000 in
theorem walk (v0 : Value) (l : List Ent) (mb : Nat) (W : World) (h0 : RdE W v0 l) (hz : ∀ x ∈ l, entZ x) (hw : l.length * 56 ≤ 140737488351232) (hmb : mb < 256) (hT : Tabs W) :
    Calls Tryd.prog 6 #[v0, .int .u8 (mb : Int)] W fun e w' => e = .returned (.bool true) ∧ Below W.heap.size W w' := by
  have A0 := fun w1 (hb : Below W.heap.size W w1) => EAll_is v0 l w1 (h0.below hb) hz hw
  have B0 := fun u w1 (g : RdE w1 u l) (hb : Below W.heap.size W w1) => EPutBatch_is u l w1 g (hT.below hb) hz
  have HK := fun w1 (hb : Below W.heap.size W w1) => knows_is w1 (hT.below hb)
  unfold AllOut at A0
  unfold BatOut at B0
  have h0' := h0
  obtain ⟨A, c, rfl, hlc, hcell⟩ := h0'
  go_enter Tryd.func6, Tryd.ntmps6
  go_wp2
  go_loopw [5] (fun iv wr => ∃ i : Nat, iv = .int .i64 i ∧ i ≤ l.length ∧ Below W.heap.size W wr) (fun iv _ => l.length - (intOf iv).toNat)
  case atStart => exact ⟨0, rfl, by omega, Below.refl _ _⟩
  case round =>
    obtain ⟨i, rfl, hi, hbw⟩ := hrel
    by_cases hlt : i < l.length
    · obtain ⟨b, off, rfl, hb, hcell⟩ := hcell (by omega)
      obtain ⟨A', c', q0, q1, q2, q3, rl⟩ := hcell i hlt
      have K : ∀ w', Below W.heap.size W w' → w'.cell? ⟨b, off + i * 4, none⟩ = some (.int .i64 (l[i]).seq) ∧ w'.cell? ⟨b, off + i * 4 + 1, none⟩ = some (.int .i64 (l[i]).time) ∧ w'.cell? ⟨b, off + i * 4 + 2, none⟩ = some (.slice A' (l[i]).labs.length c') ∧ w'.cell? ⟨b, off + i * 4 + 3, none⟩ = some (.string ⟨(l[i]).line.toArray⟩) ∧ RdL w' (.slice A' (l[i]).labs.length c') (l[i]).labs := fun w' hh =>
        ⟨(hh.cell (p := ⟨b, off + i * 4, none⟩) hb).trans q0, (hh.cell (p := ⟨b, off + i * 4 + 1, none⟩) hb).trans q1, (hh.cell (p := ⟨b, off + i * 4 + 2, none⟩) hb).trans q2, (hh.cell (p := ⟨b, off + i * 4 + 3, none⟩) hb).trans q3, rl.below hh⟩
      have hxz := hz l[i] (List.getElem_mem hlt)
      clear hcell q0 q1 q2 q3 rl hz h0 A0 B0 HK
      generalize l[i] = x at *
      have O := fun w1 (g : RdL w1 (.slice A' x.labs.length c') x.labs) => EOwn_is x A' c' w1 g hxz.1
      have P := fun w1 A1 c1 (g : RdL w1 (.slice A1 x.labs.length c1) x.labs) (hb : Below W.heap.size W w1) => EPut_is x A1 c1 w1 g (hT.below hb) hxz
      unfold EPutOut at P
      unfold EntOut at O
      unfold entV at O P
      obtain ⟨k0, k1, k2, k3, rl0⟩ := K _ hbw
      cases hxr : entR x with
      | false =>
        rw [hxr, if_neg (by decide), if_neg (by decide)] at P
        clear hxr hxz hT
        go_wp2_with (first
          | (go_at_call 15; refine (O _ rl0).mono ?_; rintro e w3 ⟨A3, c3, rfl, o3, b3'⟩; have b3 := hbw.trans (b3'.mono hbw.size); clear rl0 k0 k1 k2 k3 O)
          | (go_at_call 16; refine (P _ _ _ o3.rd b3).mono ?_; rintro e w6 ⟨v6, rfl, r6, b6'⟩; have b6 := b3.trans (b6'.mono b3.size); obtain ⟨A6, c6, rfl, -, -⟩ := r6; clear P o3)
          | (go_at_call 22; refine (num_is _ _).mono ?_; rintro e w13 ⟨rfl, rfl⟩)
          | fail)
        go_roundw
        case rel => exact ⟨i + 1, by go_num, by omega, b6⟩
        case measure => simp [intOf]; omega
      | true =>
        rw [hxr, if_pos rfl, if_pos rfl] at P
        have hel := entB_len hxr
        have hpos := entB_pos x
        have hlt8 := entB_lt x
        obtain ⟨gb1, gb2⟩ := get_back hxr
        have gm := getN_no (entOk_more hxr mb)
        have gl := getN_no (entOk_less hxr)
        have M := fun w1 A7 c7 g g' => ESame_refl x A7 A' c7 c' w1 g g' (by have := hxz.1; omega)
        unfold entV at M
        generalize entB x = eb at *
        have G1 := fun v1 w1 (g : Rd w1 v1 eb) (hb : Below W.heap.size W w1) => EGet_is v1 eb w1 g hlt8 (by omega) (hT.below hb)
        have G2 := fun v1 w1 (g : Rd w1 v1 (eb ++ [mb])) (hb : Below W.heap.size W w1) => EGet_is v1 (eb ++ [mb]) w1 g (lt_app hlt8 hmb) (by rw [List.length_append, List.length_singleton]; omega) (hT.below hb)
        have G3 := fun v1 w1 (g : Rd w1 v1 (eb.take (eb.length - 1))) (hb : Below W.heap.size W w1) => EGet_is v1 _ w1 g (fun n hn => hlt8 n (List.mem_of_mem_take hn)) (by rw [List.length_take]; omega) (hT.below hb)
        unfold GetOut entV at G1 G2 G3
        rw [gb1, gb2] at G1
        rw [gm] at G2
        rw [gl] at G3
        have hp1 : (1 : Int) ≤ (eb.length : Int) := by omega
        have hp2 : (eb.length : Int) ≤ 5456 := by omega
        have FR := fun w1 A1 c1 (g : Rd w1 (.slice A1 eb.length c1) eb) => rd_front g (eb.length - 1) (by omega)
        have SL := fun A1 c1 (hc : eb.length ≤ c1) => fun wx => run_front (A := A1) (n := eb.length) (c := c1) ((eb.length : Int) - 1) (eb.length - 1) (by omega) (by omega) wx
        clear gb1 gb2 gm gl hxr hxz hT hlt8 hmb
        generalize getE (eb ++ [mb]) = y2 at *
        generalize hbt : eb.take (eb.length - 1) = bt1 at *
        generalize getE bt1 = y3 at *
        have e0 : ([] : List Nat).length + eb.length ≤ 140737488355328 := by simp; omega
        have e1 : (([] : List Nat) ++ eb).length ≤ 140737488355327 := by simp; omega
        have HP := hid hpos
        have HEL := hid hel
        clear hel hpos hbt
        have t1 := True.intro
        have t2 := True.intro
        go_wp2_with (first
          | (go_at_call 15; refine (O _ rl0).mono ?_; rintro e w3 ⟨A3, c3, rfl, o3, b3'⟩; have b3 := hbw.trans (b3'.mono hbw.size); clear rl0 k0 k1 k2 k3 O)
          | (go_at_call 16; refine (P _ _ _ o3.rd b3).mono ?_; rintro e w6 ⟨v6, rfl, r6, b6'⟩; have b6 := b3.trans (b6'.mono b3.size); obtain ⟨A6, c6, rfl, hc6, -⟩ := id r6; have fr6 := FR _ _ _ r6; have sl6 := SL A6 c6 hc6; clear P o3 FR SL)
          | (go_at_call 22; refine (num_is _ _).mono ?_; rintro e w13 ⟨rfl, rfl⟩)
          | (clear t1; go_at_call 18; refine (G1 _ _ r6 b6).mono ?_; rintro e w7 ⟨A7, c7, rfl, o7, b7'⟩; have b7 := (b6.trans (b7'.mono b6.size)).alloc (b6.trans (b7'.mono b6.size)).size (.cells #[.int .i64 x.seq, .int .i64 x.time, .slice A7 x.labs.length c7, .string ⟨x.line.toArray⟩] 24); have d7 := b7'.alloc b7'.size (.cells #[.int .i64 x.seq, .int .i64 x.time, .slice A7 x.labs.length c7, .string ⟨x.line.toArray⟩] 24); have r7 := ((r6.below b7').alloc (.cells #[.int .i64 x.seq, .int .i64 x.time, .slice A7 x.labs.length c7, .string ⟨x.line.toArray⟩] 24)).alloc (.cells #[] 5); have x7 := heap_alloc_new w7 (.cells #[.int .i64 x.seq, .int .i64 x.time, .slice A7 x.labs.length c7, .string ⟨x.line.toArray⟩] 24); have l7 := o7.rd.alloc (.cells #[.int .i64 x.seq, .int .i64 x.time, .slice A7 x.labs.length c7, .string ⟨x.line.toArray⟩] 24); have ow7 := Own.made (w7.alloc (.cells #[.int .i64 x.seq, .int .i64 x.time, .slice A7 x.labs.length c7, .string ⟨x.line.toArray⟩] 24)) (Nat.le_refl _); clear G1 o7)
          | (clear t2; at_builtin; refine wp_appR std rfl (.tmp 44) (.tmp 45) rfl (w7.alloc (.cells #[.int .i64 x.seq, .int .i64 x.time, .slice A7 x.labs.length c7, .string ⟨x.line.toArray⟩] 24)).heap.size _ _ [] eb (by simp [Act.eval]) ow7 rfl r7 e0 (by simp) ?_; intro v9 w9 o9 b9'; have b9 : Below (w7.alloc (.cells #[.int .i64 x.seq, .int .i64 x.time, .slice A7 x.labs.length c7, .string ⟨x.line.toArray⟩] 24)).heap.size (w7.alloc (.cells #[.int .i64 x.seq, .int .i64 x.time, .slice A7 x.labs.length c7, .string ⟨x.line.toArray⟩] 24)) w9 := ((Below.refl _ _).alloc (Nat.le_refl _) (.cells #[] 5)).trans b9'; have z9 := b9.size; clear ow7 r7 b9')
          | (at_builtin; refine wp_app1 std rfl (.tmp 46) (.tmp 48) rfl (w7.alloc (.cells #[.int .i64 x.seq, .int .i64 x.time, .slice A7 x.labs.length c7, .string ⟨x.line.toArray⟩] 24)).heap.size _ ([] ++ eb) mb rfl o9 rfl e1 z9 ?_; intro v10 w10 o10 b10' hn10; have b10 := b9.trans b10'; have r10 : Rd w10 v10 (eb ++ [mb]) := o10.rd; clear o9 b9 b10' z9 o10 hn10)
          | (go_at_call 18; refine (G2 _ _ r10 (b7.trans (b10.mono b7.size))).mono ?_; rintro e w11 ⟨A11, c11, rfl, o11, b11'⟩; have b11 := b10.trans (b11'.mono b10.size); clear G2 b10 r10 b11' o11)
          | fail)
        have b12 := b11.alloc b11.size (.cells #[.int .i64 y2.seq, .int .i64 y2.time, .slice A11 y2.labs.length c11, .string ⟨y2.line.toArray⟩] 24)
        have x12 := (b12.block w7.heap.size (by simp)).trans x7
        have l12 := l7.below b12
        have d12 := d7.trans (b12.mono d7.size)
        have w12 := b7.trans (b12.mono b7.size)
        clear x7 l7 d7 b7 b11 b12
        generalize w11.alloc (.cells #[.int .i64 y2.seq, .int .i64 y2.time, .slice A11 y2.labs.length c11, .string ⟨y2.line.toArray⟩] 24) = W12 at *
        have mkS : ∀ w', Below W12.heap.size W12 w' → Below W12.heap.size W12 w' ∧ w'.cell? ⟨b, off + i * 4, none⟩ = some (.int .i64 x.seq) ∧ w'.cell? ⟨b, off + i * 4 + 1, none⟩ = some (.int .i64 x.time) ∧ w'.cell? ⟨b, off + i * 4 + 2, none⟩ = some (.slice A' x.labs.length c') ∧ w'.cell? ⟨b, off + i * 4 + 3, none⟩ = some (.string ⟨x.line.toArray⟩) ∧ w'.cell? ⟨w7.heap.size, 0, none⟩ = some (.int .i64 x.seq) ∧ w'.cell? ⟨w7.heap.size, 1, none⟩ = some (.int .i64 x.time) ∧ w'.cell? ⟨w7.heap.size, 2, none⟩ = some (.slice A7 x.labs.length c7) ∧ w'.cell? ⟨w7.heap.size, 3, none⟩ = some (.string ⟨x.line.toArray⟩) := fun w' h => by
          obtain ⟨u0, u1, u2, u3, _⟩ := K w' (w12.trans (h.mono w12.size))
          exact ⟨h, u0, u1, u2, u3, held_cell (i := 0) (keep4 x12 h) rfl, held_cell (i := 1) (keep4 x12 h) rfl, held_cell (i := 2) (keep4 x12 h) rfl, held_cell (i := 3) (keep4 x12 h) rfl⟩
        have hk := mkS W12.drew (Below.refl _ _).drew
        have hpn : ((eb.length : Int) == 0) = false := by have := HP.out; simp; intro e; rw [e] at this; simp at this
        go_region_held3 (fun w' => Below W12.heap.size W12 w' ∧ w'.cell? ⟨b, off + i * 4, none⟩ = some (.int .i64 x.seq) ∧ w'.cell? ⟨b, off + i * 4 + 1, none⟩ = some (.int .i64 x.time) ∧ w'.cell? ⟨b, off + i * 4 + 2, none⟩ = some (.slice A' x.labs.length c') ∧ w'.cell? ⟨b, off + i * 4 + 3, none⟩ = some (.string ⟨x.line.toArray⟩) ∧ w'.cell? ⟨w7.heap.size, 0, none⟩ = some (.int .i64 x.seq) ∧ w'.cell? ⟨w7.heap.size, 1, none⟩ = some (.int .i64 x.time) ∧ w'.cell? ⟨w7.heap.size, 2, none⟩ = some (.slice A7 x.labs.length c7) ∧ w'.cell? ⟨w7.heap.size, 3, none⟩ = some (.string ⟨x.line.toArray⟩)) (exact hk)
          (first
            | (go_at_call 22; refine (num_is _ _).mono ?_; rintro e w13 ⟨rfl, rfl⟩)
            | (go_at_call 23; refine (M _ A7 c7 (l12.below hk.1) (K _ (w12.trans (hk.1.mono w12.size))).2.2.2.2).mono ?_; rintro e w14 ⟨rfl, b14⟩; have hk := mkS _ (hk.1.trans (b14.mono hk.1.size)); clear M))
        have dK := d12.trans (hk.1.mono d12.size)
        have wK := w12.trans (hk.1.mono w12.size)
        have frK := fr6.below dK
        clear fr6 d12 w12 mkS x12 l12
        generalize sliced A6 0 (eb.length - 1) c6 1 = v15 at *
        go_wp2_with (first
          | (go_at_call 18; refine (G3 _ _ frK wK).mono ?_; rintro e w16 ⟨A16, c16, rfl, o16, b16'⟩; have b16 := wK.trans (b16'.mono wK.size); clear G3)
          | (go_at_call 22; refine (num_is _ _).mono ?_; rintro e w13 ⟨rfl, rfl⟩)
          | fail)
        go_roundw
        case rel => exact ⟨i + 1, by go_num, by omega, b16.alloc b16.size _⟩
        case measure => simp [intOf]; omega
    · have A1 := A0 wr hbw
      clear hcell A0
      cases hr : batR l with
      | false =>
        rw [hr, if_neg (by decide), if_neg (by decide)] at B0
        clear hr h0 hz hw hT
        go_wp2_with (first
          | (go_at_call 28; refine A1.mono ?_; rintro e w1 ⟨u, rfl, g1, b1'⟩; have b1 := hbw.trans (b1'.mono hbw.size); clear A1)
          | (go_at_call 29; refine (B0 _ _ g1 b1).mono ?_; rintro e w2 ⟨vb, rfl, rb, b2'⟩; have b2 := b1.trans (b2'.mono b1.size); obtain ⟨Ab, cb, rfl, -, -⟩ := rb; clear B0 g1)
          | (go_at_call 22; refine (num_is _ _).mono ?_; rintro e w13 ⟨rfl, rfl⟩)
          | (go_at_call 27; refine (HK _ b2).mono ?_; rintro e w3 ⟨rfl, b3'⟩; have b3 := b2.trans (b3'.mono b2.size); clear HK)
          | fail)
        go_ret
        exact ⟨rfl, b3⟩
      | true =>
        rw [hr, if_pos rfl, if_pos rfl] at B0
        obtain ⟨⟨hl1, h16⟩, hall⟩ := batR_all hr
        have hbl := batB_lt l
        have hbs := batB_size hr
        obtain ⟨gb1, gb2⟩ := batG_back hr
        have gm := batG_more hr mb
        have M := fun w1 v1 g (hb : Below W.heap.size W w1) => ESames_refl v1 (.slice A l.length c) l w1 g (h0.below hb) (fun x hx => by have := (hz x hx).1; omega) (by omega)
        generalize batB l = eb at *
        have G1 := fun v1 w1 (g : Rd w1 v1 eb) (hb : Below W.heap.size W w1) => EGetBatch_is v1 eb w1 g hbl (by omega) (hT.below hb)
        have G2 := fun v1 w1 (g : Rd w1 v1 (eb ++ [mb])) (hb : Below W.heap.size W w1) => EGetBatch_is v1 (eb ++ [mb]) w1 g (lt_app hbl hmb) (by rw [List.length_append, List.length_singleton]; omega) (hT.below hb)
        unfold BatGOut at G1 G2
        rw [gb1, gb2] at G1
        rw [gm] at G2
        generalize batE (eb ++ [mb]) = y2 at *
        have e0 : ([] : List Nat).length + eb.length ≤ 140737488355328 := by simp; omega
        have e1 : (([] : List Nat) ++ eb).length ≤ 140737488355327 := by simp; omega
        clear gb1 gb2 gm hr hall h0 hz hw hT hbl hbs hmb
        have t1 := True.intro
        have t2 := True.intro
        go_wp2_with (first
          | (go_at_call 28; refine A1.mono ?_; rintro e w1 ⟨u, rfl, g1, b1'⟩; have b1 := hbw.trans (b1'.mono hbw.size); clear A1)
          | (go_at_call 29; refine (B0 _ _ g1 b1).mono ?_; rintro e w2 ⟨vb, rfl, rb, b2'⟩; have b2 := b1.trans (b2'.mono b1.size); clear B0 g1)
          | (go_at_call 22; refine (num_is _ _).mono ?_; rintro e w13 ⟨rfl, rfl⟩)
          | (clear t1; go_at_call 31; refine (G1 _ _ rb b2).mono ?_; rintro e w7 ⟨m7, u7, rfl, o7, hm7, b7'⟩; have b7 := b2.trans (b7'.mono b2.size); have r7 := (rb.below b7').alloc (.cells #[] 5); have g7 := o7.rd; rw [hm7.out] at g7; have ow7 := Own.made w7 (Nat.le_refl _); clear G1 o7)
          | (clear t2; at_builtin; refine wp_appR std rfl (.tmp 108) (.tmp 109) rfl w7.heap.size _ _ [] eb rfl ow7 rfl r7 e0 (by simp) ?_; intro v9 w9 o9 b9'; have b9 : Below w7.heap.size w7 w9 := ((Below.refl _ _).alloc (Nat.le_refl _) (.cells #[] 5)).trans b9'; have z9 := b9.size; clear ow7 r7 b9')
          | (at_builtin; refine wp_app1 std rfl (.tmp 110) (.tmp 112) rfl w7.heap.size _ ([] ++ eb) mb rfl o9 rfl e1 z9 ?_; intro v10 w10 o10 b10' hn10; have b10 := b9.trans b10'; have r10 : Rd w10 v10 (eb ++ [mb]) := o10.rd; clear o9 b9 b10' z9 o10 hn10)
          | (go_at_call 31; refine (G2 _ _ r10 (b7.trans (b10.mono b7.size))).mono ?_; rintro e w11 ⟨m11, u11, rfl, o11, hm11, b11'⟩; have c11 := b10.trans (b11'.mono b10.size); have b11 := b7.trans (c11.mono b7.size); have g11 := g7.below c11; clear G2 r10 o11)
          | (go_at_call 33; refine (M _ _ g11 b11).mono ?_; rintro e w14 ⟨rfl, b14'⟩; have b14 := b11.trans (b14'.mono b11.size); clear M)
          | (go_at_call 27; refine (HK _ b14).mono ?_; rintro e w15 ⟨rfl, b15'⟩; have b15 := b14.trans (b15'.mono b14.size); clear HK)
          | fail)
        go_ret
        exact ⟨rfl, b15⟩

set_option maxRecDepth 100000 in
theorem contract (H : Type) (enc : TypeId × Value → H) (W : World) (base : Nat) (args : Array Value) (ds gs : List (DataW H)) (before : List MemPlace)
    (hval : ∀ (j : Nat) t v, Tryd.f6.params[j]? = some t → args[j]? = some v → Value.okWide Tryd.prog W .any base t v)
    (hW : DataW.Whole enc Tryd.prog Tryd.f6.params.toList Rows.recordBackSpec.vars false W args.toList ds gs before)
    (hsz : (DataW.weightsEach Tryd.prog (Tryd.f6.params.toList ++ Rows.recordBackSpec.plain.varTypes Tryd.prog) (ds ++ gs)).all (· ≤ reachBytes) = true)
    (hL : laidMetH Tryd.prog Rows.recordBackRow.laid W) :
    Calls Tryd.prog 6 args W fun e W' => ∃ v, e = .returned v ∧ Rows.recordBackSpec.post enc Tryd.prog Tryd.f6 false true false false W args v W' := by
  have hW' := hW
  obtain ⟨p, q, hA0, hV, rfl, hfz, hnd⟩ := hW
  have hA : DataW.TrodAll enc Tryd.prog W 0 (fun _ => true) true Tryd.f6.params.toList args.toList ds p := hA0
  rw [Tryd.params6] at hA hval hsz
  obtain ⟨v0, vs0, d0, ds0, p0, q0, hargs, rfl, rfl, h0, r0⟩ := trodAll_cons hA
  obtain ⟨v1, vs1, d1, ds1, p1, q1, rfl, rfl, rfl, h1, r1⟩ := trodAll_cons r0
  obtain ⟨rfl, rfl, rfl⟩ := trodAll_nil r1
  obtain rfl : args = #[v0, v1] := by cases args; simp_all
  obtain ⟨rfl, rfl⟩ := trodVars_none hV
  obtain ⟨a0, len0, cap0, rfl⟩ := okWide_slice Tryd.underlying44 (hval 0 44 v0 rfl rfl)
  have lt0 : ∀ x ∈ p0, x.block < W.heap.size := by
    obtain ⟨m, hm⟩ := h0
    exact DataW.trod_lt m _ _ _ hm
  obtain ⟨l0, hll0, hr0, hz0, hw0⟩ := open_ents h0 (fun n hn => by have h9 := List.all_eq_true.1 hsz n (DataW.weights_mem_each (j := 0) (t := 44) (d := d0) rfl rfl n hn); simpa using h9)
  obtain ⟨a1, rfl, rfl, rfl, w1⟩ := open_int Tryd.underlying5 (hval 1 5 v1 rfl rfl) h1
  clear hA0
  have hT : Tabs W := tabs_of hL (.tail _ (.head _)) (.head _)
  have hb1' := bounds_u8 w1
  obtain ⟨n1, rfl⟩ : ∃ n : Nat, a1 = (n : Int) := ⟨a1.toNat, by omega⟩
  have hb1 : 0 ≤ n1 ∧ n1 < 256 := by omega
  refine (walk _ l0 n1 W hr0 hz0 hw0 hb1.2 hT).mono fun e W' ⟨he, bel⟩ => ?_
  subst he
  exact ⟨_, rfl, _, _, _, [], _, [], hW', trodAll_mk1 (shut_bool Tryd.underlying4 _), (trodAll_cons_mk (Below.trod laidOut (by kernel_rfl) (of_decide_eq_true (by kernel_rfl)) h0 bel lt0) (trodAll_cons_mk (shut_int Tryd.underlying5 w1) trodAll_mk0)), rfl, bel.frame _, fun h => by cases h⟩

theorem laid_met (os : Os) : laidMet Tryd.prog Rows.recordBackRow.laid ((World.laidAll Tryd.prog os Rows.recordBackRow.laid).forCall (fun _ _ => 0) ⟨#[], #[.slice none 0 0, .int .u8 0], []⟩).memory :=
  laidMet_laidAll _ (by kernel_rfl) (by kernel_rfl)
theorem reads (os : Os) {H : Type} (enc : TypeId × Value → H) : ∃ places, DataW.whole enc Tryd.prog ((World.laidAll Tryd.prog os Rows.recordBackRow.laid).forCall (fun _ _ => 0) ⟨#[], #[.slice none 0 0, .int .u8 0], []⟩).memory Tryd.f6.params.toList Rows.recordBackSpec.vars false #[.slice none 0 0, .int .u8 0].toList 8 = some ([.nil, .lit (.int .u8 0)], [], places) :=
  ⟨[], by kernel_rfl⟩

set_option maxRecDepth 100000 in
theorem lifted (os : Os) (started : os.Started) (H : Type) (enc : TypeId × Value → H) (F : Stop.Interp) :
    ReturnsInHanded {} Tryd.checked os 6 .any ((OpenSpec.ofChange Rows.recordBackSpec).preRow enc Tryd.prog Tryd.f6 Rows.recordBackRow.domain false Rows.recordBackRow.laid) (((OpenSpec.ofChange Rows.recordBackSpec).at F).post enc Tryd.prog Tryd.f6 false true false false) := by
  obtain ⟨places, hx⟩ := reads os enc
  refine returnsInHanded_of_row (C := Tryd.checked) (s := OpenSpec.ofChange Rows.recordBackSpec) own started (by kernel_rfl) Tryd.func6
    (witness_row_at (enc := enc) (C := Tryd.checked) false (World.laidAll Tryd.prog os Rows.recordBackRow.laid) #[.slice none 0 0, .int .u8 0] (World.laidAll_os _ _ _) (by kernel_rfl) (by kernel_rfl) (by kernel_rfl)
      (OpenSpec.preRow_of_cond 8 hx (by kernel_rfl) (fun k hk => by cases hk) (by kernel_rfl) (laid_met os))) ?_
  intro W base args ds gs before hval hW _ _ hsz hL _ _
  exact contract H enc W base args ds gs before hval hW hsz hL

theorem said : Rows.RecordBackSaid :=
  OpenClaim.holds_of_cond 6 Tryd.f6 rfl rfl rfl rfl rfl rfl rfl ⟨rfl, rfl, rfl, rfl, rfl⟩ rfl rfl rfl rfl rfl (by kernel_rfl) Tryd.func6 (by kernel_rfl)
    (of_decide_eq_true (by kernel_rfl)) (by unfold Func.isWrapper; first | (rw [if_pos (by decide +kernel)]; kernel_rfl) | (rw [if_neg (by decide +kernel)]; exact ⟨rfl, rfl⟩))
    (fun os started H enc _ F => by rw [OpenClaim.pre_eq_preRow]; exact lifted os started H enc F)

theorem plain (f : FuncId) (fn : Func) (hf : Tryd.pinned.checked.prog.funcNamed "icehouse/icehouselaw03.RecordBack" = some f) (hfn : Tryd.pinned.checked.prog.funcs[f]? = some fn) :
    false = Tryd.pinned.checked.prog.looks [] ∧ ∀ (j : Nat) t, fn.params[j]? = some t → Tryd.pinned.checked.prog.wantsStandIn t = false := by
  obtain rfl : f = 6 := Option.some.inj ((show Tryd.prog.funcNamed "icehouse/icehouselaw03.RecordBack" = some 6 by kernel_rfl).symm.trans hf) |>.symm
  obtain rfl : fn = Tryd.f6 := (Option.some.inj (Tryd.func6.symm.trans hfn)).symm
  refine ⟨by kernel_rfl, fun j t ht => ?_⟩
  rw [Tryd.params6] at ht
  have hm : t ∈ [44, 5] := by simpa using Array.mem_of_getElem? ht
  have hall : ([44, 5].all fun u => !Tryd.prog.wantsStandIn u) = true := by kernel_rfl
  exact (show Tryd.prog.wantsStandIn t = false by simpa using List.all_eq_true.1 hall t hm)

/-- THE STATEMENT. -/
theorem proved : Rows.RecordBackCardSaid :=
  Claim7.holds_tied_plain_at .later [] _ _ _ _ said (fun _ h => by cases h) (by kernel_rfl) (fun _ h => by cases h) recordBack_row_tie rfl ⟨rfl, rfl⟩ (by kernel_rfl) rfl plain (by kernel_rfl)

end Go.Proofs.YtffpphigmdehfaaDoor.RecordBack
