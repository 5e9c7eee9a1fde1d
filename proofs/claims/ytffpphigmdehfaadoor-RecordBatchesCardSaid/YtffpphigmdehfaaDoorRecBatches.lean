/-
  RecordBatches: whatever the entries and the bytes, the law returns true and its arguments read as before. Conditions: those of the given statement (the listed tables of Go's library are as the program lays them).
-/
import Derived.Test.YtffpphigmdehfaaDoorRefBatG
import Derived.Test.YtffpphigmdehfaaDoorEntSames
import Derived.Test.YtffpphigmdehfaaDoorTable
import Derived.Test.YtffpphigmdehfaaDoorLent
namespace Go.Proofs.YtffpphigmdehfaaDoor.RecordBatches
open Go.ChangeMaps Go.ChangeShapes Go.WideShapes Go.ChangeAt Go.RowKit Go.Icz
theorem batE_z {l : List Nat} (h : l.length ≤ 140737488351232) : (batE l).length ≤ 16 ∧ ∀ x ∈ batE l, entZ x := by
  unfold batE batG
  have hs := numD_sub l 0
  split
  · simp
  · cases he : entsD (numD l 0).2.1 (numD l 0).2.2 (numD l 0).1 with
    | none => simp
    | some s =>
      obtain ⟨s1, s2, s3, s4⟩ := entsD_sub (numD l 0).2.1 (numD l 0).2.2 (by omega) _ s he
      rw [Option.bind_some]
      split
      · exact ⟨by simp only [Option.getD_some]; omega, s4⟩
      · simp
set_option maxHeartbeats 4000000 in
set_option maxRecDepth 100000 in
theorem walk (v0 v1 : Value) (l : List Ent) (lb : List Nat) (W : World) (h0 : RdE W v0 l) (h1 : Rd W v1 lb) (hz : ∀ x ∈ l, entZ x) (hw : l.length * 56 ≤ 140737488351232) (z1 : lb.length ≤ 140737488351232) (hl : ∀ b ∈ lb, b < 256) (hT : Tabs W) :
    Calls Tryd.prog 4 #[v0, v1] W fun e w' => e = .returned (.bool true) ∧ Below W.heap.size W w' := by
  have L0 := Lent_any v1 lb W h1 z1
  obtain ⟨by1, by2⟩ := batE_z z1
  have A0 := fun w (hb : Below W.heap.size W w) => EAll_is v0 l w (h0.below hb) hz hw
  have P1 := fun u w (g : RdE w u l) (hb : Below W.heap.size W w) => EPutBatch_is u l w g (hT.below hb) hz
  have P2 := fun w (hb : Below W.heap.size W w) => R3PutBatch_is v0 l w (h0.below hb) hz (by omega)
  have G1 := fun u w (g : Rd w u lb) (hb : Below W.heap.size W w) => EGetBatch_is u lb w g hl z1 (hT.below hb)
  have G2 := fun w (hb : Below W.heap.size W w) => R3GetBatch_is v1 lb w (h1.below hb) hl z1
  have M1 := fun w u u' g g' => ESames_refl u u' (batE lb) w g g' (fun x hx => by have := (by2 x hx).1; omega) (by omega)
  have M2 := fun w u g (hb : Below W.heap.size W w) => ESames_refl u v0 l w g (h0.below hb) (fun x hx => by have := (hz x hx).1; omega) (by omega)
  have T1 := fun u w (g : Lt w W.heap.size u lb) (hb : Below W.heap.size W w) => Stays_any W.heap.size u v1 lb w g (h1.below hb) z1
  have HK := fun w (hb : Below W.heap.size W w) => knows_is w (hT.below hb)
  unfold AllOut at A0
  unfold BatOut at P1 P2
  unfold BatGOut at G1 G2
  clear hz hw h0 h1 hl hT z1 by1 by2
  generalize (if batR l = true then (0 : Int) else 1) = n at *
  generalize (if batR l = true then batB l else []) = m at *
  generalize ((batN lb : Nat) : Int) = n2 at *
  generalize batE lb = y at *
  have t1 := True.intro
  go_enter Tryd.func4, Tryd.ntmps4
  go_wp2_with (first
    | (go_at_call 14; refine L0.mono ?_; rintro e w1 ⟨u1, rfl, lx1, b1⟩; clear L0)
    | (go_at_call 28; refine (A0 _ b1).mono ?_; rintro e w2 ⟨u2, rfl, g2, b2'⟩; have b2 := b1.trans (b2'.mono b1.size); have lx2 := lx1.below b2'; clear A0 lx1)
    | (go_at_call 29; refine (P1 _ _ g2 b2).mono ?_; rintro e w3 ⟨v3, rfl, r3, b3'⟩; have b3 := b2.trans (b3'.mono b2.size); have lx3 := lx2.below b3'; have g3 := g2.below b3'; clear P1 lx2 g2)
    | (go_at_call 30; refine (P2 _ b3).mono ?_; rintro e w4 ⟨v4, rfl, r4, b4'⟩; have b4 := b3.trans (b4'.mono b3.size); have lx4 := lx3.below b4'; have g4 := g3.below b4'; have r34 := r3.below b4'; clear P2 lx3 g3 r3)
    | (go_at_call 31; refine (G1 _ _ lx4.rd b4).mono ?_; rintro e w5 ⟨m5, u5, rfl, o5, hm5, b5'⟩; have b5 := b4.trans (b5'.mono b4.size); have lx5 := lx4.below b5'; have g5 := g4.below b5'; have r35 := r34.below b5'; have r45 := r4.below b5'; have y5 := o5.rd; rw [hm5.out] at y5; clear G1 lx4 g4 r34 r4 o5)
    | (go_at_call 32; refine (G2 _ b5).mono ?_; rintro e w6 ⟨m6, u6, rfl, o6, hm6, b6'⟩; have b6 := b5.trans (b6'.mono b5.size); have lx6 := lx5.below b6'; have g6 := g5.below b6'; have cx := conv_rd std (r35.below b6'); have cy := conv_rd std (r45.below b6'); have y56 := y5.below b6'; have y6 := o6.rd; rw [hm6.out] at y6; clear G2 lx5 g5 r35 r45 y5 o6)
    | (go_at_call 22; refine (num_is _ _).mono ?_; rintro e w13 ⟨rfl, rfl⟩)
    | (clear t1; go_at_call 33; refine (M1 _ _ _ y56 y6).mono ?_; rintro e w7 ⟨rfl, b7'⟩; have b7 := b6.trans (b7'.mono b6.size); have lx7 := lx6.below b7'; have g7 := g6.below b7'; clear M1 lx6 g6 cx cy)
    | (go_at_call 33; refine (M2 _ _ g7 b7).mono ?_; rintro e w8 ⟨rfl, b8'⟩; have b8 := b7.trans (b8'.mono b7.size); have lx8 := lx7.below b8'; clear M2 lx7)
    | (go_at_call 26; refine (T1 _ _ lx8 b8).mono ?_; rintro e w9 ⟨rfl, b9'⟩; have b9 := b8.trans (b9'.mono b8.size); clear T1)
    | (go_at_call 27; refine (HK _ b9).mono ?_; rintro e w10 ⟨rfl, b10'⟩; have b10 := b9.trans (b10'.mono b9.size); clear HK)
    | fail)
  go_ret
  exact ⟨rfl, b10⟩

set_option maxRecDepth 100000 in
theorem contract (H : Type) (enc : TypeId × Value → H) (W : World) (base : Nat) (args : Array Value) (ds gs : List (DataW H)) (before : List MemPlace)
    (hval : ∀ (j : Nat) t v, Tryd.f4.params[j]? = some t → args[j]? = some v → Value.okWide Tryd.prog W .any base t v)
    (hW : DataW.Whole enc Tryd.prog Tryd.f4.params.toList Rows.recordBatchesSpec.vars false W args.toList ds gs before)
    (hsz : (DataW.weightsEach Tryd.prog (Tryd.f4.params.toList ++ Rows.recordBatchesSpec.plain.varTypes Tryd.prog) (ds ++ gs)).all (· ≤ reachBytes) = true)
    (hL : laidMetH Tryd.prog Rows.recordBatchesRow.laid W) :
    Calls Tryd.prog 4 args W fun e W' => ∃ v, e = .returned v ∧ Rows.recordBatchesSpec.post enc Tryd.prog Tryd.f4 false true false false W args v W' := by
  have hW' := hW
  obtain ⟨p, q, hA0, hV, rfl, hfz, hnd⟩ := hW
  have hA : DataW.TrodAll enc Tryd.prog W 0 (fun _ => true) true Tryd.f4.params.toList args.toList ds p := hA0
  rw [Tryd.params4] at hA hval hsz
  obtain ⟨v0, vs0, d0, ds0, p0, q0, hargs, rfl, rfl, h0, r0⟩ := trodAll_cons hA
  obtain ⟨v1, vs1, d1, ds1, p1, q1, rfl, rfl, rfl, h1, r1⟩ := trodAll_cons r0
  obtain ⟨rfl, rfl, rfl⟩ := trodAll_nil r1
  obtain rfl : args = #[v0, v1] := by cases args; simp_all
  obtain ⟨rfl, rfl⟩ := trodVars_none hV
  obtain ⟨a0, len0, cap0, rfl⟩ := okWide_slice Tryd.underlying44 (hval 0 44 v0 rfl rfl)
  have lt0 : ∀ x ∈ p0, x.block < W.heap.size := by
    obtain ⟨m, hm⟩ := h0
    exact DataW.trod_lt m _ _ _ hm
  obtain ⟨l0, hll0, hr0, hz0, hw0⟩ := open_ents h0 (fun n hn => by have h9 := List.all_eq_true.1 hsz n (DataW.weights_mem_each (j := 0) (t := 44) (d := d0) rfl rfl n hn); simpa using h9)
  obtain ⟨a1, len1, cap1, rfl⟩ := okWide_slice Tryd.underlying25 (hval 1 25 v1 rfl rfl)
  have lt1 : ∀ x ∈ p1, x.block < W.heap.size := by
    obtain ⟨m, hm⟩ := h1
    exact DataW.trod_lt m _ _ _ hm
  obtain ⟨l1, hll1, hr1, hb1, hd1⟩ := open_rd std cells5 h1
  have z1 : l1.length ≤ 140737488351232 := by
    rcases hd1 with ⟨_, rfl⟩ | ⟨el, sp, rfl, he, hc⟩
    · simp
    · have h1 := sized_slice hsz (j := 1) (t := 25) (e := 5) rfl rfl Tryd.underlying25
      rw [bytes5] at h1
      simp only [reachBytes] at h1
      omega
  clear hA0
  have hT : Tabs W := tabs_of hL (.tail _ (.head _)) (.head _)
  refine (walk _ _ l0 l1 W hr0 hr1 hz0 hw0 z1 hb1 hT).mono fun e W' ⟨he, bel⟩ => ?_
  subst he
  exact ⟨_, rfl, _, _, _, [], _, [], hW', trodAll_mk1 (shut_bool Tryd.underlying4 _), (trodAll_cons_mk (Below.trod laidOut (by kernel_rfl) (of_decide_eq_true (by kernel_rfl)) h0 bel lt0) (trodAll_cons_mk (Below.trod laidOut (by kernel_rfl) (of_decide_eq_true (by kernel_rfl)) h1 bel lt1) trodAll_mk0)), rfl, bel.frame _, fun h => by cases h⟩

theorem laid_met (os : Os) : laidMet Tryd.prog Rows.recordBatchesRow.laid ((World.laidAll Tryd.prog os Rows.recordBatchesRow.laid).forCall (fun _ _ => 0) ⟨#[], #[.slice none 0 0, .slice none 0 0], []⟩).memory :=
  laidMet_laidAll _ (by kernel_rfl) (by kernel_rfl)
theorem reads (os : Os) {H : Type} (enc : TypeId × Value → H) : ∃ places, DataW.whole enc Tryd.prog ((World.laidAll Tryd.prog os Rows.recordBatchesRow.laid).forCall (fun _ _ => 0) ⟨#[], #[.slice none 0 0, .slice none 0 0], []⟩).memory Tryd.f4.params.toList Rows.recordBatchesSpec.vars false #[.slice none 0 0, .slice none 0 0].toList 8 = some ([.nil, .nil], [], places) :=
  ⟨[], by kernel_rfl⟩

set_option maxRecDepth 100000 in
theorem lifted (os : Os) (started : os.Started) (H : Type) (enc : TypeId × Value → H) (F : Stop.Interp) :
    ReturnsInHanded {} Tryd.checked os 4 .any ((OpenSpec.ofChange Rows.recordBatchesSpec).preRow enc Tryd.prog Tryd.f4 Rows.recordBatchesRow.domain false Rows.recordBatchesRow.laid) (((OpenSpec.ofChange Rows.recordBatchesSpec).at F).post enc Tryd.prog Tryd.f4 false true false false) := by
  obtain ⟨places, hx⟩ := reads os enc
  refine returnsInHanded_of_row (C := Tryd.checked) (s := OpenSpec.ofChange Rows.recordBatchesSpec) own started (by kernel_rfl) Tryd.func4
    (witness_row_at (enc := enc) (C := Tryd.checked) false (World.laidAll Tryd.prog os Rows.recordBatchesRow.laid) #[.slice none 0 0, .slice none 0 0] (World.laidAll_os _ _ _) (by kernel_rfl) (by kernel_rfl) (by kernel_rfl)
      (OpenSpec.preRow_of_cond 8 hx (by kernel_rfl) (fun k hk => by cases hk) (by kernel_rfl) (laid_met os))) ?_
  intro W base args ds gs before hval hW _ _ hsz hL _ _
  exact contract H enc W base args ds gs before hval hW hsz hL

theorem said : Rows.RecordBatchesSaid :=
  OpenClaim.holds_of_cond 4 Tryd.f4 rfl rfl rfl rfl rfl rfl rfl ⟨rfl, rfl, rfl, rfl, rfl⟩ rfl rfl rfl rfl rfl (by kernel_rfl) Tryd.func4 (by kernel_rfl)
    (of_decide_eq_true (by kernel_rfl)) (by unfold Func.isWrapper; first | (rw [if_pos (by decide +kernel)]; kernel_rfl) | (rw [if_neg (by decide +kernel)]; exact ⟨rfl, rfl⟩))
    (fun os started H enc _ F => by rw [OpenClaim.pre_eq_preRow]; exact lifted os started H enc F)

theorem plain (f : FuncId) (fn : Func) (hf : Tryd.pinned.checked.prog.funcNamed "icehouse/icehouselaw03.RecordBatches" = some f) (hfn : Tryd.pinned.checked.prog.funcs[f]? = some fn) :
    false = Tryd.pinned.checked.prog.looks [] ∧ ∀ (j : Nat) t, fn.params[j]? = some t → Tryd.pinned.checked.prog.wantsStandIn t = false := by
  obtain rfl : f = 4 := Option.some.inj ((show Tryd.prog.funcNamed "icehouse/icehouselaw03.RecordBatches" = some 4 by kernel_rfl).symm.trans hf) |>.symm
  obtain rfl : fn = Tryd.f4 := (Option.some.inj (Tryd.func4.symm.trans hfn)).symm
  refine ⟨by kernel_rfl, fun j t ht => ?_⟩
  rw [Tryd.params4] at ht
  have hm : t ∈ [44, 25] := by simpa using Array.mem_of_getElem? ht
  have hall : ([44, 25].all fun u => !Tryd.prog.wantsStandIn u) = true := by kernel_rfl
  exact (show Tryd.prog.wantsStandIn t = false by simpa using List.all_eq_true.1 hall t hm)

/-- THE STATEMENT. -/
theorem proved : Rows.RecordBatchesCardSaid :=
  Claim7.holds_tied_plain_at .later [] _ _ _ _ said (fun _ h => by cases h) (by kernel_rfl) (fun _ h => by cases h) recordBatches_row_tie rfl ⟨rfl, rfl⟩ (by kernel_rfl) rfl plain (by kernel_rfl)

end Go.Proofs.YtffpphigmdehfaaDoor.RecordBatches
