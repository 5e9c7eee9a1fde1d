/-
  LabelBytes: whatever the labels and the bytes, the law returns true and its arguments read as before. Conditions: those of the given statement (the listed tables of Go's library are as the program lays them).
-/
import Derived.Test.YtjgkceciokhhpaaGreatDoorRRead
import Derived.Test.YtjgkceciokhhpaaGreatDoorRBytes
import Derived.Test.YtjgkceciokhhpaaGreatDoorLent
import Derived.Test.YtjgkceciokhhpaaGreatDoorKnow
import Derived.Test.YtjgkceciokhhpaaGreatDoorRefCmp
import Derived.Test.YtjgkceciokhhpaaGreatDoorTable
namespace Go.Proofs.YtjgkceciokhhpaaGreatDoor.LabelBytes
open Go.ChangeMaps Go.ChangeShapes Go.WideShapes Go.ChangeAt Go.RowKit Go.Icz
theorem readS_len (l : List Nat) : (readS l).1.length ≤ 16 := by
  unfold readS
  split
  · simp
  · split
    · rename_i h
      have h3 := h.2
      simp only [rightS, Bool.and_eq_true, decide_eq_true_eq] at h3
      simp only
      omega
    · simp
theorem same_refl (v1 v2 : Value) (d : List Lab) (w : World) (h1 : RdL w v1 d) (h2 : RdL w v2 d) (hm : d.length ≤ 16) : Calls Tryz.prog 22 #[v1, v2] w fun e w' => e = .returned (.bool true) ∧ Below w.heap.size w w' := by
  refine (Same_is v1 v2 d d w h1 h2 (by omega)).mono ?_
  rintro e w' ⟨rfl, hb⟩
  exact ⟨by simp, hb⟩
set_option maxHeartbeats 4000000 in
set_option maxRecDepth 100000 in
theorem walk (v0 v1 : Value) (l : List Lab) (lb : List Nat) (W : World) (h0 : RdL W v0 l) (h1 : Rd W v1 lb) (z0 : l.length * 32 ≤ 140737488351232) (hz : ∀ x ∈ l, x.1.length ≤ maxLen ∧ x.2.length ≤ maxLen) (z1 : lb.length ≤ 140737488351232) (hl : ∀ c ∈ lb, c < 256) (hT : Tabs W) :
    Calls Tryz.prog 7 #[v0, v1] W fun e w' => e = .returned (.bool true) ∧ Below W.heap.size W w' := by
  have hz' : ∀ x ∈ l, x.1.length ≤ 9223372036854775807 ∧ x.2.length ≤ 9223372036854775807 := fun x hx => by have := hz x hx; unfold maxLen at this; omega
  have L0 := Lent_any v1 lb W h1 z1
  have O0 := fun w (hb : Below W.heap.size W w) => Own_is v0 l w (h0.below hb) (by omega)
  have B1 := fun u w (g : RdL w u l) (hb : Below W.heap.size W w) => LBytes_any u l w g (hT.below hb) hz'
  have B2 := fun w (hb : Below W.heap.size W w) => RBytes_is v0 l w (h0.below hb) (by omega) hz'
  have R1 := fun u w (g : Rd w u lb) (hb : Below W.heap.size W w) => LRead_is u lb w g hl (by omega) (hT.below hb)
  have R2 := fun w (hb : Below W.heap.size W w) => RRead_is v1 lb w (h1.below hb) hl z1
  have S1 := fun u w (g : Lt w W.heap.size u lb) (hb : Below W.heap.size W w) => Stays_any W.heap.size u v1 lb w g (h1.below hb) z1
  have HK := fun w (hb : Below W.heap.size W w) => knows_is w (hT.below hb)
  have hm := readS_len lb
  have D1 := fun ua ub w (g : RdL w ua (readS lb).1) (g' : RdL w ub (readS lb).1) => same_refl ua ub _ w g g' hm
  unfold BytesOut at B1 B2
  unfold ReadOut at R1 R2
  clear z0 hz hz' h0 h1 hl hT hm z1
  generalize (if rightS l = true then (0 : Int) else 30) = n at *
  generalize (if rightS l = true then bytesN l else []) = m at *
  generalize ((readS lb).2 : Int) = n2 at *
  generalize (readS lb).1 = m2 at *
  go_enter Tryz.func7, Tryz.ntmps7
  go_wp2_with (first
    | (go_at_call 35; refine L0.mono ?_; rintro e w1 ⟨x, rfl, lx, b1⟩; clear L0)
    | (go_at_call 11; refine (O0 _ b1).mono ?_; rintro e w2 ⟨u, rfl, g2, b2'⟩; have b2 := b1.trans (b2'.mono b1.size); have lx2 := lx.below b2'; clear O0 lx)
    | (go_at_call 36; refine (B1 _ _ g2 b2).mono ?_; rintro e w3 ⟨xb, rfl, rx3, b3'⟩; have b3 := b2.trans (b3'.mono b2.size); have lx3 := lx2.below b3'; clear B1 lx2 g2)
    | (go_at_call 37; refine (B2 _ b3).mono ?_; rintro e w4 ⟨yb, rfl, ry4, b4'⟩; have b4 := b3.trans (b4'.mono b3.size); have lx4 := lx3.below b4'; have rx4 := rx3.below b4'; clear B2 lx3 rx3)
    | (go_at_call 38; refine (R1 _ _ lx4.rd b4).mono ?_; rintro e w5 ⟨u5, rfl, ru5, b5'⟩; have b5 := b4.trans (b5'.mono b4.size); have lx5 := lx4.below b5'; have rx5 := rx4.below b5'; have ry5 := ry4.below b5'; clear R1 lx4 rx4 ry4)
    | (go_at_call 39; refine (R2 _ b5).mono ?_; rintro e w6 ⟨u6, rfl, ru6, b6'⟩; have b6 := b5.trans (b6'.mono b5.size); have lx6 := lx5.below b6'; have cx := conv_rd std (rx5.below b6'); have cy := conv_rd std (ry5.below b6'); have ru5' := ru5.below b6'; clear R2 lx5 rx5 ry5 ru5)
    | (go_at_call 23; refine (num_is _ _).mono ?_; rintro e w13 ⟨rfl, rfl⟩)
    | (go_at_call 22; refine (D1 _ _ _ ru5' ru6).mono ?_; rintro e w7 ⟨rfl, b7'⟩; have b7 := b6.trans (b7'.mono b6.size); have lx7 := lx6.below b7'; clear D1 lx6 cx cy)
    | (go_at_call 40; refine (S1 _ _ lx7 b7).mono ?_; rintro e w8 ⟨rfl, b8'⟩; have b8 := b7.trans (b8'.mono b7.size); clear S1)
    | (go_at_call 24; refine (HK _ b8).mono ?_; rintro e w9 ⟨rfl, b9'⟩; have b9 := b8.trans (b9'.mono b8.size); clear HK)
    | fail)
  go_ret
  exact ⟨rfl, b9⟩

set_option maxRecDepth 100000 in
theorem contract (H : Type) (enc : TypeId × Value → H) (W : World) (base : Nat) (args : Array Value) (ds gs : List (DataW H)) (before : List MemPlace)
    (hval : ∀ (j : Nat) t v, Tryz.f7.params[j]? = some t → args[j]? = some v → Value.okWide Tryz.prog W .any base t v)
    (hW : DataW.Whole enc Tryz.prog Tryz.f7.params.toList Rows.labelBytesSpec.vars false W args.toList ds gs before)
    (hsz : (DataW.weightsEach Tryz.prog (Tryz.f7.params.toList ++ Rows.labelBytesSpec.plain.varTypes Tryz.prog) (ds ++ gs)).all (· ≤ reachBytes) = true)
    (hL : laidMetH Tryz.prog Rows.labelBytesRow.laid W) :
    Calls Tryz.prog 7 args W fun e W' => ∃ v, e = .returned v ∧ Rows.labelBytesSpec.post enc Tryz.prog Tryz.f7 false true false false W args v W' := by
  have hW' := hW
  obtain ⟨p, q, hA0, hV, rfl, hfz, hnd⟩ := hW
  have hA : DataW.TrodAll enc Tryz.prog W 0 (fun _ => true) true Tryz.f7.params.toList args.toList ds p := hA0
  rw [Tryz.params7] at hA hval hsz
  obtain ⟨v0, vs0, d0, ds0, p0, q0, hargs, rfl, rfl, h0, r0⟩ := trodAll_cons hA
  obtain ⟨v1, vs1, d1, ds1, p1, q1, rfl, rfl, rfl, h1, r1⟩ := trodAll_cons r0
  obtain ⟨rfl, rfl, rfl⟩ := trodAll_nil r1
  obtain rfl : args = #[v0, v1] := by cases args; simp_all
  obtain ⟨rfl, rfl⟩ := trodVars_none hV
  obtain ⟨a0, len0, cap0, rfl⟩ := okWide_slice Tryz.underlying22 (hval 0 22 v0 rfl rfl)
  have lt0 : ∀ x ∈ p0, x.block < W.heap.size := by
    obtain ⟨m, hm⟩ := h0
    exact DataW.trod_lt m _ _ _ hm
  obtain ⟨l0, hll0, hr0, hb0, hd0⟩ := open_labs h0
  have z0 : l0.length * 32 ≤ 140737488351232 := by
    rcases hd0 with ⟨_, rfl⟩ | ⟨el, sp, rfl, rfl, he, hc⟩
    · simp
    · have h1 := sized_slice hsz (j := 0) (t := 22) (e := 57) rfl rfl Tryz.underlying22
      rw [bytes57] at h1
      simp only [reachBytes, List.length_map] at h1
      omega
  obtain ⟨a1, len1, cap1, rfl⟩ := okWide_slice Tryz.underlying45 (hval 1 45 v1 rfl rfl)
  have lt1 : ∀ x ∈ p1, x.block < W.heap.size := by
    obtain ⟨m, hm⟩ := h1
    exact DataW.trod_lt m _ _ _ hm
  obtain ⟨l1, hll1, hr1, hb1, hd1⟩ := open_rd std cells5 h1
  have z1 : l1.length ≤ 140737488351232 := by
    rcases hd1 with ⟨_, rfl⟩ | ⟨el, sp, rfl, he, hc⟩
    · simp
    · have h1 := sized_slice hsz (j := 1) (t := 45) (e := 5) rfl rfl Tryz.underlying45
      rw [bytes5] at h1
      simp only [reachBytes] at h1
      omega
  clear hA0
  have hT : Tabs W := tabs_of hL (.tail _ (.tail _ (.tail _ (.tail _ (.tail _ (.tail _ (.head _))))))) (.tail _ (.tail _ (.tail _ (.head _)))) (.tail _ (.head _))
  refine (walk _ _ l0 l1 W hr0 hr1 z0 hb0 z1 hb1 hT).mono fun e W' ⟨he, bel⟩ => ?_
  subst he
  exact ⟨_, rfl, _, _, _, [], _, [], hW', trodAll_mk1 (shut_bool Tryz.underlying4 _), (trodAll_cons_mk (Below.trod laidOut (by kernel_rfl) (of_decide_eq_true (by kernel_rfl)) h0 bel lt0) (trodAll_cons_mk (Below.trod laidOut (by kernel_rfl) (of_decide_eq_true (by kernel_rfl)) h1 bel lt1) trodAll_mk0)), rfl, bel.frame _, fun h => by cases h⟩

theorem laid_met (os : Os) : laidMet Tryz.prog Rows.labelBytesRow.laid ((World.laidAll Tryz.prog os Rows.labelBytesRow.laid).forCall (fun _ _ => 0) ⟨#[], #[.slice none 0 0, .slice none 0 0], []⟩).memory :=
  laidMet_laidAll _ (by kernel_rfl) (by kernel_rfl)
theorem reads (os : Os) {H : Type} (enc : TypeId × Value → H) : ∃ places, DataW.whole enc Tryz.prog ((World.laidAll Tryz.prog os Rows.labelBytesRow.laid).forCall (fun _ _ => 0) ⟨#[], #[.slice none 0 0, .slice none 0 0], []⟩).memory Tryz.f7.params.toList Rows.labelBytesSpec.vars false #[.slice none 0 0, .slice none 0 0].toList 8 = some ([.nil, .nil], [], places) :=
  ⟨[], by kernel_rfl⟩

set_option maxRecDepth 100000 in
theorem lifted (os : Os) (started : os.Started) (H : Type) (enc : TypeId × Value → H) (F : Stop.Interp) :
    ReturnsInHanded {} Tryz.checked os 7 .any ((OpenSpec.ofChange Rows.labelBytesSpec).preRow enc Tryz.prog Tryz.f7 Rows.labelBytesRow.domain false Rows.labelBytesRow.laid) (((OpenSpec.ofChange Rows.labelBytesSpec).at F).post enc Tryz.prog Tryz.f7 false true false false) := by
  obtain ⟨places, hx⟩ := reads os enc
  refine returnsInHanded_of_row (C := Tryz.checked) (s := OpenSpec.ofChange Rows.labelBytesSpec) own started (by kernel_rfl) Tryz.func7
    (witness_row_at (enc := enc) (C := Tryz.checked) false (World.laidAll Tryz.prog os Rows.labelBytesRow.laid) #[.slice none 0 0, .slice none 0 0] (World.laidAll_os _ _ _) (by kernel_rfl) (by kernel_rfl) (by kernel_rfl)
      (OpenSpec.preRow_of_cond 8 hx (by kernel_rfl) (fun k hk => by cases hk) (by kernel_rfl) (laid_met os))) ?_
  intro W base args ds gs before hval hW _ _ hsz hL _ _
  exact contract H enc W base args ds gs before hval hW hsz hL

theorem said : Rows.LabelBytesSaid :=
  OpenClaim.holds_of_cond 7 Tryz.f7 rfl rfl rfl rfl rfl rfl rfl ⟨rfl, rfl, rfl, rfl, rfl⟩ rfl rfl rfl rfl rfl (by kernel_rfl) Tryz.func7 (by kernel_rfl)
    (of_decide_eq_true (by kernel_rfl)) (by unfold Func.isWrapper; first | (rw [if_pos (by decide +kernel)]; kernel_rfl) | (rw [if_neg (by decide +kernel)]; exact ⟨rfl, rfl⟩))
    (fun os started H enc _ F => by rw [OpenClaim.pre_eq_preRow]; exact lifted os started H enc F)

theorem plain (f : FuncId) (fn : Func) (hf : Tryz.pinned.checked.prog.funcNamed "icehouse/icehouselaw02.LabelBytes" = some f) (hfn : Tryz.pinned.checked.prog.funcs[f]? = some fn) :
    true = Tryz.pinned.checked.prog.looks [] ∧ ∀ (j : Nat) t, fn.params[j]? = some t → Tryz.pinned.checked.prog.wantsStandIn t = false := by
  obtain rfl : f = 7 := Option.some.inj ((show Tryz.prog.funcNamed "icehouse/icehouselaw02.LabelBytes" = some 7 by kernel_rfl).symm.trans hf) |>.symm
  obtain rfl : fn = Tryz.f7 := (Option.some.inj (Tryz.func7.symm.trans hfn)).symm
  refine ⟨by kernel_rfl, fun j t ht => ?_⟩
  rw [Tryz.params7] at ht
  have hm : t ∈ [22, 45] := by simpa using Array.mem_of_getElem? ht
  have hall : ([22, 45].all fun u => !Tryz.prog.wantsStandIn u) = true := by kernel_rfl
  exact (show Tryz.prog.wantsStandIn t = false by simpa using List.all_eq_true.1 hall t hm)

/-- THE STATEMENT. -/
theorem proved : Rows.LabelBytesCardSaid :=
  Claim7.holds_tied_plain_at .later [] _ _ _ _ said (fun _ h => by cases h) (by kernel_rfl) (fun _ h => by cases h) labelBytes_row_tie rfl ⟨rfl, rfl⟩ (by kernel_rfl) rfl plain (by kernel_rfl)

end Go.Proofs.YtjgkceciokhhpaaGreatDoor.LabelBytes
