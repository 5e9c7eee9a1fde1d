/-
  LabelOrder: whatever the three lists, the law returns true and its arguments read as before. Conditions: those of the given statement (the listed tables of Go's library are as the program lays them).
-/
import Derived.Test.YtjgkceciokhhpaaGreatDoorKnow
import Derived.Test.YtjgkceciokhhpaaGreatDoorCmp
import Derived.Test.YtjgkceciokhhpaaGreatDoorTable
namespace Go.Proofs.YtjgkceciokhhpaaGreatDoor.LabelOrder
open Go.ChangeShapes Go.WideShapes Go.ChangeAt Go.RowKit Go.Icz
set_option maxHeartbeats 4000000 in
set_option maxRecDepth 100000 in
theorem walk (v0 v1 v2 : Value) (l0 l1 l2 : List Lab) (W : World) (h0 : RdL W v0 l0) (h1 : RdL W v1 l1) (h2 : RdL W v2 l2) (z0 : l0.length ≤ 4611686018427387904) (z1 : l1.length ≤ 4611686018427387904) (z2 : l2.length ≤ 4611686018427387904) (hT : Tabs W) :
    Calls Tryz.prog 10 #[v0, v1, v2] W fun e w' => e = .returned (.bool true) ∧ Below W.heap.size W w' := by
  have L := listCmp
  have HAB := fun w (hb : Below W.heap.size W w) => Compare_is v0 v1 l0 l1 w (h0.below hb) (h1.below hb) z0 z1
  have HBC := fun w (hb : Below W.heap.size W w) => Compare_is v1 v2 l1 l2 w (h1.below hb) (h2.below hb) z1 z2
  have HAC := fun w (hb : Below W.heap.size W w) => Compare_is v0 v2 l0 l2 w (h0.below hb) (h2.below hb) z0 z2
  have HBA := fun w (hb : Below W.heap.size W w) => Compare_is v1 v0 l1 l0 w (h1.below hb) (h0.below hb) z1 z0
  have HS := fun w (hb : Below W.heap.size W w) => Same_is v0 v1 l0 l1 w (h0.below hb) (h1.below hb) z0
  have HK := fun w (hb : Below W.heap.size W w) => knows_is w (hT.below hb)
  have eba := L.neg l0 l1
  have es : decide (l0 = l1) = decide (cmpL l0 l1 = 0) := decide_eq_decide.2 (L.eq l0 l1).symm
  have r1 := L.rng l0 l1
  have r2 := L.rng l1 l2
  have r3 := L.rng l0 l2
  have t1 := L.le l0 l1 l2
  have t2 := L.le l2 l1 l0
  have n1 := L.neg l0 l1
  have n2 := L.neg l1 l2
  have n3 := L.neg l0 l2
  rw [eba] at HBA
  rw [es] at HS
  rw [n1, n2, n3] at t2
  clear eba es n1 n2 n3 L h0 h1 h2 z0 z1 z2 hT
  generalize cmpL l0 l1 = ab at *
  generalize cmpL l1 l2 = bc at *
  generalize cmpL l0 l2 = ac at *
  rcases r1 with rfl | rfl | rfl <;> rcases r2 with rfl | rfl | rfl <;> rcases r3 with rfl | rfl | rfl <;> first
    | (exfalso; revert t1 t2; decide)
    | (try simp only [Int.neg_neg, Int.neg_zero] at HBA
       simp only [show decide ((-1 : Int) = 0) = false from rfl, show decide ((0 : Int) = 0) = true from rfl, show decide ((1 : Int) = 0) = false from rfl] at HS
       clear t1 t2
       go_enter Tryz.func10, Tryz.ntmps10
       go_wp2_with (first | (go_at_call 25; refine (HAB _ (Below.refl _ _)).mono ?_; rintro e w1 ⟨rfl, b1⟩; clear HAB) | (go_at_call 25; refine (HBC _ b1).mono ?_; rintro e w2 ⟨rfl, b2'⟩; have b2 := b1.trans (b2'.mono b1.size); clear HBC) | (go_at_call 25; refine (HAC _ b2).mono ?_; rintro e w3 ⟨rfl, b3'⟩; have b3 := b2.trans (b3'.mono b2.size); clear HAC) | (go_at_call 22; refine (HS _ b3).mono ?_; rintro e w4 ⟨rfl, b4'⟩; have b4 := b3.trans (b4'.mono b3.size); clear HS) | (go_at_call 25; refine (HBA _ b4).mono ?_; rintro e w5 ⟨rfl, b5'⟩; have b5 := b4.trans (b5'.mono b4.size); clear HBA) | (go_at_call 24; refine (HK _ b5).mono ?_; rintro e w6 ⟨rfl, b6'⟩; have b6 := b5.trans (b6'.mono b5.size); clear HK))
       go_ret
       exact ⟨rfl, b6⟩)

set_option maxRecDepth 100000 in
theorem contract (H : Type) (enc : TypeId × Value → H) (W : World) (base : Nat) (args : Array Value) (ds gs : List (DataW H)) (before : List MemPlace)
    (hval : ∀ (j : Nat) t v, Tryz.f10.params[j]? = some t → args[j]? = some v → Value.okWide Tryz.prog W .any base t v)
    (hW : DataW.Whole enc Tryz.prog Tryz.f10.params.toList Rows.labelOrderSpec.vars false W args.toList ds gs before)
    (hsz : (DataW.weightsEach Tryz.prog (Tryz.f10.params.toList ++ Rows.labelOrderSpec.plain.varTypes Tryz.prog) (ds ++ gs)).all (· ≤ reachBytes) = true)
    (hL : laidMetH Tryz.prog Rows.labelOrderRow.laid W) :
    Calls Tryz.prog 10 args W fun e W' => ∃ v, e = .returned v ∧ Rows.labelOrderSpec.post enc Tryz.prog Tryz.f10 false true false false W args v W' := by
  have hW' := hW
  obtain ⟨p, q, hA0, hV, rfl, hfz, hnd⟩ := hW
  have hA : DataW.TrodAll enc Tryz.prog W 0 (fun _ => true) true Tryz.f10.params.toList args.toList ds p := hA0
  rw [Tryz.params10] at hA hval hsz
  obtain ⟨v0, vs0, d0, ds0, p0, q0, hargs, rfl, rfl, h0, r0⟩ := trodAll_cons hA
  obtain ⟨v1, vs1, d1, ds1, p1, q1, rfl, rfl, rfl, h1, r1⟩ := trodAll_cons r0
  obtain ⟨v2, vs2, d2, ds2, p2, q2, rfl, rfl, rfl, h2, r2⟩ := trodAll_cons r1
  obtain ⟨rfl, rfl, rfl⟩ := trodAll_nil r2
  obtain rfl : args = #[v0, v1, v2] := by cases args; simp_all
  obtain ⟨rfl, rfl⟩ := trodVars_none hV
  obtain ⟨a0, len0, cap0, rfl⟩ := okWide_slice Tryz.underlying22 (hval 0 22 v0 rfl rfl)
  have lt0 : ∀ x ∈ p0, x.block < W.heap.size := by
    obtain ⟨m, hm⟩ := h0
    exact DataW.trod_lt m _ _ _ hm
  obtain ⟨l0, hll0, hr0, hb0, hd0⟩ := open_labs h0
  have z0 : l0.length * 32 ≤ 140737488351232 := by
    rcases hd0 with ⟨_, rfl⟩ | ⟨el, sp, rfl, rfl, he, hc⟩
    · simp
    · have h1 := sized_slice hsz (j := 0) (t := 22) (e := 57) rfl rfl Tryz.underlying22
      rw [bytes57] at h1
      simp only [reachBytes, List.length_map] at h1
      omega
  obtain ⟨a1, len1, cap1, rfl⟩ := okWide_slice Tryz.underlying22 (hval 1 22 v1 rfl rfl)
  have lt1 : ∀ x ∈ p1, x.block < W.heap.size := by
    obtain ⟨m, hm⟩ := h1
    exact DataW.trod_lt m _ _ _ hm
  obtain ⟨l1, hll1, hr1, hb1, hd1⟩ := open_labs h1
  have z1 : l1.length * 32 ≤ 140737488351232 := by
    rcases hd1 with ⟨_, rfl⟩ | ⟨el, sp, rfl, rfl, he, hc⟩
    · simp
    · have h1 := sized_slice hsz (j := 1) (t := 22) (e := 57) rfl rfl Tryz.underlying22
      rw [bytes57] at h1
      simp only [reachBytes, List.length_map] at h1
      omega
  obtain ⟨a2, len2, cap2, rfl⟩ := okWide_slice Tryz.underlying22 (hval 2 22 v2 rfl rfl)
  have lt2 : ∀ x ∈ p2, x.block < W.heap.size := by
    obtain ⟨m, hm⟩ := h2
    exact DataW.trod_lt m _ _ _ hm
  obtain ⟨l2, hll2, hr2, hb2, hd2⟩ := open_labs h2
  have z2 : l2.length * 32 ≤ 140737488351232 := by
    rcases hd2 with ⟨_, rfl⟩ | ⟨el, sp, rfl, rfl, he, hc⟩
    · simp
    · have h1 := sized_slice hsz (j := 2) (t := 22) (e := 57) rfl rfl Tryz.underlying22
      rw [bytes57] at h1
      simp only [reachBytes, List.length_map] at h1
      omega
  clear hA0
  have hT : Tabs W := tabs_of hL (.tail _ (.tail _ (.tail _ (.tail _ (.tail _ (.tail _ (.head _))))))) (.tail _ (.tail _ (.tail _ (.head _)))) (.tail _ (.head _))
  refine (walk _ _ _ l0 l1 l2 W hr0 hr1 hr2 (by omega) (by omega) (by omega) hT).mono fun e W' ⟨he, bel⟩ => ?_
  subst he
  exact ⟨_, rfl, _, _, _, [], _, [], hW', trodAll_mk1 (shut_bool Tryz.underlying4 _), (trodAll_cons_mk (Below.trod laidOut (by kernel_rfl) (of_decide_eq_true (by kernel_rfl)) h0 bel lt0) (trodAll_cons_mk (Below.trod laidOut (by kernel_rfl) (of_decide_eq_true (by kernel_rfl)) h1 bel lt1) (trodAll_cons_mk (Below.trod laidOut (by kernel_rfl) (of_decide_eq_true (by kernel_rfl)) h2 bel lt2) trodAll_mk0))), rfl, bel.frame _, fun h => by cases h⟩

theorem laid_met (os : Os) : laidMet Tryz.prog Rows.labelOrderRow.laid ((World.laidAll Tryz.prog os Rows.labelOrderRow.laid).forCall (fun _ _ => 0) ⟨#[], #[.slice none 0 0, .slice none 0 0, .slice none 0 0], []⟩).memory :=
  laidMet_laidAll _ (by kernel_rfl) (by kernel_rfl)
theorem reads (os : Os) {H : Type} (enc : TypeId × Value → H) : ∃ places, DataW.whole enc Tryz.prog ((World.laidAll Tryz.prog os Rows.labelOrderRow.laid).forCall (fun _ _ => 0) ⟨#[], #[.slice none 0 0, .slice none 0 0, .slice none 0 0], []⟩).memory Tryz.f10.params.toList Rows.labelOrderSpec.vars false #[.slice none 0 0, .slice none 0 0, .slice none 0 0].toList 8 = some ([.nil, .nil, .nil], [], places) :=
  ⟨[], by kernel_rfl⟩

set_option maxRecDepth 100000 in
theorem lifted (os : Os) (started : os.Started) (H : Type) (enc : TypeId × Value → H) (F : Stop.Interp) :
    ReturnsInHanded {} Tryz.checked os 10 .any ((OpenSpec.ofChange Rows.labelOrderSpec).preRow enc Tryz.prog Tryz.f10 Rows.labelOrderRow.domain false Rows.labelOrderRow.laid) (((OpenSpec.ofChange Rows.labelOrderSpec).at F).post enc Tryz.prog Tryz.f10 false true false false) := by
  obtain ⟨places, hx⟩ := reads os enc
  refine returnsInHanded_of_row (C := Tryz.checked) (s := OpenSpec.ofChange Rows.labelOrderSpec) own started (by kernel_rfl) Tryz.func10
    (witness_row_at (enc := enc) (C := Tryz.checked) false (World.laidAll Tryz.prog os Rows.labelOrderRow.laid) #[.slice none 0 0, .slice none 0 0, .slice none 0 0] (World.laidAll_os _ _ _) (by kernel_rfl) (by kernel_rfl) (by kernel_rfl)
      (OpenSpec.preRow_of_cond 8 hx (by kernel_rfl) (fun k hk => by cases hk) (by kernel_rfl) (laid_met os))) ?_
  intro W base args ds gs before hval hW _ _ hsz hL _ _
  exact contract H enc W base args ds gs before hval hW hsz hL

theorem said : Rows.LabelOrderSaid :=
  OpenClaim.holds_of_cond 10 Tryz.f10 rfl rfl rfl rfl rfl rfl rfl ⟨rfl, rfl, rfl, rfl, rfl⟩ rfl rfl rfl rfl rfl (by kernel_rfl) Tryz.func10 (by kernel_rfl)
    (of_decide_eq_true (by kernel_rfl)) (by unfold Func.isWrapper; first | (rw [if_pos (by decide +kernel)]; kernel_rfl) | (rw [if_neg (by decide +kernel)]; exact ⟨rfl, rfl⟩))
    (fun os started H enc _ F => by rw [OpenClaim.pre_eq_preRow]; exact lifted os started H enc F)

theorem plain (f : FuncId) (fn : Func) (hf : Tryz.pinned.checked.prog.funcNamed "icehouse/icehouselaw02.LabelOrder" = some f) (hfn : Tryz.pinned.checked.prog.funcs[f]? = some fn) :
    true = Tryz.pinned.checked.prog.looks [] ∧ ∀ (j : Nat) t, fn.params[j]? = some t → Tryz.pinned.checked.prog.wantsStandIn t = false := by
  obtain rfl : f = 10 := Option.some.inj ((show Tryz.prog.funcNamed "icehouse/icehouselaw02.LabelOrder" = some 10 by kernel_rfl).symm.trans hf) |>.symm
  obtain rfl : fn = Tryz.f10 := (Option.some.inj (Tryz.func10.symm.trans hfn)).symm
  refine ⟨by kernel_rfl, fun j t ht => ?_⟩
  rw [Tryz.params10] at ht
  have hm : t ∈ [22, 22, 22] := by simpa using Array.mem_of_getElem? ht
  have hall : ([22, 22, 22].all fun u => !Tryz.prog.wantsStandIn u) = true := by kernel_rfl
  exact (show Tryz.prog.wantsStandIn t = false by simpa using List.all_eq_true.1 hall t hm)

/-- THE STATEMENT. -/
theorem proved : Rows.LabelOrderCardSaid :=
  Claim7.holds_tied_plain_at .later [] _ _ _ _ said (fun _ h => by cases h) (by kernel_rfl) (fun _ h => by cases h) labelOrder_row_tie rfl ⟨rfl, rfl⟩ (by kernel_rfl) rfl plain (by kernel_rfl)

end Go.Proofs.YtjgkceciokhhpaaGreatDoor.LabelOrder
