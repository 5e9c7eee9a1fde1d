/-
  LabelWhich: whatever the text and the list, the law returns true and its arguments read as before. Conditions: those of the given statement (the listed tables of Go's library are as the program lays them).
-/
import Derived.Test.YtjgkceciokhhpaaGreatDoorRefSort
import Derived.Test.YtjgkceciokhhpaaGreatDoorTable
namespace Go.Proofs.YtjgkceciokhhpaaGreatDoor.LabelWhich
open Go.ChangeMaps Go.ChangeShapes Go.WideShapes Go.ChangeAt Go.RowKit Go.Icz
def sortAns (l : List Lab) : List Lab × Int := if 16 < l.length then ([], 30) else if rightS (insAll l) = true then (insAll l, 0) else ([], 30)
theorem sort_ans {l : List Lab} {w : World} {e : Ending} {w' : World} (h : SortOut l w e w') : ∃ v, e = .returned (.tuple #[v, .int .i64 (sortAns l).2]) ∧ RdL w' v (sortAns l).1 ∧ Below w.heap.size w w' := by
  obtain ⟨h | ⟨d, hd, h⟩, hb⟩ := h
  · unfold sortAns
    rw [if_pos h.1]
    exact ⟨_, h.2, RdL.nil _, hb⟩
  · by_cases h16 : 16 < l.length
    · have hdl : d.length = l.length := hd.1.length_eq
      unfold sortAns
      rw [if_pos h16]
      rcases h with ⟨hr, _⟩ | ⟨hr, rfl⟩
      · simp only [rightS, Bool.and_eq_true, decide_eq_true_eq] at hr
        omega
      · exact ⟨_, rfl, RdL.nil _, hb⟩
    · unfold sortAns
      rw [if_neg h16]
      rcases right_both hd (insAll_sorts l) with ⟨hr, he⟩ | ⟨hr, hr'⟩
      · rcases h with ⟨_, v, rfl, hv⟩ | ⟨hr2, _⟩
        · rw [he, if_pos hr]
          exact ⟨v, rfl, hv, hb⟩
        · rw [hr] at hr2; cases hr2
      · rcases h with ⟨hr2, _⟩ | ⟨_, rfl⟩
        · rw [hr] at hr2; cases hr2
        · rw [if_neg (by rw [hr']; decide)]
          exact ⟨_, rfl, RdL.nil _, hb⟩
theorem sortAns_len (l : List Lab) : (sortAns l).1.length ≤ 16 := by
  unfold sortAns
  split
  · simp
  · rename_i h
    have := (insAll_sorts l).1.length_eq
    split <;> simp
    omega
theorem same_refl (v1 v2 : Value) (d : List Lab) (w : World) (h1 : RdL w v1 d) (h2 : RdL w v2 d) (hm : d.length ≤ 4611686018427387904) : Calls Tryz.prog 22 #[v1, v2] w fun e w' => e = .returned (.bool true) ∧ Below w.heap.size w w' := by
  refine (Same_is v1 v2 d d w h1 h2 hm).mono ?_
  rintro e w' ⟨rfl, hb⟩
  exact ⟨by simp, hb⟩
set_option maxHeartbeats 4000000 in
set_option maxRecDepth 100000 in
theorem walk (a : ByteArray) (v1 : Value) (l : List Lab) (W : World) (hs : a.size ≤ maxLen) (h1 : RdL W v1 l) (z1 : l.length * 32 ≤ 140737488351232) (hz : ∀ x ∈ l, x.1.length ≤ maxLen ∧ x.2.length ≤ maxLen) (hT : Tabs W) :
    Calls Tryz.prog 3 #[.string a, v1] W fun e w' => e = .returned (.bool true) ∧ Below W.heap.size W w' := by
  obtain ⟨s, rfl⟩ : ∃ s : B8, a = ⟨s.toArray⟩ := ⟨a.data.toList, by cases a; simp⟩
  have hs' : (⟨s.toArray⟩ : ByteArray).size ≤ 9223372036854775807 := by unfold maxLen at hs; omega
  have hs3 : s.length = (⟨s.toArray⟩ : ByteArray).size := size_len ⟨s.toArray⟩
  have hs2 : s.length ≤ 9223372036854775807 := by omega
  have hz' : ∀ x ∈ l, x.1.length ≤ 9223372036854775807 ∧ x.2.length ≤ 9223372036854775807 := fun x hx => by have := hz x hx; unfold maxLen at this; omega
  have O0 := Own_is v1 l W h1 (by omega)
  have S1 := fun u w (g : RdL w u l) (hb : Below W.heap.size W w) => (Sort_is u l w g (hT.below hb) hz').mono fun e w' h => sort_ans h
  have S2 := fun w (hb : Below W.heap.size W w) => (RefSort_is v1 l w (h1.below hb) hz').mono fun e w' h => sort_ans h
  have G1 := fun u w (g : RdL w u l) => Get_is u l s w g (by omega)
  have G2 := fun w (hb : Below W.heap.size W w) => RefGet_is v1 l s w (h1.below hb) (by omega)
  have N1 := fun w => Name_is ⟨s.toArray⟩ w hs'
  have N2 := fun w => RefName_is ⟨s.toArray⟩ w hs'
  have V1 := fun w (hb : Below W.heap.size W w) => Value_is ⟨s.toArray⟩ w hs' (hT.below hb)
  have V2 := fun w => RefValue_is s w hs2
  have R1 := fun u w (g : RdL w u l) (hb : Below W.heap.size W w) => Right_is u l w g (hT.below hb) hz'
  have R2 := fun w (hb : Below W.heap.size W w) => RefRight_is v1 l w (h1.below hb) (by omega) hz'
  have HK := fun w (hb : Below W.heap.size W w) => knows_is w (hT.below hb)
  have hlm := sortAns_len l
  have D1 := fun u w (g : RdL w u l) (hb : Below W.heap.size W w) => same_refl u v1 l w g (h1.below hb) (by omega)
  have D2 := fun (m : List Lab) (hm : m.length ≤ 16) ua ub w (g : RdL w ua m) (g' : RdL w ub m) => same_refl ua ub m w g g' (by omega)
  have D3 := D2 (sortAns l).1 hlm
  have t1 := True.intro
  have t2 := True.intro
  clear hlm D2 hs hs' hs2 hs3 z1 hz hz' h1 hT
  simp only at N1 N2 V1
  generalize (sortAns l).1 = m at *
  generalize (sortAns l).2 = n at *
  generalize (getS s l).1 = gt at *
  generalize (getS s l).2 = gb at *
  generalize nameS s = bn at *
  generalize valueS s = bv at *
  generalize rightS l = br at *
  go_enter Tryz.func3, Tryz.ntmps3
  go_wp2_with (first
    | (go_at_call 11; refine O0.mono ?_; rintro e w1 ⟨u, rfl, g1, b1⟩; clear O0)
    | (go_at_call 12; refine (S1 _ _ g1 b1).mono ?_; rintro e w2 ⟨va, rfl, ra, b2'⟩; have b2 := b1.trans (b2'.mono b1.size); have g2 := g1.below b2'; clear S1 g1)
    | (go_at_call 13; refine (S2 _ b2).mono ?_; rintro e w3 ⟨vb, rfl, rb, b3'⟩; have b3 := b2.trans (b3'.mono b2.size); have g3 := g2.below b3'; have ra3 := ra.below b3'; clear S2 g2 ra)
    | (go_at_call 14; refine (G1 _ _ g3).mono ?_; rintro e w4 ⟨rfl, b4'⟩; have b4 := b3.trans (b4'.mono b3.size); have g4 := g3.below b4'; have ra4 := ra3.below b4'; have rb4 := rb.below b4'; clear G1 g3 ra3 rb)
    | (go_at_call 15; refine (G2 _ b4).mono ?_; rintro e w5 ⟨rfl, b5'⟩; have b5 := b4.trans (b5'.mono b4.size); have g5 := g4.below b5'; have ra5 := ra4.below b5'; have rb5 := rb4.below b5'; clear G2 g4 ra4 rb4)
    | (go_at_call 16; refine (N1 _).mono ?_; rintro e w6 ⟨rfl, b6'⟩; have b6 := b5.trans (b6'.mono b5.size); have g6 := g5.below b6'; have ra6 := ra5.below b6'; have rb6 := rb5.below b6'; clear N1 g5 ra5 rb5)
    | (go_at_call 17; refine (N2 _).mono ?_; rintro e w7 ⟨rfl, rfl⟩; clear N2)
    | (go_at_call 18; refine (V1 _ b6).mono ?_; rintro e w8 ⟨rfl, b8'⟩; have b8 := b6.trans (b8'.mono b6.size); have g8 := g6.below b8'; have ra8 := ra6.below b8'; have rb8 := rb6.below b8'; clear V1 g6 ra6 rb6)
    | (go_at_call 19; refine (V2 _).mono ?_; rintro e w9 ⟨rfl, rfl⟩; clear V2)
    | (go_at_call 20; refine (R1 _ _ g8 b8).mono ?_; rintro e w10 ⟨rfl, b10'⟩; have b10 := b8.trans (b10'.mono b8.size); have g10 := g8.below b10'; have ra10 := ra8.below b10'; have rb10 := rb8.below b10'; clear R1 g8 ra8 rb8)
    | (go_at_call 21; refine (R2 _ b10).mono ?_; rintro e w11 ⟨rfl, b11'⟩; have b11 := b10.trans (b11'.mono b10.size); have g11 := g10.below b11'; have ra11 := ra10.below b11'; have rb11 := rb10.below b11'; clear R2 g10 ra10 rb10)
    | (clear t1; go_at_call 22; refine (D3 _ _ _ ra11 rb11).mono ?_; rintro e w12 ⟨rfl, b12'⟩; have b12 := b11.trans (b12'.mono b11.size); have g12 := g11.below b12'; clear D3 g11 ra11 rb11)
    | (go_at_call 23; refine (num_is _ _).mono ?_; rintro e w13 ⟨rfl, rfl⟩)
    | (clear t2; go_at_call 22; refine (D1 _ _ g12 b12).mono ?_; rintro e w14 ⟨rfl, b14'⟩; have b14 := b12.trans (b14'.mono b12.size); clear D1)
    | (go_at_call 24; refine (HK _ b14).mono ?_; rintro e w15 ⟨rfl, b15'⟩; have b15 := b14.trans (b15'.mono b14.size); clear HK)
    | fail)
  go_ret
  exact ⟨rfl, b15⟩

set_option maxRecDepth 100000 in
theorem contract (H : Type) (enc : TypeId × Value → H) (W : World) (base : Nat) (args : Array Value) (ds gs : List (DataW H)) (before : List MemPlace)
    (hval : ∀ (j : Nat) t v, Tryz.f3.params[j]? = some t → args[j]? = some v → Value.okWide Tryz.prog W .any base t v)
    (hW : DataW.Whole enc Tryz.prog Tryz.f3.params.toList Rows.labelWhichSpec.vars false W args.toList ds gs before)
    (hsz : (DataW.weightsEach Tryz.prog (Tryz.f3.params.toList ++ Rows.labelWhichSpec.plain.varTypes Tryz.prog) (ds ++ gs)).all (· ≤ reachBytes) = true)
    (hL : laidMetH Tryz.prog Rows.labelWhichRow.laid W) :
    Calls Tryz.prog 3 args W fun e W' => ∃ v, e = .returned v ∧ Rows.labelWhichSpec.post enc Tryz.prog Tryz.f3 false true false false W args v W' := by
  have hW' := hW
  obtain ⟨p, q, hA0, hV, rfl, hfz, hnd⟩ := hW
  have hA : DataW.TrodAll enc Tryz.prog W 0 (fun _ => true) true Tryz.f3.params.toList args.toList ds p := hA0
  rw [Tryz.params3] at hA hval hsz
  obtain ⟨v0, vs0, d0, ds0, p0, q0, hargs, rfl, rfl, h0, r0⟩ := trodAll_cons hA
  obtain ⟨v1, vs1, d1, ds1, p1, q1, rfl, rfl, rfl, h1, r1⟩ := trodAll_cons r0
  obtain ⟨rfl, rfl, rfl⟩ := trodAll_nil r1
  obtain rfl : args = #[v0, v1] := by cases args; simp_all
  obtain ⟨rfl, rfl⟩ := trodVars_none hV
  obtain ⟨a0, rfl, rfl, rfl, w0⟩ := open_string Tryz.underlying9 (hval 0 9 v0 rfl rfl) h0
  obtain ⟨a1, len1, cap1, rfl⟩ := okWide_slice Tryz.underlying22 (hval 1 22 v1 rfl rfl)
  have lt1 : ∀ x ∈ p1, x.block < W.heap.size := by
    obtain ⟨m, hm⟩ := h1
    exact DataW.trod_lt m _ _ _ hm
  obtain ⟨l1, hll1, hr1, hb1, hd1⟩ := open_labs h1
  have z1 : l1.length * 32 ≤ 140737488351232 := by
    rcases hd1 with ⟨_, rfl⟩ | ⟨el, sp, rfl, rfl, he, hc⟩
    · simp
    · have h1 := sized_slice hsz (j := 1) (t := 22) (e := 57) rfl rfl Tryz.underlying22
      rw [bytes57] at h1
      simp only [reachBytes, List.length_map] at h1
      omega
  clear hA0
  have hT : Tabs W := tabs_of hL (.tail _ (.tail _ (.tail _ (.tail _ (.tail _ (.tail _ (.head _))))))) (.tail _ (.tail _ (.tail _ (.head _)))) (.tail _ (.head _))
  refine (walk _ _ l1 W w0 hr1 z1 hb1 hT).mono fun e W' ⟨he, bel⟩ => ?_
  subst he
  exact ⟨_, rfl, _, _, _, [], _, [], hW', trodAll_mk1 (shut_bool Tryz.underlying4 _), (trodAll_cons_mk (shut_string Tryz.underlying9 w0) (trodAll_cons_mk (Below.trod laidOut (by kernel_rfl) (of_decide_eq_true (by kernel_rfl)) h1 bel lt1) trodAll_mk0)), rfl, bel.frame _, fun h => by cases h⟩

theorem laid_met (os : Os) : laidMet Tryz.prog Rows.labelWhichRow.laid ((World.laidAll Tryz.prog os Rows.labelWhichRow.laid).forCall (fun _ _ => 0) ⟨#[], #[.string ByteArray.empty, .slice none 0 0], []⟩).memory :=
  laidMet_laidAll _ (by kernel_rfl) (by kernel_rfl)
theorem reads (os : Os) {H : Type} (enc : TypeId × Value → H) : ∃ places, DataW.whole enc Tryz.prog ((World.laidAll Tryz.prog os Rows.labelWhichRow.laid).forCall (fun _ _ => 0) ⟨#[], #[.string ByteArray.empty, .slice none 0 0], []⟩).memory Tryz.f3.params.toList Rows.labelWhichSpec.vars false #[.string ByteArray.empty, .slice none 0 0].toList 8 = some ([.lit (.string []), .nil], [], places) :=
  ⟨[], by kernel_rfl⟩

set_option maxRecDepth 100000 in
theorem lifted (os : Os) (started : os.Started) (H : Type) (enc : TypeId × Value → H) (F : Stop.Interp) :
    ReturnsInHanded {} Tryz.checked os 3 .any ((OpenSpec.ofChange Rows.labelWhichSpec).preRow enc Tryz.prog Tryz.f3 Rows.labelWhichRow.domain false Rows.labelWhichRow.laid) (((OpenSpec.ofChange Rows.labelWhichSpec).at F).post enc Tryz.prog Tryz.f3 false true false false) := by
  obtain ⟨places, hx⟩ := reads os enc
  refine returnsInHanded_of_row (C := Tryz.checked) (s := OpenSpec.ofChange Rows.labelWhichSpec) own started (by kernel_rfl) Tryz.func3
    (witness_row_at (enc := enc) (C := Tryz.checked) false (World.laidAll Tryz.prog os Rows.labelWhichRow.laid) #[.string ByteArray.empty, .slice none 0 0] (World.laidAll_os _ _ _) (by kernel_rfl) (by kernel_rfl) (by kernel_rfl)
      (OpenSpec.preRow_of_cond 8 hx (by kernel_rfl) (fun k hk => by cases hk) (by kernel_rfl) (laid_met os))) ?_
  intro W base args ds gs before hval hW _ _ hsz hL _ _
  exact contract H enc W base args ds gs before hval hW hsz hL

theorem said : Rows.LabelWhichSaid :=
  OpenClaim.holds_of_cond 3 Tryz.f3 rfl rfl rfl rfl rfl rfl rfl ⟨rfl, rfl, rfl, rfl, rfl⟩ rfl rfl rfl rfl rfl (by kernel_rfl) Tryz.func3 (by kernel_rfl)
    (of_decide_eq_true (by kernel_rfl)) (by unfold Func.isWrapper; first | (rw [if_pos (by decide +kernel)]; kernel_rfl) | (rw [if_neg (by decide +kernel)]; exact ⟨rfl, rfl⟩))
    (fun os started H enc _ F => by rw [OpenClaim.pre_eq_preRow]; exact lifted os started H enc F)

theorem plain (f : FuncId) (fn : Func) (hf : Tryz.pinned.checked.prog.funcNamed "icehouse/icehouselaw02.LabelWhich" = some f) (hfn : Tryz.pinned.checked.prog.funcs[f]? = some fn) :
    true = Tryz.pinned.checked.prog.looks [] ∧ ∀ (j : Nat) t, fn.params[j]? = some t → Tryz.pinned.checked.prog.wantsStandIn t = false := by
  obtain rfl : f = 3 := Option.some.inj ((show Tryz.prog.funcNamed "icehouse/icehouselaw02.LabelWhich" = some 3 by kernel_rfl).symm.trans hf) |>.symm
  obtain rfl : fn = Tryz.f3 := (Option.some.inj (Tryz.func3.symm.trans hfn)).symm
  refine ⟨by kernel_rfl, fun j t ht => ?_⟩
  rw [Tryz.params3] at ht
  have hm : t ∈ [9, 22] := by simpa using Array.mem_of_getElem? ht
  have hall : ([9, 22].all fun u => !Tryz.prog.wantsStandIn u) = true := by kernel_rfl
  exact (show Tryz.prog.wantsStandIn t = false by simpa using List.all_eq_true.1 hall t hm)

/-- THE STATEMENT. -/
theorem proved : Rows.LabelWhichCardSaid :=
  Claim7.holds_tied_plain_at .later [] _ _ _ _ said (fun _ h => by cases h) (by kernel_rfl) (fun _ h => by cases h) labelWhich_row_tie rfl ⟨rfl, rfl⟩ (by kernel_rfl) rfl plain (by kernel_rfl)

end Go.Proofs.YtjgkceciokhhpaaGreatDoor.LabelWhich
