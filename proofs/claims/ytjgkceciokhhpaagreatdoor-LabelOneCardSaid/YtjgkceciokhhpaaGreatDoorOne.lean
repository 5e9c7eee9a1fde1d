/-
  LabelOne: whatever the list and the number, the law returns true and its arguments read as before. Conditions: those of the given statement (the listed tables of Go's library are as the program lays them).
-/
import Derived.Test.YtjgkceciokhhpaaGreatDoorOneFacts
import Derived.Test.YtjgkceciokhhpaaGreatDoorTable
import Derived.Deep.AppendLies
import Derived.Deep.RegionLaw
namespace Go.Proofs.YtjgkceciokhhpaaGreatDoor.LabelOne
open Go.ChangeShapes Go.WideShapes Go.ChangeAt Go.RowKit Go.Icz
theorem rem_fact (k : Int) (n : Nat) (h1 : 1 ≤ n) (h2 : n ≤ 16) : ∃ kk : Nat, kk < n ∧ ((wrap64 (k.tmod n + n)).tmod n) = (kk : Int) := by
  have a1 := Int.tmod_lt_of_pos k (b := (n : Int)) (by omega)
  have a2 : -(n : Int) < k.tmod n := Int.lt_tmod_of_pos k (by omega)
  have a3 : wrap64 (k.tmod n + n) = k.tmod n + n := by unfold wrap64; omega
  rw [a3]
  refine ⟨((k.tmod n + n).tmod n).toNat, ?_, ?_⟩
  · have := Int.tmod_lt_of_pos (k.tmod n + n) (b := (n : Int)) (by omega)
    omega
  · have := Int.tmod_nonneg (n : Int) (a := k.tmod n + n) (by omega)
    omega
set_option maxHeartbeats 1000000 in
set_option maxRecDepth 100000 in
theorem walk (v0 : Value) (k : Int) (l : List Lab) (W : World) (h0 : RdL W v0 l) (z0 : l.length * 32 ≤ 140737488351232) (hz : ∀ x ∈ l, x.1.length ≤ 9223372036854775807 ∧ x.2.length ≤ 9223372036854775807) (hT : Tabs W) :
    Calls Tryz.prog 9 #[v0, .int .i64 k] W fun e w' => e = .returned (.bool true) ∧ Below W.heap.size W w' := by
  have O0 := Own_is v0 l W h0 (by omega)
  have S0 := fun (m : List Lab) (hm : m.Perm l) u w (g : RdL w u m) (hb : Below W.heap.size W w) => Sort_is u m w g (hT.below hb) (fun x hx => hz x (hm.subset hx))
  have HK := fun w (hb : Below W.heap.size W w) => knows_is w (hT.below hb)
  go_enter Tryz.func9, Tryz.ntmps9
  go_wp2_with (go_at_call 11; refine O0.mono ?_; rintro e w1 ⟨u, rfl, g0, b1⟩; clear O0)
  refine (S0 l (List.Perm.refl _) u w1 g0 b1).mono ?_
  rintro e w2 ⟨h3 | ⟨d, hd, h3 | h3⟩, b2'⟩
  · obtain ⟨_, rfl⟩ := h3
    have b2 := b1.trans (b2'.mono b1.size)
    go_wp2_with (first | (go_at_call 23; refine (num_is _ _).mono ?_; rintro e w9 ⟨rfl, rfl⟩) | (go_at_call 24; refine (HK _ b2).mono ?_; rintro e w5 ⟨rfl, b5'⟩; have b5 := b2.trans (b5'.mono b2.size); clear HK))
    go_ret
    exact ⟨rfl, b5⟩
  · obtain ⟨hr, va, rfl, ra⟩ := h3
    have b2 := b1.trans (b2'.mono b1.size)
    have hdl : d.length = l.length := hd.1.length_eq
    have hn : 1 ≤ d.length ∧ d.length ≤ 16 := by
      simp only [rightS, Bool.and_eq_true, decide_eq_true_eq] at hr
      exact hr.1
    have hn0 : 1 ≤ l.length ∧ l.length ≤ 16 := by omega
    obtain ⟨A, c, rfl, hlc, hcell⟩ := h0
    obtain ⟨b, off, rfl, hb, hcell⟩ := hcell (by omega)
    obtain ⟨n1, n2⟩ := hn0
    obtain ⟨kk, hkk, hE⟩ := rem_fact k l.length n1 n2
    go_wp2_with (go_at_call 23; refine (num_is _ _).mono ?_; rintro e w9 ⟨rfl, rfl⟩)
    have hX : ∀ w, Below w2.heap.size w2 w → RdL w (.slice (some ⟨b, off + kk * 2, none⟩) (l.length - kk) (c - kk)) (l.drop kk) := fun w hw => RdL.below (sub_drop kk hkk hb hcell hlc) (b2.trans (hw.mono b2.size))
    have hY : ∀ w, Below w2.heap.size w2 w → RdL w (.slice (some ⟨b, off, none⟩) kk c) (l.take kk) := fun w hw => RdL.below (sub_take kk hkk hb hcell hlc) (b2.trans (hw.mono b2.size))
    have hkc : kk ≤ c := by omega
    have hkl : kk ≤ l.length := by omega
    have hck : ¬ c = kk := by omega
    have bA := ((Below.refl w2.heap.size w2).alloc (Nat.le_refl _) (.cells #[] 57)).drew
    have hT1 : (l.drop kk).length = l.length - kk := List.length_drop
    have hT2 : (l.take kk).length = kk := by rw [List.length_take]; omega
    have OA : OwnL (w2.alloc (.cells #[] 57)).drew w2.heap.size (.slice (some ⟨w2.heap.size, 0, none⟩) 0 0) [] := (OwnL.made w2 (Nat.le_refl _)).below (Below.refl _ _).drew
    clear hcell hE HK S0 b2'
    go_region_law (first | (refine step_appL rfl (.tmp 46) (.tmp 49) rfl w2.heap.size _ _ [] (l.drop kk) (by simp [Act.eval]) OA (by simp [Act.eval]) (hX _ bA) (by simp; omega) bA.size ?_; intro v3 w3 o3 b3; have bB := bA.trans b3; clear bA OA hX) | (refine step_appL rfl (.tmp 50) (.tmp 53) rfl w2.heap.size _ _ _ (l.take kk) (by simp [Act.eval]) o3 (by simp [Act.eval]) (hY _ bB) (by simp; omega) bB.size ?_; intro v4 w4 o4 b4; have bC := bB.trans b4; clear bB hY o3) | fail)
    simp only [List.nil_append] at o4
    have hmp : (l.drop kk ++ l.take kk).Perm l := List.perm_append_comm.trans (by rw [List.take_append_drop])
    generalize l.drop kk ++ l.take kk = m at *
    have hml : m.length = l.length := hmp.length_eq
    have r4 := o4.rd
    have hw4 := b2.trans (bC.mono b2.size)
    have ra4 := ra.below bC
    have r4' := r4
    obtain ⟨A4, c4, rfl, hc4, hcell4⟩ := r4'
    obtain ⟨p4, off4, rfl, hp4, hcell4⟩ := hcell4 (by omega)
    clear b3 b4 o4 hT1 hT2 hck hkl hkc g0 b1 ra bC b2
    go_wp2
    go_loopw [8, 9] (fun bv iv wr => ∃ i : Nat, iv = .int .i64 i ∧ i ≤ m.length ∧ OwnL wr w4.heap.size bv ((m.take i).reverse) ∧ Below w4.heap.size w4 wr) (fun _ iv _ => m.length - (intOf iv).toNat)
    case atStart => exact ⟨0, rfl, by omega, OwnL.nil _ _, Below.refl _ _⟩
    case round =>
      obtain ⟨i, rfl, hi, ho, hbw⟩ := hrel
      by_cases hlt : i < m.length
      · have a0 := (hbw.cell (p := ⟨p4, off4 + i * 2, none⟩) hp4).trans (hcell4 i hlt).1
        have a1 := (hbw.cell (p := ⟨p4, off4 + i * 2 + 1, none⟩) hp4).trans (hcell4 i hlt).2
        have htl : ((m.take i).reverse).length = i := by rw [List.length_reverse, List.length_take]; omega
        have hrev : (m.take (i + 1)).reverse = [m[i]] ++ (m.take i).reverse := by rw [List.take_succ_eq_append_getElem hlt, List.reverse_append]; rfl
        have hf := hbw.size
        clear hcell4 hz ra4 r4 hmp
        generalize m[i] = x at *
        generalize (m.take i).reverse = back at *
        go_wp2_with (at_builtin; refine wp_appL rfl (.tmp 65) (.tmp 66) rfl w4.heap.size _ _ [x] back rfl (OwnL_one wr x hf) rfl (ho.rd.alloc _) (by simp; omega) (by simp; omega) ?_; intro v5 w5 o5 b5 _)
        go_roundw
        case rel => exact ⟨i + 1, by go_num, by omega, by rw [hrev]; exact o5, (hbw.alloc hf _).trans b5⟩
        case measure => simp [intOf]; omega
      · have him : i = m.length := by omega
        subst him
        rw [List.take_length] at ho
        have rb := ho.rd
        have hwr := hw4.trans (hbw.mono hw4.size)
        have raR := ra4.below hbw
        have rtR := r4.below hbw
        rw [hml] at rtR
        have TR := hT.below hwr
        have A1 := sort_same hr hd hmp hz _ wr rtR TR
        have hrm : m.reverse.Perm l := (List.reverse_perm m).trans hmp
        have A2 := fun w (hb : Below wr.heap.size wr w) => sort_same hr hd hrm hz _ w (rb.below hb) (TR.below hb)
        obtain ⟨pt, hpt⟩ := print_head hr
        have hP := fun v w (g : RdL w v d) (h : Below wr.heap.size wr w) => Print_is v d w g (TR.below h) (fun x hx => by have := (right_all hr).2 x hx; omega)
        rw [hpt] at hP
        have t1 := True.intro
        have t2 := True.intro
        have t3 := True.intro
        have t4 := True.intro
        have t5 := True.intro
        have t6 := True.intro
        clear hcell4 ra4 r4 hmp hz hbw ho hrm rtR hw4 hd
        go_wp2_with (first
          | (go_at_call 12; refine A1.mono ?_; rintro e w5 ⟨vb, rfl, rb5, b5⟩; clear A1)
          | (go_at_call 12; refine (A2 _ b5).mono ?_; rintro e w6 ⟨vc, rfl, rc6, b6⟩; clear A2; have c6 := b5.trans (b6.mono b5.size); have ra6 := raR.below c6; have rb6 := rb5.below b6; clear rb5 raR)
          | (go_at_call 36; refine (Bytes_is _ d _ ra6 (TR.below c6) hr).mono ?_; rintro e w7 ⟨vx, rfl, ox, b7⟩; have c7 := c6.trans (b7.mono c6.size); have ra7 := ra6.below b7; have rb7 := rb6.below b7; have rc7 := rc6.below b7; clear ra6 rb6 rc6)
          | (go_at_call 36; refine (Bytes_is _ d _ rc7 (TR.below c7) hr).mono ?_; rintro e w8 ⟨vy, rfl, oy, b8⟩; have c8 := c7.trans (b8.mono c7.size); have ra8 := ra7.below b8; have rb8 := rb7.below b8; have rc8 := rc7.below b8; have rx8 := ox.rd.below b8; have ry8 := oy.rd; clear ra7 rb7 rc7 ox oy)
          | (go_at_call 23; refine (num_is _ _).mono ?_; rintro e w9 ⟨rfl, rfl⟩)
          | (clear t1; go_at_call 22; refine (same_self _ _ d _ ra8 rb8 hn.2).mono ?_; rintro e w10 ⟨rfl, b10⟩; have c10 := c8.trans (b10.mono c8.size))
          | (clear t2; go_at_call 22; refine (same_self _ _ d _ (ra8.below b10) (rc8.below b10) hn.2).mono ?_; rintro e w11 ⟨rfl, b11⟩; have c11 := c10.trans (b11.mono c10.size); have ra11 := (ra8.below b10).below b11; have rb11 := (rb8.below b10).below b11; have rc11 := (rc8.below b10).below b11; have rx11 := (rx8.below b10).below b11; have ry11 := (ry8.below b10).below b11; clear ra8 rb8 rc8 rx8 ry8)
          | (clear t3; go_at_call 33; refine (hP _ _ ra11 c11).mono ?_; rintro e w12 ⟨rfl, b12⟩; have c12 := c11.trans (b12.mono c11.size))
          | (clear t4; go_at_call 33; refine (hP _ _ (rb11.below b12) c12).mono ?_; rintro e w13 ⟨rfl, b13⟩; have c13 := c12.trans (b13.mono c12.size))
          | (clear t5; go_at_call 33; refine (hP _ _ ((ra11.below b12).below b13) c13).mono ?_; rintro e w14 ⟨rfl, b14⟩; have c14 := c13.trans (b14.mono c13.size); have cx := conv_rd std (((rx11.below b12).below b13).below b14); have cy := conv_rd std (((ry11.below b12).below b13).below b14))
          | (clear t6; go_at_call 25; refine (cmp_self _ _ d _ (((ra11.below b12).below b13).below b14) (((rc11.below b12).below b13).below b14) hn.2).mono ?_; rintro e w15 ⟨rfl, b15⟩; have c15 := c14.trans (b15.mono c14.size); clear cx cy)
          | (go_at_call 24; refine (knows_is _ (TR.below c15)).mono ?_; rintro e w16 ⟨rfl, b16⟩; have c16 := c15.trans (b16.mono c15.size)))
        go_ret
        exact ⟨rfl, hwr.trans (c16.mono hwr.size)⟩
  · obtain ⟨hr, rfl⟩ := h3
    have b2 := b1.trans (b2'.mono b1.size)
    go_wp2_with (first | (go_at_call 23; refine (num_is _ _).mono ?_; rintro e w9 ⟨rfl, rfl⟩) | (go_at_call 24; refine (HK _ b2).mono ?_; rintro e w5 ⟨rfl, b5'⟩; have b5 := b2.trans (b5'.mono b2.size); clear HK))
    go_ret
    exact ⟨rfl, b5⟩


set_option maxRecDepth 100000 in
theorem contract (H : Type) (enc : TypeId × Value → H) (W : World) (base : Nat) (args : Array Value) (ds gs : List (DataW H)) (before : List MemPlace)
    (hval : ∀ (j : Nat) t v, Tryz.f9.params[j]? = some t → args[j]? = some v → Value.okWide Tryz.prog W .any base t v)
    (hW : DataW.Whole enc Tryz.prog Tryz.f9.params.toList Rows.labelOneSpec.vars false W args.toList ds gs before)
    (hsz : (DataW.weightsEach Tryz.prog (Tryz.f9.params.toList ++ Rows.labelOneSpec.plain.varTypes Tryz.prog) (ds ++ gs)).all (· ≤ reachBytes) = true)
    (hL : laidMetH Tryz.prog Rows.labelOneRow.laid W) :
    Calls Tryz.prog 9 args W fun e W' => ∃ v, e = .returned v ∧ Rows.labelOneSpec.post enc Tryz.prog Tryz.f9 false true false false W args v W' := by
  have hW' := hW
  obtain ⟨p, q, hA0, hV, rfl, hfz, hnd⟩ := hW
  have hA : DataW.TrodAll enc Tryz.prog W 0 (fun _ => true) true Tryz.f9.params.toList args.toList ds p := hA0
  rw [Tryz.params9] at hA hval hsz
  obtain ⟨v0, vs0, d0, ds0, p0, q0, hargs, rfl, rfl, h0, r0⟩ := trodAll_cons hA
  obtain ⟨v1, vs1, d1, ds1, p1, q1, rfl, rfl, rfl, h1, r1⟩ := trodAll_cons r0
  obtain ⟨rfl, rfl, rfl⟩ := trodAll_nil r1
  obtain rfl : args = #[v0, v1] := by cases args; simp_all
  obtain ⟨rfl, rfl⟩ := trodVars_none hV
  obtain ⟨a0, len0, cap0, rfl⟩ := okWide_slice Tryz.underlying22 (hval 0 22 v0 rfl rfl)
  have lt0 : ∀ x ∈ p0, x.block < W.heap.size := by
    obtain ⟨m, hm⟩ := h0
    exact DataW.trod_lt m _ _ _ hm
  obtain ⟨l0, hll0, hr0, hb0, hd0⟩ := open_labs h0
  have z0 : l0.length * 32 ≤ 140737488351232 := by
    rcases hd0 with ⟨_, rfl⟩ | ⟨el, sp, rfl, rfl, he, hc⟩
    · simp
    · have h1 := sized_slice hsz (j := 0) (t := 22) (e := 57) rfl rfl Tryz.underlying22
      rw [bytes57] at h1
      simp only [reachBytes, List.length_map] at h1
      omega
  obtain ⟨a1, rfl, rfl, rfl, w1⟩ := open_int Tryz.underlying3 (hval 1 3 v1 rfl rfl) h1
  clear hA0
  have hT : Tabs W := tabs_of hL (.tail _ (.tail _ (.tail _ (.tail _ (.tail _ (.tail _ (.head _))))))) (.tail _ (.tail _ (.tail _ (.head _)))) (.tail _ (.head _))
  refine (walk _ _ l0 W hr0 z0 hb0 hT).mono fun e W' ⟨he, bel⟩ => ?_
  subst he
  exact ⟨_, rfl, _, _, _, [], _, [], hW', trodAll_mk1 (shut_bool Tryz.underlying4 _), (trodAll_cons_mk (Below.trod laidOut (by kernel_rfl) (of_decide_eq_true (by kernel_rfl)) h0 bel lt0) (trodAll_cons_mk (shut_int Tryz.underlying3 w1) trodAll_mk0)), rfl, bel.frame _, fun h => by cases h⟩

theorem laid_met (os : Os) : laidMet Tryz.prog Rows.labelOneRow.laid ((World.laidAll Tryz.prog os Rows.labelOneRow.laid).forCall (fun _ _ => 0) ⟨#[], #[.slice none 0 0, .int .i64 0], []⟩).memory :=
  laidMet_laidAll _ (by kernel_rfl) (by kernel_rfl)
theorem reads (os : Os) {H : Type} (enc : TypeId × Value → H) : ∃ places, DataW.whole enc Tryz.prog ((World.laidAll Tryz.prog os Rows.labelOneRow.laid).forCall (fun _ _ => 0) ⟨#[], #[.slice none 0 0, .int .i64 0], []⟩).memory Tryz.f9.params.toList Rows.labelOneSpec.vars false #[.slice none 0 0, .int .i64 0].toList 8 = some ([.nil, .lit (.int .i64 0)], [], places) :=
  ⟨[], by kernel_rfl⟩

set_option maxRecDepth 100000 in
theorem lifted (os : Os) (started : os.Started) (H : Type) (enc : TypeId × Value → H) (F : Stop.Interp) :
    ReturnsInHanded {} Tryz.checked os 9 .any ((OpenSpec.ofChange Rows.labelOneSpec).preRow enc Tryz.prog Tryz.f9 Rows.labelOneRow.domain false Rows.labelOneRow.laid) (((OpenSpec.ofChange Rows.labelOneSpec).at F).post enc Tryz.prog Tryz.f9 false true false false) := by
  obtain ⟨places, hx⟩ := reads os enc
  refine returnsInHanded_of_row (C := Tryz.checked) (s := OpenSpec.ofChange Rows.labelOneSpec) own started (by kernel_rfl) Tryz.func9
    (witness_row_at (enc := enc) (C := Tryz.checked) false (World.laidAll Tryz.prog os Rows.labelOneRow.laid) #[.slice none 0 0, .int .i64 0] (World.laidAll_os _ _ _) (by kernel_rfl) (by kernel_rfl) (by kernel_rfl)
      (OpenSpec.preRow_of_cond 8 hx (by kernel_rfl) (fun k hk => by cases hk) (by kernel_rfl) (laid_met os))) ?_
  intro W base args ds gs before hval hW _ _ hsz hL _ _
  exact contract H enc W base args ds gs before hval hW hsz hL

theorem said : Rows.LabelOneSaid :=
  OpenClaim.holds_of_cond 9 Tryz.f9 rfl rfl rfl rfl rfl rfl rfl ⟨rfl, rfl, rfl, rfl, rfl⟩ rfl rfl rfl rfl rfl (by kernel_rfl) Tryz.func9 (by kernel_rfl)
    (of_decide_eq_true (by kernel_rfl)) (by unfold Func.isWrapper; first | (rw [if_pos (by decide +kernel)]; kernel_rfl) | (rw [if_neg (by decide +kernel)]; exact ⟨rfl, rfl⟩))
    (fun os started H enc _ F => by rw [OpenClaim.pre_eq_preRow]; exact lifted os started H enc F)

theorem plain (f : FuncId) (fn : Func) (hf : Tryz.pinned.checked.prog.funcNamed "icehouse/icehouselaw02.LabelOne" = some f) (hfn : Tryz.pinned.checked.prog.funcs[f]? = some fn) :
    true = Tryz.pinned.checked.prog.looks [] ∧ ∀ (j : Nat) t, fn.params[j]? = some t → Tryz.pinned.checked.prog.wantsStandIn t = false := by
  obtain rfl : f = 9 := Option.some.inj ((show Tryz.prog.funcNamed "icehouse/icehouselaw02.LabelOne" = some 9 by kernel_rfl).symm.trans hf) |>.symm
  obtain rfl : fn = Tryz.f9 := (Option.some.inj (Tryz.func9.symm.trans hfn)).symm
  refine ⟨by kernel_rfl, fun j t ht => ?_⟩
  rw [Tryz.params9] at ht
  have hm : t ∈ [22, 3] := by simpa using Array.mem_of_getElem? ht
  have hall : ([22, 3].all fun u => !Tryz.prog.wantsStandIn u) = true := by kernel_rfl
  exact (show Tryz.prog.wantsStandIn t = false by simpa using List.all_eq_true.1 hall t hm)

/-- THE STATEMENT. -/
theorem proved : Rows.LabelOneCardSaid :=
  Claim7.holds_tied_plain_at .later [] _ _ _ _ said (fun _ h => by cases h) (by kernel_rfl) (fun _ h => by cases h) labelOne_row_tie rfl ⟨rfl, rfl⟩ (by kernel_rfl) rfl plain (by kernel_rfl)

end Go.Proofs.YtjgkceciokhhpaaGreatDoor.LabelOne
