/-
  The walk of MatcherBack. Conditions: sizes; the program's tables are in place.
  MatcherBack: whatever the query, the law returns true: a query is read as it was printed. Conditions: those of the given statement (what is read is of bulk at most 1048576; the listed variables are as the program lays them).
-/
import Derived.Test.YtlhodanpfpfodaaGreatDoorMQrS
import Derived.Test.YtlhodanpfpfodaaGreatDoorMTab
import Derived.Test.YtlhodanpfpfodaaGreatDoorBulk
namespace Go.Proofs.YtlhodanpfpfodaaGreatDoor
open Go.RowKit Go.Icz
theorem printT_len {q : Qy} (hr : rightQ q = true) : (printT q).length ≤ 81010 := by
  rw [← join_words, upS_words]
  have h1 := upS_le hr 3
  have h2 := upS_len q 3
  have h3 : ∀ s ∈ upS q 3 ++ (if q.newest = true then [[110, 101, 119, 101, 115, 116]] else []), s.length ≤ 8100 := fun s hs => by
    rcases List.mem_append.1 hs with h | h
    · exact h1 s h
    · split at h
      · rw [List.mem_singleton] at h
        rw [h]
        decide
      · simp at h
  have h4 := join_le [32] 8100 _ h3
  have h5 : (upS q 3 ++ (if q.newest = true then [[110, 101, 119, 101, 115, 116]] else [])).length ≤ 10 := by
    rw [List.length_append]
    split <;> simp <;> omega
  exact Nat.le_trans h4 (Nat.mul_le_mul_right _ h5)
theorem strB (s : B8) : (⟨#[32, 32]⟩ ++ ⟨s.toArray⟩ ++ ⟨#[32]⟩ : ByteArray) = ⟨(([32, 32] : B8) ++ (s ++ [32])).toArray⟩ := by
  apply ByteArray.ext
  simp
set_option maxHeartbeats 8000000 in
set_option maxRecDepth 100000 in
theorem MatcherBack_walk (v0 : Value) (q : Qy) (w : World) (hR : KR.Rd w v0 q.ms) (hm : q.ms.length ≤ 1048576) (hz : ∀ m ∈ q.ms, m.name.length ≤ 1048576 ∧ m.val.length ≤ 1048576) (hh : q.has.length ≤ 1048576) (hT : TabsM w) (h9 : 9 ≤ w.heap.size) :
    Calls Tryz.prog 6 #[qryV v0 q] w fun e w' => e = .returned (.bool true) ∧ Below w.heap.size w w' := by
  obtain ⟨A, c, rfl, hc⟩ := hR.form
  have hQ := fun w1 (hb : Below w.heap.size w w1) => Query_is _ q w1 (hR.below hb) (by omega)
  have hRi := fun w1 (hb : Below w.heap.size w w1) => R6Right_is _ q w1 (hR.below hb) (by omega) (fun m h => by have := hz m h; omega) (by omega)
  have hPr := fun v w1 (h : KM.Rd w1 v q.ms) (hb : Below w.heap.size w w1) => MPrint_is v q w1 h (by omega) (fun m h => by have := hz m h; omega) (by omega) (hT.below hb) (Nat.le_trans h9 hb.size)
  have hK := fun w1 (hb : Below w.heap.size w w1) => knows6_is w1 (hT.below hb) (Nat.le_trans h9 hb.size)
  have r1 := heap_alloc_new w (.cells #[.slice A q.ms.length c, .string ⟨q.has.toArray⟩, .int .i64 q.fr, .int .i64 q.upto, .int .i64 q.lim, .bool q.newest] 37)
  have bw1 : Below w.heap.size w (w.alloc (.cells #[.slice A q.ms.length c, .string ⟨q.has.toArray⟩, .int .i64 q.fr, .int .i64 q.upto, .int .i64 q.lim, .bool q.newest] 37)) := (Below.refl _ w).alloc (Nat.le_refl _) _
  have z1 := (Array.getElem?_eq_some_iff.1 r1).1
  have z1' := bw1.size
  cases hr : rightQ q with
  | false =>
    have HP : printQ q = [] := by unfold printQ; rw [hr]; rfl
    rw [HP] at hPr
    rw [hr] at hRi
    unfold qryV at *
    go_enter Tryz.func6, Tryz.ntmps6
    go_wp2_with fail
    generalize w.alloc (.cells #[.slice A q.ms.length c, .string ⟨q.has.toArray⟩, .int .i64 q.fr, .int .i64 q.upto, .int .i64 q.lim, .bool q.newest] 37) = W1 at *
    go_wp2_with (first
      | (go_at_call 22; refine (hQ _ bw1).mono ?_; rintro e w2 ⟨v2, rfl, o2, b2⟩; have bt2 := bw1.trans (b2.mono z1'); clear hQ)
      | (go_at_call 27; refine (hPr _ _ o2.rd bt2).mono ?_; rintro e w3 ⟨rfl, b3⟩; have bt3 := bt2.trans (b3.mono bt2.size); obtain ⟨d0, d1, d2, d3, d4, d5⟩ := six_cells (((b2.trans (b3.mono b2.size)).block _ z1).trans r1); clear hPr)
      | (go_at_call 26; refine (hRi _ bt3).mono ?_; rintro e w4 ⟨rfl, b4⟩; have bt4 := bt3.trans (b4.mono bt3.size); clear hRi)
      | (go_at_call 19; refine (hK _ bt4).mono ?_; rintro e w5 ⟨rfl, b5⟩; clear hK))
    go_ret
    exact ⟨rfl, bt4.trans (b5.mono bt4.size)⟩
  | true =>
    have HP : printQ q = printT q := by unfold printQ; rw [if_pos hr]
    have hl := printT_len hr
    have hPa := fun w1 (hb : Below w.heap.size w w1) => MParse_is (printT q) w1 (by omega) (hT.below hb) (Nat.le_trans h9 hb.size)
    have hPb := fun w1 (hb : Below w.heap.size w w1) => MParse_is (([32, 32] : B8) ++ (printT q ++ [32])) w1 (by simp; omega) (hT.below hb) (Nat.le_trans h9 hb.size)
    have k1 := parse_back (q := q) hr (pre := []) (suf := []) (by simp) (by simp)
    have k2 := parse_back (q := q) hr (pre := [32, 32]) (suf := [32]) (by simp) (by simp)
    rw [List.nil_append, List.append_nil] at k1
    have hSa := fun v w1 (h : KM.Rd w1 v q.ms) (hb : Below w.heap.size w w1) => Same_is v _ q w1 h (hR.below hb) (by omega)
    unfold ParseAns at hPa hPb
    rw [k1] at hPa
    rw [k2] at hPb
    rw [← strB] at hPb
    rw [HP] at hPr
    rw [hr] at hRi
    clear k1 k2 HP hr hz
    generalize printT q = s at *
    unfold qryV at *
    simp only [] at hPa hPb
    go_enter Tryz.func6, Tryz.ntmps6
    go_wp2_with fail
    generalize w.alloc (.cells #[.slice A q.ms.length c, .string ⟨q.has.toArray⟩, .int .i64 q.fr, .int .i64 q.upto, .int .i64 q.lim, .bool q.newest] 37) = W1 at *
    go_wp2_with (first
      | (go_at_call 22; refine (hQ _ bw1).mono ?_; rintro e w2 ⟨v2, rfl, o2, b2⟩; have bt2 := bw1.trans (b2.mono z1'); clear hQ)
      | (go_at_call 27; refine (hPr _ _ o2.rd bt2).mono ?_; rintro e w3 ⟨rfl, b3⟩; have bt3 := bt2.trans (b3.mono bt2.size); have c3 := b2.trans (b3.mono b2.size); obtain ⟨d0, d1, d2, d3, d4, d5⟩ := six_cells ((c3.block _ z1).trans r1); clear hPr)
      | (go_at_call 26; refine (hRi _ bt3).mono ?_; rintro e w4 ⟨rfl, b4⟩; have bt4 := bt3.trans (b4.mono bt3.size); have c4 := c3.trans (b4.mono c3.size); clear hRi d0 d1 d2 d3 d4 d5)
      | (go_at_call 23; refine (hPa _ bt4).mono ?_; rintro e w5 ⟨⟨mv5, o5, rfl⟩, b5⟩; clear hPa; obtain ⟨A5, c5, rfl, _⟩ := o5.rd.form; have bt5 := (bt4.trans (b5.mono bt4.size)).alloc (Nat.le_trans bt4.size b5.size) (.cells #[.slice A5 q.ms.length c5, .string ⟨q.has.toArray⟩, .int .i64 q.fr, .int .i64 q.upto, .int .i64 q.lim, .bool q.newest] 40); have cc5 := (c4.trans (b5.mono c4.size)).alloc (Nat.le_trans c4.size b5.size) (.cells #[.slice A5 q.ms.length c5, .string ⟨q.has.toArray⟩, .int .i64 q.fr, .int .i64 q.upto, .int .i64 q.lim, .bool q.newest] 40); have r5 := heap_alloc_new w5 (.cells #[.slice A5 q.ms.length c5, .string ⟨q.has.toArray⟩, .int .i64 q.fr, .int .i64 q.upto, .int .i64 q.lim, .bool q.newest] 40); have z5 := (Array.getElem?_eq_some_iff.1 r5).1; have o5a := o5.alloc (.cells #[.slice A5 q.ms.length c5, .string ⟨q.has.toArray⟩, .int .i64 q.fr, .int .i64 q.upto, .int .i64 q.lim, .bool q.newest] 40))
      | (go_at_call 23; refine (hPb _ bt5).mono ?_; rintro e w6 ⟨⟨mv6, o6, rfl⟩, b6⟩; clear hPb; obtain ⟨A6, c6, rfl, _⟩ := o6.rd.form; have bt6 := (bt5.trans (b6.mono bt5.size)).alloc (Nat.le_trans bt5.size b6.size) (.cells #[.slice A6 q.ms.length c6, .string ⟨q.has.toArray⟩, .int .i64 q.fr, .int .i64 q.upto, .int .i64 q.lim, .bool q.newest] 40); have cc6 := (cc5.trans (b6.mono cc5.size)).alloc (Nat.le_trans cc5.size b6.size) (.cells #[.slice A6 q.ms.length c6, .string ⟨q.has.toArray⟩, .int .i64 q.fr, .int .i64 q.upto, .int .i64 q.lim, .bool q.newest] 40); have e6 := b6.alloc b6.size (.cells #[.slice A6 q.ms.length c6, .string ⟨q.has.toArray⟩, .int .i64 q.fr, .int .i64 q.upto, .int .i64 q.lim, .bool q.newest] 40); have r6 := heap_alloc_new w6 (.cells #[.slice A6 q.ms.length c6, .string ⟨q.has.toArray⟩, .int .i64 q.fr, .int .i64 q.upto, .int .i64 q.lim, .bool q.newest] 40); have z6 := (Array.getElem?_eq_some_iff.1 r6).1; have o6a := o6.alloc (.cells #[.slice A6 q.ms.length c6, .string ⟨q.has.toArray⟩, .int .i64 q.fr, .int .i64 q.upto, .int .i64 q.lim, .bool q.newest] 40); have o56 := o5a.below e6; obtain ⟨d0, d1, d2, d3, d4, d5⟩ := six_cells ((cc6.block _ z1).trans r1); obtain ⟨f0, f1, f2, f3, f4, f5⟩ := six_cells ((e6.block _ z5).trans r5); have tk := True.intro)
      | (go_at_call 30; refine (num6_is _ _).mono ?_; rintro e w9 ⟨rfl, rfl⟩)
      | (clear tk; go_at_call 29; refine (hSa _ _ o56.rd bt6).mono ?_; rintro e w7 ⟨rfl, b7⟩; clear d0 d1 d2 d3 d4 d5 f0 f1 f2 f3 f4 f5; have bt7 := bt6.trans (b7.mono bt6.size); have cc7 := cc6.trans (b7.mono cc6.size); have o67 := o6a.below b7; obtain ⟨d0, d1, d2, d3, d4, d5⟩ := six_cells ((cc7.block _ z1).trans r1); obtain ⟨f0, f1, f2, f3, f4, f5⟩ := six_cells ((b7.block _ z6).trans r6); have t2 := True.intro)
      | (clear t2; go_at_call 29; refine (hSa _ _ o67.rd bt7).mono ?_; rintro e w8 ⟨rfl, b8⟩; clear d0 d1 d2 d3 d4 d5 f0 f1 f2 f3 f4 f5; have bt8 := bt7.trans (b8.mono bt7.size))
      | (go_at_call 19; refine (hK _ bt8).mono ?_; rintro e w9 ⟨rfl, b9⟩; clear hK))
    go_ret
    exact ⟨rfl, bt8.trans (b9.mono bt8.size)⟩
end Go.Proofs.YtlhodanpfpfodaaGreatDoor
namespace Go.Proofs.YtlhodanpfpfodaaGreatDoor.MatcherBack
open Go.ChangeMaps Go.ChangeShapes Go.WideShapes Go.ChangeAt Go.RowKit Go.Icz

set_option maxRecDepth 100000 in
theorem contract (H : Type) (enc : TypeId × Value → H) (W : World) (base : Nat) (args : Array Value) (ds gs : List (DataW H)) (before : List MemPlace)
    (hval : ∀ (j : Nat) t v, Tryz.f6.params[j]? = some t → args[j]? = some v → Value.okWide Tryz.prog W .any base t v)
    (hW : DataW.Whole enc Tryz.prog Tryz.f6.params.toList Rows.matcherBackSpec.vars false W args.toList ds gs before)
    (hsz : (DataW.weightsEach Tryz.prog (Tryz.f6.params.toList ++ Rows.matcherBackSpec.plain.varTypes Tryz.prog) (ds ++ gs)).all (· ≤ reachBytes) = true)
    (hL : laidMetH Tryz.prog Rows.matcherBackRow.laid W) (hk : Rows.uptoSmall H (ds ++ gs) = true) :
    Calls Tryz.prog 6 args W fun e W' => ∃ v, e = .returned v ∧ Rows.matcherBackSpec.post enc Tryz.prog Tryz.f6 false true false false W args v W' := by
  have hW' := hW
  obtain ⟨p, q, hA0, hV, rfl, hfz, hnd⟩ := hW
  have hA : DataW.TrodAll enc Tryz.prog W 0 (fun _ => true) true Tryz.f6.params.toList args.toList ds p := hA0
  rw [Tryz.params6] at hA hval hsz
  obtain ⟨v0, vs0, d0, ds0, p0, q0, hargs, rfl, rfl, h0, r0⟩ := trodAll_cons hA
  obtain ⟨rfl, rfl, rfl⟩ := trodAll_nil r0
  obtain rfl : args = #[v0] := by cases args; simp_all
  obtain ⟨rfl, rfl⟩ := trodVars_none hV
  have lt0 : ∀ x ∈ p0, x.block < W.heap.size := by
    obtain ⟨m, hm⟩ := h0
    exact DataW.trod_lt m _ _ _ hm
  obtain ⟨vv0, a0, rfl, hr0, m0, n0, s0⟩ := open_rq (hval 0 37 v0 rfl rfl) h0 (bulk_small hk (by simp))
  clear hA0
  obtain ⟨hT, h9⟩ := tabsM_of hL (.tail _ (.tail _ (.tail _ (.tail _ (.tail _ (.tail _ (.tail _ (.head _)))))))) (.tail _ (.tail _ (.tail _ (.head _)))) (.tail _ (.head _)) (.tail _ (.tail _ (.tail _ (.tail _ (.head _))))) (.tail _ (.tail _ (.tail _ (.tail _ (.tail _ (.head _)))))) (.tail _ (.tail _ (.tail _ (.tail _ (.tail _ (.tail _ (.head _))))))) (.tail _ (.tail _ (.head _)))
  refine (MatcherBack_walk vv0 a0 W hr0 m0 n0 s0 hT h9).mono fun e W' ⟨he, bel⟩ => ?_
  subst he
  exact ⟨_, rfl, _, _, _, [], _, [], hW', trodAll_mk1 (shut_bool Tryz.underlying4 _), (trodAll_cons_mk (Below.trod laidOut (by kernel_rfl) (of_decide_eq_true (by kernel_rfl)) h0 bel lt0) trodAll_mk0), rfl, bel.frame _, fun h => by cases h⟩

theorem laid_met (os : Os) : laidMet Tryz.prog Rows.matcherBackUptoRow.laid ((World.laidAll Tryz.prog os Rows.matcherBackUptoRow.laid).forCall (fun _ _ => 0) ⟨#[], #[.agg #[.slice none 0 0, .string ByteArray.empty, .int .i64 0, .int .i64 0, .int .i64 0, .bool false]], []⟩).memory :=
  laidMet_laidAll _ (by kernel_rfl) (by kernel_rfl)
theorem reads (os : Os) {H : Type} (enc : TypeId × Value → H) : ∃ places, DataW.whole enc Tryz.prog ((World.laidAll Tryz.prog os Rows.matcherBackUptoRow.laid).forCall (fun _ _ => 0) ⟨#[], #[.agg #[.slice none 0 0, .string ByteArray.empty, .int .i64 0, .int .i64 0, .int .i64 0, .bool false]], []⟩).memory Tryz.f6.params.toList Rows.matcherBackSpec.vars false #[.agg #[.slice none 0 0, .string ByteArray.empty, .int .i64 0, .int .i64 0, .int .i64 0, .bool false]].toList 8 = some ([.agg [.nil, .lit (.string []), .lit (.int .i64 0), .lit (.int .i64 0), .lit (.int .i64 0), .lit (.bool false)]], [], places) :=
  ⟨[], by kernel_rfl⟩

set_option maxRecDepth 100000 in
theorem lifted (os : Os) (started : os.Started) (H : Type) (enc : TypeId × Value → H) (F : Stop.Interp) :
    ReturnsInHanded {} Tryz.checked os 6 .any ((Rows.OpenSpec.upto Rows.matcherBackSpec).preRow enc Tryz.prog Tryz.f6 Rows.matcherBackUptoRow.domain false Rows.matcherBackUptoRow.laid) (((Rows.OpenSpec.upto Rows.matcherBackSpec).at F).post enc Tryz.prog Tryz.f6 false true false false) := by
  obtain ⟨places, hx⟩ := reads os enc
  refine returnsInHanded_of_row (C := Tryz.checked) (s := Rows.OpenSpec.upto Rows.matcherBackSpec) own started (by kernel_rfl) Tryz.func6
    (witness_row_at (enc := enc) (C := Tryz.checked) false (World.laidAll Tryz.prog os Rows.matcherBackUptoRow.laid) #[.agg #[.slice none 0 0, .string ByteArray.empty, .int .i64 0, .int .i64 0, .int .i64 0, .bool false]] (World.laidAll_os _ _ _) (by kernel_rfl) (by kernel_rfl) (by kernel_rfl)
      (OpenSpec.preRow_of_cond 8 hx (by kernel_rfl) (fun k hk => by cases hk; kernel_rfl) (by kernel_rfl) (laid_met os))) ?_
  intro W base args ds gs before hval hW _ hcond hsz hL _ _
  exact contract H enc W base args ds gs before hval hW hsz hL (hcond _ rfl)

theorem fact_inPlace : Rows.matcherBackUptoRow.inPlace = Tryz.pinned.checked.prog.inPlace 6 := by kernel_rfl
theorem fact_unfollowed : Rows.matcherBackUptoRow.unfollowed = Tryz.pinned.checked.prog.unfollowed 6 := by kernel_rfl
theorem fact_recurses : Rows.matcherBackUptoRow.recurses = Tryz.pinned.checked.prog.recurses 6 := by kernel_rfl
theorem fact_named : Rows.matcherBackUptoRow.named = Tryz.pinned.checked.prog.varsNamed 6 := by kernel_rfl
set_option maxRecDepth 100000 in
theorem closed : joinedFacts Tryz.pinned.checked.prog 6 Tryz.f6 (Rows.OpenSpec.upto Rows.matcherBackSpec).bare Rows.matcherBackUptoRow = true := by
  have h1 : (Rows.matcherBackUptoRow.inPlace == Tryz.pinned.checked.prog.inPlace 6) = true := beq_iff_eq.2 fact_inPlace
  have h2 : (Rows.matcherBackUptoRow.unfollowed == Tryz.pinned.checked.prog.unfollowed 6) = true := beq_iff_eq.2 fact_unfollowed
  have h3 : (Rows.matcherBackUptoRow.recurses == Tryz.pinned.checked.prog.recurses 6) = true := beq_iff_eq.2 fact_recurses
  have h4 : (Rows.matcherBackUptoRow.named == Tryz.pinned.checked.prog.varsNamed 6) = true := beq_iff_eq.2 fact_named
  unfold joinedFacts
  rw [h1, h2, h3, h4]
  refine Eq.symm ?_
  kernel_rfl
theorem goes : false = Rows.matcherBackUptoRow.goesBy Tryz.pinned.checked.prog := by kernel_rfl
theorem said : Rows.MatcherBackUptoSaid :=
  OpenClaim.holds_of_cond 6 Tryz.f6 rfl rfl rfl rfl rfl rfl rfl ⟨rfl, rfl, rfl, rfl, rfl⟩ rfl rfl rfl rfl rfl (by kernel_rfl) Tryz.func6 closed
    (of_decide_eq_true (by kernel_rfl)) (by unfold Func.isWrapper; first | (rw [if_pos (by decide +kernel)]; kernel_rfl) | (rw [if_neg (by decide +kernel)]; exact ⟨rfl, rfl⟩))
    (fun os started H enc _ F => by rw [OpenClaim.pre_eq_preRow]; exact lifted os started H enc F)

theorem plain (f : FuncId) (fn : Func) (hf : Tryz.pinned.checked.prog.funcNamed Tryz.f6.name = some f) (hfn : Tryz.pinned.checked.prog.funcs[f]? = some fn) :
    true = Tryz.pinned.checked.prog.looks [] ∧ ∀ (j : Nat) t, fn.params[j]? = some t → Tryz.pinned.checked.prog.wantsStandIn t = false := by
  obtain rfl : f = 6 := Option.some.inj ((show Tryz.prog.funcNamed Tryz.f6.name = some 6 by kernel_rfl).symm.trans hf) |>.symm
  obtain rfl : fn = Tryz.f6 := (Option.some.inj (Tryz.func6.symm.trans hfn)).symm
  refine ⟨by kernel_rfl, fun j t ht => ?_⟩
  rw [Tryz.params6] at ht
  have hm : t ∈ [37] := by simpa using Array.mem_of_getElem? ht
  have hall : ([37].all fun u => !Tryz.prog.wantsStandIn u) = true := by kernel_rfl
  exact (show Tryz.prog.wantsStandIn t = false by simpa using List.all_eq_true.1 hall t hm)

/-- THE STATEMENT. -/
theorem proved : Rows.MatcherBackUptoCardSaid :=
  Claim7.holds_tied_plain_at .later [] _ _ _ _ said (fun _ h => by cases h) (by kernel_rfl) (fun _ h => by cases h) matcherBackUpto_row_tie rfl ⟨rfl, rfl⟩ (by kernel_rfl) rfl plain goes

end Go.Proofs.YtlhodanpfpfodaaGreatDoor.MatcherBack
