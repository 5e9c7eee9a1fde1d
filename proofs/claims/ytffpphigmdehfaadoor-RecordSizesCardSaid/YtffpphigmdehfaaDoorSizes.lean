/-
  RecordSizes: whatever the entries, the law returns true and its argument reads as before. Conditions: those of the given statement (the listed tables of Go's library are as the program lays them).
-/
import Derived.Test.YtffpphigmdehfaaDoorEntPutB
import Derived.Test.YtffpphigmdehfaaDoorEntAll2
import Derived.Test.YtffpphigmdehfaaDoorTable
namespace Go.Proofs.YtffpphigmdehfaaDoor.RecordSizes
open Go.ChangeMaps Go.ChangeShapes Go.WideShapes Go.ChangeAt Go.RowKit Go.Icz
def sumB : List Ent → Nat
  | [] => 0
  | x :: t => (entB x).length + sumB t
theorem sumB_app : ∀ (l m : List Ent), sumB (l ++ m) = sumB l + sumB m
  | [], m => by simp [sumB]
  | x :: t, m => by simp [sumB, sumB_app t m]; omega
theorem num_two {n : Nat} (h : n < 16384) : 1 ≤ (num n).length ∧ (num n).length ≤ 2 := ⟨num_pos n, num_len 1 n (by simpa using h)⟩
theorem txt_two (b : List Nat) (h : b.length ≤ 5456) : b.length + 1 ≤ (txt (str b)).length ∧ (txt (str b)).length ≤ b.length + 2 := by
  have h1 := num_two (n := (str b).size) (by rw [str_len]; omega)
  unfold txt
  rw [List.length_append, nats_len]
  rw [str_len] at *
  omega
theorem batL_len : ∀ (l : List Ent), (∀ x ∈ l, entR x = true) → sumB l + l.length ≤ (batL l).length ∧ (batL l).length ≤ sumB l + 2 * l.length
  | [], _ => by simp [sumB, batL]
  | x :: t, h => by
    have h1 := batL_len t (fun y hy => h y (List.mem_cons_of_mem _ hy))
    have h2 := txt_two (entB x) (entB_len (h x (List.mem_cons_self ..)))
    simp only [batL, sumB, List.length_append, List.length_cons]
    omega
theorem batB_len {l : List Ent} (h : batR l = true) : sumB l < (batB l).length ∧ (batB l).length ≤ sumB l + 3 * l.length + 1 := by
  obtain ⟨⟨h1, h16⟩, hall⟩ := batR_all h
  have h2 := batL_len l hall
  have h3 : num l.length = [l.length] := num_lo (by omega)
  unfold batB
  rw [h3, List.length_append, List.length_singleton]
  omega
theorem sumB_le : ∀ (l : List Ent), (∀ x ∈ l, entR x = true) → sumB l ≤ 5456 * l.length
  | [], _ => by simp [sumB]
  | x :: t, h => by
    have h1 := sumB_le t (fun y hy => h y (List.mem_cons_of_mem _ hy))
    have h2 := entB_len (h x (List.mem_cons_self ..))
    simp only [sumB, List.length_cons]
    omega
theorem entB_more {x : Ent} (h : entR x = true) : x.line.length + 5 ≤ (entB x).length := by
  unfold entR at h
  simp only [Bool.and_eq_true, decide_eq_true_eq] at h
  obtain ⟨⟨⟨⟨s1, s2⟩, u1, u2⟩, l1⟩, hrr⟩ := h
  have n1 := num_pos x.seq.toNat
  have n2 := num_pos x.time.toNat
  have n3 := num_pos (bytesN x.labs).length
  have n4 := num_pos x.line.length
  have n5 := num_pos x.labs.length
  have hb : 1 ≤ (bytesN x.labs).length := by unfold bytesN; rw [List.length_append]; omega
  have hls : (⟨x.line.toArray⟩ : ByteArray).size = x.line.length := Lib.size_mk _
  have e1 : (txt (str (bytesN x.labs))).length = (num (bytesN x.labs).length).length + (bytesN x.labs).length := by unfold txt; rw [List.length_append, nats_len, str_len]
  have e2 : (txt ⟨x.line.toArray⟩).length = (num x.line.length).length + x.line.length := by unfold txt; rw [List.length_append, nats_len, hls]
  unfold entB
  simp only [List.length_append]
  rw [e1, e2]
  omega
set_option maxHeartbeats 4000000 in
set_option maxRecDepth 100000 in
theorem walk (v0 : Value) (l : List Ent) (W : World) (h0 : RdE W v0 l) (hz : ∀ x ∈ l, entZ x) (hw : l.length * 56 ≤ 140737488351232) (hT : Tabs W) :
    Calls Tryd.prog 8 #[v0] W fun e w' => e = .returned (.bool true) ∧ Below W.heap.size W w' := by
  have A0 := EAll_is v0 l W h0 hz hw
  have B0 := fun u w (g : RdE w u l) (hb : Below W.heap.size W w) => EPutBatch_is u l w g (hT.below hb) hz
  have HK := fun w (hb : Below W.heap.size W w) => knows_is w (hT.below hb)
  unfold AllOut at A0
  unfold BatOut at B0
  cases hr : batR l with
  | false =>
    rw [hr, if_neg (by decide), if_neg (by decide)] at B0
    clear hr h0 hz hw hT
    go_enter Tryd.func8, Tryd.ntmps8
    go_wp2_with (first
      | (go_at_call 28; refine A0.mono ?_; rintro e w1 ⟨u, rfl, g1, b1⟩; clear A0)
      | (go_at_call 29; refine (B0 _ _ g1 b1).mono ?_; rintro e w2 ⟨vb, rfl, rb, b2'⟩; have b2 := b1.trans (b2'.mono b1.size); obtain ⟨Ab, cb, rfl, -, -⟩ := rb; clear B0 g1)
      | (go_at_call 22; refine (num_is _ _).mono ?_; rintro e w13 ⟨rfl, rfl⟩)
      | (go_at_call 27; refine (HK _ b2).mono ?_; rintro e w3 ⟨rfl, b3'⟩; have b3 := b2.trans (b3'.mono b2.size); clear HK)
      | fail)
    go_ret
    exact ⟨rfl, b3⟩
  | true =>
    rw [hr, if_pos rfl, if_pos rfl] at B0
    obtain ⟨hL1, hL2⟩ := batB_len hr
    obtain ⟨⟨h1, h16⟩, hall⟩ := batR_all hr
    have HL1 := hid hL1
    have HL2 := hid hL2
    clear hr hL1 hL2 hw
    generalize batB l = bb at *
    have h0' := h0
    obtain ⟨A, c, rfl, hlc, hcell⟩ := h0'
    obtain ⟨b, off, rfl, hb, hcell⟩ := hcell h1
    go_enter Tryd.func8, Tryd.ntmps8
    go_wp2_with (first
      | (go_at_call 28; refine A0.mono ?_; rintro e w1 ⟨u, rfl, g1, b1⟩; clear A0)
      | (go_at_call 29; refine (B0 _ _ g1 b1).mono ?_; rintro e w2 ⟨vb, rfl, rb, b2'⟩; have b2 := b1.trans (b2'.mono b1.size); obtain ⟨Ab, cb, rfl, -, -⟩ := rb; clear B0 g1)
      | (go_at_call 22; refine (num_is _ _).mono ?_; rintro e w13 ⟨rfl, rfl⟩)
      | fail)
    have HL := hid (show ∃ L : Nat, L = bb.length from ⟨_, rfl⟩)
    go_loopw [5, 6] (fun tv iv wr => ∃ i t : Nat, iv = .int .i64 i ∧ tv = .int .i64 t ∧ i ≤ l.length ∧ t ≤ 5456 * i ∧ Below W.heap.size W wr ∧ Hid (t = sumB (l.take i))) (fun _ iv _ => l.length - (intOf iv).toNat)
    case atStart => exact ⟨0, 0, rfl, rfl, by omega, by omega, b2, hid rfl⟩
    case round =>
      obtain ⟨i, t, rfl, rfl, hi, ht, hbw, HT⟩ := hrel
      by_cases hlt : i < l.length
      · obtain ⟨A', c', q0, q1, q2, q3, rl⟩ := hcell i hlt
        have K : ∀ w', Below W.heap.size W w' → w'.cell? ⟨b, off + i * 4, none⟩ = some (.int .i64 (l[i]).seq) ∧ w'.cell? ⟨b, off + i * 4 + 1, none⟩ = some (.int .i64 (l[i]).time) ∧ w'.cell? ⟨b, off + i * 4 + 2, none⟩ = some (.slice A' (l[i]).labs.length c') ∧ w'.cell? ⟨b, off + i * 4 + 3, none⟩ = some (.string ⟨(l[i]).line.toArray⟩) ∧ RdL w' (.slice A' (l[i]).labs.length c') (l[i]).labs := fun w' hh =>
          ⟨(hh.cell (p := ⟨b, off + i * 4, none⟩) hb).trans q0, (hh.cell (p := ⟨b, off + i * 4 + 1, none⟩) hb).trans q1, (hh.cell (p := ⟨b, off + i * 4 + 2, none⟩) hb).trans q2, (hh.cell (p := ⟨b, off + i * 4 + 3, none⟩) hb).trans q3, rl.below hh⟩
        have hxr := hall l[i] (List.getElem_mem hlt)
        have hxz := hz l[i] (List.getElem_mem hlt)
        have HT2 : Hid (sumB (l.take (i + 1)) = t + (entB l[i]).length) := hid (by rw [List.take_succ_eq_append_getElem hlt, sumB_app, ← HT.out]; simp [sumB])
        have hmore := entB_more hxr
        have hel := entB_len hxr
        clear hcell q0 q1 q2 q3 rl hall hz h0 HT HL
        generalize l[i] = x at *
        have O := fun w1 (g : RdL w1 (.slice A' x.labs.length c') x.labs) => EOwn_is x A' c' w1 g hxz.1
        have S := fun w1 A1 c1 (g : OwnL w1 w1.heap.size (.slice A1 x.labs.length c1) x.labs ∨ RdL w1 (.slice A1 x.labs.length c1) x.labs) (hb : Below W.heap.size W w1) => ESize_is x A1 c1 w1 (g.elim (fun g => g.rd) id) (hT.below hb) hxz
        have P := fun w1 A1 c1 (g : RdL w1 (.slice A1 x.labs.length c1) x.labs) (hb : Below W.heap.size W w1) => EPut_is x A1 c1 w1 g (hT.below hb) hxz
        unfold EPutOut at P
        rw [hxr, if_pos rfl] at S
        rw [hxr, if_pos rfl, if_pos rfl] at P
        unfold EntOut at O
        unfold entV at O S P
        clear hxr hxz hT
        have hll : (⟨x.line.toArray⟩ : ByteArray).size = x.line.length := Lib.size_mk _
        generalize hn : (entB x).length = n at *
        generalize entB x = eb at *
        obtain ⟨k0, k1, k2, k3, rl0⟩ := K _ hbw
        have hm1 : (x.line.length : Int) + 5 ≤ (n : Int) := by omega
        have t1 := True.intro
        have t2 := True.intro
        have hnn := hid hn
        clear hn hmore
        go_wp2_with (first
          | (clear t1; go_at_call 15; refine (O _ rl0).mono ?_; rintro e w3 ⟨A3, c3, rfl, o3, b3'⟩; have b3 := hbw.trans (b3'.mono hbw.size); clear rl0 k0 k1 k2 k3)
          | (go_at_call 24; refine (S _ _ _ (.inr o3.rd) b3).mono ?_; rintro e w4 ⟨rfl, b4'⟩; have b4 := b3.trans (b4'.mono b3.size); obtain ⟨k0, k1, k2, k3, rl0⟩ := K _ b4; clear S o3)
          | (clear t2; go_at_call 15; refine (O _ rl0).mono ?_; rintro e w5 ⟨A5, c5, rfl, o5, b5'⟩; have b5 := b4.trans (b5'.mono b4.size); clear rl0 k0 k1 k2 k3 O)
          | (go_at_call 16; refine (P _ _ _ o5.rd b5).mono ?_; rintro e w6 ⟨v6, rfl, r6, b6'⟩; have b6 := b5.trans (b6'.mono b5.size); obtain ⟨A6, c6, rfl, _, _⟩ := r6; rw [hnn.out]; obtain ⟨k0, k1, k2, k3, rl0⟩ := K _ b6; clear P o5)
          | (go_at_call 22; refine (num_is _ _).mono ?_; rintro e w13 ⟨rfl, rfl⟩)
          | fail)
        go_roundw
        case rel => exact ⟨i + 1, t + n, by go_num, by go_num, by omega, by omega, b6, hid (by rw [HT2.out])⟩
        case measure => simp [intOf]; omega
      · have hT1 : t < bb.length := by have := HT.out; rw [List.take_of_length_le (by omega)] at this; rw [this]; exact HL1.out
        have hT2 : bb.length ≤ t + 3 * l.length + 1 := by have := HT.out; rw [List.take_of_length_le (by omega)] at this; rw [this]; exact HL2.out
        have hT1' : (t : Int) < (bb.length : Int) := by omega
        have hT2' : (bb.length : Int) ≤ (t : Int) + 3 * (l.length : Int) + 1 := by omega
        have K1 := HK wr hbw
        clear hcell hall hz h0 HT HL HL1 HL2 hT HK
        generalize bb.length = L at *
        go_wp2_with (go_at_call 27; refine K1.mono ?_; rintro e w3 ⟨rfl, b3'⟩)
        go_ret
        exact ⟨rfl, hbw.trans (b3'.mono hbw.size)⟩

set_option maxRecDepth 100000 in
theorem contract (H : Type) (enc : TypeId × Value → H) (W : World) (base : Nat) (args : Array Value) (ds gs : List (DataW H)) (before : List MemPlace)
    (hval : ∀ (j : Nat) t v, Tryd.f8.params[j]? = some t → args[j]? = some v → Value.okWide Tryd.prog W .any base t v)
    (hW : DataW.Whole enc Tryd.prog Tryd.f8.params.toList Rows.recordSizesSpec.vars false W args.toList ds gs before)
    (hsz : (DataW.weightsEach Tryd.prog (Tryd.f8.params.toList ++ Rows.recordSizesSpec.plain.varTypes Tryd.prog) (ds ++ gs)).all (· ≤ reachBytes) = true)
    (hL : laidMetH Tryd.prog Rows.recordSizesRow.laid W) :
    Calls Tryd.prog 8 args W fun e W' => ∃ v, e = .returned v ∧ Rows.recordSizesSpec.post enc Tryd.prog Tryd.f8 false true false false W args v W' := by
  have hW' := hW
  obtain ⟨p, q, hA0, hV, rfl, hfz, hnd⟩ := hW
  have hA : DataW.TrodAll enc Tryd.prog W 0 (fun _ => true) true Tryd.f8.params.toList args.toList ds p := hA0
  rw [Tryd.params8] at hA hval hsz
  obtain ⟨v0, vs0, d0, ds0, p0, q0, hargs, rfl, rfl, h0, r0⟩ := trodAll_cons hA
  obtain ⟨rfl, rfl, rfl⟩ := trodAll_nil r0
  obtain rfl : args = #[v0] := by cases args; simp_all
  obtain ⟨rfl, rfl⟩ := trodVars_none hV
  obtain ⟨a0, len0, cap0, rfl⟩ := okWide_slice Tryd.underlying44 (hval 0 44 v0 rfl rfl)
  have lt0 : ∀ x ∈ p0, x.block < W.heap.size := by
    obtain ⟨m, hm⟩ := h0
    exact DataW.trod_lt m _ _ _ hm
  obtain ⟨l0, hll0, hr0, hz0, hw0⟩ := open_ents h0 (fun n hn => by have h9 := List.all_eq_true.1 hsz n (DataW.weights_mem_each (j := 0) (t := 44) (d := d0) rfl rfl n hn); simpa using h9)
  clear hA0
  have hT : Tabs W := tabs_of hL (.tail _ (.head _)) (.head _)
  refine (walk _ l0 W hr0 hz0 hw0 hT).mono fun e W' ⟨he, bel⟩ => ?_
  subst he
  exact ⟨_, rfl, _, _, _, [], _, [], hW', trodAll_mk1 (shut_bool Tryd.underlying4 _), (trodAll_cons_mk (Below.trod laidOut (by kernel_rfl) (of_decide_eq_true (by kernel_rfl)) h0 bel lt0) trodAll_mk0), rfl, bel.frame _, fun h => by cases h⟩

theorem laid_met (os : Os) : laidMet Tryd.prog Rows.recordSizesRow.laid ((World.laidAll Tryd.prog os Rows.recordSizesRow.laid).forCall (fun _ _ => 0) ⟨#[], #[.slice none 0 0], []⟩).memory :=
  laidMet_laidAll _ (by kernel_rfl) (by kernel_rfl)
theorem reads (os : Os) {H : Type} (enc : TypeId × Value → H) : ∃ places, DataW.whole enc Tryd.prog ((World.laidAll Tryd.prog os Rows.recordSizesRow.laid).forCall (fun _ _ => 0) ⟨#[], #[.slice none 0 0], []⟩).memory Tryd.f8.params.toList Rows.recordSizesSpec.vars false #[.slice none 0 0].toList 8 = some ([.nil], [], places) :=
  ⟨[], by kernel_rfl⟩

set_option maxRecDepth 100000 in
theorem lifted (os : Os) (started : os.Started) (H : Type) (enc : TypeId × Value → H) (F : Stop.Interp) :
    ReturnsInHanded {} Tryd.checked os 8 .any ((OpenSpec.ofChange Rows.recordSizesSpec).preRow enc Tryd.prog Tryd.f8 Rows.recordSizesRow.domain false Rows.recordSizesRow.laid) (((OpenSpec.ofChange Rows.recordSizesSpec).at F).post enc Tryd.prog Tryd.f8 false true false false) := by
  obtain ⟨places, hx⟩ := reads os enc
  refine returnsInHanded_of_row (C := Tryd.checked) (s := OpenSpec.ofChange Rows.recordSizesSpec) own started (by kernel_rfl) Tryd.func8
    (witness_row_at (enc := enc) (C := Tryd.checked) false (World.laidAll Tryd.prog os Rows.recordSizesRow.laid) #[.slice none 0 0] (World.laidAll_os _ _ _) (by kernel_rfl) (by kernel_rfl) (by kernel_rfl)
      (OpenSpec.preRow_of_cond 8 hx (by kernel_rfl) (fun k hk => by cases hk) (by kernel_rfl) (laid_met os))) ?_
  intro W base args ds gs before hval hW _ _ hsz hL _ _
  exact contract H enc W base args ds gs before hval hW hsz hL

theorem said : Rows.RecordSizesSaid :=
  OpenClaim.holds_of_cond 8 Tryd.f8 rfl rfl rfl rfl rfl rfl rfl ⟨rfl, rfl, rfl, rfl, rfl⟩ rfl rfl rfl rfl rfl (by kernel_rfl) Tryd.func8 (by kernel_rfl)
    (of_decide_eq_true (by kernel_rfl)) (by unfold Func.isWrapper; first | (rw [if_pos (by decide +kernel)]; kernel_rfl) | (rw [if_neg (by decide +kernel)]; exact ⟨rfl, rfl⟩))
    (fun os started H enc _ F => by rw [OpenClaim.pre_eq_preRow]; exact lifted os started H enc F)

theorem plain (f : FuncId) (fn : Func) (hf : Tryd.pinned.checked.prog.funcNamed "icehouse/icehouselaw03.RecordSizes" = some f) (hfn : Tryd.pinned.checked.prog.funcs[f]? = some fn) :
    false = Tryd.pinned.checked.prog.looks [] ∧ ∀ (j : Nat) t, fn.params[j]? = some t → Tryd.pinned.checked.prog.wantsStandIn t = false := by
  obtain rfl : f = 8 := Option.some.inj ((show Tryd.prog.funcNamed "icehouse/icehouselaw03.RecordSizes" = some 8 by kernel_rfl).symm.trans hf) |>.symm
  obtain rfl : fn = Tryd.f8 := (Option.some.inj (Tryd.func8.symm.trans hfn)).symm
  refine ⟨by kernel_rfl, fun j t ht => ?_⟩
  rw [Tryd.params8] at ht
  have hm : t ∈ [44] := by simpa using Array.mem_of_getElem? ht
  have hall : ([44].all fun u => !Tryd.prog.wantsStandIn u) = true := by kernel_rfl
  exact (show Tryd.prog.wantsStandIn t = false by simpa using List.all_eq_true.1 hall t hm)

/-- THE STATEMENT. -/
theorem proved : Rows.RecordSizesCardSaid :=
  Claim7.holds_tied_plain_at .later [] _ _ _ _ said (fun _ h => by cases h) (by kernel_rfl) (fun _ h => by cases h) recordSizes_row_tie rfl ⟨rfl, rfl⟩ (by kernel_rfl) rfl plain (by kernel_rfl)

end Go.Proofs.YtffpphigmdehfaaDoor.RecordSizes
