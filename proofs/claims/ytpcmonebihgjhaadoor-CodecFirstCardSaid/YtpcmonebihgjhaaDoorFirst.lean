/-
  Proved: icehouselaw01.CodecFirst answers true for every int, two []byte and int (Rows.CodecFirstCardSaid): the table is tied to the program's text by the given tie. No condition.
-/
import Derived.Test.YtpcmonebihgjhaaDoorTable
import Derived.Test.YtpcmonebihgjhaaDoorAt
import Derived.Test.YtpcmonebihgjhaaDoorBig
namespace Go.Proofs.YtpcmonebihgjhaaDoor.codecFirst
open Go.ChangeShapes Go.WideShapes Go.ChangeAt Go.RowKit Go.Icy

theorem first_ok {k : Nat} {b rest : List Nat} {v : Value} {w : World} (hk : k < 256) (hb : ∀ c ∈ b, c < 256) (hrest : ∀ c ∈ rest, c < 256) (hlen : b.length ≤ 1048576) (hmax : rest.length ≤ 140737488355328) (hv : Rd w v (frm k b ++ rest)) (hT : Tab w) :
    Calls Tryd.prog 17 #[v] w (UF w k b (frm k b).length 0) := by
  have hL := frm_len k b
  have h8 := num_len8 (n := b.length) (by omega)
  have hp := num_pos b.length
  obtain ⟨p1, p2, p3⟩ := first_parts k b rest
  have hC := crc_frm_lt hk hb
  have h := Unframe_ok v (frm k b ++ rest) w b.length (num b.length).length hv (by rw [List.length_append]; omega) (by rw [frm_split]; rfl) (by
    intro c hc
    rcases List.mem_append.1 hc with h | h
    · exact frm_lt hk hb c h
    · exact hrest c h) (by rw [List.length_append]; omega) hT (first_num hlen) hlen h8 (by rw [List.length_append]; omega) (by rw [p1, p2, p3, beN_be4 hC])
  have hg : (frm k b ++ rest).getD 1 0 = k := by rw [frm_split]; rfl
  rw [p3, hg, ← hL] at h
  exact h
theorem first_cut {k : Nat} {b : List Nat} {c : Nat} {v : Value} {w : World} (hk : k < 256) (hb : ∀ c ∈ b, c < 256) (hlen : b.length ≤ 1048576) (hc : c < (frm k b).length) (hv : Rd w v ((frm k b).take c)) :
    Calls Tryd.prog 17 #[v] w (UF w 0 [] 0 20) := by
  have hL := frm_len k b
  have h8 := num_len8 (n := b.length) (by omega)
  have hp := num_pos b.length
  have hl : ((frm k b).take c).length = c := by rw [List.length_take]; omega
  have h256 : ∀ x ∈ (frm k b).take c, x < 256 := fun x hx => frm_lt hk hb x (List.mem_of_mem_take hx)
  match c, hc, hl, h256, hv with
  | 0, _, _, _, hv => exact Unframe_empty v w hv
  | 1, _, _, _, hv => exact Unframe_one v w (by rw [frm_split] at hv; exact hv)
  | c + 2, hc, hl, h256, hv =>
    have h165 : ((frm k b).take (c + 2)).head? = some 165 := by rw [frm_split]; rfl
    by_cases hs : c + 2 < 2 + (num b.length).length
    · exact Unframe_num v _ w 0 0 20 hv (by omega) h165 h256 (by omega) (cut_num hlen (by omega) hs) (by omega)
    · exact Unframe_short v _ w b.length (num b.length).length hv (by omega) h165 h256 (by omega) (cut_rest hlen (by omega)) hlen h8 (by omega) (by omega)

set_option maxRecDepth 100000 in
set_option maxHeartbeats 1000000 in
theorem walk_main (k : Nat) (v u : Value) (b m : List Nat) (i : Int) (w : World) (hk : k < 256) (hv : Rd w v b) (hu : Rd w u m) (hb : ∀ c ∈ b, c < 256) (hm : ∀ c ∈ m, c < 256) (hlen : b.length ≤ 1048576) (hmlen : m.length ≤ 140737488351232) (hT : Tab w) :
    Calls Tryd.prog 5 #[.int .i64 (k : Int), v, u, .int .i64 i] w (Knew w) := by
  have hL := frm_len k b
  have h8 := num_len8 (n := b.length) (by omega)
  have hp := num_pos b.length
  obtain ⟨L, hLe⟩ : ∃ L, (frm k b).length = L := ⟨_, rfl⟩
  rw [hLe] at hL
  have HF := hid ((Frame_yes k v b w hk hv hb hT hlen).mono fun _ _ h => Made.at_ h hLe (by omega))
  have HLe := hid hLe
  have HB := hid hb
  have HM := hid hm
  have HT := hid hT
  have HV := hid hv
  have HU := hid hu
  obtain ⟨j, hj, ej⟩ := rot_index i (show 0 < L by omega) (by omega)
  have hLt1 : ¬ ((L : Int) < (b.length : Int) + 7) := by omega
  have hLmax : L ≤ 2097152 := by omega
  obtain ⟨A, c, rfl, _, _⟩ := hv
  clear hb hm hT hu hL hp hLe
  go_enter Tryd.func5, Tryd.ntmps5
  go_wp2_with (first
    | (go_at_call 14; refine HF.out.mono ?_; rintro e w1 ⟨g, cap, rfl, o1, hg, hg2, hcap, b1⟩; have hjc : j ≤ cap := (by omega))
    | (go_at_call 16; refine (num_any _ _).mono ?_; rintro e w' ⟨rfl, rfl⟩)
    | (at_builtin; refine wp_appR std rfl (.tmp 38) (.tmp 39) rfl w1.heap.size _ _ [] (frm k b) rfl (Own.made w1 (Nat.le_refl _)) rfl (o1.rd.alloc _) ?_ ?_ ?_; (focus (rw [HLe.out]; simp; omega)); (focus (simp; done)); intro v2 w2 o2 b2; have b2' := below_alloc (Nat.le_refl _) b2; have hs2 := b2'.size; clear b2)
    | (at_builtin; refine wp_appBig std rfl (.tmp 40) (.tmp 41) rfl w1.heap.size _ _ (frm k b) m rfl o2 rfl (HU.out.below (b1.trans (b2'.mono b1.size))) ?_ ?_ ?_ ?_ ?_; (focus omega); (focus (rw [HLe.out]; omega)); (focus (rw [HLe.out]; omega)); (focus omega); intro v3 w3 o3 b3; have b3' := b2'.trans b3; have bb3 := b1.trans (b3'.mono b1.size); clear o2 b3))
  refine (first_ok hk HB.out HM.out hlen (by omega) o3.rd (HT.out.below bb3)).mono ?_
  rw [HLe.out]
  rintro e w4 ⟨v4, rfl, r4, b4⟩
  have bb4 := bb3.trans (b4.mono bb3.size)
  have b14 := b3'.trans (b4.mono b3'.size)
  have c1 := conv_rd std r4
  have c2 := conv_rd std (HV.out.below bb4)
  have RA := hid (o1.rd.below b14)
  clear r4 o3 o1 b4
  go_wp2_with (first
    | (go_at_call 16; refine (num_any _ _).mono ?_; rintro e w' ⟨rfl, rfl⟩))
  have hcut : Rd w4 (.slice (some ⟨g, 0, none⟩) j cap) ((frm k b).take j) := by
    have h := RA.out
    rw [← HLe.out] at h
    exact h.sub 0 j cap (by rw [HLe.out]; omega) hjc
  refine (first_cut hk HB.out hlen (by rw [HLe.out]; exact hj) hcut).mono ?_
  rintro e w5 ⟨v5, rfl, _, b5⟩
  go_wp2_with (first
    | (go_at_call 16; refine (num_any _ _).mono ?_; rintro e w' ⟨rfl, rfl⟩)
    | (go_at_call 11; refine (knows_any _).mono ?_; rintro e w6 ⟨rfl, b6⟩))
  go_ret
  exact ⟨rfl, (bb4.trans (b5.mono bb4.size)).trans (b6.mono (Nat.le_trans bb4.size b5.size))⟩
set_option maxRecDepth 100000 in
set_option maxHeartbeats 1000000 in
theorem walk_fail (k : Int) (v u : Value) (b : List Nat) (i : Int) (er : Int) (w : World) (hv : Rd w v b) (hF : Calls Tryd.prog 14 #[.int .i64 k, v] w (Fails w er)) (her : (er != 0) = true) :
    Calls Tryd.prog 5 #[.int .i64 k, v, u, .int .i64 i] w (Knew w) := by
  have HF := hid hF
  clear hF
  obtain ⟨A, c, rfl, _, _⟩ := hv
  go_enter Tryd.func5, Tryd.ntmps5
  go_wp2_with (first
    | (go_at_call 14; refine HF.out.mono ?_; rintro e w1 ⟨rfl, rfl⟩)
    | (go_at_call 16; refine (num_any _ _).mono ?_; rintro e w' ⟨rfl, rfl⟩)
    | (go_at_call 11; refine (knows_any _).mono ?_; rintro e w3 ⟨rfl, b3⟩))
  go_ret
  exact ⟨rfl, b3⟩
theorem walk (k : Int) (v u : Value) (b m : List Nat) (i : Int) (w : World) (hv : Rd w v b) (hu : Rd w u m) (hb : ∀ c ∈ b, c < 256) (hm : ∀ c ∈ m, c < 256) (hlen : b.length ≤ 140737488351232) (hmlen : m.length ≤ 140737488351232) (hT : Tab w) :
    Calls Tryd.prog 5 #[.int .i64 k, v, u, .int .i64 i] w (Knew w) := by
  by_cases h : k < 0 ∨ 255 < k
  · exact walk_fail k v u b i 1 w hv (Frame_arg k v b w h hv) (by decide)
  · by_cases h2 : b.length ≤ 1048576
    · obtain ⟨n, rfl⟩ := Int.eq_ofNat_of_zero_le (show 0 ≤ k by omega)
      exact walk_main n v u b m i w (by omega) hv hu hb hm h2 hmlen hT
    · exact walk_fail k v u b i 6 w hv (Frame_size k v b w (by omega) (by omega) hv (by omega) (by omega)) (by decide)

theorem contract (H : Type) (enc : TypeId × Value → H) (W : World) (base : Nat) (args : Array Value) (ds gs : List (DataW H)) (before : List MemPlace)
    (hval : ∀ (j : Nat) t v, Tryd.f5.params[j]? = some t → args[j]? = some v → Value.okWide Tryd.prog W .any base t v)
    (hW : DataW.Whole enc Tryd.prog Tryd.f5.params.toList Rows.codecFirstSpec.vars false W args.toList ds gs before)
    (hsz : (DataW.weightsEach Tryd.prog (Tryd.f5.params.toList ++ Rows.codecFirstSpec.plain.varTypes Tryd.prog) (ds ++ gs)).all (· ≤ reachBytes) = true)
    (hL : laidMetH Tryd.prog Rows.codecFirstRow.laid W) :
    Calls Tryd.prog 5 args W fun e W' => ∃ v, e = .returned v ∧ Rows.codecFirstSpec.post enc Tryd.prog Tryd.f5 false true false false W args v W' := by
  have hW' := hW
  obtain ⟨p, q, hA0, hV, rfl, hfz, hnd⟩ := hW
  have hA : DataW.TrodAll enc Tryd.prog W 0 (fun _ => true) true Tryd.f5.params.toList args.toList ds p := hA0
  rw [Tryd.params5] at hA hval hsz
  obtain ⟨v0, vs0, d0, ds0, p0, q0, hargs, rfl, rfl, h0, r0⟩ := trodAll_cons hA
  obtain ⟨v1, vs1, d1, ds1, p1, q1, rfl, rfl, rfl, h1, r1⟩ := trodAll_cons r0
  obtain ⟨v2, vs2, d2, ds2, p2, q2, rfl, rfl, rfl, h2, r2⟩ := trodAll_cons r1
  obtain ⟨v3, vs3, d3, ds3, p3, q3, rfl, rfl, rfl, h3, r3⟩ := trodAll_cons r2
  obtain ⟨rfl, rfl, rfl⟩ := trodAll_nil r3
  obtain rfl : args = #[v0, v1, v2, v3] := by cases args; simp_all
  obtain ⟨rfl, rfl⟩ := trodVars_none hV
  obtain ⟨a0, rfl, rfl, rfl, w0⟩ := open_int Tryd.underlying3 (hval 0 3 v0 rfl rfl) h0
  obtain ⟨a1, len1, cap1, rfl⟩ := okWide_slice Tryd.underlying22 (hval 1 22 v1 rfl rfl)
  have lt1 : ∀ x ∈ p1, x.block < W.heap.size := by
    obtain ⟨m, hm⟩ := h1
    exact DataW.trod_lt m _ _ _ hm
  obtain ⟨l1, hll1, hr1, hb1, hd1⟩ := open_rd std cells5 h1
  have z1 : l1.length ≤ 140737488351232 := by
    rcases hd1 with ⟨_, rfl⟩ | ⟨el, sp, rfl, he, hc⟩
    · simp
    · have h1 := sized_slice hsz (j := 1) (t := 22) (e := 5) rfl rfl Tryd.underlying22
      rw [bytes5] at h1
      simp only [reachBytes] at h1
      omega
  obtain ⟨a2, len2, cap2, rfl⟩ := okWide_slice Tryd.underlying22 (hval 2 22 v2 rfl rfl)
  have lt2 : ∀ x ∈ p2, x.block < W.heap.size := by
    obtain ⟨m, hm⟩ := h2
    exact DataW.trod_lt m _ _ _ hm
  obtain ⟨l2, hll2, hr2, hb2, hd2⟩ := open_rd std cells5 h2
  have z2 : l2.length ≤ 140737488351232 := by
    rcases hd2 with ⟨_, rfl⟩ | ⟨el, sp, rfl, he, hc⟩
    · simp
    · have h1 := sized_slice hsz (j := 2) (t := 22) (e := 5) rfl rfl Tryd.underlying22
      rw [bytes5] at h1
      simp only [reachBytes] at h1
      omega
  obtain ⟨a3, rfl, rfl, rfl, w3⟩ := open_int Tryd.underlying3 (hval 3 3 v3 rfl rfl) h3
  clear hA0
  refine (walk a0 _ _ l1 l2 a3 W hr1 hr2 hb1 hb2 z1 z2 (table hL)).mono fun e W' ⟨he, bel⟩ => ?_
  subst he
  exact ⟨_, rfl, _, _, _, [], _, [], hW', trodAll_mk1 (shut_bool Tryd.underlying4 _), (trodAll_cons_mk (shut_int Tryd.underlying3 w0) (trodAll_cons_mk (Below.trod laidOut (by kernel_rfl) (of_decide_eq_true (by kernel_rfl)) h1 bel lt1) (trodAll_cons_mk (Below.trod laidOut (by kernel_rfl) (of_decide_eq_true (by kernel_rfl)) h2 bel lt2) (trodAll_cons_mk (shut_int Tryd.underlying3 w3) trodAll_mk0)))), rfl, bel.frame _, fun h => by cases h⟩

theorem laid_met (os : Os) : laidMet Tryd.prog Rows.codecFirstRow.laid ((laidWorld os).forCall (fun _ _ => 0) ⟨#[], #[.int .i64 0, .slice none 0 0, .slice none 0 0, .int .i64 0], []⟩).memory :=
  laidMet_of_run' 8 (by kernel_rfl) (by kernel_rfl)
theorem reads (os : Os) {H : Type} (enc : TypeId × Value → H) : ∃ places, DataW.whole enc Tryd.prog ((laidWorld os).forCall (fun _ _ => 0) ⟨#[], #[.int .i64 0, .slice none 0 0, .slice none 0 0, .int .i64 0], []⟩).memory Tryd.f5.params.toList Rows.codecFirstSpec.vars false #[.int .i64 0, .slice none 0 0, .slice none 0 0, .int .i64 0].toList 8 = some ([.lit (.int .i64 0), .nil, .nil, .lit (.int .i64 0)], [], places) :=
  ⟨[], by kernel_rfl⟩

set_option maxRecDepth 100000 in
theorem lifted (os : Os) (started : os.Started) (H : Type) (enc : TypeId × Value → H) (F : Stop.Interp) :
    ReturnsInHanded {} Tryd.checked os 5 .any ((OpenSpec.ofChange Rows.codecFirstSpec).preRow enc Tryd.prog Tryd.f5 Rows.codecFirstRow.domain false Rows.codecFirstRow.laid) (((OpenSpec.ofChange Rows.codecFirstSpec).at F).post enc Tryd.prog Tryd.f5 false true false false) := by
  obtain ⟨places, hx⟩ := reads os enc
  refine returnsInHanded_of_row (C := Tryd.checked) (s := OpenSpec.ofChange Rows.codecFirstSpec) own started (by kernel_rfl) Tryd.func5
    (witness_row_at (enc := enc) (C := Tryd.checked) false (laidWorld os) #[.int .i64 0, .slice none 0 0, .slice none 0 0, .int .i64 0] rfl (by kernel_rfl) (by kernel_rfl) (by kernel_rfl)
      (OpenSpec.preRow_of_cond 8 hx (by kernel_rfl) (fun k hk => by cases hk) (by kernel_rfl) (laid_met os))) ?_
  intro W base args ds gs before hval hW _ _ hsz hL _ _
  exact contract H enc W base args ds gs before hval hW hsz hL

theorem said : Rows.CodecFirstSaid :=
  OpenClaim.holds_of_cond 5 Tryd.f5 rfl rfl rfl rfl rfl rfl rfl ⟨rfl, rfl, rfl, rfl, rfl⟩ rfl rfl rfl rfl rfl (by kernel_rfl) Tryd.func5 (by kernel_rfl)
    (of_decide_eq_true (by kernel_rfl)) (by unfold Func.isWrapper; first | (rw [if_pos (by decide +kernel)]; kernel_rfl) | (rw [if_neg (by decide +kernel)]; exact ⟨rfl, rfl⟩))
    (fun os started H enc _ F => by rw [OpenClaim.pre_eq_preRow]; exact lifted os started H enc F)

theorem plain (f : FuncId) (fn : Func) (hf : Tryd.pinned.checked.prog.funcNamed "icehouse/icehouselaw01.CodecFirst" = some f) (hfn : Tryd.pinned.checked.prog.funcs[f]? = some fn) :
    false = Tryd.pinned.checked.prog.looks [] ∧ ∀ (j : Nat) t, fn.params[j]? = some t → Tryd.pinned.checked.prog.wantsStandIn t = false := by
  obtain rfl : f = 5 := Option.some.inj ((show Tryd.prog.funcNamed "icehouse/icehouselaw01.CodecFirst" = some 5 by kernel_rfl).symm.trans hf) |>.symm
  obtain rfl : fn = Tryd.f5 := (Option.some.inj (Tryd.func5.symm.trans hfn)).symm
  refine ⟨by kernel_rfl, fun j t ht => ?_⟩
  rw [Tryd.params5] at ht
  have hm : t ∈ [3, 22, 22, 3] := by simpa using Array.mem_of_getElem? ht
  have hall : ([3, 22, 22, 3].all fun u => !Tryd.prog.wantsStandIn u) = true := by kernel_rfl
  exact (show Tryd.prog.wantsStandIn t = false by simpa using List.all_eq_true.1 hall t hm)

/-- THE STATEMENT. -/
theorem proved : Rows.CodecFirstCardSaid :=
  Claim7.holds_tied_plain_at .later [] _ _ _ _ said (fun _ h => by cases h) (by kernel_rfl) (fun _ h => by cases h) codecFirst_row_tie rfl ⟨rfl, rfl⟩ (by kernel_rfl) rfl plain (by kernel_rfl)
end Go.Proofs.YtpcmonebihgjhaaDoor.codecFirst
