/-
  Proved: icehouselaw01.CodecRot answers true for every int, []byte, int and byte (Rows.CodecRotCardSaid): the table is tied to the program's text by the given tie. No condition.
-/
import Derived.Test.YtpcmonebihgjhaaDoorTable
import Derived.Test.YtpcmonebihgjhaaDoorAt
namespace Go.Proofs.YtpcmonebihgjhaaDoor.codecRot
open Go.ChangeShapes Go.WideShapes Go.ChangeAt Go.RowKit Go.Icy

/-- What Unframe answers of the spoilt frame: an error, or another length. -/
def Spoilt (w : World) (L : Nat) (e : Ending) (w' : World) : Prop :=
  ∃ (k : Nat) (v : Value) (n er : Nat), e = .returned (.tuple #[.int .i64 (k : Int), v, .int .i64 (n : Int), .int .i64 (er : Int)]) ∧ (((er : Int) != 0) = true ∨ ((er : Int) != 0) = false ∧ ((n : Int) != (L : Int)) = true) ∧ Below w.heap.size w w'
theorem spoilt {k : Nat} {b : List Nat} {v : Value} {w : World} {j y L : Nat} (hk : k < 256) (hb : ∀ c ∈ b, c < 256) (hlen : b.length ≤ 1048576) (hL : (frm k b).length = L) (hj : j < (frm k b).length) (hy : y < 256) (hne : y ≠ (frm k b)[j])
    (hv : Rd w v ((frm k b).set j y)) (hT : Tab w) : Calls Tryd.prog 17 #[v] w (Spoilt w L) := by
  have h256 : ∀ c ∈ (frm k b).set j y, c < 256 := by
    intro c hc
    rcases List.mem_or_eq_of_mem_set hc with h | h
    · exact frm_lt hk hb c h
    · omega
  have h8 := num_len8 (n := b.length) (by omega)
  have hfl := frm_len k b
  refine (Unframe_gen v _ w hv h256 (by rw [List.length_set]; omega) hT).mono ?_
  rintro e w' ⟨k', inn, n, er, ⟨u, rfl, _, hbel⟩, _, _, himp⟩
  refine ⟨k', u, n, er, rfl, ?_, hbel⟩
  by_cases he : er = 0
  · refine .inr ⟨by rw [he]; rfl, ?_⟩
    rw [bne_iff_ne]
    intro hn
    obtain ⟨h165, n', s', hr, hsum, hcrc⟩ := himp he
    exact rot hk hb hlen hj hy hne h165 hr (by omega) hcrc
  · exact .inl (by rw [bne_iff_ne]; omega)

set_option maxRecDepth 100000 in
set_option maxHeartbeats 1000000 in
theorem walk_main (k : Nat) (v : Value) (b : List Nat) (i : Int) (x : Nat) (w : World) (hk : k < 256) (hv : Rd w v b) (hb : ∀ c ∈ b, c < 256) (hlen : b.length ≤ 1048576) (hT : Tab w) (hx : x < 256) (hx0 : x ≠ 0) :
    Calls Tryd.prog 6 #[.int .i64 (k : Int), v, .int .i64 i, .int .u8 (x : Int)] w (Knew w) := by
  have hL := frm_len k b
  have h8 := num_len8 (n := b.length) (by omega)
  have hp := num_pos b.length
  have HL := hid (frm_lt hk hb)
  have HT := hid hT
  have hx1 : ((x : Int) == 0) = false := by rw [beq_eq_false_iff_ne]; omega
  obtain ⟨L, hLe⟩ : ∃ L, (frm k b).length = L := ⟨_, rfl⟩
  rw [hLe] at hL
  have HF := hid ((Frame_yes k v b w hk hv hb hT hlen).mono fun _ _ h => Made.at_ h hLe (by omega))
  have HLe := hid hLe
  have hLt1 : ¬ ((L : Int) < (b.length : Int) + 7) := by omega
  obtain ⟨j, hj, ej⟩ := rot_index i (show 0 < L by omega) (by omega)
  have hjf : j < (frm k b).length := by omega
  obtain ⟨y, ey, hy, hne⟩ := xor8 (HL.out _ (List.getElem_mem hjf)) hx hx0
  have HNE := hid hne
  have hold := hid (show ∀ w1 g cap, Own w1 w.heap.size (.slice (some ⟨g, 0, none⟩) L cap) (frm k b) → w1.cell? ⟨g, j, none⟩ = some (.int .u8 ((frm k b)[j] : Int)) from fun _ _ _ h => h.at_ hjf)
  have HSP := hid (show ∀ w1 g cap, Own w1 w.heap.size (.slice (some ⟨g, 0, none⟩) L cap) (frm k b) → Tab w1 → Below w.heap.size w w1 → w.heap.size ≤ g → Calls Tryd.prog 17 #[.slice (some ⟨g, 0, none⟩) L cap] (w1.setCell ⟨g, j, none⟩ (.int .u8 (y : Int))) (Spoilt (w1.setCell ⟨g, j, none⟩ (.int .u8 (y : Int))) L) from
    fun w1 g cap h1 _ h3 hg => spoilt hk hb hlen hLe hjf hy hne (h1.set_ y).rd (hT.below (h3.setCell (p := ⟨g, j, none⟩) hg (.int .u8 (y : Int)))))
  generalize (frm k b)[j] = old at *
  obtain ⟨A, c, rfl, _, _⟩ := hv
  clear hb hT hL hp hLe hne hjf
  go_enter Tryd.func6, Tryd.ntmps6
  go_wp2_with (first
    | (go_at_call 14; refine HF.out.mono ?_; rintro e w1 ⟨g, cap, rfl, o1, hg, hg2, hcap, b1⟩; have hc1 := hold.out _ _ _ o1; have hf1 := o1.free (j := j))
    | (go_at_call 16; refine (num_any _ _).mono ?_; rintro e w' ⟨rfl, rfl⟩))
  refine (HSP.out _ _ _ o1 (HT.out.below (b1)) b1 hg).mono ?_
  rintro e w2 ⟨k2, u2, n2, er2, rfl, (hE | ⟨hE, hN⟩), b2⟩
  · go_wp2_with (first
      | (go_at_call 16; refine (num_any _ _).mono ?_; rintro e w' ⟨rfl, rfl⟩)
      | (go_at_call 11; refine (knows_any _).mono ?_; rintro e w3 ⟨rfl, b3⟩))
    go_ret
    exact ⟨rfl, ((b1.setCell hg _).trans (b2.mono (b1.setCell (p := ⟨g, j, none⟩) hg (.int .u8 (y : Int))).size)).trans (b3.mono (Nat.le_trans (b1.setCell (p := ⟨g, j, none⟩) hg (.int .u8 (y : Int))).size b2.size))⟩
  · go_wp2_with (first
      | (go_at_call 16; refine (num_any _ _).mono ?_; rintro e w' ⟨rfl, rfl⟩)
      | (go_at_call 11; refine (knows_any _).mono ?_; rintro e w3 ⟨rfl, b3⟩))
    go_ret
    exact ⟨rfl, ((b1.setCell hg _).trans (b2.mono (b1.setCell (p := ⟨g, j, none⟩) hg (.int .u8 (y : Int))).size)).trans (b3.mono (Nat.le_trans (b1.setCell (p := ⟨g, j, none⟩) hg (.int .u8 (y : Int))).size b2.size))⟩

set_option maxRecDepth 100000 in
set_option maxHeartbeats 1000000 in
theorem walk_fail (k : Int) (v : Value) (b : List Nat) (i : Int) (x : Int) (er : Int) (w : World) (hv : Rd w v b) (hF : Calls Tryd.prog 14 #[.int .i64 k, v] w (Fails w er)) (her : (er != 0) = true) (_hmax : b.length ≤ 4611686018427387904) :
    Calls Tryd.prog 6 #[.int .i64 k, v, .int .i64 i, .int .u8 x] w (Knew w) := by
  have HF := hid hF
  clear hF
  obtain ⟨A, c, rfl, _, _⟩ := hv
  go_enter Tryd.func6, Tryd.ntmps6
  go_wp2_with (first
    | (go_at_call 14; refine HF.out.mono ?_; rintro e w1 ⟨rfl, rfl⟩)
    | (go_at_call 16; refine (num_any _ _).mono ?_; rintro e w' ⟨rfl, rfl⟩)
    | (go_at_call 11; refine (knows_any _).mono ?_; rintro e w3 ⟨rfl, b3⟩))
  go_ret
  exact ⟨rfl, b3⟩
set_option maxRecDepth 100000 in
set_option maxHeartbeats 1000000 in
theorem walk_zero (k : Nat) (v : Value) (b : List Nat) (i : Int) (w : World) (hk : k < 256) (hv : Rd w v b) (hb : ∀ c ∈ b, c < 256) (hlen : b.length ≤ 1048576) (hT : Tab w) :
    Calls Tryd.prog 6 #[.int .i64 (k : Int), v, .int .i64 i, .int .u8 0] w (Knew w) := by
  have hL := frm_len k b
  have hp := num_pos b.length
  have h8 := num_len8 (n := b.length) (by omega)
  obtain ⟨L, hLe⟩ : ∃ L, (frm k b).length = L := ⟨_, rfl⟩
  rw [hLe] at hL
  have HF := hid ((Frame_yes k v b w hk hv hb hT hlen).mono fun _ _ h => Made.at_ h hLe (by omega))
  have hLt1 : ¬ ((L : Int) < (b.length : Int) + 7) := by omega
  obtain ⟨A, c, rfl, _, _⟩ := hv
  clear hb hT hL hp hLe
  go_enter Tryd.func6, Tryd.ntmps6
  go_wp2_with (first
    | (go_at_call 14; refine HF.out.mono ?_; rintro e w1 ⟨g, cap, rfl, o1, hg, hg2, hcap, b1⟩)
    | (go_at_call 16; refine (num_any _ _).mono ?_; rintro e w' ⟨rfl, rfl⟩)
    | (go_at_call 11; refine (knows_any _).mono ?_; rintro e w3 ⟨rfl, b3⟩))
  go_ret
  exact ⟨rfl, b1.trans (b3.mono b1.size)⟩
theorem walk (k : Int) (v : Value) (b : List Nat) (i : Int) (x : Int) (w : World) (hv : Rd w v b) (hb : ∀ c ∈ b, c < 256) (hlen : b.length ≤ 140737488351232) (hT : Tab w) (hx : (Lit.int .u8 x).wf = true) :
    Calls Tryd.prog 6 #[.int .i64 k, v, .int .i64 i, .int .u8 x] w (Knew w) := by
  have hxb := bounds_u8 hx
  by_cases h : k < 0 ∨ 255 < k
  · exact walk_fail k v b i x 1 w hv (Frame_arg k v b w h hv) (by decide) (by omega)
  · by_cases h2 : b.length ≤ 1048576
    · obtain ⟨n, rfl⟩ := Int.eq_ofNat_of_zero_le (show 0 ≤ k by omega)
      by_cases hx0 : x = 0
      · subst hx0
        exact walk_zero n v b i w (by omega) hv hb h2 hT
      · obtain ⟨y, rfl⟩ := Int.eq_ofNat_of_zero_le hxb.1
        exact walk_main n v b i y w (by omega) hv hb h2 hT (by omega) (by omega)
    · exact walk_fail k v b i x 6 w hv (Frame_size k v b w (by omega) (by omega) hv (by omega) (by omega)) (by decide) (by omega)

theorem contract (H : Type) (enc : TypeId × Value → H) (W : World) (base : Nat) (args : Array Value) (ds gs : List (DataW H)) (before : List MemPlace)
    (hval : ∀ (j : Nat) t v, Tryd.f6.params[j]? = some t → args[j]? = some v → Value.okWide Tryd.prog W .any base t v)
    (hW : DataW.Whole enc Tryd.prog Tryd.f6.params.toList Rows.codecRotSpec.vars false W args.toList ds gs before)
    (hsz : (DataW.weightsEach Tryd.prog (Tryd.f6.params.toList ++ Rows.codecRotSpec.plain.varTypes Tryd.prog) (ds ++ gs)).all (· ≤ reachBytes) = true)
    (hL : laidMetH Tryd.prog Rows.codecRotRow.laid W) :
    Calls Tryd.prog 6 args W fun e W' => ∃ v, e = .returned v ∧ Rows.codecRotSpec.post enc Tryd.prog Tryd.f6 false true false false W args v W' := by
  have hW' := hW
  obtain ⟨p, q, hA0, hV, rfl, hfz, hnd⟩ := hW
  have hA : DataW.TrodAll enc Tryd.prog W 0 (fun _ => true) true Tryd.f6.params.toList args.toList ds p := hA0
  rw [Tryd.params6] at hA hval hsz
  obtain ⟨v0, vs0, d0, ds0, p0, q0, hargs, rfl, rfl, h0, r0⟩ := trodAll_cons hA
  obtain ⟨v1, vs1, d1, ds1, p1, q1, rfl, rfl, rfl, h1, r1⟩ := trodAll_cons r0
  obtain ⟨v2, vs2, d2, ds2, p2, q2, rfl, rfl, rfl, h2, r2⟩ := trodAll_cons r1
  obtain ⟨v3, vs3, d3, ds3, p3, q3, rfl, rfl, rfl, h3, r3⟩ := trodAll_cons r2
  obtain ⟨rfl, rfl, rfl⟩ := trodAll_nil r3
  obtain rfl : args = #[v0, v1, v2, v3] := by cases args; simp_all
  obtain ⟨rfl, rfl⟩ := trodVars_none hV
  obtain ⟨a0, rfl, rfl, rfl, w0⟩ := open_int Tryd.underlying3 (hval 0 3 v0 rfl rfl) h0
  obtain ⟨a1, len1, cap1, rfl⟩ := okWide_slice Tryd.underlying22 (hval 1 22 v1 rfl rfl)
  have lt1 : ∀ x ∈ p1, x.block < W.heap.size := by
    obtain ⟨m, hm⟩ := h1
    exact DataW.trod_lt m _ _ _ hm
  obtain ⟨l1, hll1, hr1, hb1, hd1⟩ := open_rd std cells5 h1
  have z1 : l1.length ≤ 140737488351232 := by
    rcases hd1 with ⟨_, rfl⟩ | ⟨el, sp, rfl, he, hc⟩
    · simp
    · have h1 := sized_slice hsz (j := 1) (t := 22) (e := 5) rfl rfl Tryd.underlying22
      rw [bytes5] at h1
      simp only [reachBytes] at h1
      omega
  obtain ⟨a2, rfl, rfl, rfl, w2⟩ := open_int Tryd.underlying3 (hval 2 3 v2 rfl rfl) h2
  obtain ⟨a3, rfl, rfl, rfl, w3⟩ := open_int Tryd.underlying5 (hval 3 5 v3 rfl rfl) h3
  clear hA0
  refine (walk a0 _ l1 a2 a3 W hr1 hb1 z1 (table hL) w3).mono fun e W' ⟨he, bel⟩ => ?_
  subst he
  exact ⟨_, rfl, _, _, _, [], _, [], hW', trodAll_mk1 (shut_bool Tryd.underlying4 _), (trodAll_cons_mk (shut_int Tryd.underlying3 w0) (trodAll_cons_mk (Below.trod laidOut (by kernel_rfl) (of_decide_eq_true (by kernel_rfl)) h1 bel lt1) (trodAll_cons_mk (shut_int Tryd.underlying3 w2) (trodAll_cons_mk (shut_int Tryd.underlying5 w3) trodAll_mk0)))), rfl, bel.frame _, fun h => by cases h⟩

theorem laid_met (os : Os) : laidMet Tryd.prog Rows.codecRotRow.laid ((laidWorld os).forCall (fun _ _ => 0) ⟨#[], #[.int .i64 0, .slice none 0 0, .int .i64 0, .int .u8 0], []⟩).memory :=
  laidMet_of_run' 8 (by kernel_rfl) (by kernel_rfl)
theorem reads (os : Os) {H : Type} (enc : TypeId × Value → H) : ∃ places, DataW.whole enc Tryd.prog ((laidWorld os).forCall (fun _ _ => 0) ⟨#[], #[.int .i64 0, .slice none 0 0, .int .i64 0, .int .u8 0], []⟩).memory Tryd.f6.params.toList Rows.codecRotSpec.vars false #[.int .i64 0, .slice none 0 0, .int .i64 0, .int .u8 0].toList 8 = some ([.lit (.int .i64 0), .nil, .lit (.int .i64 0), .lit (.int .u8 0)], [], places) :=
  ⟨[], by kernel_rfl⟩

set_option maxRecDepth 100000 in
theorem lifted (os : Os) (started : os.Started) (H : Type) (enc : TypeId × Value → H) (F : Stop.Interp) :
    ReturnsInHanded {} Tryd.checked os 6 .any ((OpenSpec.ofChange Rows.codecRotSpec).preRow enc Tryd.prog Tryd.f6 Rows.codecRotRow.domain false Rows.codecRotRow.laid) (((OpenSpec.ofChange Rows.codecRotSpec).at F).post enc Tryd.prog Tryd.f6 false true false false) := by
  obtain ⟨places, hx⟩ := reads os enc
  refine returnsInHanded_of_row (C := Tryd.checked) (s := OpenSpec.ofChange Rows.codecRotSpec) own started (by kernel_rfl) Tryd.func6
    (witness_row_at (enc := enc) (C := Tryd.checked) false (laidWorld os) #[.int .i64 0, .slice none 0 0, .int .i64 0, .int .u8 0] rfl (by kernel_rfl) (by kernel_rfl) (by kernel_rfl)
      (OpenSpec.preRow_of_cond 8 hx (by kernel_rfl) (fun k hk => by cases hk) (by kernel_rfl) (laid_met os))) ?_
  intro W base args ds gs before hval hW _ _ hsz hL _ _
  exact contract H enc W base args ds gs before hval hW hsz hL

theorem said : Rows.CodecRotSaid :=
  OpenClaim.holds_of_cond 6 Tryd.f6 rfl rfl rfl rfl rfl rfl rfl ⟨rfl, rfl, rfl, rfl, rfl⟩ rfl rfl rfl rfl rfl (by kernel_rfl) Tryd.func6 (by kernel_rfl)
    (of_decide_eq_true (by kernel_rfl)) (by unfold Func.isWrapper; first | (rw [if_pos (by decide +kernel)]; kernel_rfl) | (rw [if_neg (by decide +kernel)]; exact ⟨rfl, rfl⟩))
    (fun os started H enc _ F => by rw [OpenClaim.pre_eq_preRow]; exact lifted os started H enc F)

theorem plain (f : FuncId) (fn : Func) (hf : Tryd.pinned.checked.prog.funcNamed "icehouse/icehouselaw01.CodecRot" = some f) (hfn : Tryd.pinned.checked.prog.funcs[f]? = some fn) :
    false = Tryd.pinned.checked.prog.looks [] ∧ ∀ (j : Nat) t, fn.params[j]? = some t → Tryd.pinned.checked.prog.wantsStandIn t = false := by
  obtain rfl : f = 6 := Option.some.inj ((show Tryd.prog.funcNamed "icehouse/icehouselaw01.CodecRot" = some 6 by kernel_rfl).symm.trans hf) |>.symm
  obtain rfl : fn = Tryd.f6 := (Option.some.inj (Tryd.func6.symm.trans hfn)).symm
  refine ⟨by kernel_rfl, fun j t ht => ?_⟩
  rw [Tryd.params6] at ht
  have hm : t ∈ [3, 22, 3, 5] := by simpa using Array.mem_of_getElem? ht
  have hall : ([3, 22, 3, 5].all fun u => !Tryd.prog.wantsStandIn u) = true := by kernel_rfl
  exact (show Tryd.prog.wantsStandIn t = false by simpa using List.all_eq_true.1 hall t hm)

/-- THE STATEMENT. -/
theorem proved : Rows.CodecRotCardSaid :=
  Claim7.holds_tied_plain_at .later [] _ _ _ _ said (fun _ h => by cases h) (by kernel_rfl) (fun _ h => by cases h) codecRot_row_tie rfl ⟨rfl, rfl⟩ (by kernel_rfl) rfl plain (by kernel_rfl)
end Go.Proofs.YtpcmonebihgjhaaDoor.codecRot
