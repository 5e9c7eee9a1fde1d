/-
  Proved: icehouselaw01.CodecFrames answers true for every string, int and []byte (Rows.CodecFramesCardSaid): the table is tied to the program's text by the given tie. No condition.
-/
import Derived.Test.YtpcmonebihgjhaaDoorTable
import Derived.Test.YtpcmonebihgjhaaDoorLent
import Derived.Test.YtpcmonebihgjhaaDoorFrame
namespace Go.Proofs.YtpcmonebihgjhaaDoor.codecFrames
open Go.ChangeShapes Go.WideShapes Go.ChangeAt Go.RowKit Go.Icy
open Go.ChangeMaps (open_string shut_string)

/-- It answers bytes that read as l, and the number k. -/
def Ans (w : World) (l : List Nat) (k : Int) (e : Ending) (w' : World) : Prop := ∃ v, e = .returned (.tuple #[v, .int .i64 k]) ∧ Rd w' v l ∧ Below w.heap.size w w'
theorem ans_made {w : World} {l : List Nat} {e : Ending} {w' : World} (h : Made w l e w') : Ans w l 0 e w' := by
  obtain ⟨v, he, ho, hb⟩ := h
  exact ⟨v, he, ho.rd, hb⟩
theorem ans_fails {w : World} {k : Int} {e : Ending} {w' : World} (h : Fails w k e w') : Ans w [] k e w' := by
  obtain ⟨rfl, rfl⟩ := h
  exact ⟨_, rfl, Rd.nil _, Below.refl _ _⟩
def txtL (s : ByteArray) : List Nat := if s.size ≤ 65536 then txt s else []
def txtE (s : ByteArray) : Int := if s.size ≤ 65536 then 0 else 6
def frmL (k : Int) (b : List Nat) : List Nat := if k < 0 ∨ 255 < k then [] else if b.length ≤ 1048576 then frm k.toNat b else []
def frmE (k : Int) (b : List Nat) : Int := if k < 0 ∨ 255 < k then 1 else if b.length ≤ 1048576 then 0 else 6
theorem Text_ans (s : ByteArray) (w : World) : Calls Tryd.prog 12 #[.string s] w (Ans w (txtL s) (txtE s)) := by
  unfold txtL txtE
  by_cases h : s.size ≤ 65536
  · rw [if_pos h, if_pos h]
    exact (Text_yes s w h).mono fun _ _ hh => ans_made hh
  · rw [if_neg h, if_neg h]
    exact (Text_no s w (by omega)).mono fun _ _ hh => ans_fails hh
theorem ref_Text_ans (s : ByteArray) (w : World) : Calls Tryd.prog 13 #[.string s] w (Ans w (txtL s) (txtE s)) := by
  unfold txtL txtE
  by_cases h : s.size ≤ 65536
  · rw [if_pos h, if_pos h]
    exact (ref_Text_yes s w h).mono fun _ _ hh => ans_made hh
  · rw [if_neg h, if_neg h]
    exact (ref_Text_no s w (by omega)).mono fun _ _ hh => ans_fails hh
theorem Frame_ans (k : Int) (v : Value) (b : List Nat) (w : World) (hv : Rd w v b) (hb : ∀ c ∈ b, c < 256) (hT : Tab w) (hmax : b.length ≤ 9223372036854775807) : Calls Tryd.prog 14 #[.int .i64 k, v] w (Ans w (frmL k b) (frmE k b)) := by
  unfold frmL frmE
  by_cases h : k < 0 ∨ 255 < k
  · rw [if_pos h, if_pos h]
    exact (Frame_arg k v b w h hv).mono fun _ _ hh => ans_fails hh
  · rw [if_neg h, if_neg h]
    by_cases h2 : b.length ≤ 1048576
    · rw [if_pos h2, if_pos h2]
      obtain ⟨n, rfl⟩ := Int.eq_ofNat_of_zero_le (show 0 ≤ k by omega)
      rw [Int.toNat_natCast]
      exact (Frame_yes n v b w (by omega) hv hb hT h2).mono fun _ _ hh => ans_made hh
    · rw [if_neg h2, if_neg h2]
      exact (Frame_size k v b w (by omega) (by omega) hv (by omega) hmax).mono fun _ _ hh => ans_fails hh
theorem ref_Frame_ans (k : Int) (v : Value) (b : List Nat) (w : World) (hv : Rd w v b) (hb : ∀ c ∈ b, c < 256) (hmax : b.length ≤ 9223372036854775807) : Calls Tryd.prog 15 #[.int .i64 k, v] w (Ans w (frmL k b) (frmE k b)) := by
  unfold frmL frmE
  by_cases h : k < 0 ∨ 255 < k
  · rw [if_pos h, if_pos h]
    exact (ref_Frame_arg k v b w h hv).mono fun _ _ hh => ans_fails hh
  · rw [if_neg h, if_neg h]
    by_cases h2 : b.length ≤ 1048576
    · rw [if_pos h2, if_pos h2]
      obtain ⟨n, rfl⟩ := Int.eq_ofNat_of_zero_le (show 0 ≤ k by omega)
      rw [Int.toNat_natCast]
      exact (ref_Frame_yes n v b w (by omega) hv hb h2).mono fun _ _ hh => ans_made hh
    · rw [if_neg h2, if_neg h2]
      exact (ref_Frame_size k v b w (by omega) (by omega) hv (by omega) hmax).mono fun _ _ hh => ans_fails hh

set_option maxRecDepth 100000 in
set_option maxHeartbeats 1000000 in
theorem walk (s : ByteArray) (k : Int) (v : Value) (l : List Nat) (hlen : l.length ≤ 140737488351232) (hb : ∀ c ∈ l, c < 256) (w : World) (hv : Rd w v l) (hT : Tab w) :
    Calls Tryd.prog 4 #[.string s, .int .i64 k, v] w (Knew w) := by
  have HV := hid hv
  have HL := hid hb
  have HT := hid hT
  clear hv hb hT
  go_enter Tryd.func4, Tryd.ntmps4
  go_wp2_with (first
    | (go_at_call 7; refine (Lent_any _ l _ HV.out hlen).mono ?_; rintro e w1 ⟨u, rfl, hu, b1⟩; have HU := hid hu; clear hu)
    | (go_at_call 12; refine (Text_ans _ _).mono ?_; rintro e w2 ⟨v2, rfl, r2, b2⟩; have bb2 := b1.trans (b2.mono b1.size))
    | (go_at_call 13; refine (ref_Text_ans _ _).mono ?_; rintro e w3 ⟨v3, rfl, r3, b3⟩; have bb3 := bb2.trans (b3.mono bb2.size); have b13 := b2.trans (b3.mono b2.size))
    | (go_at_call 14; refine (Frame_ans _ _ l _ (HU.out.rd.below b13) HL.out (HT.out.below bb3) (by omega)).mono ?_; rintro e w4 ⟨v4, rfl, r4, b4⟩; have bb4 := bb3.trans (b4.mono bb3.size); have b14 := b13.trans (b4.mono b13.size))
    | (go_at_call 15; refine (ref_Frame_ans _ _ l _ (HV.out.below bb4) HL.out (by omega)).mono ?_; rintro e w5 ⟨v5, rfl, r5, b5⟩; have bb5 := bb4.trans (b5.mono bb4.size); have b15 := b14.trans (b5.mono b14.size); have c2 := conv_rd std (((r2.below b3).below b4).below b5); have c3 := conv_rd std ((r3.below b4).below b5); have c4 := conv_rd std (r4.below b5); have c5 := conv_rd std r5; clear r2 r3 r4 r5 b2 b3 b4 b5)
    | (go_at_call 16; refine (num_any _ _).mono ?_; rintro e w' ⟨rfl, rfl⟩)
    | (go_at_call 10; refine (Stays_any _ _ _ l _ (HU.out.below b15) (HV.out.below bb5) hlen).mono ?_; rintro e w6 ⟨rfl, b6⟩)
    | (go_at_call 11; refine (knows_any _).mono ?_; rintro e w7 ⟨rfl, b7⟩))
  go_ret
  exact ⟨rfl, (bb5.trans (b6.mono bb5.size)).trans (b7.mono (Nat.le_trans bb5.size b6.size))⟩

theorem contract (H : Type) (enc : TypeId × Value → H) (W : World) (base : Nat) (args : Array Value) (ds gs : List (DataW H)) (before : List MemPlace)
    (hval : ∀ (j : Nat) t v, Tryd.f4.params[j]? = some t → args[j]? = some v → Value.okWide Tryd.prog W .any base t v)
    (hW : DataW.Whole enc Tryd.prog Tryd.f4.params.toList Rows.codecFramesSpec.vars false W args.toList ds gs before)
    (hsz : (DataW.weightsEach Tryd.prog (Tryd.f4.params.toList ++ Rows.codecFramesSpec.plain.varTypes Tryd.prog) (ds ++ gs)).all (· ≤ reachBytes) = true)
    (hL : laidMetH Tryd.prog Rows.codecFramesRow.laid W) :
    Calls Tryd.prog 4 args W fun e W' => ∃ v, e = .returned v ∧ Rows.codecFramesSpec.post enc Tryd.prog Tryd.f4 false true false false W args v W' := by
  have hW' := hW
  obtain ⟨p, q, hA0, hV, rfl, hfz, hnd⟩ := hW
  have hA : DataW.TrodAll enc Tryd.prog W 0 (fun _ => true) true Tryd.f4.params.toList args.toList ds p := hA0
  rw [Tryd.params4] at hA hval hsz
  obtain ⟨v0, vs0, d0, ds0, p0, q0, hargs, rfl, rfl, h0, r0⟩ := trodAll_cons hA
  obtain ⟨v1, vs1, d1, ds1, p1, q1, rfl, rfl, rfl, h1, r1⟩ := trodAll_cons r0
  obtain ⟨v2, vs2, d2, ds2, p2, q2, rfl, rfl, rfl, h2, r2⟩ := trodAll_cons r1
  obtain ⟨rfl, rfl, rfl⟩ := trodAll_nil r2
  obtain rfl : args = #[v0, v1, v2] := by cases args; simp_all
  obtain ⟨rfl, rfl⟩ := trodVars_none hV
  obtain ⟨a0, rfl, rfl, rfl, w0⟩ := open_string Tryd.underlying9 (hval 0 9 v0 rfl rfl) h0
  obtain ⟨a1, rfl, rfl, rfl, w1⟩ := open_int Tryd.underlying3 (hval 1 3 v1 rfl rfl) h1
  obtain ⟨a2, len2, cap2, rfl⟩ := okWide_slice Tryd.underlying22 (hval 2 22 v2 rfl rfl)
  have lt2 : ∀ x ∈ p2, x.block < W.heap.size := by
    obtain ⟨m, hm⟩ := h2
    exact DataW.trod_lt m _ _ _ hm
  obtain ⟨l2, hll2, hr2, hb2, hd2⟩ := open_rd std cells5 h2
  have z2 : l2.length ≤ 140737488351232 := by
    rcases hd2 with ⟨_, rfl⟩ | ⟨el, sp, rfl, he, hc⟩
    · simp
    · have h1 := sized_slice hsz (j := 2) (t := 22) (e := 5) rfl rfl Tryd.underlying22
      rw [bytes5] at h1
      simp only [reachBytes] at h1
      omega
  clear hA0
  refine (walk a0 a1 _ l2 z2 hb2 W hr2 (table hL)).mono fun e W' ⟨he, bel⟩ => ?_
  subst he
  exact ⟨_, rfl, _, _, _, [], _, [], hW', trodAll_mk1 (shut_bool Tryd.underlying4 _), (trodAll_cons_mk (shut_string Tryd.underlying9 w0) (trodAll_cons_mk (shut_int Tryd.underlying3 w1) (trodAll_cons_mk (Below.trod laidOut (by kernel_rfl) (of_decide_eq_true (by kernel_rfl)) h2 bel lt2) trodAll_mk0))), rfl, bel.frame _, fun h => by cases h⟩

theorem laid_met (os : Os) : laidMet Tryd.prog Rows.codecFramesRow.laid ((laidWorld os).forCall (fun _ _ => 0) ⟨#[], #[.string ByteArray.empty, .int .i64 0, .slice none 0 0], []⟩).memory :=
  laidMet_of_run' 8 (by kernel_rfl) (by kernel_rfl)
theorem reads (os : Os) {H : Type} (enc : TypeId × Value → H) : ∃ places, DataW.whole enc Tryd.prog ((laidWorld os).forCall (fun _ _ => 0) ⟨#[], #[.string ByteArray.empty, .int .i64 0, .slice none 0 0], []⟩).memory Tryd.f4.params.toList Rows.codecFramesSpec.vars false #[.string ByteArray.empty, .int .i64 0, .slice none 0 0].toList 8 = some ([.lit (.string []), .lit (.int .i64 0), .nil], [], places) :=
  ⟨[], by kernel_rfl⟩

set_option maxRecDepth 100000 in
theorem lifted (os : Os) (started : os.Started) (H : Type) (enc : TypeId × Value → H) (F : Stop.Interp) :
    ReturnsInHanded {} Tryd.checked os 4 .any ((OpenSpec.ofChange Rows.codecFramesSpec).preRow enc Tryd.prog Tryd.f4 Rows.codecFramesRow.domain false Rows.codecFramesRow.laid) (((OpenSpec.ofChange Rows.codecFramesSpec).at F).post enc Tryd.prog Tryd.f4 false true false false) := by
  obtain ⟨places, hx⟩ := reads os enc
  refine returnsInHanded_of_row (C := Tryd.checked) (s := OpenSpec.ofChange Rows.codecFramesSpec) own started (by kernel_rfl) Tryd.func4
    (witness_row_at (enc := enc) (C := Tryd.checked) false (laidWorld os) #[.string ByteArray.empty, .int .i64 0, .slice none 0 0] rfl (by kernel_rfl) (by kernel_rfl) (by kernel_rfl)
      (OpenSpec.preRow_of_cond 8 hx (by kernel_rfl) (fun k hk => by cases hk) (by kernel_rfl) (laid_met os))) ?_
  intro W base args ds gs before hval hW _ _ hsz hL _ _
  exact contract H enc W base args ds gs before hval hW hsz hL

theorem said : Rows.CodecFramesSaid :=
  OpenClaim.holds_of_cond 4 Tryd.f4 rfl rfl rfl rfl rfl rfl rfl ⟨rfl, rfl, rfl, rfl, rfl⟩ rfl rfl rfl rfl rfl (by kernel_rfl) Tryd.func4 (by kernel_rfl)
    (of_decide_eq_true (by kernel_rfl)) (by unfold Func.isWrapper; first | (rw [if_pos (by decide +kernel)]; kernel_rfl) | (rw [if_neg (by decide +kernel)]; exact ⟨rfl, rfl⟩))
    (fun os started H enc _ F => by rw [OpenClaim.pre_eq_preRow]; exact lifted os started H enc F)

theorem plain (f : FuncId) (fn : Func) (hf : Tryd.pinned.checked.prog.funcNamed "icehouse/icehouselaw01.CodecFrames" = some f) (hfn : Tryd.pinned.checked.prog.funcs[f]? = some fn) :
    false = Tryd.pinned.checked.prog.looks [] ∧ ∀ (j : Nat) t, fn.params[j]? = some t → Tryd.pinned.checked.prog.wantsStandIn t = false := by
  obtain rfl : f = 4 := Option.some.inj ((show Tryd.prog.funcNamed "icehouse/icehouselaw01.CodecFrames" = some 4 by kernel_rfl).symm.trans hf) |>.symm
  obtain rfl : fn = Tryd.f4 := (Option.some.inj (Tryd.func4.symm.trans hfn)).symm
  refine ⟨by kernel_rfl, fun j t ht => ?_⟩
  rw [Tryd.params4] at ht
  have hm : t ∈ [9, 3, 22] := by simpa using Array.mem_of_getElem? ht
  have hall : ([9, 3, 22].all fun u => !Tryd.prog.wantsStandIn u) = true := by kernel_rfl
  exact (show Tryd.prog.wantsStandIn t = false by simpa using List.all_eq_true.1 hall t hm)

/-- THE STATEMENT. -/
theorem proved : Rows.CodecFramesCardSaid :=
  Claim7.holds_tied_plain_at .later [] _ _ _ _ said (fun _ h => by cases h) (by kernel_rfl) (fun _ h => by cases h) codecFrames_row_tie rfl ⟨rfl, rfl⟩ (by kernel_rfl) rfl plain (by kernel_rfl)
end Go.Proofs.YtpcmonebihgjhaaDoor.codecFrames
