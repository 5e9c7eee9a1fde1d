/-
  Proved: icehouselaw01.CodecNumbers answers true for every int (Rows.CodecNumbersSaid). No condition.
-/
import Derived.Test.YtpcmonebihgjhaaRows
import Derived.Test.YtpcmonebihgjhaaWrite
namespace Go.Proofs.Ytpcmonebihgjhaa.codecNumbers
open Go.ChangeShapes Go.WideShapes Go.ChangeAt Go.RowKit Go.Icy

/-- It answers bytes that read as l, and the number k. -/
def Ans (w : World) (l : List Nat) (k : Int) (e : Ending) (w' : World) : Prop := ∃ v, e = .returned (.tuple #[v, .int .i64 k]) ∧ Rd w' v l ∧ Below w.heap.size w w'
theorem ans_made {w : World} {l : List Nat} {e : Ending} {w' : World} (h : Made w l e w') : Ans w l 0 e w' := by
  obtain ⟨v, he, ho, hb⟩ := h
  exact ⟨v, he, ho.rd, hb⟩
theorem ans_fails {w : World} {k : Int} {e : Ending} {w' : World} (h : Fails w k e w') : Ans w [] k e w' := by
  obtain ⟨rfl, rfl⟩ := h
  exact ⟨_, rfl, Rd.nil _, Below.refl _ _⟩

/-- Which numbers may be, and what is answered of each. -/
def numL (n : Int) : List Nat := if 0 ≤ n ∧ n < 72057594037927936 then num n.toNat else []
def numE (n : Int) : Int := if 0 ≤ n ∧ n < 72057594037927936 then 0 else 11
def sigL (n : Int) : List Nat := if -36028797018963968 ≤ n ∧ n < 36028797018963968 then num (zig n) else []
def sigE (n : Int) : Int := if -36028797018963968 ≤ n ∧ n < 36028797018963968 then 0 else 11

theorem Number_any (n : Int) (w : World) : Calls Try.prog 6 #[.int .i64 n] w (Ans w (numL n) (numE n)) := by
  unfold numL numE
  by_cases h : 0 ≤ n ∧ n < 72057594037927936
  · rw [if_pos h, if_pos h]
    exact (Number_yes n w h.1 h.2).mono fun _ _ hh => ans_made hh
  · rw [if_neg h, if_neg h]
    exact (Number_no n w (by omega)).mono fun _ _ hh => ans_fails hh
theorem Signed_any (n : Int) (w : World) : Calls Try.prog 8 #[.int .i64 n] w (Ans w (sigL n) (sigE n)) := by
  unfold sigL sigE
  by_cases h : -36028797018963968 ≤ n ∧ n < 36028797018963968
  · rw [if_pos h, if_pos h]
    exact (Signed_yes n w h.1 h.2).mono fun _ _ hh => ans_made hh
  · rw [if_neg h, if_neg h]
    exact (Signed_no n w (by omega)).mono fun _ _ hh => ans_fails hh

theorem Zig_any (n : Int) (w : World) (h0 : -36028797018963968 ≤ n) (h1 : n < 36028797018963968) :
    Calls Try.prog 23 #[.int .i64 n] w fun e w' => e = .returned (.int .i64 (zig n)) ∧ w = w' := by
  by_cases hn : n < 0
  · have hz := hid (zig_neg hn)
    go_enter Try.func23, Try.ntmps23
    go_wp2
    go_ret
    rw [hz.out]
    exact ⟨rfl, rfl⟩
  · have hz := hid (zig_pos (n := n) (by omega))
    go_enter Try.func23, Try.ntmps23
    go_wp2
    go_ret
    rw [hz.out]
    exact ⟨rfl, rfl⟩

theorem ref_Number_yes (n : Int) (w : World) (h0 : 0 ≤ n) (h1 : n < 72057594037927936) : Calls Try.prog 7 #[.int .i64 n] w (Made w (num n.toNat)) := by
  have hB := Bytes_any n.toNat
  rw [Int.toNat_of_nonneg h0] at hB
  have H := hid hB
  clear hB
  go_enter Try.func7, Try.ntmps7
  go_wp2_with (go_at_call 21; refine (H.out _ (by omega)).mono ?_; rintro e w' ⟨v, rfl, hown, hb⟩)
  go_ret2
  exact ⟨_, rfl, hown, hb⟩
theorem ref_Number_no (n : Int) (w : World) (h0 : n < 0 ∨ 72057594037927936 ≤ n) : Calls Try.prog 7 #[.int .i64 n] w (Fails w 11) := by
  rcases h0 with h0 | h0
  · go_enter Try.func7, Try.ntmps7
    go_wp2
    go_ret2
    exact ⟨rfl, rfl⟩
  · have hd : decide (n < 0) = false := decide_eq_false (by omega)
    have hd2 : decide (72057594037927936 ≤ n) = true := decide_eq_true (by omega)
    go_enter Try.func7, Try.ntmps7
    go_wp2
    go_ret2
    exact ⟨rfl, rfl⟩
theorem ref_Signed_yes (n : Int) (w : World) (h0 : -36028797018963968 ≤ n) (h1 : n < 36028797018963968) : Calls Try.prog 9 #[.int .i64 n] w (Made w (num (zig n))) := by
  go_enter Try.func9, Try.ntmps9
  go_wp2_with (first
    | (go_at_call 23; refine (Zig_any _ _ h0 h1).mono ?_; rintro e w' ⟨rfl, rfl⟩)
    | (go_at_call 21; refine (Bytes_any _ _ (zig_lt h0 h1)).mono ?_; rintro e w' ⟨v, rfl, hown, hb⟩))
  go_ret2
  exact ⟨_, rfl, hown, hb⟩
theorem ref_Signed_no (n : Int) (w : World) (h0 : n < -36028797018963968 ∨ 36028797018963968 ≤ n) : Calls Try.prog 9 #[.int .i64 n] w (Fails w 11) := by
  rcases h0 with h0 | h0
  · go_enter Try.func9, Try.ntmps9
    go_wp2
    go_ret2
    exact ⟨rfl, rfl⟩
  · have hd : decide (n < -36028797018963968) = false := decide_eq_false (by omega)
    have hd2 : decide (36028797018963968 ≤ n) = true := decide_eq_true (by omega)
    go_enter Try.func9, Try.ntmps9
    go_wp2
    go_ret2
    exact ⟨rfl, rfl⟩
theorem ref_Number_any (n : Int) (w : World) : Calls Try.prog 7 #[.int .i64 n] w (Ans w (numL n) (numE n)) := by
  unfold numL numE
  by_cases h : 0 ≤ n ∧ n < 72057594037927936
  · rw [if_pos h, if_pos h]
    exact (ref_Number_yes n w h.1 h.2).mono fun _ _ hh => ans_made hh
  · rw [if_neg h, if_neg h]
    exact (ref_Number_no n w (by omega)).mono fun _ _ hh => ans_fails hh
theorem ref_Signed_any (n : Int) (w : World) : Calls Try.prog 9 #[.int .i64 n] w (Ans w (sigL n) (sigE n)) := by
  unfold sigL sigE
  by_cases h : -36028797018963968 ≤ n ∧ n < 36028797018963968
  · rw [if_pos h, if_pos h]
    exact (ref_Signed_yes n w h.1 h.2).mono fun _ _ hh => ans_made hh
  · rw [if_neg h, if_neg h]
    exact (ref_Signed_no n w (by omega)).mono fun _ _ hh => ans_fails hh

set_option maxRecDepth 100000 in
set_option maxHeartbeats 800000 in
theorem walk (n : Int) (w : World) : Calls Try.prog 3 #[.int .i64 n] w (Knew w) := by
  go_enter Try.func3, Try.ntmps3
  go_wp2_with (go_at_call 6; refine (Number_any _ _).mono ?_; rintro e w1 ⟨v1, rfl, r1, b1⟩)
  go_wp2_with (go_at_call 7; refine (ref_Number_any _ _).mono ?_; rintro e w2 ⟨v2, rfl, r2, b2⟩)
  go_wp2_with (go_at_call 8; refine (Signed_any _ _).mono ?_; rintro e w3 ⟨v3, rfl, r3, b3⟩)
  go_wp2_with (first
    | (go_at_call 9; refine (ref_Signed_any _ _).mono ?_; rintro e w4 ⟨v4, rfl, r4, b4⟩; have c1 := conv_rd std (((r1.below b2).below b3).below b4); have c2 := conv_rd std ((r2.below b3).below b4); have c3 := conv_rd std (r3.below b4); have c4 := conv_rd std r4; have hb := ((b1.trans (b2.mono b1.size)).trans (b3.mono (Nat.le_trans b1.size b2.size))).trans (b4.mono (Nat.le_trans (Nat.le_trans b1.size b2.size) b3.size)); clear r1 r2 r3 r4 b1 b2 b3 b4)
    | (go_at_call 10; refine (num_any _ _).mono ?_; rintro e w' ⟨rfl, rfl⟩)
    | (go_at_call 11; refine (knows_any _).mono ?_; rintro e w5 ⟨rfl, hk⟩))
  go_ret
  exact ⟨rfl, hb.trans (hk.mono hb.size)⟩

theorem own : ownKnob Try.prog.godebug = none := by kernel_rfl
set_option maxRecDepth 100000 in
theorem lifted (os : Os) (started : os.Started) (H : Type) (enc : TypeId × Value → H) :
    ReturnsInHanded {} Try.checked os 3 .any (Rows.codecNumbersSpec.pre6 enc Try.prog Try.f3 Rows.codecNumbersRow.domain false) (Rows.codecNumbersSpec.post enc Try.prog Try.f3 false true false false) := by
  refine returnsInHanded_of_change (C := Try.checked) own started (by kernel_rfl) Try.func3
    (ChangeSpec.witness6 (enc := enc) (C := Try.checked) false ⟨#[], #[.int .i64 0], []⟩ 8 (by kernel_rfl) (by kernel_rfl) (by kernel_rfl) (by kernel_rfl)) ?_
  intro W base args ds gs before hval0 hW _ _
  have hval : ∀ (j : Nat) t v, Try.f3.params[j]? = some t → args[j]? = some v → Value.okWide Try.prog W .any base t v := hval0
  have hW' := hW
  obtain ⟨p, q, hA0, hV, rfl, hfz, hnd⟩ := hW
  have hA : DataW.TrodAll enc Try.prog W 0 (fun _ => true) true Try.f3.params.toList args.toList ds p := hA0
  rw [Try.params3] at hA hval
  obtain ⟨v0, vs0, d0, ds0, p0, q0, hargs, rfl, rfl, h0, r0⟩ := trodAll_cons hA
  obtain ⟨rfl, rfl, rfl⟩ := trodAll_nil r0
  obtain rfl : args = #[v0] := by cases args; simp_all
  obtain ⟨rfl, rfl⟩ := trodVars_none hV
  obtain ⟨a0, rfl, rfl, rfl, w0⟩ := open_int Try.underlying3 (hval 0 3 v0 rfl rfl) h0
  clear hA0 hval0
  simp only [List.append_nil] at hW'
  refine (walk a0 W).mono fun e W' ⟨he, hb⟩ => ?_
  subst he
  exact ⟨_, rfl, post_below (pa := []) (pv := []) hW' (fun _ _ _ => (trodAll_cons_mk (shut_bool Try.underlying4 _) trodAll_mk0)) (fun _ _ => (trodAll_cons_mk (shut_int Try.underlying3 w0) trodAll_mk0)) (fun _ _ => rfl) rfl hb
    (ok_one (by kernel_rfl) rfl (okWide_bool_mk Try.underlying4 _))⟩

theorem over : Rows.codecNumbersRow.holds Try.pinned (OpenSpec.ofChange Rows.codecNumbersSpec) :=
  OpenClaim.holds_of_wide 3 Try.f3 rfl rfl rfl rfl rfl rfl rfl ⟨rfl, rfl, rfl, rfl, rfl⟩ rfl rfl rfl rfl rfl (by kernel_rfl) Try.func3 (by kernel_rfl)
    (of_decide_eq_true (by kernel_rfl)) (by unfold Func.isWrapper; first | (rw [if_pos (by decide +kernel)]; kernel_rfl) | (rw [if_neg (by decide +kernel)]; exact ⟨rfl, rfl⟩))
    (fun os started H enc _ => lifted os started H enc)

/-- THE STATEMENT. -/
theorem proved : Rows.CodecNumbersSaid := over
end Go.Proofs.Ytpcmonebihgjhaa.codecNumbers
