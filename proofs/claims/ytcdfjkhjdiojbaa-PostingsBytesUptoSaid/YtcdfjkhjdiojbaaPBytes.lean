/-
  PostingsBytes: whatever the list and the bytes, of bulk at most 1048576 together, the law returns true and its arguments read as before. Conditions: those of the given statement.
-/
import Derived.Test.YtcdfjkhjdiojbaaSetGet
import Derived.Test.YtcdfjkhjdiojbaaSetFrom
import Derived.Test.YtcdfjkhjdiojbaaLent
import Derived.Test.YtcdfjkhjdiojbaaPRow
namespace Go.Proofs.Ytcdfjkhjdiojbaa.postingsBytes
open Go.ChangeMaps Go.ChangeShapes Go.WideShapes Go.ChangeAt Go.RowKit Go.Icz
theorem getL_len (b : List Nat) : (getL b).length ≤ 65536 := by
  unfold getL
  split
  · rename_i h
    rw [idsL_len, numsD_len]
    exact h.1
  · simp
set_option maxHeartbeats 8000000 in
set_option maxRecDepth 100000 in
theorem walk (v0 v1 : Value) (l : List Int) (b : List Nat) (W : World) (h0 : RdI W v0 l) (h1 : Rd W v1 b) (hb : ∀ c ∈ b, c < 256) (z0 : l.length ≤ 1048576) (z1 : b.length ≤ 1048576) :
    Calls Try.prog 4 #[v0, v1] W fun e w' => e = .returned (.bool true) ∧ Below W.heap.size W w' := by
  have HP1 := fun w1 v (h : RdI w1 v l) => PPut_is v l w1 h (by omega)
  have HP2 := fun w1 v (h : RdI w1 v l) => R5Put_is v l w1 h (by omega)
  have HG1 := fun w1 v (h : Rd w1 v b) => PGet_is v b w1 h hb (by omega)
  have HG2 := fun w1 v (h : Rd w1 v b) => R5Get_is v b w1 h hb (by omega)
  have HGLEN := hid (getL_len b)
  unfold PutOut at HP1 HP2
  unfold GetOut at HG1 HG2
  have rl := h0
  have rb := h1
  have w0 := True.intro
  clear w0
  generalize hW : W = w0 at *
  have B0 := Below.refl w0.heap.size w0
  obtain ⟨Aa, ca, rfl, -, -⟩ := h0
  obtain ⟨Ab, cb, rfl, -, -⟩ := h1
  have t1 := True.intro
  clear hW hb
  generalize getN b = gn at *
  generalize getL b = gl at *
  cases hr : rightI l with
  | true =>
    rw [hr, if_pos rfl, if_pos rfl] at HP1 HP2
    obtain ⟨hk1, hk2⟩ := get_back hr
    have hlb : (listB l).length ≤ 1048576 := by
      have h65 : l.length ≤ 65536 ∧ OkI l := by unfold rightI at hr; simpa using hr
      have h1 := numsB_len (difs (-1) l) (difs_lt l (-1) (by omega) (fun x hx => (h65.2.1 x hx).1) (fun x hx => (h65.2.1 x hx).2))
      have h2 := num_len8 (n := l.length) (by omega)
      unfold listB
      rw [List.length_append]
      rw [difs_len] at h1
      omega
    have HG3 := fun w1 v (h : Rd w1 v (listB l)) => PGet_is v (listB l) w1 h (listB_lt l) (by omega)
    unfold GetOut at HG3
    have hk3 : getN (listB l) = 0 := by unfold getN; rw [if_pos hk1]
    rw [hk2, hk3] at HG3
    clear hr hk1 hk2 hk3
    generalize listB l = lb at *
    go_enter Try.func4, Try.ntmps4
    go_wp2_with (first
      | (clear t1; go_at_call 16;  refine (Lent_any _ b _ rb (by omega)).mono ?_; rintro e w1 ⟨u0, rfl, lt, b⟩; have rl := rl.below b; have rb := rb.below b; have B1 := B0.trans (b.mono B0.size); clear B0 b; have t2 := True.intro)
      | (clear t2; at_builtin;  refine wp_appI stdI rfl (.tmp 19) (.tmp 20) rfl w1.heap.size _ _ [] l rfl (OwnI.made w1 (Nat.le_refl _)) rfl (rl.alloc _) (by simp; omega) (by simp) ?_; intro xv w2 ox b' _; rw [List.nil_append] at ox; have b : Below w1.heap.size w1 w2 := below_alloc (Nat.le_refl _) b'; clear b'; have rx := ox.rd; obtain ⟨Ax, cx, rfl, -, -⟩ := id rx; have rl := rl.below b; have rb := rb.below b; have lt := lt.below b; have B2 := B1.trans (b.mono B1.size); clear B1 b; have t3 := True.intro)
      | (clear t3; go_at_call 17;  refine (HP1 _ _ rx).mono ?_; rintro e w3 ⟨pv, rfl, rp, b⟩; clear rx; obtain ⟨Ap, cp, rfl, -, -⟩ := id rp; have rl := rl.below b; have rb := rb.below b; have lt := lt.below b; have B3 := B2.trans (b.mono B2.size); clear B2 b; have t4 := True.intro)
      | (clear t4; go_at_call 18;  refine (HP2 _ _ rl).mono ?_; rintro e w4 ⟨qv, rfl, rq, b⟩; obtain ⟨Aq, cq, rfl, -, -⟩ := id rq; have rl := rl.below b; have rb := rb.below b; have lt := lt.below b; have rp := rp.below b; have B4 := B3.trans (b.mono B3.size); clear B3 b; have t5 := True.intro)
      | (clear t5; go_at_call 19;  refine (HG1 _ _ lt.rd).mono ?_; rintro e w5 ⟨gv, rfl, rg, b⟩; have rl := rl.below b; have rb := rb.below b; have lt := lt.below b; have rp := rp.below b; have rq := rq.below b; have B5 := B4.trans (b.mono B4.size); clear B4 b; have t6 := True.intro)
      | (clear t6; go_at_call 20;  refine (HG2 _ _ rb).mono ?_; rintro e w6 ⟨hv, rfl, rh, b⟩; have rl := rl.below b; have rb := rb.below b; have lt := lt.below b; have rp := rp.below b; have rq := rq.below b; have rg := rg.below b; have B6 := B5.trans (b.mono B5.size); clear B5 b; have t7 := True.intro)
      | (clear t7; go_at_call 21; refine (num5_is _ _).mono ?_; rintro e w13 ⟨rfl, rfl⟩; have t8 := True.intro)
      | (clear t8; go_at_call 19;  refine (HG3 _ _ rp).mono ?_; rintro e w7 ⟨zv, rfl, rz, b⟩; have rl := rl.below b; have rb := rb.below b; have lt := lt.below b; have rp := rp.below b; have rq := rq.below b; have rg := rg.below b; have rh := rh.below b; have B7 := B6.trans (b.mono B6.size); clear B6 b; have t9 := True.intro)
      | (clear t9; go_at_call 21; refine (num5_is _ _).mono ?_; rintro e w13 ⟨rfl, rfl⟩; have t10 := True.intro)
      | (clear t10; go_at_call 8;  refine (Ints_yes _ _ _ _ _ rz rl (by omega) rfl).mono ?_; rintro e w8 ⟨rfl, b⟩; have rl := rl.below b; have rb := rb.below b; have lt := lt.below b; have rp := rp.below b; have rq := rq.below b; have rg := rg.below b; have rh := rh.below b; have rz := rz.below b; have B8 := B7.trans (b.mono B7.size); clear B7 b; have cvp := conv_rd std rp; have cvq := conv_rd std rq; have t11 := True.intro)
      | (clear t11; go_at_call 21; refine (num5_is _ _).mono ?_; rintro e w13 ⟨rfl, rfl⟩; have t12 := True.intro)
      | (clear t12; go_at_call 8;  refine (Ints_yes _ _ _ _ _ rg rh (by have := HGLEN.out; omega) rfl).mono ?_; rintro e w9 ⟨rfl, b⟩; have rl := rl.below b; have rb := rb.below b; have lt := lt.below b; have rp := rp.below b; have rq := rq.below b; have rg := rg.below b; have rh := rh.below b; have rz := rz.below b; have B9 := B8.trans (b.mono B8.size); clear B8 b; have t13 := True.intro)
      | (clear t13; go_at_call 21; refine (num5_is _ _).mono ?_; rintro e w13 ⟨rfl, rfl⟩; have t14 := True.intro)
      | (clear t14; go_at_call 22;  refine (Stays_any _ _ _ b _ lt rb (by omega)).mono ?_; rintro e w10 ⟨rfl, b⟩; have rl := rl.below b; have rb := rb.below b; have lt := lt.below b; have rp := rp.below b; have rq := rq.below b; have rg := rg.below b; have rh := rh.below b; have rz := rz.below b; have B10 := B9.trans (b.mono B9.size); clear B9 b; have t15 := True.intro)
      | (clear t15; go_at_call 15;  refine (knows5_is _).mono ?_; rintro e w11 ⟨rfl, b⟩; have rl := rl.below b; have rb := rb.below b; have lt := lt.below b; have rp := rp.below b; have rq := rq.below b; have rg := rg.below b; have rh := rh.below b; have rz := rz.below b; have B11 := B10.trans (b.mono B10.size); clear B10 b; have t16 := True.intro)
      | fail)
    go_ret
    exact ⟨rfl, B11⟩
  | false =>
    rw [hr, if_neg (by decide), if_neg (by decide)] at HP1 HP2
    clear hr
    go_enter Try.func4, Try.ntmps4
    go_wp2_with (first
      | (clear t1; go_at_call 16;  refine (Lent_any _ b _ rb (by omega)).mono ?_; rintro e w1 ⟨u0, rfl, lt, b⟩; have rl := rl.below b; have rb := rb.below b; have B1 := B0.trans (b.mono B0.size); clear B0 b; have t2 := True.intro)
      | (clear t2; at_builtin;  refine wp_appI stdI rfl (.tmp 19) (.tmp 20) rfl w1.heap.size _ _ [] l rfl (OwnI.made w1 (Nat.le_refl _)) rfl (rl.alloc _) (by simp; omega) (by simp) ?_; intro xv w2 ox b' _; rw [List.nil_append] at ox; have b : Below w1.heap.size w1 w2 := below_alloc (Nat.le_refl _) b'; clear b'; have rx := ox.rd; obtain ⟨Ax, cx, rfl, -, -⟩ := id rx; have rl := rl.below b; have rb := rb.below b; have lt := lt.below b; have B2 := B1.trans (b.mono B1.size); clear B1 b; have t3 := True.intro)
      | (clear t3; go_at_call 17;  refine (HP1 _ _ rx).mono ?_; rintro e w3 ⟨pv, rfl, rp, b⟩; clear rx; obtain ⟨Ap, cp, rfl, -, -⟩ := id rp; have rl := rl.below b; have rb := rb.below b; have lt := lt.below b; have B3 := B2.trans (b.mono B2.size); clear B2 b; have t4 := True.intro)
      | (clear t4; go_at_call 18;  refine (HP2 _ _ rl).mono ?_; rintro e w4 ⟨qv, rfl, rq, b⟩; obtain ⟨Aq, cq, rfl, -, -⟩ := id rq; have rl := rl.below b; have rb := rb.below b; have lt := lt.below b; have rp := rp.below b; have B4 := B3.trans (b.mono B3.size); clear B3 b; have t5 := True.intro)
      | (clear t5; go_at_call 19;  refine (HG1 _ _ lt.rd).mono ?_; rintro e w5 ⟨gv, rfl, rg, b⟩; have rl := rl.below b; have rb := rb.below b; have lt := lt.below b; have rp := rp.below b; have rq := rq.below b; have B5 := B4.trans (b.mono B4.size); clear B4 b; have t6 := True.intro)
      | (clear t6; go_at_call 20;  refine (HG2 _ _ rb).mono ?_; rintro e w6 ⟨hv, rfl, rh, b⟩; have rl := rl.below b; have rb := rb.below b; have lt := lt.below b; have rp := rp.below b; have rq := rq.below b; have rg := rg.below b; have B6 := B5.trans (b.mono B5.size); clear B5 b; have t7 := True.intro)
      | (clear t7; go_at_call 21; refine (num5_is _ _).mono ?_; rintro e w13 ⟨rfl, rfl⟩; have cvp := conv_rd std rp; have cvq := conv_rd std rq; simp only [List.length_nil] at cvp cvq; have t8 := True.intro)
      | (clear t8; go_at_call 21; refine (num5_is _ _).mono ?_; rintro e w13 ⟨rfl, rfl⟩; have t9 := True.intro)
      | (clear t9; go_at_call 8;  refine (Ints_yes _ _ _ _ _ rg rh (by have := HGLEN.out; omega) rfl).mono ?_; rintro e w7 ⟨rfl, b⟩; have rl := rl.below b; have rb := rb.below b; have lt := lt.below b; have rp := rp.below b; have rq := rq.below b; have rg := rg.below b; have rh := rh.below b; have B7 := B6.trans (b.mono B6.size); clear B6 b; have t10 := True.intro)
      | (clear t10; go_at_call 21; refine (num5_is _ _).mono ?_; rintro e w13 ⟨rfl, rfl⟩; have t11 := True.intro)
      | (clear t11; go_at_call 22;  refine (Stays_any _ _ _ b _ lt rb (by omega)).mono ?_; rintro e w8 ⟨rfl, b⟩; have rl := rl.below b; have rb := rb.below b; have lt := lt.below b; have rp := rp.below b; have rq := rq.below b; have rg := rg.below b; have rh := rh.below b; have B8 := B7.trans (b.mono B7.size); clear B7 b; have t12 := True.intro)
      | (clear t12; go_at_call 15;  refine (knows5_is _).mono ?_; rintro e w9 ⟨rfl, b⟩; have rl := rl.below b; have rb := rb.below b; have lt := lt.below b; have rp := rp.below b; have rq := rq.below b; have rg := rg.below b; have rh := rh.below b; have B9 := B8.trans (b.mono B8.size); clear B8 b; have t13 := True.intro)
      | fail)
    go_ret
    exact ⟨rfl, B9⟩

set_option maxRecDepth 100000 in
theorem contract (H : Type) (enc : TypeId × Value → H) (W : World) (base : Nat) (args : Array Value) (ds gs : List (DataW H)) (before : List MemPlace)
    (hval : ∀ (j : Nat) t v, Try.f4.params[j]? = some t → args[j]? = some v → Value.okWide Try.prog W .any base t v)
    (hW : DataW.Whole enc Try.prog Try.f4.params.toList Rows.postingsBytesSpec.vars false W args.toList ds gs before) (hk : Rows.uptoSmall H (ds ++ gs) = true) :
    Calls Try.prog 4 args W fun e W' => ∃ v, e = .returned v ∧ Rows.postingsBytesSpec.post enc Try.prog Try.f4 false true false false W args v W' := by
  have hW' := hW
  obtain ⟨p, q, hA0, hV, rfl, hfz, hnd⟩ := hW
  have hA : DataW.TrodAll enc Try.prog W 0 (fun _ => true) true Try.f4.params.toList args.toList ds p := hA0
  rw [Try.params4] at hA hval
  obtain ⟨v0, vs0, d0, ds0, p0, q0, hargs, rfl, rfl, h0, r0⟩ := trodAll_cons hA
  obtain ⟨v1, vs1, d1, ds1, p1, q1, rfl, rfl, rfl, h1, r1⟩ := trodAll_cons r0
  obtain ⟨rfl, rfl, rfl⟩ := trodAll_nil r1
  obtain rfl : args = #[v0, v1] := by cases args; simp_all
  obtain ⟨rfl, rfl⟩ := trodVars_none hV
  obtain ⟨a0, len0, cap0, rfl⟩ := okWide_slice Try.underlying22 (hval 0 22 v0 rfl rfl)
  have lt0 : ∀ x ∈ p0, x.block < W.heap.size := by
    obtain ⟨m, hm⟩ := h0
    exact DataW.trod_lt m _ _ _ hm
  obtain ⟨l0, hll0, hr0, hb0, hd0⟩ := open_rdI Try.underlying22 Try.underlying3 cells3 h0
  obtain ⟨a1, len1, cap1, rfl⟩ := okWide_slice Try.underlying27 (hval 1 27 v1 rfl rfl)
  have lt1 : ∀ x ∈ p1, x.block < W.heap.size := by
    obtain ⟨m, hm⟩ := h1
    exact DataW.trod_lt m _ _ _ hm
  obtain ⟨l1, hll1, hr1, hb1, hd1⟩ := open_rd std cells5 h1
  have hbulk : Rows.uptoBulk d0 + Rows.uptoBulk d1 ≤ 1048576 := by
    have h : Rows.uptoBulkAll ([d0, d1] ++ []) ≤ 1048576 := of_decide_eq_true hk
    simp only [List.append_nil, Rows.uptoBulkAll] at h
    omega
  have y0 : l0.length ≤ 1048576 := by
    rcases hd0 with ⟨rfl, rfl⟩ | ⟨el, sp, rfl, he, hc, hcc⟩
    · simp
    · have := bulk_slice el sp
      omega
  have y1 : l1.length ≤ 1048576 := by
    rcases hd1 with ⟨rfl, rfl⟩ | ⟨el, sp, rfl, he, hc⟩
    · simp
    · have := bulk_slice2 el sp
      omega
  clear hA0
  refine (walk _ _ l0 l1 W hr0 hr1 hb1 y0 y1).mono fun e W' ⟨he, bel⟩ => ?_
  subst he
  exact ⟨_, rfl, _, _, _, [], _, [], hW', trodAll_mk1 (shut_bool Try.underlying4 _), (trodAll_cons_mk (Below.trod laidOut (by kernel_rfl) (of_decide_eq_true (by kernel_rfl)) h0 bel lt0) (trodAll_cons_mk (Below.trod laidOut (by kernel_rfl) (of_decide_eq_true (by kernel_rfl)) h1 bel lt1) trodAll_mk0)), rfl, bel.frame _, fun h => by cases h⟩

set_option maxRecDepth 100000 in
theorem lifted (os : Os) (started : os.Started) (H : Type) (enc : TypeId × Value → H) (F : Stop.Interp) :
    ReturnsInHanded {} Try.checked os 4 .any ((Rows.OpenSpec.upto Rows.postingsBytesSpec).pre6 enc Try.prog Try.f4 Rows.postingsBytesUptoRow.domain false) (((Rows.OpenSpec.upto Rows.postingsBytesSpec).at F).post enc Try.prog Try.f4 false true false false) := by
  refine returnsInHanded_of_cond (C := Try.checked) (s := Rows.OpenSpec.upto Rows.postingsBytesSpec) (k := Rows.uptoSmall) rfl own started (by kernel_rfl) Try.func4
    (OpenSpec.witness (enc := enc) (C := Try.checked) (s := Rows.OpenSpec.upto Rows.postingsBytesSpec) (k := Rows.uptoSmall) rfl false ⟨#[], #[.slice none 0 0, .slice none 0 0], []⟩ 8 (by kernel_rfl) (by kernel_rfl) (by kernel_rfl)
      (x := ([.nil, .nil], [], [])) (by kernel_rfl) rfl (by kernel_rfl)) ?_
  intro W base args ds gs before hval hW _ hk _
  exact contract H enc W base args ds gs before hval hW hk

theorem over : Rows.postingsBytesUptoRow.holds Try.pinned (Rows.OpenSpec.upto Rows.postingsBytesSpec) :=
  OpenClaim.holds_of_cond 4 Try.f4 rfl rfl rfl rfl rfl rfl rfl ⟨rfl, rfl, rfl, rfl, rfl⟩ rfl rfl rfl rfl rfl (by kernel_rfl) Try.func4 (by kernel_rfl)
    (of_decide_eq_true (by kernel_rfl)) (by unfold Func.isWrapper; first | (rw [if_pos (by decide +kernel)]; kernel_rfl) | (rw [if_neg (by decide +kernel)]; exact ⟨rfl, rfl⟩))
    (fun os started H enc _ F => lifted os started H enc F)

/-- THE STATEMENT. -/
theorem proved : Rows.PostingsBytesUptoSaid := over
end Go.Proofs.Ytcdfjkhjdiojbaa.postingsBytes
