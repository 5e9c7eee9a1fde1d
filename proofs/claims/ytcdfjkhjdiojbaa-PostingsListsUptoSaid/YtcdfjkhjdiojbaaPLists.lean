/-
  PostingsLists: whatever the two lists, of bulk at most 1048576 together, the law returns true and its arguments read as before. Conditions: those of the given statement.
-/
import Derived.Test.YtcdfjkhjdiojbaaSetRef2
import Derived.Test.YtcdfjkhjdiojbaaPKept
import Derived.Test.YtcdfjkhjdiojbaaPRow
namespace Go.Proofs.Ytcdfjkhjdiojbaa.postingsLists
open Go.ChangeMaps Go.ChangeShapes Go.WideShapes Go.ChangeAt Go.RowKit Go.Icz
set_option maxHeartbeats 8000000 in
set_option maxRecDepth 100000 in
theorem walk (v0 v1 : Value) (a b : List Int) (W : World) (h0 : RdI W v0 a) (h1 : RdI W v1 b) (z0 : a.length ≤ 1048576) (z1 : b.length ≤ 1048576) :
    Calls Try.prog 3 #[v0, v1] W fun e w' => e = .returned (.bool true) ∧ Below W.heap.size W w' := by
  have K0 : Kept W [(v1, b), (v0, a)] := by
    intro p hp
    simp at hp
    rcases hp with rfl | rfl
    · exact h1
    · exact h0
  have B0 := Below.refl W.heap.size W
  obtain ⟨Aa, ca, rfl, -, -⟩ := h0
  obtain ⟨Ab, cb, rfl, -, -⟩ := h1
  have hr : ∃ r, r = rightI a := ⟨_, rfl⟩
  obtain ⟨r, hr⟩ := hr
  have HR := fun w1 v (h : RdI w1 v a) => PRight_is v a w1 h (by omega)
  have HR5 := fun w1 v (h : RdI w1 v a) => R5Right_is v a w1 h (by omega)
  rw [← hr] at HR HR5
  clear hr
  have t0 := True.intro
  cases r <;>
  · go_enter Try.func3, Try.ntmps3
    go_wp2_with (first
      | (clear t0; at_builtin;  refine wp_appI stdI rfl (.tmp 8) (.tmp 9) rfl W.heap.size _ _ [] a rfl (OwnI.made W (Nat.le_refl _)) rfl ((K0.get (List.mem_cons_of_mem _ (List.mem_cons_self ..))).alloc _) (by simp; omega) (by simp) ?_; intro x w1 ox b _; rw [List.nil_append] at ox; have bb : Below W.heap.size W w1 := below_alloc (Nat.le_refl _) b; have K1 := K0.step bb ox.rd; have B1 := B0.trans bb; clear K0 B0 b bb; obtain ⟨Ax, cx, rfl, -, -⟩ := id ox.rd; have ta := True.intro)
      | (clear ta; at_builtin;  refine wp_appI stdI rfl (.tmp 11) (.tmp 12) rfl w1.heap.size _ _ [] b rfl (OwnI.made w1 (Nat.le_refl _)) rfl ((K1.get (List.mem_cons_of_mem _ (List.mem_cons_self ..))).alloc _) (by simp; omega) (by simp) ?_; intro y w2 oy b _; rw [List.nil_append] at oy; have bb : Below w1.heap.size w1 w2 := below_alloc (Nat.le_refl _) b; have K2 := K1.step bb oy.rd; have B2 := B1.trans (bb.mono B1.size); clear K1 B1 b bb; obtain ⟨Ay, cy, rfl, -, -⟩ := id oy.rd; have t1 := True.intro)
      | (clear t1; go_at_call 6;  refine (HR _ _ (K2.get (List.mem_cons_of_mem _ (List.mem_cons_self ..)))).mono ?_; rintro e w3 ⟨rfl, b⟩; have K3 := K2.keep b; have B3 := B2.trans (b.mono B2.size); clear K2 B2; have t2 := True.intro)
      | (clear t2; go_at_call 7;  refine (HR5 _ _ (K3.get (List.mem_cons_of_mem _ (List.mem_cons_of_mem _ (List.mem_cons_of_mem _ (List.mem_cons_self ..)))))).mono ?_; rintro e w4 ⟨rfl, b⟩; have K4 := K3.keep b; have B4 := B3.trans (b.mono B3.size); clear K3 B3; have t3 := True.intro)
      | (clear t3; go_at_call 9;  refine (And_is _ _ _ _ _ (K4.get (List.mem_cons_of_mem _ (List.mem_cons_self ..))) (K4.get (List.mem_cons_self ..)) (by omega) (by omega)).mono ?_; rintro e w5 ⟨v1, l1, rfl, o1, s1, n1, b⟩; have K5 := K4.step b o1.rd; have B5 := B4.trans (b.mono B4.size); clear K4 B4; have t4 := True.intro)
      | (clear t4; go_at_call 10;  refine (R5And_is _ _ _ _ _ (K5.get (List.mem_cons_of_mem _ (List.mem_cons_of_mem _ (List.mem_cons_of_mem _ (List.mem_cons_of_mem _ (List.mem_cons_self ..)))))) (K5.get (List.mem_cons_of_mem _ (List.mem_cons_of_mem _ (List.mem_cons_of_mem _ (List.mem_cons_self ..))))) (by omega) (by omega)).mono ?_; rintro e w6 ⟨v2, l2, rfl, r2, s2, b⟩; have K6 := K5.step b r2; have B6 := B5.trans (b.mono B5.size); clear K5 B5; have t5 := True.intro)
      | (clear t5; go_at_call 8;  refine (Ints_yes _ _ _ _ _ (K6.get (List.mem_cons_of_mem _ (List.mem_cons_self ..))) (K6.get (List.mem_cons_self ..)) (by omega) (Rises.one s1 s2 (fun x => Iff.rfl))).mono ?_; rintro e w7 ⟨rfl, b⟩; have K7 := K6.keep b; have B7 := B6.trans (b.mono B6.size); clear K6 B6; have t6 := True.intro)
      | (clear t6; go_at_call 11;  refine (Or_is _ _ _ _ _ (K7.get (List.mem_cons_of_mem _ (List.mem_cons_of_mem _ (List.mem_cons_of_mem _ (List.mem_cons_self ..))))) (K7.get (List.mem_cons_of_mem _ (List.mem_cons_of_mem _ (List.mem_cons_self ..)))) (by omega)).mono ?_; rintro e w8 ⟨v3, l3, rfl, o3, s3, n3, b⟩; have K8 := K7.step b o3.rd; have B8 := B7.trans (b.mono B7.size); clear K7 B7; have t7 := True.intro)
      | (clear t7; go_at_call 12;  refine (R5Or_is _ _ _ _ _ (K8.get (List.mem_cons_of_mem _ (List.mem_cons_of_mem _ (List.mem_cons_of_mem _ (List.mem_cons_of_mem _ (List.mem_cons_of_mem _ (List.mem_cons_of_mem _ (List.mem_cons_self ..)))))))) (K8.get (List.mem_cons_of_mem _ (List.mem_cons_of_mem _ (List.mem_cons_of_mem _ (List.mem_cons_of_mem _ (List.mem_cons_of_mem _ (List.mem_cons_self ..))))))) (by omega)).mono ?_; rintro e w9 ⟨v4, l4, rfl, r4, s4, b⟩; have K9 := K8.step b r4; have B9 := B8.trans (b.mono B8.size); clear K8 B8; have t8 := True.intro)
      | (clear t8; go_at_call 8;  refine (Ints_yes _ _ _ _ _ (K9.get (List.mem_cons_of_mem _ (List.mem_cons_self ..))) (K9.get (List.mem_cons_self ..)) (by omega) (Rises.one s3 s4 (fun x => Iff.rfl))).mono ?_; rintro e w10 ⟨rfl, b⟩; have K10 := K9.keep b; have B10 := B9.trans (b.mono B9.size); clear K9 B9; have t9 := True.intro)
      | (clear t9; go_at_call 13;  refine (Not_is _ _ _ _ _ (K10.get (List.mem_cons_of_mem _ (List.mem_cons_of_mem _ (List.mem_cons_of_mem _ (List.mem_cons_of_mem _ (List.mem_cons_of_mem _ (List.mem_cons_self ..))))))) (K10.get (List.mem_cons_of_mem _ (List.mem_cons_of_mem _ (List.mem_cons_of_mem _ (List.mem_cons_of_mem _ (List.mem_cons_self ..)))))) (by omega) (by omega)).mono ?_; rintro e w11 ⟨v5, l5, rfl, o5, s5, n5, b⟩; have K11 := K10.step b o5.rd; have B11 := B10.trans (b.mono B10.size); clear K10 B10; have t10 := True.intro)
      | (clear t10; go_at_call 14;  refine (R5Not_is _ _ _ _ _ (K11.get (List.mem_cons_of_mem _ (List.mem_cons_of_mem _ (List.mem_cons_of_mem _ (List.mem_cons_of_mem _ (List.mem_cons_of_mem _ (List.mem_cons_of_mem _ (List.mem_cons_of_mem _ (List.mem_cons_of_mem _ (List.mem_cons_self ..)))))))))) (K11.get (List.mem_cons_of_mem _ (List.mem_cons_of_mem _ (List.mem_cons_of_mem _ (List.mem_cons_of_mem _ (List.mem_cons_of_mem _ (List.mem_cons_of_mem _ (List.mem_cons_of_mem _ (List.mem_cons_self ..))))))))) (by omega) (by omega)).mono ?_; rintro e w12 ⟨v6, l6, rfl, r6, s6, b⟩; have K12 := K11.step b r6; have B12 := B11.trans (b.mono B11.size); clear K11 B11; have t11 := True.intro)
      | (clear t11; go_at_call 8;  refine (Ints_yes _ _ _ _ _ (K12.get (List.mem_cons_of_mem _ (List.mem_cons_self ..))) (K12.get (List.mem_cons_self ..)) (by omega) (Rises.one s5 s6 (fun x => Iff.rfl))).mono ?_; rintro e w13 ⟨rfl, b⟩; have K13 := K12.keep b; have B13 := B12.trans (b.mono B12.size); clear K12 B12; have t12 := True.intro)
      | (clear t12; go_at_call 8;  refine (Ints_yes _ _ _ _ _ (K13.get (List.mem_cons_of_mem _ (List.mem_cons_of_mem _ (List.mem_cons_of_mem _ (List.mem_cons_of_mem _ (List.mem_cons_of_mem _ (List.mem_cons_of_mem _ (List.mem_cons_of_mem _ (List.mem_cons_self ..))))))))) (K13.get (List.mem_cons_of_mem _ (List.mem_cons_of_mem _ (List.mem_cons_of_mem _ (List.mem_cons_of_mem _ (List.mem_cons_of_mem _ (List.mem_cons_of_mem _ (List.mem_cons_of_mem _ (List.mem_cons_of_mem _ (List.mem_cons_of_mem _ (List.mem_cons_self ..))))))))))) (by omega) rfl).mono ?_; rintro e w14 ⟨rfl, b⟩; have K14 := K13.keep b; have B14 := B13.trans (b.mono B13.size); clear K13 B13; have t13 := True.intro)
      | (clear t13; go_at_call 8;  refine (Ints_yes _ _ _ _ _ (K14.get (List.mem_cons_of_mem _ (List.mem_cons_of_mem _ (List.mem_cons_of_mem _ (List.mem_cons_of_mem _ (List.mem_cons_of_mem _ (List.mem_cons_of_mem _ (List.mem_cons_self ..)))))))) (K14.get (List.mem_cons_of_mem _ (List.mem_cons_of_mem _ (List.mem_cons_of_mem _ (List.mem_cons_of_mem _ (List.mem_cons_of_mem _ (List.mem_cons_of_mem _ (List.mem_cons_of_mem _ (List.mem_cons_of_mem _ (List.mem_cons_self ..)))))))))) (by omega) rfl).mono ?_; rintro e w15 ⟨rfl, b⟩; have K15 := K14.keep b; have B15 := B14.trans (b.mono B14.size); clear K14 B14; have t14 := True.intro)
      | (clear t14; go_at_call 15;  refine (knows5_is _).mono ?_; rintro e w16 ⟨rfl, b⟩; have K16 := K15.keep b; have B16 := B15.trans (b.mono B15.size); clear K15 B15; have t15 := True.intro)
      | fail)
    go_ret
    exact ⟨rfl, B16⟩

set_option maxRecDepth 100000 in
theorem contract (H : Type) (enc : TypeId × Value → H) (W : World) (base : Nat) (args : Array Value) (ds gs : List (DataW H)) (before : List MemPlace)
    (hval : ∀ (j : Nat) t v, Try.f3.params[j]? = some t → args[j]? = some v → Value.okWide Try.prog W .any base t v)
    (hW : DataW.Whole enc Try.prog Try.f3.params.toList Rows.postingsListsSpec.vars false W args.toList ds gs before) (hk : Rows.uptoSmall H (ds ++ gs) = true) :
    Calls Try.prog 3 args W fun e W' => ∃ v, e = .returned v ∧ Rows.postingsListsSpec.post enc Try.prog Try.f3 false true false false W args v W' := by
  have hW' := hW
  obtain ⟨p, q, hA0, hV, rfl, hfz, hnd⟩ := hW
  have hA : DataW.TrodAll enc Try.prog W 0 (fun _ => true) true Try.f3.params.toList args.toList ds p := hA0
  rw [Try.params3] at hA hval
  obtain ⟨v0, vs0, d0, ds0, p0, q0, hargs, rfl, rfl, h0, r0⟩ := trodAll_cons hA
  obtain ⟨v1, vs1, d1, ds1, p1, q1, rfl, rfl, rfl, h1, r1⟩ := trodAll_cons r0
  obtain ⟨rfl, rfl, rfl⟩ := trodAll_nil r1
  obtain rfl : args = #[v0, v1] := by cases args; simp_all
  obtain ⟨rfl, rfl⟩ := trodVars_none hV
  obtain ⟨a0, len0, cap0, rfl⟩ := okWide_slice Try.underlying22 (hval 0 22 v0 rfl rfl)
  have lt0 : ∀ x ∈ p0, x.block < W.heap.size := by
    obtain ⟨m, hm⟩ := h0
    exact DataW.trod_lt m _ _ _ hm
  obtain ⟨l0, hll0, hr0, hb0, hd0⟩ := open_rdI Try.underlying22 Try.underlying3 cells3 h0
  obtain ⟨a1, len1, cap1, rfl⟩ := okWide_slice Try.underlying22 (hval 1 22 v1 rfl rfl)
  have lt1 : ∀ x ∈ p1, x.block < W.heap.size := by
    obtain ⟨m, hm⟩ := h1
    exact DataW.trod_lt m _ _ _ hm
  obtain ⟨l1, hll1, hr1, hb1, hd1⟩ := open_rdI Try.underlying22 Try.underlying3 cells3 h1
  have hbulk : Rows.uptoBulk d0 + Rows.uptoBulk d1 ≤ 1048576 := by
    have h : Rows.uptoBulkAll ([d0, d1] ++ []) ≤ 1048576 := of_decide_eq_true hk
    simp only [List.append_nil, Rows.uptoBulkAll] at h
    omega
  have y0 : l0.length ≤ 1048576 := by
    rcases hd0 with ⟨rfl, rfl⟩ | ⟨el, sp, rfl, he, hc, hcc⟩
    · simp
    · have := bulk_slice el sp
      omega
  have y1 : l1.length ≤ 1048576 := by
    rcases hd1 with ⟨rfl, rfl⟩ | ⟨el, sp, rfl, he, hc, hcc⟩
    · simp
    · have := bulk_slice el sp
      omega
  clear hA0
  refine (walk _ _ l0 l1 W hr0 hr1 y0 y1).mono fun e W' ⟨he, bel⟩ => ?_
  subst he
  exact ⟨_, rfl, _, _, _, [], _, [], hW', trodAll_mk1 (shut_bool Try.underlying4 _), (trodAll_cons_mk (Below.trod laidOut (by kernel_rfl) (of_decide_eq_true (by kernel_rfl)) h0 bel lt0) (trodAll_cons_mk (Below.trod laidOut (by kernel_rfl) (of_decide_eq_true (by kernel_rfl)) h1 bel lt1) trodAll_mk0)), rfl, bel.frame _, fun h => by cases h⟩

set_option maxRecDepth 100000 in
theorem lifted (os : Os) (started : os.Started) (H : Type) (enc : TypeId × Value → H) (F : Stop.Interp) :
    ReturnsInHanded {} Try.checked os 3 .any ((Rows.OpenSpec.upto Rows.postingsListsSpec).pre6 enc Try.prog Try.f3 Rows.postingsListsUptoRow.domain false) (((Rows.OpenSpec.upto Rows.postingsListsSpec).at F).post enc Try.prog Try.f3 false true false false) := by
  refine returnsInHanded_of_cond (C := Try.checked) (s := Rows.OpenSpec.upto Rows.postingsListsSpec) (k := Rows.uptoSmall) rfl own started (by kernel_rfl) Try.func3
    (OpenSpec.witness (enc := enc) (C := Try.checked) (s := Rows.OpenSpec.upto Rows.postingsListsSpec) (k := Rows.uptoSmall) rfl false ⟨#[], #[.slice none 0 0, .slice none 0 0], []⟩ 8 (by kernel_rfl) (by kernel_rfl) (by kernel_rfl)
      (x := ([.nil, .nil], [], [])) (by kernel_rfl) rfl (by kernel_rfl)) ?_
  intro W base args ds gs before hval hW _ hk _
  exact contract H enc W base args ds gs before hval hW hk

theorem over : Rows.postingsListsUptoRow.holds Try.pinned (Rows.OpenSpec.upto Rows.postingsListsSpec) :=
  OpenClaim.holds_of_cond 3 Try.f3 rfl rfl rfl rfl rfl rfl rfl ⟨rfl, rfl, rfl, rfl, rfl⟩ rfl rfl rfl rfl rfl (by kernel_rfl) Try.func3 (by kernel_rfl)
    (of_decide_eq_true (by kernel_rfl)) (by unfold Func.isWrapper; first | (rw [if_pos (by decide +kernel)]; kernel_rfl) | (rw [if_neg (by decide +kernel)]; exact ⟨rfl, rfl⟩))
    (fun os started H enc _ F => lifted os started H enc F)

/-- THE STATEMENT. -/
theorem proved : Rows.PostingsListsUptoSaid := over
end Go.Proofs.Ytcdfjkhjdiojbaa.postingsLists
