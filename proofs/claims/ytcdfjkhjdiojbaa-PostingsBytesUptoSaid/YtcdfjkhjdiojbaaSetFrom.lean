/-
  What the reference's From and Get answer. Conditions: the bytes can be read; sizes as each theorem names.
-/
import Derived.Test.YtcdfjkhjdiojbaaSetByt
namespace Go.Proofs.Ytcdfjkhjdiojbaa
open Go.RowKit Go.Icz
theorem idsL_last : ∀ (ns : List Nat) (a : Int) (h : 0 < ns.length), (idsL a ns)[ns.length - 1]'(by rw [idsL_len]; omega) = idsN a ns
  | [n], a, _ => by simp [idsL, idsN]
  | n :: m :: t, a, _ => by
    have h := idsL_last (m :: t) (a + 1 + n) (by simp)
    simpa [idsL, idsN] using h
theorem idsN_mono (l : List Nat) (er : Nat) : ∀ k j, idsN (-1) (numsD l er k).1 ≤ idsN (-1) (numsD l er (k + j)).1
  | _, 0 => Int.le_refl _
  | k, j + 1 => by
    have h := idsN_mono l er k j
    have e : (numsD l er (k + (j + 1))).1 = (numsD l er (k + j)).1 ++ [(numD (numsD l er (k + j)).2.1 (numsD l er (k + j)).2.2).1] := rfl
    rw [e, (idsL_snoc _ _ _).2]
    omega
def FromOut (B0 B g : Nat) (b : List Nat) (w : World) (e : Ending) (w' : World) : Prop :=
  ∃ (u : Value) (ok : Bool) (a er : Nat) (l : List Int), e = .returned (.tuple #[u, .bool ok]) ∧ RDec w' B g b a er ∧ RdI w' u l ∧ Below B0 w w' ∧ (getOk b → ok = true ∧ doneD (b.drop a) er = 0 ∧ l = getL b) ∧ (¬ getOk b → ok = false ∨ doneD (b.drop a) er ≠ 0)
set_option maxHeartbeats 4000000 in
set_option maxRecDepth 100000 in
theorem From_is (B0 B g : Nat) (b : List Nat) (w : World) (hd : RDec w B g b 0 0) (hB0 : B0 ≤ g) (hBw : B ≤ w.heap.size) (hl : ∀ c ∈ b, c < 256) (hlen : b.length ≤ 140737488351232) :
    Calls Try.prog 36 #[.pointer (some ⟨g, 0, none⟩)] w (FromOut B0 B g b w) := by
  have hgB : g < B := by obtain ⟨_, _, _, h, _⟩ := hd; exact h
  have hND := RNumber_dec B g 0 0 b w hd hl (by omega)
  have hR0 := numR_D b 0 0
  rw [List.drop_zero] at hR0
  obtain ⟨n, a0, e0, hnr⟩ : ∃ n a0 e0, numR b 0 0 = (n, a0, e0) := ⟨_, _, _, rfl⟩
  rw [hnr] at hND hR0
  simp only at hND hR0
  have hnl := numD_lt b 0
  rw [hR0] at hnl
  simp only at hnl
  have HGK : Hid (getOk b ↔ n ≤ 65536 ∧ doneD (numsD (b.drop a0) e0 n).2.1 (numsD (b.drop a0) e0 n).2.2 = 0 ∧ idsN (-1) (numsD (b.drop a0) e0 n).1 < 1099511627776) := hid (by unfold getOk; rw [hR0])
  have HGL : Hid (getOk b → getL b = idsL (-1) (numsD (b.drop a0) e0 n).1) := hid (fun h => by unfold getL; rw [if_pos h, hR0])
  have HM := hid (idsN_mono (b.drop a0) e0)
  have HE := hid (fun k => numsD_err (b.drop a0) (er := e0) k)
  clear hnr hR0
  unfold RTook at hND
  have HN0 : Hid ((numsD (b.drop a0) e0 0).2.1 = b.drop a0 ∧ (numsD (b.drop a0) e0 0).2.2 = e0 ∧ (numsD (b.drop a0) e0 0).1 = []) := hid ⟨rfl, rfl, rfl⟩
  have HLEN := hid (numsD_len (b.drop a0) e0)
  have HST : Hid (∀ k, numsD (b.drop a0) e0 (k + 1) = ((numsD (b.drop a0) e0 k).1 ++ [(numD (numsD (b.drop a0) e0 k).2.1 (numsD (b.drop a0) e0 k).2.2).1], (numD (numsD (b.drop a0) e0 k).2.1 (numsD (b.drop a0) e0 k).2.2).2.1, (numD (numsD (b.drop a0) e0 k).2.1 (numsD (b.drop a0) e0 k).2.2).2.2)) := hid (fun _ => rfl)
  generalize numsD (b.drop a0) e0 = F at *
  go_enter Try.func36, Try.ntmps36
  go_wp2_with (first
    | (go_at_call 50; refine hND.mono ?_; rintro e w1 ⟨rfl, d1, g1⟩; clear hND)
    | fail)
  have hbw1 : Below B0 w w1 := (Below.refl _ _).grown g1 (by omega) (fun k hk => by injection hk with hk; omega)
  have hz1 : w.heap.size ≤ w1.heap.size := g1.size
  go_loopw [5, 6] (fun lv iv wr => ∃ (i : Nat) (acc : List Int) (a er : Nat), iv = .int .i64 i ∧ i ≤ n ∧ i ≤ 65537 ∧ OwnI wr w.heap.size lv acc ∧ RDec wr B g b a er ∧ Below B0 w wr ∧ w.heap.size ≤ wr.heap.size ∧ Hid ((F i).2.1 = b.drop a ∧ (F i).2.2 = er ∧ acc = idsL (-1) (F i).1 ∧ idsN (-1) (F i).1 < 1099511627776) ∧ Hid (acc.length = i)) (fun _ iv _ => n - (intOf iv).toNat)
  case atStart => exact ⟨0, [], a0, e0, rfl, by omega, by omega, OwnI.nil _ _, d1, hbw1, hz1, hid ⟨HN0.out.1, HN0.out.2.1, by rw [HN0.out.2.2]; rfl, by rw [HN0.out.2.2]; simp [idsN]⟩, hid rfl⟩
  case round =>
    obtain ⟨i, acc, a, er, rfl, hi, hi2, ho, hd, hbw, hzr, HI, HAL⟩ := hrel
    have hd0 := hd
    obtain ⟨vd, b0, q1, q2, q4, qa, p0, p1, p2, qf1, qf2, qr⟩ := hd
    have hRg := fun w' (h : Below wr.heap.size wr w') => R5Right_is _ acc w' (ho.rd.below h) (by have := HAL.out; omega)
    have hri : rightI acc = decide (i ≤ 65536) := by
      obtain ⟨h1, h2, h3, h4⟩ := HI.out
      have h5 := HAL.out
      have h6 := (OkI_ids (F i).1).2 h4
      rw [← h3] at h6
      unfold rightI
      rw [h5]
      simp [h6]
    by_cases hlt : i < n
    · have hlt' : (i : Int) < (n : Int) := by omega
      by_cases he : er = 0
      · subst he
        by_cases h65 : i ≤ 65536
        · have h65' : (i : Int) ≤ 65536 := by omega
          have hal : acc.length ≤ 65537 := by have := HAL.out; omega
          have hNi := RNumber_dec B g 0 a b wr hd0 hl (by omega)
          have hRD := numR_D b a 0
          obtain ⟨m, a2, e2, hnr⟩ : ∃ m a2 e2, numR b a 0 = (m, a2, e2) := ⟨_, _, _, rfl⟩
          rw [hnr] at hNi hRD
          simp only at hNi hRD
          have hml := numD_lt (b.drop a) 0
          rw [hRD] at hml
          simp only at hml
          have HF : Hid ((F (i + 1)).1 = (F i).1 ++ [m] ∧ (F (i + 1)).2.1 = b.drop a2 ∧ (F (i + 1)).2.2 = e2) := hid (by
            have h1 := HST.out i
            rw [HI.out.1, HI.out.2.1, hRD] at h1
            rw [h1]
            exact ⟨rfl, rfl, rfl⟩)
          have HX : Hid (idsN (-1) (F (i + 1)).1 = idsN (-1) (F i).1 + 1 + m ∧ idsL (-1) (F (i + 1)).1 = idsL (-1) (F i).1 ++ [idsN (-1) (F i).1 + 1 + m]) := hid (by rw [HF.out.1]; exact ⟨(idsL_snoc _ _ _).2, (idsL_snoc _ _ _).1⟩)
          have hge1 := idsN_ge (F i).1 (-1)
          have hlt1 := HI.out.2.2.2
          unfold RTook at hNi
          clear hnr hRD p0 p1 q1 q2 q4 qa qf1 qf2 qr hRg hri
          by_cases h0 : 0 < i
          · have h0' : (0 : Int) < (i : Int) := by omega
            obtain ⟨k, hk⟩ : ∃ k, i = k + 1 := ⟨i - 1, by omega⟩
            have hkl : k < acc.length := by have := HAL.out; omega
            have hlast : acc[k] = idsN (-1) (F i).1 := by
              have h1 := HLEN.out i
              have h2 := idsL_last (F i).1 (-1) (by omega)
              have h3 := HI.out.2.2.1
              subst h3
              have h5 : k = (F i).1.length - 1 := by omega
              subst h5
              exact h2
            obtain ⟨gl, cl, rfl, hgl, hgl2, hcl, hcells⟩ := ho.form (by omega)
            have hkc := hcells k hkl
            rw [hlast] at hkc
            have K : ∀ w', wr.grownBy w' (some g) → w'.cell? ⟨gl, k, none⟩ = some (.int .i64 (idsN (-1) (F i).1)) := fun w' h => (h.cell_far ⟨gl, k, none⟩ hgl2 (by simp; omega)).trans hkc
            have zk : (i : Int) - 1 = (k : Int) := by omega
            have zk0 : (0 : Int) ≤ (k : Int) := by omega
            have zkl : (k : Int) < (acc.length : Int) := by omega
            have zw0 : IntKind.i64.wrap (k : Int) = (k : Int) := by rw [IntKind.wrap_i64]; omega
            obtain ⟨x, hx⟩ : ∃ x, x = idsN (-1) (F i).1 + 1 + m := ⟨_, rfl⟩
            have zw1 : IntKind.i64.wrap ((m : Int) + idsN (-1) (F i).1) = (m : Int) + idsN (-1) (F i).1 := by rw [IntKind.wrap_i64]; omega
            have zw2 : IntKind.i64.wrap ((m : Int) + idsN (-1) (F i).1 + 1) = x := by rw [IntKind.wrap_i64]; omega
            have HXX : Hid (idsN (-1) (F (i + 1)).1 = x ∧ idsL (-1) (F (i + 1)).1 = idsL (-1) (F i).1 ++ [x]) := hid (by rw [hx]; exact HX.out)
            clear hcells hkc hlast hx HX
            generalize hy : idsN (-1) (F i).1 = y at *
            have hk' := hid hk
            have hkl2 := hid hkl
            clear hk hkl hy
            by_cases hmo : 1099511627776 ≤ x
            · have HBAD : Hid (¬ getOk b) := hid (fun h => by
                have h1 := (HGK.out.1 h).2.2
                have h2 := HM.out (i + 1) (n - (i + 1))
                rw [show i + 1 + (n - (i + 1)) = n by omega, HXX.out.1] at h2
                omega)
              clear HGK HGL HM HE HST HLEN HN0 HI HF HXX
              go_wp2_with (first
                | (go_at_call 50; refine hNi.mono ?_; rintro e w3 ⟨rfl, d3, g3⟩; have kc := K _ g3; have hb3 := hbw.grown g3 (by omega) (fun k hk => by injection hk with hk; omega); clear hNi K hd0)
                | fail)
              go_ret2
              exact ⟨_, false, a2, e2, [], rfl, d3, RdI.nil _, hb3, fun h => absurd h HBAD.out, fun _ => .inl rfl⟩
            · have HF2 := hid HF.out.2
              clear HN0 HF
              go_wp2_with (first
                | (go_at_call 50; refine hNi.mono ?_; rintro e w3 ⟨rfl, d3, g3⟩; have kc := K _ g3; have hb3 := hbw.grown g3 (by omega) (fun k hk => by injection hk with hk; omega); have o3 := OwnI.grown ho g3 (by omega); have hz3 := Nat.le_trans hzr g3.size; clear hNi K hd0 ho)
                | (at_builtin; refine wp_appI1 stdI rfl (.tmp 40) (.tmp 42) rfl w.heap.size _ acc x rfl o3 rfl (by omega) hz3 ?_; intro v4 w4 o4 b4 _; have d4 := RDec.below d3 (b4.mono hBw); have hb4 := hb3.trans (b4.mono (by omega)); have hz4 := Nat.le_trans hz3 b4.size; clear o3 d3)
                | fail)
              go_roundw
              case rel => exact ⟨i + 1, acc ++ [x], a2, e2, by go_num, by omega, by omega, o4, d4, hb4, hz4, hid ⟨HF2.out.1, HF2.out.2, by rw [HXX.out.2, HI.out.2.2.1], by rw [HXX.out.1]; omega⟩, hid (by rw [List.length_append, HAL.out]; rfl)⟩
              case measure => simp [intOf]; omega
          · have h0' : ¬ (0 : Int) < (i : Int) := by omega
            have hF0 : (F i).1 = [] := List.eq_nil_of_length_eq_zero (by rw [HLEN.out i]; omega)
            have HXX : Hid (idsN (-1) (F (i + 1)).1 = (m : Int) ∧ idsL (-1) (F (i + 1)).1 = idsL (-1) (F i).1 ++ [(m : Int)]) := hid (by have h := HX.out; rw [hF0] at h ⊢; simp only [idsN] at h; rw [show (-1 : Int) + 1 + (m : Int) = (m : Int) by omega] at h; exact h)
            clear hF0 HX hge1 hlt1
            by_cases hmo : (1099511627776 : Int) ≤ (m : Int)
            · have HBAD : Hid (¬ getOk b) := hid (fun h => by
                have h1 := (HGK.out.1 h).2.2
                have h2 := HM.out (i + 1) (n - (i + 1))
                rw [show i + 1 + (n - (i + 1)) = n by omega, HXX.out.1] at h2
                omega)
              clear HGK HGL HM HE HST HLEN HN0 HI HF HXX
              go_wp2_with (first
                | (go_at_call 50; refine hNi.mono ?_; rintro e w3 ⟨rfl, d3, g3⟩; have hb3 := hbw.grown g3 (by omega) (fun k hk => by injection hk with hk; omega); clear hNi hd0)
                | fail)
              go_ret2
              exact ⟨_, false, a2, e2, [], rfl, d3, RdI.nil _, hb3, fun h => absurd h HBAD.out, fun _ => .inl rfl⟩
            · have HF2 := hid HF.out.2
              have H00 := hid h0
              clear HN0 HF h0 HGK HGL HM HE HST HLEN hml
              generalize (m : Int) = x at *
              go_wp2_with (first
                | (go_at_call 50; refine hNi.mono ?_; rintro e w3 ⟨rfl, d3, g3⟩; have hb3 := hbw.grown g3 (by omega) (fun k hk => by injection hk with hk; omega); have o3 := OwnI.grown ho g3 (by omega); have hz3 := Nat.le_trans hzr g3.size; clear hNi hd0 ho)
                | (at_builtin; refine wp_appI1 stdI rfl (.tmp 40) (.tmp 42) rfl w.heap.size _ acc x rfl o3 rfl (by omega) hz3 ?_; intro v4 w4 o4 b4 _; have d4 := RDec.below d3 (b4.mono hBw); have hb4 := hb3.trans (b4.mono (by omega)); have hz4 := Nat.le_trans hz3 b4.size; clear o3 d3)
                | fail)
              go_roundw
              case rel => exact ⟨i + 1, acc ++ [x], a2, e2, by go_num, by omega, by omega, o4, d4, hb4, hz4, hid ⟨HF2.out.1, HF2.out.2, by rw [HXX.out.2, HI.out.2.2.1], by rw [HXX.out.1]; omega⟩, hid (by rw [List.length_append, HAL.out]; rfl)⟩
              case measure => simp [intOf]; omega
        · have h65' : ¬ (i : Int) ≤ 65536 := by omega
          have hr : rightI acc = false := by rw [hri]; exact decide_eq_false h65
          rw [hr] at hRg
          have HBAD : Hid (¬ getOk b) := hid (fun h => by have := (HGK.out.1 h).1; omega)
          clear HGK HGL HM HE HST HLEN HN0 HI hri hr
          have K2 : ∀ w', Below wr.heap.size wr w' → RDec w' B g b a 0 ∧ Below B0 w w' ∧ RdI w' _ acc := fun w' h => ⟨RDec.below hd0 (h.mono (by omega)), hbw.trans (h.mono (by omega)), ho.rd.below h⟩
          go_wp2_with (first
            | (go_at_call 7; refine (hRg _ (Below.refl _ _)).mono ?_; rintro e w6 ⟨rfl, b6⟩; clear hRg)
            | fail)
          go_ret2
          obtain ⟨k1, k2, k3⟩ := K2 _ b6
          exact ⟨_, false, a, 0, acc, rfl, k1, k3, k2, fun h => absurd h HBAD.out, fun _ => .inl rfl⟩
      · have he' : ((er : Int) == 0) = false := by simp; omega
        have HBAD : Hid (¬ getOk b) := hid (fun h => by
          have h1 := (HGK.out.1 h).2.1
          have h2 := HE.out i (by rw [HI.out.2.1]; exact he) (n - i)
          rw [show i + (n - i) = n by omega, HI.out.2.1] at h2
          unfold doneD at h1
          rw [h2, if_pos he] at h1
          exact he h1)
        clear HGK HGL HM HE HST HLEN HN0 HI hri hRg
        go_wp2_with fail
        go_ret2
        exact ⟨_, false, a, er, acc, rfl, hd0, ho.rd, hbw, fun h => absurd h HBAD.out, fun _ => .inl rfl⟩
    · have hge : ¬ (i : Int) < (n : Int) := by omega
      obtain rfl : i = n := by omega
      by_cases he : er = 0
      · subst he
        by_cases h65 : i ≤ 65536
        · have hr : rightI acc = true := by rw [hri]; exact decide_eq_true h65
          rw [hr] at hRg
          have HG : Hid ((getOk b → doneD (b.drop a) 0 = 0 ∧ acc = getL b) ∧ (¬ getOk b → doneD (b.drop a) 0 ≠ 0)) := hid (by
            obtain ⟨h1, h2, h3, h4⟩ := HI.out
            have h5 := HGK.out
            rw [h1, h2] at h5
            exact ⟨fun h => ⟨(h5.1 h).2.1, by rw [HGL.out h]; exact h3⟩, fun h h6 => h (h5.2 ⟨h65, h6, h4⟩)⟩)
          clear HGK HGL HM HE HST HLEN HN0 HI hri hr
          have K2 : ∀ w', Below wr.heap.size wr w' → RDec w' B g b a 0 ∧ Below B0 w w' ∧ RdI w' _ acc := fun w' h => ⟨RDec.below hd0 (h.mono (by omega)), hbw.trans (h.mono (by omega)), ho.rd.below h⟩
          go_wp2_with (first
            | (go_at_call 7; refine (hRg _ (Below.refl _ _)).mono ?_; rintro e w6 ⟨rfl, b6⟩; clear hRg)
            | fail)
          go_ret2
          obtain ⟨k1, k2, k3⟩ := K2 _ b6
          exact ⟨_, true, a, 0, acc, rfl, k1, k3, k2, fun h => ⟨rfl, HG.out.1 h⟩, fun h => .inr (HG.out.2 h)⟩
        · have hr : rightI acc = false := by rw [hri]; exact decide_eq_false h65
          rw [hr] at hRg
          have HBAD : Hid (¬ getOk b) := hid (fun h => by have := (HGK.out.1 h).1; omega)
          clear HGK HGL HM HE HST HLEN HN0 HI hri hr
          have K2 : ∀ w', Below wr.heap.size wr w' → RDec w' B g b a 0 ∧ Below B0 w w' ∧ RdI w' _ acc := fun w' h => ⟨RDec.below hd0 (h.mono (by omega)), hbw.trans (h.mono (by omega)), ho.rd.below h⟩
          go_wp2_with (first
            | (go_at_call 7; refine (hRg _ (Below.refl _ _)).mono ?_; rintro e w6 ⟨rfl, b6⟩; clear hRg)
            | fail)
          go_ret2
          obtain ⟨k1, k2, k3⟩ := K2 _ b6
          exact ⟨_, false, a, 0, acc, rfl, k1, k3, k2, fun h => absurd h HBAD.out, fun _ => .inl rfl⟩
      · have he' : ((er : Int) == 0) = false := by simp; omega
        have HBAD : Hid (¬ getOk b) := hid (fun h => by
          have h1 := (HGK.out.1 h).2.1
          rw [HI.out.2.1] at h1
          unfold doneD at h1
          rw [if_pos he] at h1
          exact he h1)
        clear HGK HGL HM HE HST HLEN HN0 HI hri hRg
        go_wp2_with fail
        go_ret2
        exact ⟨_, false, a, er, acc, rfl, hd0, ho.rd, hbw, fun h => absurd h HBAD.out, fun _ => .inl rfl⟩
set_option maxHeartbeats 1000000 in
set_option maxRecDepth 100000 in
theorem R5Get_is (v : Value) (b : List Nat) (w : World) (hv : Rd w v b) (hl : ∀ c ∈ b, c < 256) (hlen : b.length ≤ 140737488351232) :
    Calls Try.prog 20 #[v] w (GetOut b w) := by
  have hN := RNew_any v b w hv hlen
  obtain ⟨A0, c0, rfl, -, -⟩ := hv
  have HF := fun w1 g (h : RDec w1 w1.heap.size g b 0 0) (hg : w.heap.size ≤ g) => From_is w.heap.size w1.heap.size g b w1 h hg (Nat.le_refl _) hl hlen
  have HD := fun B g er a w1 (h : RDec w1 B g b a er) => RDone_dec B g er a b w1 h (by omega)
  unfold FromOut at HF
  unfold GetOut
  by_cases hok : getOk b
  · have HN : Hid (getN b = 0) := hid (by unfold getN; rw [if_pos hok])
    have HOK := hid hok
    clear hok
    go_enter Try.func20, Try.ntmps20
    go_wp2_with (first
      | (go_at_call 35; refine hN.mono ?_; rintro e w1 ⟨g, rfl, hg, d1, b1⟩; clear hN)
      | (go_at_call 36; refine (HF _ _ d1 hg).mono ?_; rintro e w2 ⟨u, ok, a, er, l, rfl, d2, r2, b2, q1, q2⟩; obtain ⟨rfl, hdn, rfl⟩ := q1 HOK.out; have hd3 := HD _ _ _ _ _ d2; rw [hdn] at hd3; clear HF q2 hdn)
      | (go_at_call 37; refine hd3.mono ?_; rintro e w3 ⟨rfl, q, rfl⟩; clear hd3)
      | fail)
    go_ret2
    rw [HN.out]
    have b3 := b1.trans b2
    exact ⟨_, rfl, r2, ⟨b3.os, b3.tape, b3.output, b3.size, b3.block⟩⟩
  · have HN : Hid (getN b = 21 ∧ getL b = []) := hid (by unfold getN getL; rw [if_neg hok, if_neg hok]; exact ⟨rfl, rfl⟩)
    have HOK := hid hok
    clear hok
    go_enter Try.func20, Try.ntmps20
    go_wp2_with (first
      | (go_at_call 35; refine hN.mono ?_; rintro e w1 ⟨g, rfl, hg, d1, b1⟩; clear hN)
      | (go_at_call 36; refine (HF _ _ d1 hg).mono ?_; rintro e w2 ⟨u, ok, a, er, l, rfl, d2, r2, b2, q1, q2⟩; have q3 := q2 HOK.out; have hd3 := HD _ _ _ _ _ d2; have b3 := b1.trans b2; clear HF q1 q2; generalize doneD (List.drop a b) er = dd at *; rcases q3 with rfl | q3; rotate_left; cases ok; rotate_left; have hdd : ((dd : Int) != 0) = true := (by simp; omega))
      | (go_at_call 37; refine hd3.mono ?_; rintro e w3 ⟨rfl, q, rfl⟩; clear hd3)
      | fail)
    all_goals
      go_ret2
      rw [HN.out.1, HN.out.2]
      exact ⟨_, rfl, RdI.nil _, ⟨b3.os, b3.tape, b3.output, b3.size, b3.block⟩⟩
end Go.Proofs.Ytcdfjkhjdiojbaa
