/-
  What postings' Get answers. Conditions: the bytes can be read; sizes as the theorem names.
-/
import Derived.Test.YtcdfjkhjdiojbaaSetByt
namespace Go.Proofs.Ytcdfjkhjdiojbaa
open Go.RowKit Go.Icz
set_option maxHeartbeats 4000000 in
set_option maxRecDepth 100000 in
theorem PGet_is (v : Value) (b : List Nat) (w : World) (hv : Rd w v b) (hl : ∀ c ∈ b, c < 256) (hlen : b.length ≤ 140737488351232) :
    Calls Try.prog 19 #[v] w (GetOut b w) := by
  have hN := New_any v b w hv (by omega)
  obtain ⟨A0, c0, rfl, -, -⟩ := hv
  obtain ⟨hs1, hs2⟩ := numD_sub b 0
  obtain ⟨n, l1, e1, hnd⟩ : ∃ n l1 e1, numD b 0 = (n, l1, e1) := ⟨_, _, _, rfl⟩
  have hnl := numD_lt b 0
  have hND := fun B0 B g w1 (hd : DecAt w1 B0 B g b 0) => Number_dec B0 B g 0 b w1 hd hl (by omega)
  rw [hnd] at hND hs1 hs2 hnl
  have HGK : Hid (getOk b ↔ n ≤ 65536 ∧ doneD (numsD l1 e1 n).2.1 (numsD l1 e1 n).2.2 = 0 ∧ idsN (-1) (numsD l1 e1 n).1 < 1099511627776) := hid (by unfold getOk; rw [hnd])
  have HGL : Hid (getOk b → getL b = idsL (-1) (numsD l1 e1 n).1 ∧ getN b = 0) := hid (fun h => by unfold getL getN; rw [if_pos h, if_pos h, hnd]; exact ⟨rfl, rfl⟩)
  have HGN : Hid (¬ getOk b → getL b = [] ∧ getN b = 21) := hid (fun h => by unfold getL getN; rw [if_neg h, if_neg h]; exact ⟨rfl, rfl⟩)
  simp only at hND hs1 hs2 hnl
  have HSUB := hid (fun k => numsD_sub l1 e1 k)
  have hl1 : ∀ c ∈ l1, c < 256 := fun c hc => hl c (hs1 c hc)
  clear hnd hl hs1
  unfold Newed at hN
  unfold Took at hND
  unfold GetOut
  by_cases h65 : n ≤ 65536
  · have h65' : ¬ (65536 : Int) < (n : Int) := by omega
    go_enter Try.func19, Try.ntmps19
    go_wp2_with (first
      | (go_at_call 32; refine hN.mono ?_; rintro e w1 ⟨g, rfl, hg, d1, b1⟩; clear hN)
      | (go_at_call 33; refine (hND _ _ _ _ d1).mono ?_; rintro e w2 ⟨rfl, d2, g2⟩; clear hND d1)
      | fail)
    have hgB : g < w1.heap.size := by obtain ⟨_, _, _, h, _⟩ := d2; exact h.2
    have hbb : Below w.heap.size w w2 := b1.grown g2 b1.size (fun k hk => by injection hk with hk; omega)
    have hz2 : w1.heap.size ≤ w2.heap.size := g2.size
    generalize hB : w1.heap.size = B at *
    go_loopw [6, 7, 15] (fun lv dv iv wr => ∃ (i : Nat) (acc : List Int) (id : Int), iv = .int .i64 i ∧ dv = .int .i64 id ∧ i ≤ n ∧ OwnI wr B lv acc ∧ DecAt wr w.heap.size B g (numsD l1 e1 i).2.1 (numsD l1 e1 i).2.2 ∧ Below w.heap.size w wr ∧ B ≤ wr.heap.size ∧ Hid (Gath (numsD l1 e1 i).1 acc id) ∧ acc.length ≤ i) (fun _ _ iv _ => n - (intOf iv).toNat)
    case atStart => exact ⟨0, [], -1, rfl, rfl, by omega, OwnI.nil _ _, d2, hbb, hz2, hid Gath.nil, by simp⟩
    case round =>
      obtain ⟨i, acc, id, rfl, rfl, hi, ho, hd, hbw, hzr, HG, hal⟩ := hrel
      by_cases hlt : i < n
      · have hlt' : (i : Int) < (n : Int) := by omega
        obtain ⟨t1, t2⟩ := HSUB.out i
        have hNi := Number_dec w.heap.size B g (numsD l1 e1 i).2.2 (numsD l1 e1 i).2.1 wr hd (fun c hc => hl1 c (t1 c hc)) (by omega)
        have hml := numD_lt (numsD l1 e1 i).2.1 (numsD l1 e1 i).2.2
        have HS : Hid (∀ id2, IntKind.i64.wrap (id + (1 + ((numD (numsD l1 e1 i).2.1 (numsD l1 e1 i).2.2).1 : Int))) = id2 → Gath (numsD l1 e1 (i + 1)).1 (acc ++ [id2]) id2) := hid (fun id2 h2 => Gath.step HG.out hml h2)
        have HD : Hid (∀ w', DecAt w' w.heap.size B g (numD (numsD l1 e1 i).2.1 (numsD l1 e1 i).2.2).2.1 (numD (numsD l1 e1 i).2.1 (numsD l1 e1 i).2.2).2.2 → DecAt w' w.heap.size B g (numsD l1 e1 (i + 1)).2.1 (numsD l1 e1 (i + 1)).2.2) := hid (fun w' h => h)
        unfold Took at hNi
        clear HG hd t1 t2
        generalize (numD (numsD l1 e1 i).2.1 (numsD l1 e1 i).2.2).2.1 = r1 at *
        generalize (numD (numsD l1 e1 i).2.1 (numsD l1 e1 i).2.2).2.2 = r2 at *
        generalize (numD (numsD l1 e1 i).2.1 (numsD l1 e1 i).2.2).1 = m at *
        have zm : IntKind.i64.wrap (1 + (m : Int)) = 1 + (m : Int) := by rw [IntKind.wrap_i64]; omega
        obtain ⟨id2, hid2⟩ : ∃ id2, IntKind.i64.wrap (id + (1 + (m : Int))) = id2 := ⟨_, rfl⟩
        have HS2 := hid (HS.out id2 hid2)
        clear HS
        go_wp2_with (first
          | (go_at_call 33; refine hNi.mono ?_; rintro e w3 ⟨rfl, d3, g3⟩; have o3 := OwnI.grown ho g3 hgB; have hb3 := hbw.grown g3 hbw.size (fun k hk => by injection hk with hk; omega); have hz3 := Nat.le_trans hzr g3.size; clear hNi ho)
          | (at_builtin; refine wp_appI1 stdI rfl (.tmp 22) (.tmp 24) rfl B _ acc id2 rfl o3 rfl (by omega) hz3 ?_; intro v4 w4 o4 b4 _; have d4 := DecAt.below d3 b4; have hb4 := hb3.trans (b4.mono (by have := b1.size; omega)); have hz4 := Nat.le_trans hz3 b4.size; clear o3 d3)
          | fail)
        go_roundw
        case rel => exact ⟨i + 1, acc ++ [id2], id2, by go_num, rfl, by omega, o4, HD.out _ d4, hb4, hz4, HS2, by simp; omega⟩
        case measure => simp [intOf]; omega
      · have hge : ¬ (i : Int) < (n : Int) := by omega
        obtain rfl : i = n := by omega
        have hDn := Done_dec w.heap.size B g (numsD l1 e1 i).2.2 (numsD l1 e1 i).2.1 wr hd
        have hRg := fun w' (h : Below wr.heap.size wr w') => PRight_is _ acc w' (ho.rd.below h) (by omega)
        have hlen2 := numsD_len l1 e1 i
        have hri := Gath.right HG.out
        rw [hlen2] at hri
        by_cases hdn : doneD (numsD l1 e1 i).2.1 (numsD l1 e1 i).2.2 = 0
        · rw [hdn] at hDn
          by_cases hid : idsN (-1) (numsD l1 e1 i).1 < 1099511627776
          · have hr : rightI acc = true := by rw [hri]; exact decide_eq_true ⟨h65, hid⟩
            rw [hr] at hRg
            have HOK := HGL.out (HGK.out.2 ⟨h65, hdn, hid⟩)
            have hacc := (HG.out.2.1 hid).1
            have HA := Go.Icz.hid (hacc ▸ HOK)
            clear hri hlen2 hr HOK hacc hdn HGK HGL HGN HSUB
            go_wp2_with (first
              | (go_at_call 34; refine hDn.mono ?_; rintro e w5 ⟨rfl, rfl⟩; clear hDn)
              | (go_at_call 6; refine (hRg _ (Below.refl _ _)).mono ?_; rintro e w6 ⟨rfl, b6⟩; clear hRg)
              | fail)
            go_ret2
            rw [HA.out.1, HA.out.2]
            exact ⟨_, rfl, ho.rd.below b6, hbw.trans (b6.mono hbw.size)⟩
          · have hr : rightI acc = false := by rw [hri]; exact decide_eq_false (fun h => hid h.2)
            rw [hr] at hRg
            have HOK := Go.Icz.hid (HGN.out (fun h => hid (HGK.out.1 h).2.2))
            clear hri hlen2 hr hdn HGK HGL HGN HSUB
            go_wp2_with (first
              | (go_at_call 34; refine hDn.mono ?_; rintro e w5 ⟨rfl, rfl⟩; clear hDn)
              | (go_at_call 6; refine (hRg _ (Below.refl _ _)).mono ?_; rintro e w6 ⟨rfl, b6⟩; clear hRg)
              | fail)
            go_ret2
            rw [HOK.out.1, HOK.out.2]
            exact ⟨_, rfl, RdI.nil _, hbw.trans (b6.mono hbw.size)⟩
        · have HOK := Go.Icz.hid (HGN.out (fun h => hdn (HGK.out.1 h).2.1))
          have hdn' : ((doneD (numsD l1 e1 i).2.1 (numsD l1 e1 i).2.2 : Int) != 0) = true := by simp; omega
          generalize doneD (numsD l1 e1 i).2.1 (numsD l1 e1 i).2.2 = dd at *
          clear hri hlen2 HGK HGL HGN HSUB hRg
          go_wp2_with (first
            | (go_at_call 34; refine hDn.mono ?_; rintro e w5 ⟨rfl, rfl⟩; clear hDn)
            | fail)
          go_ret2
          rw [HOK.out.1, HOK.out.2]
          exact ⟨_, rfl, RdI.nil _, hbw⟩
  · have h65' : (65536 : Int) < (n : Int) := by omega
    have HOK := hid (HGN.out (fun h => h65 (HGK.out.1 h).1))
    clear HGK HGL HGN HSUB
    go_enter Try.func19, Try.ntmps19
    go_wp2_with (first
      | (go_at_call 32; refine hN.mono ?_; rintro e w1 ⟨g, rfl, hg, d1, b1⟩; clear hN)
      | (go_at_call 33; refine (hND _ _ _ _ d1).mono ?_; rintro e w2 ⟨rfl, d2, g2⟩; clear hND d1)
      | fail)
    go_ret2
    rw [HOK.out.1, HOK.out.2]
    exact ⟨_, rfl, RdI.nil _, b1.grown g2 b1.size (fun k hk => by injection hk with hk; omega)⟩
end Go.Proofs.Ytcdfjkhjdiojbaa
