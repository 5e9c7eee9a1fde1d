/-
  RecordOrdered: whatever the entries and the number, the law returns true and its arguments read as before. Conditions: those of the given statement (the listed tables of Go's library are as the program lays them).
-/
import Derived.Test.YtcdfjkhjdiojbaaDoorEntSame2
import Derived.Test.YtcdfjkhjdiojbaaDoorEntAll2
import Derived.Test.YtcdfjkhjdiojbaaDoorTable
namespace Go.Proofs.YtcdfjkhjdiojbaaDoor.RecordOrdered
open Go.ChangeMaps Go.ChangeShapes Go.WideShapes Go.ChangeAt Go.RowKit Go.Icz
set_option maxHeartbeats 8000000 in
set_option maxRecDepth 100000 in
theorem walk (v0 : Value) (l : List Ent) (k : Int) (W : World) (h0 : RdE W v0 l) (hz : ∀ x ∈ l, entZ x) (hw : l.length * 56 ≤ 140737488351232) (hT : Tabs W) :
    Calls Tryd.prog 4 #[v0, .int .i64 k] W fun e w' => e = .returned (.bool true) ∧ Below W.heap.size W w' := by
  have A0 := EAll_is v0 l W h0 hz hw
  have S1 := fun u w (g : RdE w u l) => RSort_is u l w g hz hw
  have S2 := fun r (hs : StableOf ltT l r) (hl : r.length = l.length) u w (g : RdE w u r) => RSort_is u r w g (fun x hx => hz x ((hs.mem ltT_ord).1 hx)) (by omega)
  have HK := fun w (hb : Below W.heap.size W w) => knows_is w (hT.below hb)
  have SR := hid (fun r (hs : StableOf ltT l r) (hl : r.length = l.length) v1 v2 w (g1 : RdE w v1 r) (g2 : RdE w v2 r) => ESames_refl v1 v2 r w g1 g2 (fun x hx => by have := hz x ((hs.mem ltT_ord).1 hx); have := this.1; omega) (by omega))
  have HZ := hid hz
  obtain ⟨X, hX, hV, hL⟩ := h0.places
  have hXl : X.length = l.length := by rw [← hX, List.length_map]
  obtain ⟨A, c, rfl, hlc, hcell⟩ := hV
  obtain ⟨N, hn⟩ : ∃ N, N = X.length := ⟨_, rfl⟩
  have HNX := hid hn
  have HLN : Hid (N = l.length) := hid (by omega)
  have HX := hid hX
  have HL := hid hL
  have hn60 : N * 56 ≤ 140737488351232 := by omega
  rw [← hn] at A0 hlc ⊢
  have hcell : 0 < N → _ := fun h => hcell (by rw [← hn]; exact h)
  clear hn hXl hw hz h0 hX hT hL
  unfold AllOut at A0
  unfold SortedOut at S1 S2
  go_enter Tryd.func4, Tryd.ntmps4
  go_wp2_with (first
    | (go_at_call 6; refine A0.mono ?_; rintro e w1 ⟨u, rfl, g1, b1⟩; clear A0)
    | (go_at_call 7; refine (S1 _ _ g1).mono ?_; rintro e w2 ⟨v2, r, rfl, g2, s2, hl2, b2'⟩; have b2 := b1.trans (b2'.mono b1.size); have T2 := S2 r s2 hl2; have T3 := SR.out r s2 hl2; have hR2 := hid g2.places; obtain ⟨A2, c2, rfl, hlc2, -⟩ := id g2; have hlr : r.length = N := (by rw [hl2]; exact HLN.out.symm); rw [hlr] at g2 hR2 hlc2 ⊢; clear hlr S1 S2 b2' g1)
    | (go_at_call 7; refine (T2 _ _ g2).mono ?_; rintro e w3 ⟨v3, r3, rfl, g3, s3, hl3, b3'⟩; obtain rfl := StableOf.same ltT_ord s2.1 s3; have b3 := b2.trans (b3'.mono b2.size); have g2' := g2.below b3'; clear T2 s3 hl3)
    | (go_at_call 11; refine (T3 _ _ _ g3 g2').mono ?_; rintro e w4 ⟨rfl, b4'⟩; have b4 := b3.trans (b4'.mono b3.size); have d4 := b3'.trans (b4'.mono b3'.size); clear T3 g3 g2' b4')
    | fail)
  obtain ⟨Y, hY, hVY, hLY⟩ := hR2.out
  obtain ⟨Aq, cq, hv2, -, hcellY⟩ := hVY
  have hYl : Y.length = r3.length := by rw [← hY, List.length_map]
  have hYN : Y.length = N := by rw [hYl, hl2]; exact HLN.out.symm
  have HYN := hid hYN
  have HY := hid hY
  have HLY := hid hLY
  have HS2 := hid s2
  rw [hYN] at hv2
  injection hv2 with e1 e2 e3
  subst e1 e3
  have hcellY : 0 < N → _ := fun h => hcellY (by rw [hYN]; exact h)
  have HGY := hid g2
  clear hYl hYN hY hLY hl2 s2 g2 hR2 SR b3 b3' b1 HGY e2
  have D4 := d4
  generalize w4 = wz at *
  go_loopw [6] (fun iv wr => ∃ i : Nat, iv = .int .i64 (i : Int) ∧ 1 ≤ i ∧ i ≤ N + 1 ∧ Below wz.heap.size wz wr) (fun iv _ => (N + 1) - (intOf iv).toNat)
  case atStart => exact ⟨1, by go_num, by omega, by omega, Below.refl _ _⟩
  case round =>
    obtain ⟨i, rfl, hi1, hiN, hbw⟩ := hrel
    have hbW := b4.trans (hbw.mono b4.size)
    have hb2 := D4.trans (hbw.mono D4.size)
    by_cases hlt : i < N
    · have hlt' : (i : Int) < (N : Int) := by omega
      obtain ⟨j, hj⟩ : ∃ j, i = j + 1 := ⟨i - 1, by omega⟩
      obtain ⟨b2, off2, rfl, hbb2, hcl⟩ := hcellY (by omega)
      have hiX : i < Y.length := by have := HYN.out; omega
      have hjX : j < Y.length := by omega
      have hci := hcl i hiX
      have hcj := hcl j hjX
      have hord : decide (cmpE (Y[i]).1 (Y[j]).1 < 0) = false := by
        have h1 := HS2.out.1
        have h2 := HY.out
        subst h2
        exact List.pairwise_iff_getElem.1 (List.pairwise_map.1 h1) j i hjX hiX (by omega)
      clear hcl hcellY hcell
      generalize Y[i] = x at *
      generalize Y[j] = y at *
      clear hiX hjX
      have zj : (i : Int) - 1 = (j : Int) := by omega
      have zj0 : (0 : Int) ≤ (j : Int) := by omega
      have zjl : (j : Int) < (N : Int) := by omega
      have zw : IntKind.i64.wrap (j : Int) = (j : Int) := by rw [IntKind.wrap_i64]; omega
      have zw2 : IntKind.i64.wrap ((i : Int) - 1) = (j : Int) := by rw [IntKind.wrap_i64]; omega
      have HJ := hid hj
      clear hj
      have HB1 := fun w1 => Before_is x.1 y.1 x.2.1 y.2.1 x.2.2 y.2.2 w1
      rw [hord] at HB1
      unfold entV at HB1
      have mkS : ∀ w', Below wz.heap.size wz w' → Below wz.heap.size wz w' ∧ w'.cell? ⟨b2, off2 + i * 4, none⟩ = some (.int .i64 x.1.seq) ∧ w'.cell? ⟨b2, off2 + i * 4 + 1, none⟩ = some (.int .i64 x.1.time) ∧ w'.cell? ⟨b2, off2 + i * 4 + 2, none⟩ = some (.slice x.2.1 x.1.labs.length x.2.2) ∧ w'.cell? ⟨b2, off2 + i * 4 + 3, none⟩ = some (.string ⟨x.1.line.toArray⟩) ∧ w'.cell? ⟨b2, off2 + j * 4, none⟩ = some (.int .i64 y.1.seq) ∧ w'.cell? ⟨b2, off2 + j * 4 + 1, none⟩ = some (.int .i64 y.1.time) ∧ w'.cell? ⟨b2, off2 + j * 4 + 2, none⟩ = some (.slice y.2.1 y.1.labs.length y.2.2) ∧ w'.cell? ⟨b2, off2 + j * 4 + 3, none⟩ = some (.string ⟨y.1.line.toArray⟩) := fun w' h => by
        have hbb := D4.trans (h.mono D4.size)
        exact ⟨h, (hbb.cell (p := ⟨b2, off2 + i * 4, none⟩) hbb2).trans hci.1, (hbb.cell (p := ⟨b2, off2 + i * 4 + 1, none⟩) hbb2).trans hci.2.1, (hbb.cell (p := ⟨b2, off2 + i * 4 + 2, none⟩) hbb2).trans hci.2.2.1, (hbb.cell (p := ⟨b2, off2 + i * 4 + 3, none⟩) hbb2).trans hci.2.2.2, (hbb.cell (p := ⟨b2, off2 + j * 4, none⟩) hbb2).trans hcj.1, (hbb.cell (p := ⟨b2, off2 + j * 4 + 1, none⟩) hbb2).trans hcj.2.1, (hbb.cell (p := ⟨b2, off2 + j * 4 + 2, none⟩) hbb2).trans hcj.2.2.1, (hbb.cell (p := ⟨b2, off2 + j * 4 + 3, none⟩) hbb2).trans hcj.2.2.2⟩
      have hk9 := mkS wr.drew ⟨hbw.os, hbw.tape, hbw.output, hbw.size, hbw.block⟩
      clear hci hcj hord
      go_wp2_with fail
      refine wp_region_held_drew (S := fun w' => Below wz.heap.size wz w' ∧ w'.cell? ⟨b2, off2 + i * 4, none⟩ = some (.int .i64 x.1.seq) ∧ w'.cell? ⟨b2, off2 + i * 4 + 1, none⟩ = some (.int .i64 x.1.time) ∧ w'.cell? ⟨b2, off2 + i * 4 + 2, none⟩ = some (.slice x.2.1 x.1.labs.length x.2.2) ∧ w'.cell? ⟨b2, off2 + i * 4 + 3, none⟩ = some (.string ⟨x.1.line.toArray⟩) ∧ w'.cell? ⟨b2, off2 + j * 4, none⟩ = some (.int .i64 y.1.seq) ∧ w'.cell? ⟨b2, off2 + j * 4 + 1, none⟩ = some (.int .i64 y.1.time) ∧ w'.cell? ⟨b2, off2 + j * 4 + 2, none⟩ = some (.slice y.2.1 y.1.labs.length y.2.2) ∧ w'.cell? ⟨b2, off2 + j * 4 + 3, none⟩ = some (.string ⟨y.1.line.toArray⟩)) (by kernel_rfl) hk9 (fun hHeld => ?_)
      refine takeAt (i := 0) (d := 31) (v := .slice (some ⟨b2, off2, none⟩) N c2) rfl rfl (by kernel_rfl) (by kernel_rfl) (by kernel_rfl) (fun _ _ _ h => h) (Or.inl ⟨by rfl, fun w hSw => by obtain ⟨hS0, hS1, hS2, hS3, hS4, hS5, hS6, hS7, hS8⟩ := hSw; go_simp⟩) hHeld ?_
      simp only [List.setIfInBounds_toArray, List.set_cons_zero, List.set_cons_succ]
      refine takeAt (i := 1) (d := 32) (v := .int .i64 (i : Int)) rfl rfl (by kernel_rfl) (by kernel_rfl) (by kernel_rfl) (fun _ _ _ h => h) (Or.inl ⟨by rfl, fun w hSw => by obtain ⟨hS0, hS1, hS2, hS3, hS4, hS5, hS6, hS7, hS8⟩ := hSw; go_simp⟩) hHeld ?_
      simp only [List.setIfInBounds_toArray, List.set_cons_zero, List.set_cons_succ]
      refine takeAt (i := 2) (d := 33) (v := .pointer (some ⟨b2, off2 + i * 4, none⟩)) rfl rfl (by kernel_rfl) (by kernel_rfl) (by kernel_rfl) (fun _ _ _ h => h) (Or.inl ⟨by rfl, fun w hSw => by obtain ⟨hS0, hS1, hS2, hS3, hS4, hS5, hS6, hS7, hS8⟩ := hSw; go_simp⟩) hHeld ?_
      simp only [List.setIfInBounds_toArray, List.set_cons_zero, List.set_cons_succ]
      refine takeAt (i := 3) (d := 34) (v := .agg #[.int .i64 x.1.seq, .int .i64 x.1.time, .slice x.2.1 x.1.labs.length x.2.2, .string ⟨x.1.line.toArray⟩]) rfl rfl (by kernel_rfl) (by kernel_rfl) (by kernel_rfl) (fun _ _ _ h => h) (Or.inl ⟨by rfl, fun w hSw => by obtain ⟨hS0, hS1, hS2, hS3, hS4, hS5, hS6, hS7, hS8⟩ := hSw; go_simp⟩) hHeld ?_
      simp only [List.setIfInBounds_toArray, List.set_cons_zero, List.set_cons_succ]
      refine takeAt (i := 4) (d := 35) (v := .slice (some ⟨b2, off2, none⟩) N c2) rfl rfl (by kernel_rfl) (by kernel_rfl) (by kernel_rfl) (fun _ _ _ h => h) (Or.inl ⟨by rfl, fun w hSw => by obtain ⟨hS0, hS1, hS2, hS3, hS4, hS5, hS6, hS7, hS8⟩ := hSw; go_simp⟩) hHeld ?_
      simp only [List.setIfInBounds_toArray, List.set_cons_zero, List.set_cons_succ]
      refine takeAt (i := 5) (d := 36) (v := .int .i64 (i : Int)) rfl rfl (by kernel_rfl) (by kernel_rfl) (by kernel_rfl) (fun _ _ _ h => h) (Or.inl ⟨by rfl, fun w hSw => by obtain ⟨hS0, hS1, hS2, hS3, hS4, hS5, hS6, hS7, hS8⟩ := hSw; go_simp⟩) hHeld ?_
      simp only [List.setIfInBounds_toArray, List.set_cons_zero, List.set_cons_succ]
      refine takeAt (i := 6) (d := 37) (v := .int .i64 (j : Int)) rfl rfl (by kernel_rfl) (by kernel_rfl) (by kernel_rfl) (fun _ _ _ h => h) (Or.inl ⟨by rfl, fun w hSw => by obtain ⟨hS0, hS1, hS2, hS3, hS4, hS5, hS6, hS7, hS8⟩ := hSw; go_simp⟩) hHeld ?_
      simp only [List.setIfInBounds_toArray, List.set_cons_zero, List.set_cons_succ]
      refine takeAt (i := 7) (d := 38) (v := .pointer (some ⟨b2, off2 + j * 4, none⟩)) rfl rfl (by kernel_rfl) (by kernel_rfl) (by kernel_rfl) (fun _ _ _ h => h) (Or.inl ⟨by rfl, fun w hSw => by obtain ⟨hS0, hS1, hS2, hS3, hS4, hS5, hS6, hS7, hS8⟩ := hSw; go_simp⟩) hHeld ?_
      simp only [List.setIfInBounds_toArray, List.set_cons_zero, List.set_cons_succ]
      refine takeAt (i := 8) (d := 39) (v := .agg #[.int .i64 y.1.seq, .int .i64 y.1.time, .slice y.2.1 y.1.labs.length y.2.2, .string ⟨y.1.line.toArray⟩]) rfl rfl (by kernel_rfl) (by kernel_rfl) (by kernel_rfl) (fun _ _ _ h => h) (Or.inl ⟨by rfl, fun w hSw => by obtain ⟨hS0, hS1, hS2, hS3, hS4, hS5, hS6, hS7, hS8⟩ := hSw; go_simp⟩) hHeld ?_
      simp only [List.setIfInBounds_toArray, List.set_cons_zero, List.set_cons_succ]
      refine wpAnyH_ready (rs := [9]) (by kernel_rfl) (by simp) ?_
      refine AllReadyH.cons (o := { dst := some 40, op := Go.Op.call { callee := Go.Callee.value (Go.Operand.func 9), args := #[Go.Operand.tmp 34, Go.Operand.tmp 39], argTypes := #[27, 27] }, type := 4, pos := "law.go:128", after := #[{ on := 3, ground := Go.Ground.data }, { on := 8, ground := Go.Ground.data }], guard := none }) rfl (fun K hK => ?_) AllReadyH.nil
      rw [if_pos (by rfl)]
      go_simp
      refine (HB1 _).mono ?_
      rintro e w5 ⟨rfl, bc⟩
      refine hK.out _ _ (mkS _ (hk9.1.trans (bc.mono hk9.1.size))) (fun hH1 => ?_)
      clear hK K
      try simp only [Act.put, List.setIfInBounds_toArray, List.set_cons_zero, List.set_cons_succ]
      refine wpAnyH_done (by kernel_rfl) ?_ _
      have hw9 := hH1.1
      go_wp2_with fail
      go_roundw
      case rel => exact ⟨i + 1, by go_num, by omega, by omega, hw9⟩
      case measure => simp [intOf]; omega
    · have hge : ¬ (i : Int) < (N : Int) := by omega
      clear hlt hi1 hiN
      by_cases hN0 : N = 0
      · have hN0' : ((N : Int) == 0) = true := by simp [hN0]
        have K1 := HK wr hbW
        clear HK
        go_wp2_with (go_at_call 12; refine K1.mono ?_; rintro e w6 ⟨rfl, b6⟩; clear K1)
        go_ret
        exact ⟨rfl, hbW.trans (b6.mono hbW.size)⟩
      · have hN0' : ((N : Int) == 0) = false := by simp; omega
        have hNp : 0 < N := by omega
        have hNz : ¬ (N : Int) = 0 := by omega
        obtain ⟨K, hK⟩ : ∃ K : Nat, (K : Int) = ((k.tmod (N : Int)) + (N : Int)).tmod (N : Int) := by
          have h1 := Int.lt_tmod_of_pos k (show (0 : Int) < (N : Int) by omega)
          have h2 := Int.tmod_nonneg (N : Int) (show 0 ≤ (k.tmod (N : Int)) + (N : Int) by omega)
          exact ⟨(((k.tmod (N : Int)) + (N : Int)).tmod (N : Int)).toNat, by omega⟩
        have hKN : K < N := by
          have h1 := Int.tmod_lt_of_pos ((k.tmod (N : Int)) + (N : Int)) (show (0 : Int) < (N : Int) by omega)
          omega
        have hKl : (K : Int) < (N : Int) := by omega
        have z1 : IntKind.i64.wrap ((k.tmod (N : Int)) + (N : Int)) = (k.tmod (N : Int)) + (N : Int) := by
          have h1 := Int.lt_tmod_of_pos k (show (0 : Int) < (N : Int) by omega)
          have h2 := Int.tmod_lt_of_pos k (show (0 : Int) < (N : Int) by omega)
          rw [IntKind.wrap_i64]; omega
        rw [eq_comm] at hK
        go_wp2_with fail
        have hb4 := b4
        have hKX : K < X.length := by have := HNX.out; omega
        have HPL := HL.out X[K] (List.getElem_mem hKX)
        obtain ⟨b, off, rfl, hbb, hcl⟩ := hcell hNp
        have hcp := hcl K hKX
        obtain ⟨b2, off2, rfl, hbb2, hclY⟩ := hcellY hNp
        clear hcell hcellY hK z1 hNz hN0' hN0 hge
        generalize X[K] = p at *
        have HSC := hid (stable_count HS2.out p.1)
        generalize wr = wo at *
        go_loopw [7, 8, 9] (fun nv mv iv wr => ∃ i a b : Nat, iv = .int .i64 (i : Int) ∧ nv = .int .i64 (a : Int) ∧ mv = .int .i64 (b : Int) ∧ i ≤ N ∧ a ≤ i ∧ b ≤ i ∧ Hid (a = (l.take i).countP (fun y => sameE y p.1)) ∧ Hid (b = (r3.take i).countP (fun y => sameE y p.1)) ∧ Below wz.heap.size wz wr) (fun _ _ iv _ => N - (intOf iv).toNat)
        case atStart => exact ⟨0, 0, 0, rfl, rfl, rfl, by omega, by omega, by omega, hid (by simp), hid (by simp), hbw⟩
        case round =>
          clear hbw hbW hb2
          obtain ⟨i, na, nb, rfl, rfl, rfl, hiN, hna, hnb, HA, HB, hbw⟩ := hrel
          by_cases hlt : i < N
          · have hlt' : (i : Int) < (N : Int) := by omega
            have hiX : i < X.length := by have := HNX.out; omega
            have hiY : i < Y.length := by have := HYN.out; omega
            have hci := hcl i hiX
            have hcy := hclY i hiY
            have HLx := HL.out X[i] (List.getElem_mem hiX)
            have HLy := HLY.out Y[i] (List.getElem_mem hiY)
            have hxm : (X[i]).1.labs.length ≤ 4611686018427387904 := by
              have h1 := HZ.out (X[i]).1 (by rw [← HX.out]; exact List.mem_map.2 ⟨_, List.getElem_mem hiX, rfl⟩)
              have := h1.1; omega
            have hym : (Y[i]).1.labs.length ≤ 4611686018427387904 := by
              have h1 := HZ.out (Y[i]).1 ((HS2.out.mem ltT_ord).1 (by rw [← HY.out]; exact List.mem_map.2 ⟨_, List.getElem_mem hiY, rfl⟩))
              have := h1.1; omega
            have HCX : Hid ((l.take (i + 1)).countP (fun y => sameE y p.1) = na + (if sameE (X[i]).1 p.1 = true then 1 else 0)) := hid (by
              have h := HX.out
              rw [HA.out]
              subst h
              have h9 := count_take (l := X.map (·.1)) (i := i) (by rw [List.length_map]; exact hiX) p.1
              simpa using h9)
            have HCY : Hid ((r3.take (i + 1)).countP (fun y => sameE y p.1) = nb + (if sameE (Y[i]).1 p.1 = true then 1 else 0)) := hid (by
              have h := HY.out
              rw [HB.out]
              subst h
              have h9 := count_take (l := Y.map (·.1)) (i := i) (by rw [List.length_map]; exact hiY) p.1
              simpa using h9)
            generalize X[i] = x at *
            generalize Y[i] = y at *
            clear hiX hiY HA HB
            have HSx := fun w1 (h : Below wz.heap.size wz w1) => ESame_is x.1 p.1 x.2.1 p.2.1 x.2.2 p.2.2 w1 (HLx.below (hb4.trans (h.mono hb4.size))) (HPL.below (hb4.trans (h.mono hb4.size))) hxm
            have HSy := fun w1 (h : Below wz.heap.size wz w1) => ESame_is y.1 p.1 y.2.1 p.2.1 y.2.2 p.2.2 w1 (HLy.below (D4.trans (h.mono D4.size))) (HPL.below (hb4.trans (h.mono hb4.size))) hym
            unfold entV at HSx HSy
            clear HLx HLy hxm hym
            have mkS17 : ∀ w', Below wz.heap.size wz w' → Below wz.heap.size wz w' ∧ w'.cell? ⟨b, off + i * 4, none⟩ = some (.int .i64 x.1.seq) ∧ w'.cell? ⟨b, off + i * 4 + 1, none⟩ = some (.int .i64 x.1.time) ∧ w'.cell? ⟨b, off + i * 4 + 2, none⟩ = some (.slice x.2.1 x.1.labs.length x.2.2) ∧ w'.cell? ⟨b, off + i * 4 + 3, none⟩ = some (.string ⟨x.1.line.toArray⟩) ∧ w'.cell? ⟨b, off + K * 4, none⟩ = some (.int .i64 p.1.seq) ∧ w'.cell? ⟨b, off + K * 4 + 1, none⟩ = some (.int .i64 p.1.time) ∧ w'.cell? ⟨b, off + K * 4 + 2, none⟩ = some (.slice p.2.1 p.1.labs.length p.2.2) ∧ w'.cell? ⟨b, off + K * 4 + 3, none⟩ = some (.string ⟨p.1.line.toArray⟩) := fun w' h => by
              have hbb' := hb4.trans (h.mono hb4.size)
              exact ⟨h, (hbb'.cell (p := ⟨b, off + i * 4, none⟩) hbb).trans hci.1, (hbb'.cell (p := ⟨b, off + i * 4 + 1, none⟩) hbb).trans hci.2.1, (hbb'.cell (p := ⟨b, off + i * 4 + 2, none⟩) hbb).trans hci.2.2.1, (hbb'.cell (p := ⟨b, off + i * 4 + 3, none⟩) hbb).trans hci.2.2.2, (hbb'.cell (p := ⟨b, off + K * 4, none⟩) hbb).trans hcp.1, (hbb'.cell (p := ⟨b, off + K * 4 + 1, none⟩) hbb).trans hcp.2.1, (hbb'.cell (p := ⟨b, off + K * 4 + 2, none⟩) hbb).trans hcp.2.2.1, (hbb'.cell (p := ⟨b, off + K * 4 + 3, none⟩) hbb).trans hcp.2.2.2⟩
            have mkS19 : ∀ w', Below wz.heap.size wz w' → Below wz.heap.size wz w' ∧ w'.cell? ⟨b2, off2 + i * 4, none⟩ = some (.int .i64 y.1.seq) ∧ w'.cell? ⟨b2, off2 + i * 4 + 1, none⟩ = some (.int .i64 y.1.time) ∧ w'.cell? ⟨b2, off2 + i * 4 + 2, none⟩ = some (.slice y.2.1 y.1.labs.length y.2.2) ∧ w'.cell? ⟨b2, off2 + i * 4 + 3, none⟩ = some (.string ⟨y.1.line.toArray⟩) ∧ w'.cell? ⟨b, off + K * 4, none⟩ = some (.int .i64 p.1.seq) ∧ w'.cell? ⟨b, off + K * 4 + 1, none⟩ = some (.int .i64 p.1.time) ∧ w'.cell? ⟨b, off + K * 4 + 2, none⟩ = some (.slice p.2.1 p.1.labs.length p.2.2) ∧ w'.cell? ⟨b, off + K * 4 + 3, none⟩ = some (.string ⟨p.1.line.toArray⟩) := fun w' h => by
              have hbb' := hb4.trans (h.mono hb4.size)
              have hbb3 := D4.trans (h.mono D4.size)
              exact ⟨h, (hbb3.cell (p := ⟨b2, off2 + i * 4, none⟩) hbb2).trans hcy.1, (hbb3.cell (p := ⟨b2, off2 + i * 4 + 1, none⟩) hbb2).trans hcy.2.1, (hbb3.cell (p := ⟨b2, off2 + i * 4 + 2, none⟩) hbb2).trans hcy.2.2.1, (hbb3.cell (p := ⟨b2, off2 + i * 4 + 3, none⟩) hbb2).trans hcy.2.2.2, (hbb'.cell (p := ⟨b, off + K * 4, none⟩) hbb).trans hcp.1, (hbb'.cell (p := ⟨b, off + K * 4 + 1, none⟩) hbb).trans hcp.2.1, (hbb'.cell (p := ⟨b, off + K * 4 + 2, none⟩) hbb).trans hcp.2.2.1, (hbb'.cell (p := ⟨b, off + K * 4 + 3, none⟩) hbb).trans hcp.2.2.2⟩
            have mkS := mkS17
            have hk9 := mkS wr.drew ⟨hbw.os, hbw.tape, hbw.output, hbw.size, hbw.block⟩
            have ndr : ∀ w', Below wz.heap.size wz w' → Below wz.heap.size wz w'.drew := fun w' h => ⟨h.os, h.tape, h.output, h.size, h.block⟩
            go_wp2_with fail
            cases sx : sameE x.1 p.1 with
            | true =>
              rw [sx] at HSx
              rw [sx] at HCX
              refine wp_region_held_drew (S := fun w' => Below wz.heap.size wz w' ∧ w'.cell? ⟨b, off + i * 4, none⟩ = some (.int .i64 x.1.seq) ∧ w'.cell? ⟨b, off + i * 4 + 1, none⟩ = some (.int .i64 x.1.time) ∧ w'.cell? ⟨b, off + i * 4 + 2, none⟩ = some (.slice x.2.1 x.1.labs.length x.2.2) ∧ w'.cell? ⟨b, off + i * 4 + 3, none⟩ = some (.string ⟨x.1.line.toArray⟩) ∧ w'.cell? ⟨b, off + K * 4, none⟩ = some (.int .i64 p.1.seq) ∧ w'.cell? ⟨b, off + K * 4 + 1, none⟩ = some (.int .i64 p.1.time) ∧ w'.cell? ⟨b, off + K * 4 + 2, none⟩ = some (.slice p.2.1 p.1.labs.length p.2.2) ∧ w'.cell? ⟨b, off + K * 4 + 3, none⟩ = some (.string ⟨p.1.line.toArray⟩)) (by kernel_rfl) hk9 (fun hHeld => ?_)
              refine takeAt (i := 0) (d := 61) (v := .slice (some ⟨b, off, none⟩) N c) rfl rfl (by kernel_rfl) (by kernel_rfl) (by kernel_rfl) (fun _ _ _ h => h) (Or.inl ⟨by rfl, fun w hSw => by obtain ⟨hS0, hS1, hS2, hS3, hS4, hS5, hS6, hS7, hS8⟩ := hSw; go_simp⟩) hHeld ?_
              simp only [List.setIfInBounds_toArray, List.set_cons_zero, List.set_cons_succ]
              refine takeAt (i := 1) (d := 62) (v := .int .i64 (i : Int)) rfl rfl (by kernel_rfl) (by kernel_rfl) (by kernel_rfl) (fun _ _ _ h => h) (Or.inl ⟨by rfl, fun w hSw => by obtain ⟨hS0, hS1, hS2, hS3, hS4, hS5, hS6, hS7, hS8⟩ := hSw; go_simp⟩) hHeld ?_
              simp only [List.setIfInBounds_toArray, List.set_cons_zero, List.set_cons_succ]
              refine takeAt (i := 2) (d := 63) (v := .pointer (some ⟨b, off + i * 4, none⟩)) rfl rfl (by kernel_rfl) (by kernel_rfl) (by kernel_rfl) (fun _ _ _ h => h) (Or.inl ⟨by rfl, fun w hSw => by obtain ⟨hS0, hS1, hS2, hS3, hS4, hS5, hS6, hS7, hS8⟩ := hSw; go_simp⟩) hHeld ?_
              simp only [List.setIfInBounds_toArray, List.set_cons_zero, List.set_cons_succ]
              refine takeAt (i := 3) (d := 64) (v := .agg #[.int .i64 x.1.seq, .int .i64 x.1.time, .slice x.2.1 x.1.labs.length x.2.2, .string ⟨x.1.line.toArray⟩]) rfl rfl (by kernel_rfl) (by kernel_rfl) (by kernel_rfl) (fun _ _ _ h => h) (Or.inl ⟨by rfl, fun w hSw => by obtain ⟨hS0, hS1, hS2, hS3, hS4, hS5, hS6, hS7, hS8⟩ := hSw; go_simp⟩) hHeld ?_
              simp only [List.setIfInBounds_toArray, List.set_cons_zero, List.set_cons_succ]
              refine takeAt (i := 4) (d := 65) (v := .slice (some ⟨b, off, none⟩) N c) rfl rfl (by kernel_rfl) (by kernel_rfl) (by kernel_rfl) (fun _ _ _ h => h) (Or.inl ⟨by rfl, fun w hSw => by obtain ⟨hS0, hS1, hS2, hS3, hS4, hS5, hS6, hS7, hS8⟩ := hSw; go_simp⟩) hHeld ?_
              simp only [List.setIfInBounds_toArray, List.set_cons_zero, List.set_cons_succ]
              refine takeAt (i := 5) (d := 66) (v := .int .i64 (K : Int)) rfl rfl (by kernel_rfl) (by kernel_rfl) (by kernel_rfl) (fun _ _ _ h => h) (Or.inl ⟨by rfl, fun w hSw => by obtain ⟨hS0, hS1, hS2, hS3, hS4, hS5, hS6, hS7, hS8⟩ := hSw; go_simp⟩) hHeld ?_
              simp only [List.setIfInBounds_toArray, List.set_cons_zero, List.set_cons_succ]
              refine takeAt (i := 6) (d := 67) (v := .pointer (some ⟨b, off + K * 4, none⟩)) rfl rfl (by kernel_rfl) (by kernel_rfl) (by kernel_rfl) (fun _ _ _ h => h) (Or.inl ⟨by rfl, fun w hSw => by obtain ⟨hS0, hS1, hS2, hS3, hS4, hS5, hS6, hS7, hS8⟩ := hSw; go_simp⟩) hHeld ?_
              simp only [List.setIfInBounds_toArray, List.set_cons_zero, List.set_cons_succ]
              refine takeAt (i := 7) (d := 68) (v := .agg #[.int .i64 p.1.seq, .int .i64 p.1.time, .slice p.2.1 p.1.labs.length p.2.2, .string ⟨p.1.line.toArray⟩]) rfl rfl (by kernel_rfl) (by kernel_rfl) (by kernel_rfl) (fun _ _ _ h => h) (Or.inl ⟨by rfl, fun w hSw => by obtain ⟨hS0, hS1, hS2, hS3, hS4, hS5, hS6, hS7, hS8⟩ := hSw; go_simp⟩) hHeld ?_
              simp only [List.setIfInBounds_toArray, List.set_cons_zero, List.set_cons_succ]
              refine wpAnyH_ready (rs := [8]) (by kernel_rfl) (by simp) ?_
              refine AllReadyH.cons (o := { dst := some 69, op := Go.Op.call { callee := Go.Callee.value (Go.Operand.func 13), args := #[Go.Operand.tmp 64, Go.Operand.tmp 68], argTypes := #[27, 27] }, type := 4, pos := "law.go:139", after := #[{ on := 3, ground := Go.Ground.data }, { on := 7, ground := Go.Ground.data }], guard := none }) rfl (fun K hK => ?_) AllReadyH.nil
              rw [if_pos (by rfl)]
              go_simp
              refine (HSx _ hk9.1).mono ?_
              rintro e w5 ⟨rfl, bc⟩
              refine hK.out _ _ (mkS _ (hk9.1.trans (bc.mono hk9.1.size))) (fun hH1 => ?_)
              clear hK K
              try simp only [Act.put, List.setIfInBounds_toArray, List.set_cons_zero, List.set_cons_succ]
              refine wpAnyH_done (by kernel_rfl) ?_ _
              clear hk9 mkS
              have mkS := mkS19
              have hk9 := mkS w5.drew (ndr _ hH1.1)
              go_wp2_with fail
              cases sy : sameE y.1 p.1 with
              | true =>
                rw [sy] at HSy
                rw [sy] at HCY
                refine wp_region_held_drew (S := fun w' => Below wz.heap.size wz w' ∧ w'.cell? ⟨b2, off2 + i * 4, none⟩ = some (.int .i64 y.1.seq) ∧ w'.cell? ⟨b2, off2 + i * 4 + 1, none⟩ = some (.int .i64 y.1.time) ∧ w'.cell? ⟨b2, off2 + i * 4 + 2, none⟩ = some (.slice y.2.1 y.1.labs.length y.2.2) ∧ w'.cell? ⟨b2, off2 + i * 4 + 3, none⟩ = some (.string ⟨y.1.line.toArray⟩) ∧ w'.cell? ⟨b, off + K * 4, none⟩ = some (.int .i64 p.1.seq) ∧ w'.cell? ⟨b, off + K * 4 + 1, none⟩ = some (.int .i64 p.1.time) ∧ w'.cell? ⟨b, off + K * 4 + 2, none⟩ = some (.slice p.2.1 p.1.labs.length p.2.2) ∧ w'.cell? ⟨b, off + K * 4 + 3, none⟩ = some (.string ⟨p.1.line.toArray⟩)) (by kernel_rfl) hk9 (fun hHeld => ?_)
                refine takeAt (i := 0) (d := 72) (v := .slice (some ⟨b2, off2, none⟩) N c2) rfl rfl (by kernel_rfl) (by kernel_rfl) (by kernel_rfl) (fun _ _ _ h => h) (Or.inl ⟨by rfl, fun w hSw => by obtain ⟨hS0, hS1, hS2, hS3, hS4, hS5, hS6, hS7, hS8⟩ := hSw; go_simp⟩) hHeld ?_
                simp only [List.setIfInBounds_toArray, List.set_cons_zero, List.set_cons_succ]
                refine takeAt (i := 1) (d := 73) (v := .int .i64 (i : Int)) rfl rfl (by kernel_rfl) (by kernel_rfl) (by kernel_rfl) (fun _ _ _ h => h) (Or.inl ⟨by rfl, fun w hSw => by obtain ⟨hS0, hS1, hS2, hS3, hS4, hS5, hS6, hS7, hS8⟩ := hSw; go_simp⟩) hHeld ?_
                simp only [List.setIfInBounds_toArray, List.set_cons_zero, List.set_cons_succ]
                refine takeAt (i := 2) (d := 74) (v := .pointer (some ⟨b2, off2 + i * 4, none⟩)) rfl rfl (by kernel_rfl) (by kernel_rfl) (by kernel_rfl) (fun _ _ _ h => h) (Or.inl ⟨by rfl, fun w hSw => by obtain ⟨hS0, hS1, hS2, hS3, hS4, hS5, hS6, hS7, hS8⟩ := hSw; go_simp⟩) hHeld ?_
                simp only [List.setIfInBounds_toArray, List.set_cons_zero, List.set_cons_succ]
                refine takeAt (i := 3) (d := 75) (v := .agg #[.int .i64 y.1.seq, .int .i64 y.1.time, .slice y.2.1 y.1.labs.length y.2.2, .string ⟨y.1.line.toArray⟩]) rfl rfl (by kernel_rfl) (by kernel_rfl) (by kernel_rfl) (fun _ _ _ h => h) (Or.inl ⟨by rfl, fun w hSw => by obtain ⟨hS0, hS1, hS2, hS3, hS4, hS5, hS6, hS7, hS8⟩ := hSw; go_simp⟩) hHeld ?_
                simp only [List.setIfInBounds_toArray, List.set_cons_zero, List.set_cons_succ]
                refine takeAt (i := 4) (d := 76) (v := .slice (some ⟨b, off, none⟩) N c) rfl rfl (by kernel_rfl) (by kernel_rfl) (by kernel_rfl) (fun _ _ _ h => h) (Or.inl ⟨by rfl, fun w hSw => by obtain ⟨hS0, hS1, hS2, hS3, hS4, hS5, hS6, hS7, hS8⟩ := hSw; go_simp⟩) hHeld ?_
                simp only [List.setIfInBounds_toArray, List.set_cons_zero, List.set_cons_succ]
                refine takeAt (i := 5) (d := 77) (v := .int .i64 (K : Int)) rfl rfl (by kernel_rfl) (by kernel_rfl) (by kernel_rfl) (fun _ _ _ h => h) (Or.inl ⟨by rfl, fun w hSw => by obtain ⟨hS0, hS1, hS2, hS3, hS4, hS5, hS6, hS7, hS8⟩ := hSw; go_simp⟩) hHeld ?_
                simp only [List.setIfInBounds_toArray, List.set_cons_zero, List.set_cons_succ]
                refine takeAt (i := 6) (d := 78) (v := .pointer (some ⟨b, off + K * 4, none⟩)) rfl rfl (by kernel_rfl) (by kernel_rfl) (by kernel_rfl) (fun _ _ _ h => h) (Or.inl ⟨by rfl, fun w hSw => by obtain ⟨hS0, hS1, hS2, hS3, hS4, hS5, hS6, hS7, hS8⟩ := hSw; go_simp⟩) hHeld ?_
                simp only [List.setIfInBounds_toArray, List.set_cons_zero, List.set_cons_succ]
                refine takeAt (i := 7) (d := 79) (v := .agg #[.int .i64 p.1.seq, .int .i64 p.1.time, .slice p.2.1 p.1.labs.length p.2.2, .string ⟨p.1.line.toArray⟩]) rfl rfl (by kernel_rfl) (by kernel_rfl) (by kernel_rfl) (fun _ _ _ h => h) (Or.inl ⟨by rfl, fun w hSw => by obtain ⟨hS0, hS1, hS2, hS3, hS4, hS5, hS6, hS7, hS8⟩ := hSw; go_simp⟩) hHeld ?_
                simp only [List.setIfInBounds_toArray, List.set_cons_zero, List.set_cons_succ]
                refine wpAnyH_ready (rs := [8]) (by kernel_rfl) (by simp) ?_
                refine AllReadyH.cons (o := { dst := some 80, op := Go.Op.call { callee := Go.Callee.value (Go.Operand.func 13), args := #[Go.Operand.tmp 75, Go.Operand.tmp 79], argTypes := #[27, 27] }, type := 4, pos := "law.go:142", after := #[{ on := 3, ground := Go.Ground.data }, { on := 7, ground := Go.Ground.data }], guard := none }) rfl (fun K hK => ?_) AllReadyH.nil
                rw [if_pos (by rfl)]
                go_simp
                refine (HSy _ hk9.1).mono ?_
                rintro e w6 ⟨rfl, bc⟩
                refine hK.out _ _ (mkS _ (hk9.1.trans (bc.mono hk9.1.size))) (fun hH2 => ?_)
                clear hK K
                try simp only [Act.put, List.setIfInBounds_toArray, List.set_cons_zero, List.set_cons_succ]
                refine wpAnyH_done (by kernel_rfl) ?_ _
                have hw9 := hH2.1
                clear mkS mkS19 hH1 hH2 hk9 mkS17 HSx HSy
                go_wp2_with fail
                go_roundw
                case rel => exact ⟨i + 1, na + 1, nb + 1, by go_num, by go_num, by go_num, by omega, by omega, by omega, hid (by rw [HCX.out]; rfl), hid (by rw [HCY.out]; rfl), hw9⟩
                case measure => simp [intOf]; omega
              | false =>
                rw [sy] at HSy
                rw [sy] at HCY
                refine wp_region_held_drew (S := fun w' => Below wz.heap.size wz w' ∧ w'.cell? ⟨b2, off2 + i * 4, none⟩ = some (.int .i64 y.1.seq) ∧ w'.cell? ⟨b2, off2 + i * 4 + 1, none⟩ = some (.int .i64 y.1.time) ∧ w'.cell? ⟨b2, off2 + i * 4 + 2, none⟩ = some (.slice y.2.1 y.1.labs.length y.2.2) ∧ w'.cell? ⟨b2, off2 + i * 4 + 3, none⟩ = some (.string ⟨y.1.line.toArray⟩) ∧ w'.cell? ⟨b, off + K * 4, none⟩ = some (.int .i64 p.1.seq) ∧ w'.cell? ⟨b, off + K * 4 + 1, none⟩ = some (.int .i64 p.1.time) ∧ w'.cell? ⟨b, off + K * 4 + 2, none⟩ = some (.slice p.2.1 p.1.labs.length p.2.2) ∧ w'.cell? ⟨b, off + K * 4 + 3, none⟩ = some (.string ⟨p.1.line.toArray⟩)) (by kernel_rfl) hk9 (fun hHeld => ?_)
                refine takeAt (i := 0) (d := 72) (v := .slice (some ⟨b2, off2, none⟩) N c2) rfl rfl (by kernel_rfl) (by kernel_rfl) (by kernel_rfl) (fun _ _ _ h => h) (Or.inl ⟨by rfl, fun w hSw => by obtain ⟨hS0, hS1, hS2, hS3, hS4, hS5, hS6, hS7, hS8⟩ := hSw; go_simp⟩) hHeld ?_
                simp only [List.setIfInBounds_toArray, List.set_cons_zero, List.set_cons_succ]
                refine takeAt (i := 1) (d := 73) (v := .int .i64 (i : Int)) rfl rfl (by kernel_rfl) (by kernel_rfl) (by kernel_rfl) (fun _ _ _ h => h) (Or.inl ⟨by rfl, fun w hSw => by obtain ⟨hS0, hS1, hS2, hS3, hS4, hS5, hS6, hS7, hS8⟩ := hSw; go_simp⟩) hHeld ?_
                simp only [List.setIfInBounds_toArray, List.set_cons_zero, List.set_cons_succ]
                refine takeAt (i := 2) (d := 74) (v := .pointer (some ⟨b2, off2 + i * 4, none⟩)) rfl rfl (by kernel_rfl) (by kernel_rfl) (by kernel_rfl) (fun _ _ _ h => h) (Or.inl ⟨by rfl, fun w hSw => by obtain ⟨hS0, hS1, hS2, hS3, hS4, hS5, hS6, hS7, hS8⟩ := hSw; go_simp⟩) hHeld ?_
                simp only [List.setIfInBounds_toArray, List.set_cons_zero, List.set_cons_succ]
                refine takeAt (i := 3) (d := 75) (v := .agg #[.int .i64 y.1.seq, .int .i64 y.1.time, .slice y.2.1 y.1.labs.length y.2.2, .string ⟨y.1.line.toArray⟩]) rfl rfl (by kernel_rfl) (by kernel_rfl) (by kernel_rfl) (fun _ _ _ h => h) (Or.inl ⟨by rfl, fun w hSw => by obtain ⟨hS0, hS1, hS2, hS3, hS4, hS5, hS6, hS7, hS8⟩ := hSw; go_simp⟩) hHeld ?_
                simp only [List.setIfInBounds_toArray, List.set_cons_zero, List.set_cons_succ]
                refine takeAt (i := 4) (d := 76) (v := .slice (some ⟨b, off, none⟩) N c) rfl rfl (by kernel_rfl) (by kernel_rfl) (by kernel_rfl) (fun _ _ _ h => h) (Or.inl ⟨by rfl, fun w hSw => by obtain ⟨hS0, hS1, hS2, hS3, hS4, hS5, hS6, hS7, hS8⟩ := hSw; go_simp⟩) hHeld ?_
                simp only [List.setIfInBounds_toArray, List.set_cons_zero, List.set_cons_succ]
                refine takeAt (i := 5) (d := 77) (v := .int .i64 (K : Int)) rfl rfl (by kernel_rfl) (by kernel_rfl) (by kernel_rfl) (fun _ _ _ h => h) (Or.inl ⟨by rfl, fun w hSw => by obtain ⟨hS0, hS1, hS2, hS3, hS4, hS5, hS6, hS7, hS8⟩ := hSw; go_simp⟩) hHeld ?_
                simp only [List.setIfInBounds_toArray, List.set_cons_zero, List.set_cons_succ]
                refine takeAt (i := 6) (d := 78) (v := .pointer (some ⟨b, off + K * 4, none⟩)) rfl rfl (by kernel_rfl) (by kernel_rfl) (by kernel_rfl) (fun _ _ _ h => h) (Or.inl ⟨by rfl, fun w hSw => by obtain ⟨hS0, hS1, hS2, hS3, hS4, hS5, hS6, hS7, hS8⟩ := hSw; go_simp⟩) hHeld ?_
                simp only [List.setIfInBounds_toArray, List.set_cons_zero, List.set_cons_succ]
                refine takeAt (i := 7) (d := 79) (v := .agg #[.int .i64 p.1.seq, .int .i64 p.1.time, .slice p.2.1 p.1.labs.length p.2.2, .string ⟨p.1.line.toArray⟩]) rfl rfl (by kernel_rfl) (by kernel_rfl) (by kernel_rfl) (fun _ _ _ h => h) (Or.inl ⟨by rfl, fun w hSw => by obtain ⟨hS0, hS1, hS2, hS3, hS4, hS5, hS6, hS7, hS8⟩ := hSw; go_simp⟩) hHeld ?_
                simp only [List.setIfInBounds_toArray, List.set_cons_zero, List.set_cons_succ]
                refine wpAnyH_ready (rs := [8]) (by kernel_rfl) (by simp) ?_
                refine AllReadyH.cons (o := { dst := some 80, op := Go.Op.call { callee := Go.Callee.value (Go.Operand.func 13), args := #[Go.Operand.tmp 75, Go.Operand.tmp 79], argTypes := #[27, 27] }, type := 4, pos := "law.go:142", after := #[{ on := 3, ground := Go.Ground.data }, { on := 7, ground := Go.Ground.data }], guard := none }) rfl (fun K hK => ?_) AllReadyH.nil
                rw [if_pos (by rfl)]
                go_simp
                refine (HSy _ hk9.1).mono ?_
                rintro e w6 ⟨rfl, bc⟩
                refine hK.out _ _ (mkS _ (hk9.1.trans (bc.mono hk9.1.size))) (fun hH2 => ?_)
                clear hK K
                try simp only [Act.put, List.setIfInBounds_toArray, List.set_cons_zero, List.set_cons_succ]
                refine wpAnyH_done (by kernel_rfl) ?_ _
                have hw9 := hH2.1
                clear mkS mkS19 hH1 hH2 hk9 mkS17 HSx HSy
                go_wp2_with fail
                go_roundw
                case rel => exact ⟨i + 1, na + 1, nb, by go_num, by go_num, by go_num, by omega, by omega, by omega, hid (by rw [HCX.out]; rfl), hid (by rw [HCY.out]; rfl), hw9⟩
                case measure => simp [intOf]; omega
            | false =>
              rw [sx] at HSx
              rw [sx] at HCX
              refine wp_region_held_drew (S := fun w' => Below wz.heap.size wz w' ∧ w'.cell? ⟨b, off + i * 4, none⟩ = some (.int .i64 x.1.seq) ∧ w'.cell? ⟨b, off + i * 4 + 1, none⟩ = some (.int .i64 x.1.time) ∧ w'.cell? ⟨b, off + i * 4 + 2, none⟩ = some (.slice x.2.1 x.1.labs.length x.2.2) ∧ w'.cell? ⟨b, off + i * 4 + 3, none⟩ = some (.string ⟨x.1.line.toArray⟩) ∧ w'.cell? ⟨b, off + K * 4, none⟩ = some (.int .i64 p.1.seq) ∧ w'.cell? ⟨b, off + K * 4 + 1, none⟩ = some (.int .i64 p.1.time) ∧ w'.cell? ⟨b, off + K * 4 + 2, none⟩ = some (.slice p.2.1 p.1.labs.length p.2.2) ∧ w'.cell? ⟨b, off + K * 4 + 3, none⟩ = some (.string ⟨p.1.line.toArray⟩)) (by kernel_rfl) hk9 (fun hHeld => ?_)
              refine takeAt (i := 0) (d := 61) (v := .slice (some ⟨b, off, none⟩) N c) rfl rfl (by kernel_rfl) (by kernel_rfl) (by kernel_rfl) (fun _ _ _ h => h) (Or.inl ⟨by rfl, fun w hSw => by obtain ⟨hS0, hS1, hS2, hS3, hS4, hS5, hS6, hS7, hS8⟩ := hSw; go_simp⟩) hHeld ?_
              simp only [List.setIfInBounds_toArray, List.set_cons_zero, List.set_cons_succ]
              refine takeAt (i := 1) (d := 62) (v := .int .i64 (i : Int)) rfl rfl (by kernel_rfl) (by kernel_rfl) (by kernel_rfl) (fun _ _ _ h => h) (Or.inl ⟨by rfl, fun w hSw => by obtain ⟨hS0, hS1, hS2, hS3, hS4, hS5, hS6, hS7, hS8⟩ := hSw; go_simp⟩) hHeld ?_
              simp only [List.setIfInBounds_toArray, List.set_cons_zero, List.set_cons_succ]
              refine takeAt (i := 2) (d := 63) (v := .pointer (some ⟨b, off + i * 4, none⟩)) rfl rfl (by kernel_rfl) (by kernel_rfl) (by kernel_rfl) (fun _ _ _ h => h) (Or.inl ⟨by rfl, fun w hSw => by obtain ⟨hS0, hS1, hS2, hS3, hS4, hS5, hS6, hS7, hS8⟩ := hSw; go_simp⟩) hHeld ?_
              simp only [List.setIfInBounds_toArray, List.set_cons_zero, List.set_cons_succ]
              refine takeAt (i := 3) (d := 64) (v := .agg #[.int .i64 x.1.seq, .int .i64 x.1.time, .slice x.2.1 x.1.labs.length x.2.2, .string ⟨x.1.line.toArray⟩]) rfl rfl (by kernel_rfl) (by kernel_rfl) (by kernel_rfl) (fun _ _ _ h => h) (Or.inl ⟨by rfl, fun w hSw => by obtain ⟨hS0, hS1, hS2, hS3, hS4, hS5, hS6, hS7, hS8⟩ := hSw; go_simp⟩) hHeld ?_
              simp only [List.setIfInBounds_toArray, List.set_cons_zero, List.set_cons_succ]
              refine takeAt (i := 4) (d := 65) (v := .slice (some ⟨b, off, none⟩) N c) rfl rfl (by kernel_rfl) (by kernel_rfl) (by kernel_rfl) (fun _ _ _ h => h) (Or.inl ⟨by rfl, fun w hSw => by obtain ⟨hS0, hS1, hS2, hS3, hS4, hS5, hS6, hS7, hS8⟩ := hSw; go_simp⟩) hHeld ?_
              simp only [List.setIfInBounds_toArray, List.set_cons_zero, List.set_cons_succ]
              refine takeAt (i := 5) (d := 66) (v := .int .i64 (K : Int)) rfl rfl (by kernel_rfl) (by kernel_rfl) (by kernel_rfl) (fun _ _ _ h => h) (Or.inl ⟨by rfl, fun w hSw => by obtain ⟨hS0, hS1, hS2, hS3, hS4, hS5, hS6, hS7, hS8⟩ := hSw; go_simp⟩) hHeld ?_
              simp only [List.setIfInBounds_toArray, List.set_cons_zero, List.set_cons_succ]
              refine takeAt (i := 6) (d := 67) (v := .pointer (some ⟨b, off + K * 4, none⟩)) rfl rfl (by kernel_rfl) (by kernel_rfl) (by kernel_rfl) (fun _ _ _ h => h) (Or.inl ⟨by rfl, fun w hSw => by obtain ⟨hS0, hS1, hS2, hS3, hS4, hS5, hS6, hS7, hS8⟩ := hSw; go_simp⟩) hHeld ?_
              simp only [List.setIfInBounds_toArray, List.set_cons_zero, List.set_cons_succ]
              refine takeAt (i := 7) (d := 68) (v := .agg #[.int .i64 p.1.seq, .int .i64 p.1.time, .slice p.2.1 p.1.labs.length p.2.2, .string ⟨p.1.line.toArray⟩]) rfl rfl (by kernel_rfl) (by kernel_rfl) (by kernel_rfl) (fun _ _ _ h => h) (Or.inl ⟨by rfl, fun w hSw => by obtain ⟨hS0, hS1, hS2, hS3, hS4, hS5, hS6, hS7, hS8⟩ := hSw; go_simp⟩) hHeld ?_
              simp only [List.setIfInBounds_toArray, List.set_cons_zero, List.set_cons_succ]
              refine wpAnyH_ready (rs := [8]) (by kernel_rfl) (by simp) ?_
              refine AllReadyH.cons (o := { dst := some 69, op := Go.Op.call { callee := Go.Callee.value (Go.Operand.func 13), args := #[Go.Operand.tmp 64, Go.Operand.tmp 68], argTypes := #[27, 27] }, type := 4, pos := "law.go:139", after := #[{ on := 3, ground := Go.Ground.data }, { on := 7, ground := Go.Ground.data }], guard := none }) rfl (fun K hK => ?_) AllReadyH.nil
              rw [if_pos (by rfl)]
              go_simp
              refine (HSx _ hk9.1).mono ?_
              rintro e w5 ⟨rfl, bc⟩
              refine hK.out _ _ (mkS _ (hk9.1.trans (bc.mono hk9.1.size))) (fun hH1 => ?_)
              clear hK K
              try simp only [Act.put, List.setIfInBounds_toArray, List.set_cons_zero, List.set_cons_succ]
              refine wpAnyH_done (by kernel_rfl) ?_ _
              clear hk9 mkS
              have mkS := mkS19
              have hk9 := mkS w5.drew (ndr _ hH1.1)
              go_wp2_with fail
              cases sy : sameE y.1 p.1 with
              | true =>
                rw [sy] at HSy
                rw [sy] at HCY
                refine wp_region_held_drew (S := fun w' => Below wz.heap.size wz w' ∧ w'.cell? ⟨b2, off2 + i * 4, none⟩ = some (.int .i64 y.1.seq) ∧ w'.cell? ⟨b2, off2 + i * 4 + 1, none⟩ = some (.int .i64 y.1.time) ∧ w'.cell? ⟨b2, off2 + i * 4 + 2, none⟩ = some (.slice y.2.1 y.1.labs.length y.2.2) ∧ w'.cell? ⟨b2, off2 + i * 4 + 3, none⟩ = some (.string ⟨y.1.line.toArray⟩) ∧ w'.cell? ⟨b, off + K * 4, none⟩ = some (.int .i64 p.1.seq) ∧ w'.cell? ⟨b, off + K * 4 + 1, none⟩ = some (.int .i64 p.1.time) ∧ w'.cell? ⟨b, off + K * 4 + 2, none⟩ = some (.slice p.2.1 p.1.labs.length p.2.2) ∧ w'.cell? ⟨b, off + K * 4 + 3, none⟩ = some (.string ⟨p.1.line.toArray⟩)) (by kernel_rfl) hk9 (fun hHeld => ?_)
                refine takeAt (i := 0) (d := 72) (v := .slice (some ⟨b2, off2, none⟩) N c2) rfl rfl (by kernel_rfl) (by kernel_rfl) (by kernel_rfl) (fun _ _ _ h => h) (Or.inl ⟨by rfl, fun w hSw => by obtain ⟨hS0, hS1, hS2, hS3, hS4, hS5, hS6, hS7, hS8⟩ := hSw; go_simp⟩) hHeld ?_
                simp only [List.setIfInBounds_toArray, List.set_cons_zero, List.set_cons_succ]
                refine takeAt (i := 1) (d := 73) (v := .int .i64 (i : Int)) rfl rfl (by kernel_rfl) (by kernel_rfl) (by kernel_rfl) (fun _ _ _ h => h) (Or.inl ⟨by rfl, fun w hSw => by obtain ⟨hS0, hS1, hS2, hS3, hS4, hS5, hS6, hS7, hS8⟩ := hSw; go_simp⟩) hHeld ?_
                simp only [List.setIfInBounds_toArray, List.set_cons_zero, List.set_cons_succ]
                refine takeAt (i := 2) (d := 74) (v := .pointer (some ⟨b2, off2 + i * 4, none⟩)) rfl rfl (by kernel_rfl) (by kernel_rfl) (by kernel_rfl) (fun _ _ _ h => h) (Or.inl ⟨by rfl, fun w hSw => by obtain ⟨hS0, hS1, hS2, hS3, hS4, hS5, hS6, hS7, hS8⟩ := hSw; go_simp⟩) hHeld ?_
                simp only [List.setIfInBounds_toArray, List.set_cons_zero, List.set_cons_succ]
                refine takeAt (i := 3) (d := 75) (v := .agg #[.int .i64 y.1.seq, .int .i64 y.1.time, .slice y.2.1 y.1.labs.length y.2.2, .string ⟨y.1.line.toArray⟩]) rfl rfl (by kernel_rfl) (by kernel_rfl) (by kernel_rfl) (fun _ _ _ h => h) (Or.inl ⟨by rfl, fun w hSw => by obtain ⟨hS0, hS1, hS2, hS3, hS4, hS5, hS6, hS7, hS8⟩ := hSw; go_simp⟩) hHeld ?_
                simp only [List.setIfInBounds_toArray, List.set_cons_zero, List.set_cons_succ]
                refine takeAt (i := 4) (d := 76) (v := .slice (some ⟨b, off, none⟩) N c) rfl rfl (by kernel_rfl) (by kernel_rfl) (by kernel_rfl) (fun _ _ _ h => h) (Or.inl ⟨by rfl, fun w hSw => by obtain ⟨hS0, hS1, hS2, hS3, hS4, hS5, hS6, hS7, hS8⟩ := hSw; go_simp⟩) hHeld ?_
                simp only [List.setIfInBounds_toArray, List.set_cons_zero, List.set_cons_succ]
                refine takeAt (i := 5) (d := 77) (v := .int .i64 (K : Int)) rfl rfl (by kernel_rfl) (by kernel_rfl) (by kernel_rfl) (fun _ _ _ h => h) (Or.inl ⟨by rfl, fun w hSw => by obtain ⟨hS0, hS1, hS2, hS3, hS4, hS5, hS6, hS7, hS8⟩ := hSw; go_simp⟩) hHeld ?_
                simp only [List.setIfInBounds_toArray, List.set_cons_zero, List.set_cons_succ]
                refine takeAt (i := 6) (d := 78) (v := .pointer (some ⟨b, off + K * 4, none⟩)) rfl rfl (by kernel_rfl) (by kernel_rfl) (by kernel_rfl) (fun _ _ _ h => h) (Or.inl ⟨by rfl, fun w hSw => by obtain ⟨hS0, hS1, hS2, hS3, hS4, hS5, hS6, hS7, hS8⟩ := hSw; go_simp⟩) hHeld ?_
                simp only [List.setIfInBounds_toArray, List.set_cons_zero, List.set_cons_succ]
                refine takeAt (i := 7) (d := 79) (v := .agg #[.int .i64 p.1.seq, .int .i64 p.1.time, .slice p.2.1 p.1.labs.length p.2.2, .string ⟨p.1.line.toArray⟩]) rfl rfl (by kernel_rfl) (by kernel_rfl) (by kernel_rfl) (fun _ _ _ h => h) (Or.inl ⟨by rfl, fun w hSw => by obtain ⟨hS0, hS1, hS2, hS3, hS4, hS5, hS6, hS7, hS8⟩ := hSw; go_simp⟩) hHeld ?_
                simp only [List.setIfInBounds_toArray, List.set_cons_zero, List.set_cons_succ]
                refine wpAnyH_ready (rs := [8]) (by kernel_rfl) (by simp) ?_
                refine AllReadyH.cons (o := { dst := some 80, op := Go.Op.call { callee := Go.Callee.value (Go.Operand.func 13), args := #[Go.Operand.tmp 75, Go.Operand.tmp 79], argTypes := #[27, 27] }, type := 4, pos := "law.go:142", after := #[{ on := 3, ground := Go.Ground.data }, { on := 7, ground := Go.Ground.data }], guard := none }) rfl (fun K hK => ?_) AllReadyH.nil
                rw [if_pos (by rfl)]
                go_simp
                refine (HSy _ hk9.1).mono ?_
                rintro e w6 ⟨rfl, bc⟩
                refine hK.out _ _ (mkS _ (hk9.1.trans (bc.mono hk9.1.size))) (fun hH2 => ?_)
                clear hK K
                try simp only [Act.put, List.setIfInBounds_toArray, List.set_cons_zero, List.set_cons_succ]
                refine wpAnyH_done (by kernel_rfl) ?_ _
                have hw9 := hH2.1
                clear mkS mkS19 hH1 hH2 hk9 mkS17 HSx HSy
                go_wp2_with fail
                go_roundw
                case rel => exact ⟨i + 1, na, nb + 1, by go_num, by go_num, by go_num, by omega, by omega, by omega, hid (by rw [HCX.out]; rfl), hid (by rw [HCY.out]; rfl), hw9⟩
                case measure => simp [intOf]; omega
              | false =>
                rw [sy] at HSy
                rw [sy] at HCY
                refine wp_region_held_drew (S := fun w' => Below wz.heap.size wz w' ∧ w'.cell? ⟨b2, off2 + i * 4, none⟩ = some (.int .i64 y.1.seq) ∧ w'.cell? ⟨b2, off2 + i * 4 + 1, none⟩ = some (.int .i64 y.1.time) ∧ w'.cell? ⟨b2, off2 + i * 4 + 2, none⟩ = some (.slice y.2.1 y.1.labs.length y.2.2) ∧ w'.cell? ⟨b2, off2 + i * 4 + 3, none⟩ = some (.string ⟨y.1.line.toArray⟩) ∧ w'.cell? ⟨b, off + K * 4, none⟩ = some (.int .i64 p.1.seq) ∧ w'.cell? ⟨b, off + K * 4 + 1, none⟩ = some (.int .i64 p.1.time) ∧ w'.cell? ⟨b, off + K * 4 + 2, none⟩ = some (.slice p.2.1 p.1.labs.length p.2.2) ∧ w'.cell? ⟨b, off + K * 4 + 3, none⟩ = some (.string ⟨p.1.line.toArray⟩)) (by kernel_rfl) hk9 (fun hHeld => ?_)
                refine takeAt (i := 0) (d := 72) (v := .slice (some ⟨b2, off2, none⟩) N c2) rfl rfl (by kernel_rfl) (by kernel_rfl) (by kernel_rfl) (fun _ _ _ h => h) (Or.inl ⟨by rfl, fun w hSw => by obtain ⟨hS0, hS1, hS2, hS3, hS4, hS5, hS6, hS7, hS8⟩ := hSw; go_simp⟩) hHeld ?_
                simp only [List.setIfInBounds_toArray, List.set_cons_zero, List.set_cons_succ]
                refine takeAt (i := 1) (d := 73) (v := .int .i64 (i : Int)) rfl rfl (by kernel_rfl) (by kernel_rfl) (by kernel_rfl) (fun _ _ _ h => h) (Or.inl ⟨by rfl, fun w hSw => by obtain ⟨hS0, hS1, hS2, hS3, hS4, hS5, hS6, hS7, hS8⟩ := hSw; go_simp⟩) hHeld ?_
                simp only [List.setIfInBounds_toArray, List.set_cons_zero, List.set_cons_succ]
                refine takeAt (i := 2) (d := 74) (v := .pointer (some ⟨b2, off2 + i * 4, none⟩)) rfl rfl (by kernel_rfl) (by kernel_rfl) (by kernel_rfl) (fun _ _ _ h => h) (Or.inl ⟨by rfl, fun w hSw => by obtain ⟨hS0, hS1, hS2, hS3, hS4, hS5, hS6, hS7, hS8⟩ := hSw; go_simp⟩) hHeld ?_
                simp only [List.setIfInBounds_toArray, List.set_cons_zero, List.set_cons_succ]
                refine takeAt (i := 3) (d := 75) (v := .agg #[.int .i64 y.1.seq, .int .i64 y.1.time, .slice y.2.1 y.1.labs.length y.2.2, .string ⟨y.1.line.toArray⟩]) rfl rfl (by kernel_rfl) (by kernel_rfl) (by kernel_rfl) (fun _ _ _ h => h) (Or.inl ⟨by rfl, fun w hSw => by obtain ⟨hS0, hS1, hS2, hS3, hS4, hS5, hS6, hS7, hS8⟩ := hSw; go_simp⟩) hHeld ?_
                simp only [List.setIfInBounds_toArray, List.set_cons_zero, List.set_cons_succ]
                refine takeAt (i := 4) (d := 76) (v := .slice (some ⟨b, off, none⟩) N c) rfl rfl (by kernel_rfl) (by kernel_rfl) (by kernel_rfl) (fun _ _ _ h => h) (Or.inl ⟨by rfl, fun w hSw => by obtain ⟨hS0, hS1, hS2, hS3, hS4, hS5, hS6, hS7, hS8⟩ := hSw; go_simp⟩) hHeld ?_
                simp only [List.setIfInBounds_toArray, List.set_cons_zero, List.set_cons_succ]
                refine takeAt (i := 5) (d := 77) (v := .int .i64 (K : Int)) rfl rfl (by kernel_rfl) (by kernel_rfl) (by kernel_rfl) (fun _ _ _ h => h) (Or.inl ⟨by rfl, fun w hSw => by obtain ⟨hS0, hS1, hS2, hS3, hS4, hS5, hS6, hS7, hS8⟩ := hSw; go_simp⟩) hHeld ?_
                simp only [List.setIfInBounds_toArray, List.set_cons_zero, List.set_cons_succ]
                refine takeAt (i := 6) (d := 78) (v := .pointer (some ⟨b, off + K * 4, none⟩)) rfl rfl (by kernel_rfl) (by kernel_rfl) (by kernel_rfl) (fun _ _ _ h => h) (Or.inl ⟨by rfl, fun w hSw => by obtain ⟨hS0, hS1, hS2, hS3, hS4, hS5, hS6, hS7, hS8⟩ := hSw; go_simp⟩) hHeld ?_
                simp only [List.setIfInBounds_toArray, List.set_cons_zero, List.set_cons_succ]
                refine takeAt (i := 7) (d := 79) (v := .agg #[.int .i64 p.1.seq, .int .i64 p.1.time, .slice p.2.1 p.1.labs.length p.2.2, .string ⟨p.1.line.toArray⟩]) rfl rfl (by kernel_rfl) (by kernel_rfl) (by kernel_rfl) (fun _ _ _ h => h) (Or.inl ⟨by rfl, fun w hSw => by obtain ⟨hS0, hS1, hS2, hS3, hS4, hS5, hS6, hS7, hS8⟩ := hSw; go_simp⟩) hHeld ?_
                simp only [List.setIfInBounds_toArray, List.set_cons_zero, List.set_cons_succ]
                refine wpAnyH_ready (rs := [8]) (by kernel_rfl) (by simp) ?_
                refine AllReadyH.cons (o := { dst := some 80, op := Go.Op.call { callee := Go.Callee.value (Go.Operand.func 13), args := #[Go.Operand.tmp 75, Go.Operand.tmp 79], argTypes := #[27, 27] }, type := 4, pos := "law.go:142", after := #[{ on := 3, ground := Go.Ground.data }, { on := 7, ground := Go.Ground.data }], guard := none }) rfl (fun K hK => ?_) AllReadyH.nil
                rw [if_pos (by rfl)]
                go_simp
                refine (HSy _ hk9.1).mono ?_
                rintro e w6 ⟨rfl, bc⟩
                refine hK.out _ _ (mkS _ (hk9.1.trans (bc.mono hk9.1.size))) (fun hH2 => ?_)
                clear hK K
                try simp only [Act.put, List.setIfInBounds_toArray, List.set_cons_zero, List.set_cons_succ]
                refine wpAnyH_done (by kernel_rfl) ?_ _
                have hw9 := hH2.1
                clear mkS mkS19 hH1 hH2 hk9 mkS17 HSx HSy
                go_wp2_with fail
                go_roundw
                case rel => exact ⟨i + 1, na, nb, by go_num, by go_num, by go_num, by omega, by omega, by omega, hid (by rw [HCX.out]; rfl), hid (by rw [HCY.out]; rfl), hw9⟩
                case measure => simp [intOf]; omega
          · have hge : ¬ (i : Int) < (N : Int) := by omega
            have hab : ((na : Int) == (nb : Int)) = true := by
              have h1 := HA.out
              have h2 := HB.out
              have h4 := HYN.out
              have h5 := HY.out
              have h6 := HLN.out
              have h7 : r3.length = N := by rw [← h5, List.length_map]; exact h4
              rw [List.take_of_length_le (by omega)] at h1 h2
              have h3 := HSC.out
              simp; omega
            have K1 := HK wr (hb4.trans (hbw.mono hb4.size))
            clear HK HA HB
            go_wp2_with (go_at_call 12; refine K1.mono ?_; rintro e w6 ⟨rfl, b6⟩; clear K1)
            go_ret
            exact ⟨rfl, (hb4.trans (hbw.mono hb4.size)).trans (b6.mono (hb4.trans (hbw.mono hb4.size)).size)⟩

set_option maxRecDepth 100000 in
theorem contract (H : Type) (enc : TypeId × Value → H) (W : World) (base : Nat) (args : Array Value) (ds gs : List (DataW H)) (before : List MemPlace)
    (hval : ∀ (j : Nat) t v, Tryd.f4.params[j]? = some t → args[j]? = some v → Value.okWide Tryd.prog W .any base t v)
    (hW : DataW.Whole enc Tryd.prog Tryd.f4.params.toList Rows.recordOrderedSpec.vars false W args.toList ds gs before)
    (hsz : (DataW.weightsEach Tryd.prog (Tryd.f4.params.toList ++ Rows.recordOrderedSpec.plain.varTypes Tryd.prog) (ds ++ gs)).all (· ≤ reachBytes) = true)
    (hL : laidMetH Tryd.prog Rows.recordOrderedRow.laid W) :
    Calls Tryd.prog 4 args W fun e W' => ∃ v, e = .returned v ∧ Rows.recordOrderedSpec.post enc Tryd.prog Tryd.f4 false true false false W args v W' := by
  have hW' := hW
  obtain ⟨p, q, hA0, hV, rfl, hfz, hnd⟩ := hW
  have hA : DataW.TrodAll enc Tryd.prog W 0 (fun _ => true) true Tryd.f4.params.toList args.toList ds p := hA0
  rw [Tryd.params4] at hA hval hsz
  obtain ⟨v0, vs0, d0, ds0, p0, q0, hargs, rfl, rfl, h0, r0⟩ := trodAll_cons hA
  obtain ⟨v1, vs1, d1, ds1, p1, q1, rfl, rfl, rfl, h1, r1⟩ := trodAll_cons r0
  obtain ⟨rfl, rfl, rfl⟩ := trodAll_nil r1
  obtain rfl : args = #[v0, v1] := by cases args; simp_all
  obtain ⟨rfl, rfl⟩ := trodVars_none hV
  obtain ⟨a0, len0, cap0, rfl⟩ := okWide_slice Tryd.underlying22 (hval 0 22 v0 rfl rfl)
  have lt0 : ∀ x ∈ p0, x.block < W.heap.size := by
    obtain ⟨m, hm⟩ := h0
    exact DataW.trod_lt m _ _ _ hm
  obtain ⟨l0, hll0, hr0, hz0, hw0⟩ := open_ents h0 (fun n hn => by have h9 := List.all_eq_true.1 hsz n (DataW.weights_mem_each (j := 0) (t := 22) (d := d0) rfl rfl n hn); simpa using h9)
  obtain ⟨a1, rfl, rfl, rfl, w1⟩ := open_int Tryd.underlying3 (hval 1 3 v1 rfl rfl) h1
  clear hA0
  have hT : Tabs W := tabs_of hL (.tail _ (.head _)) (.head _)
  refine (walk _ l0 a1 W hr0 hz0 hw0 hT).mono fun e W' ⟨he, bel⟩ => ?_
  subst he
  exact ⟨_, rfl, _, _, _, [], _, [], hW', trodAll_mk1 (shut_bool Tryd.underlying4 _), (trodAll_cons_mk (Below.trod laidOut (by kernel_rfl) (of_decide_eq_true (by kernel_rfl)) h0 bel lt0) (trodAll_cons_mk (shut_int Tryd.underlying3 w1) trodAll_mk0)), rfl, bel.frame _, fun h => by cases h⟩

theorem laid_met (os : Os) : laidMet Tryd.prog Rows.recordOrderedRow.laid ((World.laidAll Tryd.prog os Rows.recordOrderedRow.laid).forCall (fun _ _ => 0) ⟨#[], #[.slice none 0 0, .int .i64 0], []⟩).memory :=
  laidMet_laidAll _ (by kernel_rfl) (by kernel_rfl)
theorem reads (os : Os) {H : Type} (enc : TypeId × Value → H) : ∃ places, DataW.whole enc Tryd.prog ((World.laidAll Tryd.prog os Rows.recordOrderedRow.laid).forCall (fun _ _ => 0) ⟨#[], #[.slice none 0 0, .int .i64 0], []⟩).memory Tryd.f4.params.toList Rows.recordOrderedSpec.vars false #[.slice none 0 0, .int .i64 0].toList 8 = some ([.nil, .lit (.int .i64 0)], [], places) :=
  ⟨[], by kernel_rfl⟩

set_option maxRecDepth 100000 in
theorem lifted (os : Os) (started : os.Started) (H : Type) (enc : TypeId × Value → H) (F : Stop.Interp) :
    ReturnsInHanded {} Tryd.checked os 4 .any ((OpenSpec.ofChange Rows.recordOrderedSpec).preRow enc Tryd.prog Tryd.f4 Rows.recordOrderedRow.domain false Rows.recordOrderedRow.laid) (((OpenSpec.ofChange Rows.recordOrderedSpec).at F).post enc Tryd.prog Tryd.f4 false true false false) := by
  obtain ⟨places, hx⟩ := reads os enc
  refine returnsInHanded_of_row (C := Tryd.checked) (s := OpenSpec.ofChange Rows.recordOrderedSpec) own started (by kernel_rfl) Tryd.func4
    (witness_row_at (enc := enc) (C := Tryd.checked) false (World.laidAll Tryd.prog os Rows.recordOrderedRow.laid) #[.slice none 0 0, .int .i64 0] (World.laidAll_os _ _ _) (by kernel_rfl) (by kernel_rfl) (by kernel_rfl)
      (OpenSpec.preRow_of_cond 8 hx (by kernel_rfl) (fun k hk => by cases hk) (by kernel_rfl) (laid_met os))) ?_
  intro W base args ds gs before hval hW _ _ hsz hL _ _
  exact contract H enc W base args ds gs before hval hW hsz hL

theorem said : Rows.RecordOrderedSaid :=
  OpenClaim.holds_of_cond 4 Tryd.f4 rfl rfl rfl rfl rfl rfl rfl ⟨rfl, rfl, rfl, rfl, rfl⟩ rfl rfl rfl rfl rfl (by kernel_rfl) Tryd.func4 (by kernel_rfl)
    (of_decide_eq_true (by kernel_rfl)) (by unfold Func.isWrapper; first | (rw [if_pos (by decide +kernel)]; kernel_rfl) | (rw [if_neg (by decide +kernel)]; exact ⟨rfl, rfl⟩))
    (fun os started H enc _ F => by rw [OpenClaim.pre_eq_preRow]; exact lifted os started H enc F)

theorem plain (f : FuncId) (fn : Func) (hf : Tryd.pinned.checked.prog.funcNamed "icehouse/icehouselaw03.RecordOrdered" = some f) (hfn : Tryd.pinned.checked.prog.funcs[f]? = some fn) :
    false = Tryd.pinned.checked.prog.looks [] ∧ ∀ (j : Nat) t, fn.params[j]? = some t → Tryd.pinned.checked.prog.wantsStandIn t = false := by
  obtain rfl : f = 4 := Option.some.inj ((show Tryd.prog.funcNamed "icehouse/icehouselaw03.RecordOrdered" = some 4 by kernel_rfl).symm.trans hf) |>.symm
  obtain rfl : fn = Tryd.f4 := (Option.some.inj (Tryd.func4.symm.trans hfn)).symm
  refine ⟨by kernel_rfl, fun j t ht => ?_⟩
  rw [Tryd.params4] at ht
  have hm : t ∈ [22, 3] := by simpa using Array.mem_of_getElem? ht
  have hall : ([22, 3].all fun u => !Tryd.prog.wantsStandIn u) = true := by kernel_rfl
  exact (show Tryd.prog.wantsStandIn t = false by simpa using List.all_eq_true.1 hall t hm)

/-- THE STATEMENT. -/
theorem proved : Rows.RecordOrderedCardSaid :=
  Claim7.holds_tied_plain_at .later [] _ _ _ _ said (fun _ h => by cases h) (by kernel_rfl) (fun _ h => by cases h) recordOrdered_row_tie rfl ⟨rfl, rfl⟩ (by kernel_rfl) rfl plain (by kernel_rfl)

end Go.Proofs.YtcdfjkhjdiojbaaDoor.RecordOrdered
