/-
  The reference's Bytes of a chunk that may be. Conditions: the chunk can be read; sizes as each theorem names.
  Put of any chunk, the program's and the reference's, in one word each. Conditions: the chunk can be read; sizes as each theorem names.
-/
import Derived.Test.YtelabmcghahclaaDoorBbk
import Derived.Test.YtelabmcghahclaaDoorOrl
import Derived.Test.YtelabmcghahclaaDoorHrr
import Derived.Test.YtelabmcghahclaaDoorHpw
section
namespace Go.Proofs.YtelabmcghahclaaDoor
open Go.RowKit Go.Icz Go.Shelf
attribute [local go_sem] Oper.semAt_some
set_option maxRecDepth 100000
set_option maxHeartbeats 4000000
/-- 'append(v, x...)' of bytes, at a step of a region: which block it may have grown. -/
theorem step_appG {ops : Array Oper} {o : Oper} {a : Act} {K : Act → World → Prop} {Q : Exit → Act → World → Prop} {E : Prop} {w : World} (hgd : o.guard = none) (s x : Operand)
    (ho : o.op = .call { callee := .builtin .append, args := #[s, x], argTypes := #[26, 26] })
    (B : Nat) (v u : Value) (l m : List Nat) (hs : a.eval s = v) (hown : Go.Icz.Own w B v l) (hx : a.eval x = u) (hr : Go.Icz.Rd w u m)
    (hlen : l.length + m.length ≤ 140737488355328) (hB : B ≤ w.heap.size)
    (h : ∀ v' w', Go.Icz.Own w' B v' (l ++ m) → Below B w w' → w.grownBy w' v.ownBlock → K (a.put o.dst v') w') :
    if Region.wanted o (yielded ops a.tmps) = true then Oper.wp Tryd.prog o a w K Q else E := by
  have hw : Region.wanted o (yielded ops a.tmps) = true := by simp [Region.wanted, hgd]
  rw [if_pos hw]
  obtain ⟨i0, hi, hz0, hz1, hz2⟩ := info_parts std.i5
  obtain ⟨A, c, rfl, hc, hcell⟩ := hr
  rcases A with _ | ad
  · have hm : m = [] := by
      rcases Nat.eq_zero_or_pos m.length with h0 | h0
      · exact List.eq_nil_of_length_eq_zero h0
      · obtain ⟨b, off, e, _⟩ := hcell h0
        cases e
    subst hm
    unfold Oper.wp execOp
    have hrun : (Builtin.append_ #[26, 26] o.type #[v, .slice none 0 c]).run Tryd.prog w = .ok v w := by
      rcases hown.2 with ⟨rfl, _⟩ | ⟨g, cap, cur, rfl, _, _, hnc, _⟩
      · simp [Builtin.append_, run_underlying std.u45, Go.sizeOf, typeInfo, hi, Builtin.lenOf, Builtin.firstCells]
      · simp [Builtin.append_, run_underlying std.u45, Go.sizeOf, typeInfo, hi, Builtin.lenOf, Builtin.firstCells, hnc, storeCells]
    simp only [ho, resolve, invoke, builtin, Sem.run_bind, Sem.run_pure, Result.andThen_ok, List.map_toArray, List.map_cons, List.map_nil, hs, hx, List.length_nil, hrun]
    exact h v w (by simpa using hown) (Below.refl _ _) (World.grownBy.refl _ _)
  · refine wp_append_own _ s x 26 ho B 5 i0 (.int .u8 0) 1 1 std.u45 hi hz0 hz1 hz2 rfl (by decide) v l.length (cellsB l) hs hown ad m.length c (cellsB m) hx (by rw [cellsB_len]; omega) ?_ (cellsB_one m) ?_ (by omega) hB ?_
    · intro j u hj
      obtain ⟨hj', rfl⟩ := cellsB_get hj
      obtain ⟨b, off, e, _, hc'⟩ := hcell (by omega)
      injection e with e
      subst e
      rw [add_flat]
      exact hc' j hj'
    · unfold maxLen; omega
    · intro v' w' h1 h2 _
      exact h v' w' (by unfold Go.Icz.Own; rw [cellsB_app, List.length_append]; exact h1) ((Below.refl B w).grown h2 hB (fun k hk => (World.ownsRow.lt hown k hk).1)) h2
theorem own_box {w w' : World} {B : Nat} {v : Value} {l : List Nat} (h : Go.Icz.Own w B v l) (hg : w.grownBy w' v.ownBlock) {k : Nat} {cs : Array Value} {t : TypeId} {z : Nat × Nat} (hk : w.heap[k]? = some (.cells cs t z)) (ht : t ≠ 5) : w'.heap[k]? = some (.cells cs t z) := by
  refine (hg.block k (row_lt hk) (fun e => ?_)).trans hk
  rcases h.2 with ⟨rfl, _⟩ | ⟨g', cap', cur, rfl, hb, hgc, _⟩
  · cases e
  · have e' : k = g' := by injection e
    subst e'
    rw [hgc] at hk
    injection hk with hk
    injection hk with _ h2
    exact ht h2.symm
theorem R4Bytes_is (labs : List Lab) (rows : List CRow) (A A2 : Option Addr) (C C2 : Nat) (w : World) (hL : RdL w (.slice A labs.length C) labs) (hR : KRr.Rd w (.slice A2 rows.length C2) rows) (hf : chR labs rows = true) :
    Calls Tryd.prog 35 #[.agg #[.slice A labs.length C, .slice A2 rows.length C2]] w (Bare w (chB labs rows)) := by
  obtain ⟨W0, hW0⟩ : ∃ W0, W0 = w.alloc (.cells #[.slice A labs.length C, .slice A2 rows.length C2] 25) := ⟨_, rfl⟩
  have b0 : Below w.heap.size w W0 := by rw [hW0]; exact (Below.refl _ w).alloc (Nat.le_refl _) _
  have x0 : W0.heap[w.heap.size]? = some (.cells #[.slice A labs.length C, .slice A2 rows.length C2] 25 (0, 0)) := by rw [hW0]; exact heap_alloc_new w _
  have hfit := chB_fit hf
  obtain ⟨⟨n1, n2⟩, hrr, hok⟩ := (chR_iff labs rows).1 hf
  have eB := chB_body labs rows n1
  have hbf := fun i h => (body_fit hok i h).1
  obtain ⟨h16, hal⟩ := right_lens hrr
  have hbl := bytesN_len hrr
  obtain ⟨bR, offR, cR, hvR, hltR, hcs1⟩ := hR.ats (j := 0) (by omega)
  injection hvR with hv1 _ hv2
  subst hv1
  subst hv2
  have row : ∀ wx, Below W0.heap.size W0 wx → ∀ j, j < rows.length → wx.cell? ⟨bR, offR + j * 3, none⟩ = some (.int .i64 (crAt rows j).seq) ∧ wx.cell? ⟨bR, offR + j * 3 + 1, none⟩ = some (.int .i64 (crAt rows j).time) ∧ wx.cell? ⟨bR, offR + j * 3 + 2, none⟩ = some (.string ⟨(crAt rows j).line.toArray⟩) := fun wx b j hj => by
    have bb := b0.trans (b.mono b0.size)
    have q0 := hcs1 j hj 0 _ (by decide) rfl
    have q1 := hcs1 j hj 1 _ (by decide) rfl
    have q2 := hcs1 j hj 2 _ (by decide) rfl
    rw [crAt_eq hj]
    exact ⟨(bb.cell (p := ⟨bR, offR + j * 3, none⟩) hltR).trans q0, (bb.cell (p := ⟨bR, offR + j * 3 + 1, none⟩) hltR).trans q1, (bb.cell (p := ⟨bR, offR + j * 3 + 2, none⟩) hltR).trans q2⟩
  have cells : ∀ wx, Below W0.heap.size W0 wx → wx.cell? ⟨w.heap.size, 0, none⟩ = some (.slice A labs.length C) ∧ wx.cell? ⟨w.heap.size, 1, none⟩ = some (.slice (some ⟨bR, offR, none⟩) rows.length C2) := fun wx b => by
    have y := (b.block w.heap.size (row_lt x0)).trans x0
    exact ⟨held_cell y rfl, held_cell y rfl⟩
  have hBO := fun wx (h : RdL wx (.slice A labs.length C) labs) => BytesOf_is _ labs wx h (by omega) hal
  have T1 := fun wx => TextBytes_any (str (bytesN labs)) wx (by rw [str_len]; omega)
  have ht1 := txt_len2 (str (bytesN labs)) (by rw [str_len]; omega)
  rw [str_len] at ht1
  have N1 := fun wx => Bytes_any rows.length wx (by omega)
  have hn1 := num_len8 (n := rows.length) (by omega)
  have cv := fun (v : Value) wx (h : Go.Icz.Rd wx v (bytesN labs)) => conv_rd std h
  obtain ⟨hd, hhd⟩ : ∃ hd, hd = txt (str (bytesN labs)) ++ num rows.length := ⟨_, rfl⟩
  have HEB : Hid (chB labs rows = hd ++ bodyK rows rows.length) := hid (by rw [eB, hhd]; simp)
  generalize txt (str (bytesN labs)) = m1 at *
  generalize num rows.length = m2 at *
  have e1 : m1.length + m2.length ≤ 140737488355328 := by omega
  have HHD : Hid (hd = m1 ++ m2 ∧ hd.length ≤ 5000) := hid ⟨hhd, by rw [hhd, List.length_append]; omega⟩
  have HBF := hid hbf
  have HOK := hid hok
  have HROW := hid row
  have HCE := hid cells
  have HN := hid (And.intro n1 n2)
  have HB0 := hid b0
  have HLR := hid (fun wx (b : Below W0.heap.size W0 wx) => (hL.below b0).below b)
  have mkS : ∀ wx, Below W0.heap.size W0 wx → Below W0.heap.size W0 wx ∧ wx.cell? ⟨w.heap.size, 0, none⟩ = some (.slice A labs.length C) ∧ wx.cell? ⟨w.heap.size, 1, none⟩ = some (.slice (some ⟨bR, offR, none⟩) rows.length C2) := fun wx b => ⟨b, cells wx b⟩
  have hk := mkS W0.drew (Below.refl _ _).drew
  clear hL hR hf hfit n1 n2 hrr hok eB hbf h16 hal hbl hcs1 hltR row x0 b0 ht1 hn1 hhd cells
  generalize hmb : bytesN labs = mb at *
  clear hmb
  go_enter Tryd.func35, Tryd.ntmps35
  go_wp2_with fail
  rw [← hW0]
  clear hW0
  refine wp_region_L 10 (fun wS => wS.cell? ⟨w.heap.size, 0, none⟩ = some (.slice A labs.length C) ∧ wS.cell? ⟨w.heap.size, 1, none⟩ = some (.slice (some ⟨bR, offR, none⟩) rows.length C2)) (by kernel_rfl) ?_
  refine takeL (i := 0) (d := 6) (v := .pointer (some ⟨w.heap.size, 0, none⟩)) rfl rfl (by kernel_rfl) (by kernel_rfl) (by kernel_rfl) (by kernel_rfl) (by kernel_rfl) (fun _ _ _ h => h) (Or.inl ⟨by rfl, fun wS hSw => by obtain ⟨s0, s1⟩ := hSw; go_simp⟩) hk.2 ?_
  try simp only [List.setIfInBounds_toArray, List.set_cons_zero, List.set_cons_succ]
  refine takeL (i := 1) (d := 7) (v := .slice A labs.length C) rfl rfl (by kernel_rfl) (by kernel_rfl) (by kernel_rfl) (by kernel_rfl) (by kernel_rfl) (fun _ _ _ h => h) (Or.inl ⟨by rfl, fun wS hSw => by obtain ⟨s0, s1⟩ := hSw; go_simp⟩) hk.2 ?_
  try simp only [List.setIfInBounds_toArray, List.set_cons_zero, List.set_cons_succ]
  refine takeL (i := 5) (d := 11) (v := .pointer (some ⟨w.heap.size, 1, none⟩)) rfl rfl (by kernel_rfl) (by kernel_rfl) (by kernel_rfl) (by kernel_rfl) (by kernel_rfl) (fun _ _ _ h => h) (Or.inl ⟨by rfl, fun wS hSw => by obtain ⟨s0, s1⟩ := hSw; go_simp⟩) hk.2 ?_
  try simp only [List.setIfInBounds_toArray, List.set_cons_zero, List.set_cons_succ]
  refine takeL (i := 6) (d := 12) (v := .slice (some ⟨bR, offR, none⟩) rows.length C2) rfl rfl (by kernel_rfl) (by kernel_rfl) (by kernel_rfl) (by kernel_rfl) (by kernel_rfl) (fun _ _ _ h => h) (Or.inl ⟨by rfl, fun wS hSw => by obtain ⟨s0, s1⟩ := hSw; go_simp⟩) hk.2 ?_
  try simp only [List.setIfInBounds_toArray, List.set_cons_zero, List.set_cons_succ]
  refine takeL (i := 7) (d := 13) (v := .int .i64 (rows.length : Int)) rfl rfl (by kernel_rfl) (by kernel_rfl) (by kernel_rfl) (by kernel_rfl) (by kernel_rfl) (fun _ _ _ h => h) (Or.inl ⟨by rfl, fun wS hSw => by obtain ⟨s0, s1⟩ := hSw; go_simp⟩) hk.2 ?_
  try simp only [List.setIfInBounds_toArray, List.set_cons_zero, List.set_cons_succ]
  refine readyL (rs := [2]) (by kernel_rfl) (by simp) ?_
  refine AllReadyL.cons rfl (fun K hK => ?_) AllReadyL.nil
  go_simp
  go_at_call 69
  refine (hBO _ (HLR.out _ hk.1)).mono ?_
  rintro e w2 ⟨v2, rfl, o2, b2⟩
  have cv2 := cv _ _ o2.rd
  replace hk := mkS _ (hk.1.trans (b2.mono hk.1.size))
  refine hK.out _ _ hk.2 ?_
  clear hK K
  try simp only [Act.put, List.setIfInBounds_toArray, List.set_cons_zero, List.set_cons_succ]
  refine readyL (rs := [3]) (by kernel_rfl) (by simp) ?_
  refine AllReadyL.cons rfl (fun K hK => ?_) AllReadyL.nil
  try rw [if_pos (by rfl)]
  go_simp
  refine hK.out _ _ hk.2 ?_
  clear hK K
  try simp only [Act.put, List.setIfInBounds_toArray, List.set_cons_zero, List.set_cons_succ]
  refine readyL (rs := [4]) (by kernel_rfl) (by simp) ?_
  refine AllReadyL.cons rfl (fun K hK => ?_) AllReadyL.nil
  go_simp
  go_at_call 68
  refine (T1 _).mono ?_
  rintro e w3 ⟨v3, rfl, o3, b3⟩
  have z2 := hk.1.size
  have o3' := o3.mono z2
  replace hk := mkS _ (hk.1.trans (b3.mono z2))
  refine hK.out _ _ hk.2 ?_
  clear cv2
  clear hK K
  try simp only [Act.put, List.setIfInBounds_toArray, List.set_cons_zero, List.set_cons_succ]
  refine readyL (rs := [8]) (by kernel_rfl) (by simp) ?_
  refine AllReadyL.cons rfl (fun K hK => ?_) AllReadyL.nil
  go_simp
  go_at_call 70
  refine (N1 _).mono ?_
  rintro e w4 ⟨v4, rfl, o4, b4⟩
  have own3 := o3'.below b4
  replace hk := mkS _ (hk.1.trans (b4.mono hk.1.size))
  refine hK.out _ _ hk.2 ?_
  clear hK K
  try simp only [Act.put, List.setIfInBounds_toArray, List.set_cons_zero, List.set_cons_succ]
  refine readyL (rs := [9]) (by kernel_rfl) (by simp) ?_
  refine AllReadyL.cons rfl (fun K hK => ?_) AllReadyL.nil
  refine step_appR rfl (.tmp 10) (.tmp 14) rfl W0.heap.size _ _ m1 m2 (by simp [Act.eval]) own3 (by simp [Act.eval]) o4.rd e1 hk.1.size ?_
  intro v5 w5 o5 b5
  replace hk := mkS _ (hk.1.trans b5)
  refine hK.out _ _ hk.2 ?_
  clear hK K
  try simp only [Act.put, List.setIfInBounds_toArray, List.set_cons_zero, List.set_cons_succ]
  refine readyL (rs := [10]) (by kernel_rfl) (by simp) ?_
  refine AllReadyL.last rfl (fun K hK => ?_)
  try rw [if_pos (by rfl)]
  go_simp
  refine hK.out _ _ ?_
  clear hK K
  refine doneL (by kernel_rfl) ?_
  clear hBO T1 N1 o3 o3' cv
  have HZ := hid o5
  rw [← HHD.out.1] at o5
  have HK5 := hid hk.1
  clear hk b5 o4 own3 b4 b3 o2 b2 HZ e1
  go_wp2_with fail
  go_loopw [3, 4] (fun bv iv wr => ∃ (i : Nat) (acc : List Nat) (u : Value), u = bv ∧ iv = .int .i64 (i : Int) ∧ Hid (i ≤ rows.length) ∧ Hid (Go.Icz.Own wr W0.heap.size u acc) ∧ Hid (Below W0.heap.size W0 wr) ∧ Hid (acc = hd ++ bodyK rows i)) (fun _ iv _ => rows.length - (intOf iv).toNat)
  case atStart => exact ⟨0, hd, _, rfl, rfl, hid (Nat.zero_le _), hid o5, HK5, hid (by simp [bodyK])⟩
  case round =>
    obtain ⟨i, acc, u, rfl, rfl, hi, HO, HW, HA⟩ := hrel
    have ce := HCE.out wr HW.out
    by_cases hil : i < rows.length
    · have hii : (i : Int) < (rows.length : Int) := by omega
      have ok := HOK.out i hil
      obtain ⟨c0, c1, c2⟩ := HROW.out wr HW.out i hil
      have hls : (⟨(crAt rows i).line.toArray⟩ : ByteArray).size = (crAt rows i).line.length := Lib.size_mk _
      have T2 := fun wx => TextBytes_any ⟨(crAt rows i).line.toArray⟩ wx (by have := ok.1.2.2; omega)
      have l3 := txt_len2 ⟨(crAt rows i).line.toArray⟩ (by have := ok.1.2.2; omega)
      have hacc : acc.length ≤ 2000000 := by
        have h1 := HBF.out i (by omega)
        have h2 := HHD.out.2
        have h3 := HN.out.2
        have h4 : 1048 * i ≤ 1048 * 1000 := Nat.mul_le_mul_left _ (by omega)
        rw [HA.out, List.length_append]
        omega
      have HRJ : Hid (bodyK rows (i + 1) = bodyK rows i ++ (rowF rows i ++ txt ⟨(crAt rows i).line.toArray⟩)) := hid (by show bodyK rows i ++ rowJ rows i = _; rw [rowJ_eq])
      have HLT : Hid ((txt ⟨(crAt rows i).line.toArray⟩).length ≤ 1100 ∧ acc.length ≤ 2000000) := hid ⟨by have := ok.1.2.2; omega, hacc⟩
      have HIL := hid hil
      have hi2 : (i : Int) + 1 ≤ 1000 := by have := HN.out; omega
      obtain ⟨x, hxe⟩ : ∃ x, x = crAt rows i := ⟨_, rfl⟩
      have HX := hid hxe
      rw [← hxe] at c0 c1 c2 T2 HRJ HLT
      have OKX := hid ok
      obtain ⟨Wa, hWa⟩ : ∃ Wa, Wa = wr.alloc (.cells #[.int .i64 x.seq, .int .i64 x.time, .string ⟨x.line.toArray⟩] 61) := ⟨_, rfl⟩
      have bA : Below wr.heap.size wr Wa := by rw [hWa]; exact (Below.refl _ wr).alloc (Nat.le_refl _) _
      have xA : Wa.heap[wr.heap.size]? = some (.cells #[.int .i64 x.seq, .int .i64 x.time, .string ⟨x.line.toArray⟩] 61 (0, 0)) := by rw [hWa]; exact heap_alloc_new wr _
      have OA := hid (HO.out.below bA)
      have BA : Hid (Below W0.heap.size W0 Wa) := hid (HW.out.trans (bA.mono HW.out.size))
      have XA := hid xA
      clear hxe hls l3 hacc ok bA xA hi
      generalize txt ⟨x.line.toArray⟩ = m3 at *
      by_cases h0 : i = 0
      · have h0' : (((i : Int)) == 0) = true := by simp [h0]
        have hx0 : 0 ≤ x.time ∧ x.time < 1099511627776 ∧ 1 ≤ x.seq ∧ x.seq < 1099511627776 := by have h9 := OKX.out; unfold okAt at h9; rw [← HX.out] at h9; exact ⟨h9.1.2.1.1, h9.1.2.1.2, h9.1.1.1, h9.1.1.2⟩
        have N1 := fun wx => Bytes_any x.time.toNat wx (by omega)
        have N2 := fun wx => Bytes_any x.seq.toNat wx (by omega)
        rw [Int.toNat_of_nonneg (by omega)] at N1 N2
        have l1 := num_len8 (n := x.time.toNat) (by omega)
        have l2 := num_len8 (n := x.seq.toNat) (by omega)
        have HRF : Hid (rowF rows i = num x.time.toNat ++ num x.seq.toNat) := hid (by rw [HX.out]; unfold rowF; rw [if_pos h0, h0])
        have HL12 : Hid ((num x.time.toNat).length ≤ 8 ∧ (num x.seq.toNat).length ≤ 8) := hid ⟨l1, l2⟩
        generalize num x.time.toNat = k1 at *
        generalize num x.seq.toNat = k2 at *
        have lim1 : acc.length + k1.length ≤ 140737488355328 := by have := HLT.out.2; omega
        have lim2 : (acc ++ k1).length + k2.length ≤ 140737488355328 := by have := HLT.out.2; simp; omega
        have mkT : ∀ wx : World, Below W0.heap.size Wa wx → wx.heap[wr.heap.size]? = some (.cells #[.int .i64 x.seq, .int .i64 x.time, .string ⟨x.line.toArray⟩] 61 (0, 0)) → (Below W0.heap.size Wa wx ∧ wx.heap[wr.heap.size]? = some (.cells #[.int .i64 x.seq, .int .i64 x.time, .string ⟨x.line.toArray⟩] 61 (0, 0))) ∧ wx.cell? ⟨wr.heap.size, 0, none⟩ = some (.int .i64 x.seq) ∧ wx.cell? ⟨wr.heap.size, 1, none⟩ = some (.int .i64 x.time) ∧ wx.cell? ⟨wr.heap.size, 2, none⟩ = some (.string ⟨x.line.toArray⟩) := fun wx hb hy => ⟨⟨hb, hy⟩, held_cell hy rfl, held_cell hy rfl, held_cell hy rfl⟩
        have hk := mkT Wa.drew (Below.refl _ _).drew XA.out
        have OW0 : Go.Icz.Own Wa.drew W0.heap.size u acc := OA.out
        have zA := BA.out.size
        have MK := hid mkT
        clear hx0 l1 l2 mkT h0 lim1 lim2 zA
        go_wp2_with fail
        rw [← hWa]
        clear hWa
        go_region_held3 (fun wx => (Below W0.heap.size Wa wx ∧ wx.heap[wr.heap.size]? = some (.cells #[.int .i64 x.seq, .int .i64 x.time, .string ⟨x.line.toArray⟩] 61 (0, 0))) ∧ wx.cell? ⟨wr.heap.size, 0, none⟩ = some (.int .i64 x.seq) ∧ wx.cell? ⟨wr.heap.size, 1, none⟩ = some (.int .i64 x.time) ∧ wx.cell? ⟨wr.heap.size, 2, none⟩ = some (.string ⟨x.line.toArray⟩)) (exact hk)
          (first
            | (go_at_call 70; refine (N1 _).mono ?_; rintro e w3 ⟨v3, rfl, o3, b3⟩; have z3 := Nat.le_trans BA.out.size hk.1.1.size; have own3 := OW0.below b3; have hk := MK.out _ (hk.1.1.trans (b3.mono z3)) ((b3.block _ (row_lt hk.1.2)).trans hk.1.2); clear N1)
            | (refine step_appG rfl (.tmp 30) (.tmp 33) rfl W0.heap.size u v3 acc k1 (by simp [Act.eval]) own3 (by simp [Act.eval]) o3.rd (by have := HLT.out.2; have := HL12.out.1; omega) (Nat.le_trans BA.out.size hk.1.1.size) ?_; intro v4 w4 o4 b4 g4; have hk := MK.out _ (hk.1.1.trans b4) (own_box own3 g4 hk.1.2 (by decide)))
            | (go_at_call 70; refine (N2 _).mono ?_; rintro e w5 ⟨v5, rfl, o5, b5⟩; have z5 := Nat.le_trans BA.out.size hk.1.1.size; have own5 := o4.below b5; have hk := MK.out _ (hk.1.1.trans (b5.mono z5)) ((b5.block _ (row_lt hk.1.2)).trans hk.1.2); clear N2)
            | (refine step_appG rfl (.tmp 34) (.tmp 37) rfl W0.heap.size v4 v5 (acc ++ k1) k2 (by simp [Act.eval]) own5 (by simp [Act.eval]) o5.rd (by have := HLT.out.2; have := HL12.out.1; have := HL12.out.2; simp; omega) (Nat.le_trans BA.out.size hk.1.1.size) ?_; intro v6 w6 o6 b6 g6; have hk := MK.out _ (hk.1.1.trans b6) (own_box own5 g6 hk.1.2 (by decide))))
        have B6 : Hid (Below W0.heap.size W0 w6) := hid (BA.out.trans hk.1.1)
        have q2 := hk.2.2.2
        have HO6 := hid o6
        clear hk o6
        go_wp2_with (first
          | (go_at_call 68; refine (T2 _).mono ?_; rintro e w7 ⟨v7, rfl, o7, b7⟩; have own7 := HO6.out.below b7; have B7 := hid (B6.out.trans (b7.mono B6.out.size)); clear T2 q2)
          | (at_builtin; refine wp_appR std rfl (.tmp 65) (.tmp 68) rfl W0.heap.size _ _ ((acc ++ k1) ++ k2) m3 rfl own7 rfl o7.rd (by have := HLT.out; have := HL12.out; simp; omega) B7.out.size ?_; intro v8 w8 o8 b8))
        go_roundw
        case rel => exact ⟨i + 1, acc ++ k1 ++ k2 ++ m3, _, rfl, by go_num, hid HIL.out, hid o8, hid (B7.out.trans b8), hid (by rw [HRJ.out, HRF.out, HA.out]; simp)⟩
        case measure => have := HIL.out; simp [intOf]; omega
      · have h0' : (((i : Int)) == 0) = false := by simp [h0]
        obtain ⟨p, hpe⟩ : ∃ p, p = crAt rows (i - 1) := ⟨_, rfl⟩
        have HP := hid hpe
        have hx0 : (0 ≤ x.time - p.time ∧ x.time - p.time < 1099511627776) ∧ (1 ≤ x.seq ∧ x.seq < 1099511627776) ∧ (1 ≤ p.seq ∧ p.seq < 1099511627776) ∧ (0 ≤ x.time ∧ x.time < 1099511627776) ∧ (0 ≤ p.time ∧ p.time < 1099511627776) := by
          have h9 := OKX.out
          have h8 := HOK.out (i - 1) (by omega)
          unfold okAt at h9 h8
          rw [← HX.out, ← hpe] at h9
          rw [← hpe] at h8
          have h7 := h9.2.1 (by omega)
          have a1 := h9.1.1
          have a2 := h9.1.2.1
          have a3 := h8.1.1
          have a4 := h8.1.2.1
          exact ⟨⟨by omega, by omega⟩, a1, a3, a2, a4⟩
        have N1 := fun wx => Bytes_any (x.time - p.time).toNat wx (by omega)
        rw [Int.toNat_of_nonneg (by omega)] at N1
        have Z1 := fun wx => Zig_any (x.seq - p.seq) wx (by omega) (by omega)
        have N2 := fun wx => Bytes_any (zig (x.seq - p.seq)) wx (zig_lt (by omega) (by omega))
        have l1 := num_len8 (n := (x.time - p.time).toNat) (by omega)
        have l2 := num_len8 (n := zig (x.seq - p.seq)) (zig_lt (by omega) (by omega))
        have HRF : Hid (rowF rows i = num (x.time - p.time).toNat ++ num (zig (x.seq - p.seq))) := hid (by rw [HX.out, hpe]; unfold rowF; rw [if_neg h0])
        have HL12 : Hid ((num (x.time - p.time).toNat).length ≤ 8 ∧ (num (zig (x.seq - p.seq))).length ≤ 8) := hid ⟨l1, l2⟩
        generalize num (x.time - p.time).toNat = k1 at *
        generalize num (zig (x.seq - p.seq)) = k2 at *
        generalize zig (x.seq - p.seq) = zz at *
        obtain ⟨k, hk0⟩ : ∃ k, i = k + 1 := ⟨i - 1, by omega⟩
        have hki : (k : Int) < (rows.length : Int) := by omega
        have hkl : k < rows.length := by omega
        have zk : IntKind.i64.wrap ((i : Int) - 1) = (k : Int) := by rw [IntKind.wrap_i64] <;> omega
        have zk1 : (i : Int) - 1 = (k : Int) := by omega
        have zk2 : IntKind.i64.wrap (k : Int) = (k : Int) := by rw [IntKind.wrap_i64] <;> omega
        have zk3 : wrap64 (k : Int) = (k : Int) := IntWalk.wrap64_in _ ⟨by omega, by omega⟩
        have HK0 : Hid (i - 1 = k) := hid (by rw [hk0, Nat.add_sub_cancel])
        have zt : IntKind.i64.wrap (x.time - p.time) = x.time - p.time := by rw [IntKind.wrap_i64] <;> omega
        have zs : IntKind.i64.wrap (x.seq - p.seq) = x.seq - p.seq := by rw [IntKind.wrap_i64] <;> omega
        have HI1 : Hid (i - 1 < rows.length) := hid (Nat.lt_of_le_of_lt (Nat.sub_le i 1) hil)
        have mkT : ∀ wx : World, Below W0.heap.size Wa wx → wx.heap[wr.heap.size]? = some (.cells #[.int .i64 x.seq, .int .i64 x.time, .string ⟨x.line.toArray⟩] 61 (0, 0)) → (Below W0.heap.size Wa wx ∧ wx.heap[wr.heap.size]? = some (.cells #[.int .i64 x.seq, .int .i64 x.time, .string ⟨x.line.toArray⟩] 61 (0, 0))) ∧ wx.cell? ⟨wr.heap.size, 0, none⟩ = some (.int .i64 x.seq) ∧ wx.cell? ⟨wr.heap.size, 1, none⟩ = some (.int .i64 x.time) ∧ wx.cell? ⟨wr.heap.size, 2, none⟩ = some (.string ⟨x.line.toArray⟩) ∧ wx.cell? ⟨w.heap.size, 1, none⟩ = some (.slice (some ⟨bR, offR, none⟩) rows.length C2) ∧ wx.cell? ⟨bR, offR + k * 3, none⟩ = some (.int .i64 p.seq) ∧ wx.cell? ⟨bR, offR + k * 3 + 1, none⟩ = some (.int .i64 p.time) := fun wx hb hy => by
          have b9 := BA.out.trans hb
          obtain ⟨r0, r1, -⟩ := HROW.out wx b9 (i - 1) HI1.out
          rw [← hpe, HK0.out] at r0 r1
          exact ⟨⟨hb, hy⟩, held_cell hy rfl, held_cell hy rfl, held_cell hy rfl, (HCE.out wx b9).2, r0, r1⟩
        have hk := mkT Wa.drew (Below.refl _ _).drew XA.out
        have OW0 : Go.Icz.Own Wa.drew W0.heap.size u acc := OA.out
        have MK := hid mkT
        clear l1 l2 mkT h0 hpe hk0
        go_wp2_with fail
        rw [← hWa]
        clear hWa
        clear hx0
        go_region_held3 (fun wx => (Below W0.heap.size Wa wx ∧ wx.heap[wr.heap.size]? = some (.cells #[.int .i64 x.seq, .int .i64 x.time, .string ⟨x.line.toArray⟩] 61 (0, 0))) ∧ wx.cell? ⟨wr.heap.size, 0, none⟩ = some (.int .i64 x.seq) ∧ wx.cell? ⟨wr.heap.size, 1, none⟩ = some (.int .i64 x.time) ∧ wx.cell? ⟨wr.heap.size, 2, none⟩ = some (.string ⟨x.line.toArray⟩) ∧ wx.cell? ⟨w.heap.size, 1, none⟩ = some (.slice (some ⟨bR, offR, none⟩) rows.length C2) ∧ wx.cell? ⟨bR, offR + k * 3, none⟩ = some (.int .i64 p.seq) ∧ wx.cell? ⟨bR, offR + k * 3 + 1, none⟩ = some (.int .i64 p.time)) (exact hk)
          (first
            | (go_at_call 71; refine (Z1 _).mono ?_; rintro e w9 ⟨rfl, rfl⟩; clear Z1)
            | (go_at_call 70; refine (N1 _).mono ?_; rintro e w3 ⟨v3, rfl, o3, b3⟩; have z3 := Nat.le_trans BA.out.size hk.1.1.size; have own3 := OW0.below b3; have hk := MK.out _ (hk.1.1.trans (b3.mono z3)) ((b3.block _ (row_lt hk.1.2)).trans hk.1.2); clear N1)
            | (refine step_appG rfl (.tmp 39) (.tmp 50) rfl W0.heap.size u v3 acc k1 (by simp [Act.eval]) own3 (by simp [Act.eval]) o3.rd (by have := HLT.out.2; have := HL12.out.1; omega) (Nat.le_trans BA.out.size hk.1.1.size) ?_; intro v4 w4 o4 b4 g4; have hk := MK.out _ (hk.1.1.trans b4) (own_box own3 g4 hk.1.2 (by decide)))
            | (go_at_call 70; refine (N2 _).mono ?_; rintro e w5 ⟨v5, rfl, o5, b5⟩; have z5 := Nat.le_trans BA.out.size hk.1.1.size; have own5 := o4.below b5; have hk := MK.out _ (hk.1.1.trans (b5.mono z5)) ((b5.block _ (row_lt hk.1.2)).trans hk.1.2); clear N2)
            | (refine step_appG rfl (.tmp 51) (.tmp 63) rfl W0.heap.size v4 v5 (acc ++ k1) k2 (by simp [Act.eval]) own5 (by simp [Act.eval]) o5.rd (by have := HLT.out.2; have := HL12.out.1; have := HL12.out.2; simp; omega) (Nat.le_trans BA.out.size hk.1.1.size) ?_; intro v6 w6 o6 b6 g6; have hk := MK.out _ (hk.1.1.trans b6) (own_box own5 g6 hk.1.2 (by decide))))
        have B6 : Hid (Below W0.heap.size W0 w6) := hid (BA.out.trans hk.1.1)
        have q2 := hk.2.2.2.1
        have HO6 := hid o6
        clear hk o6
        go_wp2_with (first
          | (go_at_call 68; refine (T2 _).mono ?_; rintro e w7 ⟨v7, rfl, o7, b7⟩; have own7 := HO6.out.below b7; have B7 := hid (B6.out.trans (b7.mono B6.out.size)); clear T2 q2)
          | (at_builtin; refine wp_appR std rfl (.tmp 65) (.tmp 68) rfl W0.heap.size _ _ ((acc ++ k1) ++ k2) m3 rfl own7 rfl o7.rd (by have := HLT.out; have := HL12.out; simp; omega) B7.out.size ?_; intro v8 w8 o8 b8))
        go_roundw
        case rel => exact ⟨i + 1, acc ++ k1 ++ k2 ++ m3, _, rfl, by go_num, hid HIL.out, hid o8, hid (B7.out.trans b8), hid (by rw [HRJ.out, HRF.out, HA.out]; simp)⟩
        case measure => have := HIL.out; simp [intOf]; omega
    · have hii : ¬ (i : Int) < (rows.length : Int) := by omega
      have he : i = rows.length := by have := hi.out; omega
      have HF := hid (show acc = chB labs rows by rw [HA.out, HEB.out, he])
      have HBW := hid (HB0.out.trans (HW.out.mono HB0.out.size))
      clear hil he
      go_wp2
      go_ret
      exact ⟨_, rfl, by rw [← HF.out]; exact HO.out.mono HB0.out.size, HBW.out⟩
end Go.Proofs.YtelabmcghahclaaDoor
end
section
namespace Go.Proofs.YtelabmcghahclaaDoor
open Go.RowKit Go.Icz Go.Shelf
attribute [local go_sem] Oper.semAt_some
set_option maxRecDepth 100000
set_option maxHeartbeats 4000000
/-- What Put tells: the bytes, the error. -/
def putM (labs : List Lab) (rows : List CRow) : List Nat := if chR labs rows = true then chB labs rows else []
def putN (labs : List Lab) (rows : List CRow) : Nat := if chR labs rows = true then 0 else 1
/-- It answers bytes that read so, and this error. -/
def PtOut (m : List Nat) (n : Nat) (w : World) (e : Ending) (w' : World) : Prop := ∃ v, e = .returned (.tuple #[v, .int .i64 (n : Int)]) ∧ Go.Icz.Rd w' v m ∧ Below w.heap.size w w'
theorem CPut_any (labs : List Lab) (rows : List CRow) (A A2 : Option Addr) (C C2 : Nat) (w : World) (hL : RdL w (.slice A labs.length C) labs) (hR : KRw.Rd w (.slice A2 rows.length C2) rows) (hT : Tabs w) (hz : ∀ x ∈ rows, entZ (entC labs x)) (hln : rows.length ≤ 4611686018427387904) :
    Calls Tryd.prog 8 #[.agg #[.slice A labs.length C, .slice A2 rows.length C2]] w (PtOut (putM labs rows) (putN labs rows) w) := by
  unfold putM putN
  cases hf : chR labs rows with
  | false =>
    refine (Put_no labs rows A A2 C C2 w hL hR hT hz hln hf).mono ?_
    rintro e w' ⟨rfl, b⟩
    exact ⟨.slice none 0 0, rfl, (Own.nil w' 0).rd, b⟩
  | true =>
    refine (Put_yes labs rows A A2 C C2 w hL hR hT hz hln hf).mono ?_
    rintro e w' ⟨v, rfl, o, b⟩
    exact ⟨v, rfl, kb_rd o.rd, b⟩
theorem R4Put_is (labs : List Lab) (rows : List CRow) (A A2 : Option Addr) (C C2 : Nat) (w : World) (hL : RdL w (.slice A labs.length C) labs) (hR : KRr.Rd w (.slice A2 rows.length C2) rows) (hlz : labs.length * 32 ≤ 140737488351232) (hls : ∀ y ∈ labs, y.1.length ≤ 9223372036854775807 ∧ y.2.length ≤ 9223372036854775807) :
    Calls Tryd.prog 9 #[.agg #[.slice A labs.length C, .slice A2 rows.length C2]] w (PtOut (putM labs rows) (putN labs rows) w) := by
  obtain ⟨W0, hW0⟩ : ∃ W0, W0 = w.alloc (.cells #[.slice A labs.length C, .slice A2 rows.length C2] 25) := ⟨_, rfl⟩
  have b0 : Below w.heap.size w W0 := by rw [hW0]; exact (Below.refl _ w).alloc (Nat.le_refl _) _
  have x0 : W0.heap[w.heap.size]? = some (.cells #[.slice A labs.length C, .slice A2 rows.length C2] 25 (0, 0)) := by rw [hW0]; exact heap_alloc_new w _
  have cl0 : ∀ wx, Below W0.heap.size W0 wx → wx.cell? ⟨w.heap.size, 0, none⟩ = some (.slice A labs.length C) ∧ wx.cell? ⟨w.heap.size, 1, none⟩ = some (.slice A2 rows.length C2) := fun wx bx => by
    have y := (bx.block _ (row_lt x0)).trans x0
    exact ⟨held_cell y rfl, held_cell y rfl⟩
  have hr := R4Right_is labs rows A A2 C C2 W0 (hL.below b0) (hR.below b0) hlz hls
  obtain ⟨e0, e1⟩ := cl0 W0 (Below.refl _ _)
  have HB0 := hid b0
  cases hf : chR labs rows with
  | false =>
    have HP : Hid (putM labs rows = [] ∧ putN labs rows = 1) := hid (by unfold putM putN; rw [hf]; exact ⟨rfl, rfl⟩)
    rw [hf] at hr
    rw [hW0] at hr e0 e1
    clear cl0 x0 hL hR hlz hls b0 hf
    go_enter Tryd.func9, Tryd.ntmps9
    go_wp2_with (first
      | (go_at_call 13; refine hr.mono ?_; rintro e w1 ⟨rfl, b1⟩; rw [← hW0] at b1; have B1 := hid b1; clear b1 hr e0 e1))
    go_ret2
    unfold PtOut
    rw [HP.out.1, HP.out.2]
    exact ⟨.slice none 0 0, rfl, (Own.nil _ 0).rd, HB0.out.trans (B1.out.mono HB0.out.size)⟩
  | true =>
    have HP : Hid (putM labs rows = chB labs rows ∧ putN labs rows = 0) := hid (by unfold putM putN; rw [hf]; exact ⟨rfl, rfl⟩)
    have hby := fun wx (bx : Below W0.heap.size W0 wx) => R4Bytes_is labs rows A A2 C C2 wx ((hL.below b0).below bx) ((hR.below b0).below bx) hf
    unfold Bare at hby
    have HBY := hid hby
    rw [hf] at hr
    rw [hW0] at hr e0 e1
    have HCL := hid cl0
    clear cl0 x0 hL hR hlz hls b0 hf hby
    go_enter Tryd.func9, Tryd.ntmps9
    go_wp2_with (first
      | (go_at_call 13; refine hr.mono ?_; rintro e w1 ⟨rfl, b1⟩; rw [← hW0] at b1; have B1 := hid b1; have by1 := HBY.out w1 b1; obtain ⟨e0, e1⟩ := HCL.out w1 b1; clear b1 hr)
      | (go_at_call 35; refine by1.mono ?_; rintro e w2 ⟨v2, rfl, o2, b2⟩; have O2 := hid o2; have B2 := hid (B1.out.trans (b2.mono B1.out.size)); clear by1 e0 e1 o2 b2))
    go_ret2
    unfold PtOut
    rw [HP.out.1, HP.out.2]
    exact ⟨v2, rfl, O2.out.rd, HB0.out.trans (B2.out.mono HB0.out.size)⟩
end Go.Proofs.YtelabmcghahclaaDoor
end
