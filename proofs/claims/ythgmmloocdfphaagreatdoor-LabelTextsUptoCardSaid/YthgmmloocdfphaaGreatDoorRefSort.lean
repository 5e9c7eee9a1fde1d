/-
  What the reference's Sort answers. Conditions: the list can be read; lengths that Go's int holds.
-/
import Derived.Test.YthgmmloocdfphaaGreatDoorRefRight
import Derived.Test.YthgmmloocdfphaaGreatDoorInsert
import Derived.Deep.AppendLies
namespace Go.Proofs.YthgmmloocdfphaaGreatDoor
open Go.RowKit Go.Icz
/-- 'append(v, x...)' at a step of a region; no block but v's own is changed. -/
theorem RdL.far {w w' : World} {row : Option Nat} (hg : w.grownBy w' row) {b off n c : Nat} {m : List Lab} (h : RdL w (.slice (some ⟨b, off, none⟩) n c) m) (hb : some b ≠ row) : RdL w' (.slice (some ⟨b, off, none⟩) n c) m := by
  obtain ⟨A, c', hv, hc, hr⟩ := h
  refine ⟨A, c', hv, hc, fun h0 => ?_⟩
  obtain ⟨b', off', hA, hlt, hcell⟩ := hr h0
  subst hA
  injection hv with e1 e2 e3
  injection e1 with e1
  injection e1 with e1 e4
  subst e1
  exact ⟨b, off', rfl, Nat.lt_of_lt_of_le hlt hg.size, fun j hj => ⟨(hg.cell_far ⟨b, off' + j * 2, none⟩ hlt hb).trans (hcell j hj).1, (hg.cell_far ⟨b, off' + j * 2 + 1, none⟩ hlt hb).trans (hcell j hj).2⟩⟩
theorem rd_slice_drop {w : World} {A : Option Addr} {l : List Lab} {c k : Nat} (h : RdL w (.slice A l.length c) l) (hk : k ≤ l.length) : RdL w (sliced A k l.length c 2) (l.drop k) := by
  obtain ⟨A', c', hv, hc, hr⟩ := h
  injection hv with e1 e2 e3
  subst e1 e3
  unfold sliced
  refine ⟨_, c - k, by rw [List.length_drop], by rw [List.length_drop]; omega, fun h0 => ?_⟩
  rw [List.length_drop] at h0
  obtain ⟨b, off, rfl, hlt, hcell⟩ := hr (by omega)
  refine ⟨b, off + k * 2, by rw [if_neg (by omega)]; simp [add_flat], hlt, fun j hj => ?_⟩
  rw [List.length_drop] at hj
  have h := hcell (k + j) (by omega)
  rw [Nat.add_mul, ← Nat.add_assoc] at h
  rw [List.getElem_drop]
  exact h
theorem rd_slice_take {w : World} {A : Option Addr} {l : List Lab} {c k : Nat} (h : RdL w (.slice A l.length c) l) (hk : k ≤ l.length) : RdL w (sliced A 0 k c 2) (l.take k) := by
  obtain ⟨A', c', hv, hc, hr⟩ := h
  injection hv with e1 e2 e3
  subst e1 e3
  unfold sliced
  have hl : (l.take k).length = k := by rw [List.length_take]; omega
  refine ⟨_, c - 0, by rw [hl]; rfl, by rw [hl]; omega, fun h0 => ?_⟩
  obtain ⟨b, off, rfl, hlt, hcell⟩ := hr (by omega)
  refine ⟨b, off, by split <;> simp [add_flat], hlt, fun j hj => ?_⟩
  have h := hcell j (by omega)
  rw [List.getElem_take]
  exact h
set_option maxRecDepth 100000 in
/-- 'append(v, x...)' at a step of a region that draws its order. -/
theorem step_appG {ops : Array Oper} {o : Oper} {a : Act} {K : Act → World → Prop} {Q : Exit → Act → World → Prop} {E : Prop} {w : World} (hgd : o.guard = none) (s x : Operand)
    (ho : o.op = .call { callee := .builtin .append, args := #[s, x], argTypes := #[22, 22] })
    (B : Nat) (v u : Value) (l m : List Lab) (hs : a.eval s = v) (hown : OwnL w B v l) (hx : a.eval x = u) (hr : RdL w u m)
    (hlen : (l.length + m.length) * 32 ≤ 140737488355328) (hB : B ≤ w.heap.size)
    (h : ∀ v' w', OwnL w' B v' (l ++ m) → Below B w w' → w.grownBy w' v.ownBlock → K (a.put o.dst v') w') :
    if Region.wanted o (yielded ops a.tmps) = true then Oper.wp Tryz.prog o a w K Q else E := by
  have hw : Region.wanted o (yielded ops a.tmps) = true := by simp [Region.wanted, hgd]
  rw [if_pos hw]
  obtain ⟨i0, hi, hz0, hz1, hz2⟩ := info_parts infoLab
  obtain ⟨A, c, rfl, hc, hcell⟩ := hr
  rcases A with _ | ad
  · have hm : m = [] := by
      rcases Nat.eq_zero_or_pos m.length with h0 | h0
      · exact List.eq_nil_of_length_eq_zero h0
      · obtain ⟨b, off, e, _⟩ := hcell h0
        cases e
    subst hm
    unfold Oper.wp execOp
    have hrun : (Builtin.append_ #[22, 22] o.type #[v, .slice none 0 c]).run Tryz.prog w = .ok v w := by
      rcases hown.2 with ⟨rfl, _⟩ | ⟨g, cap, cur, rfl, _, _, hnc, _⟩
      · simp [Builtin.append_, run_underlying Tryz.underlying22, Go.sizeOf, typeInfo, hi, Builtin.lenOf, Builtin.firstCells]
      · simp [Builtin.append_, run_underlying Tryz.underlying22, Go.sizeOf, typeInfo, hi, Builtin.lenOf, Builtin.firstCells, hnc, storeCells]
    simp only [ho, resolve, invoke, builtin, Sem.run_bind, Sem.run_pure, Result.andThen_ok, List.map_toArray, List.map_cons, List.map_nil, hs, hx, List.length_nil, hrun]
    exact h v w (by simpa using hown) (Below.refl _ _) (World.grownBy.refl _ _)
  · refine wp_append_own _ s x 22 ho B 53 i0 (.agg #[.string ⟨#[]⟩, .string ⟨#[]⟩]) 2 32 Tryz.underlying22 hi hz0 hz1 hz2 rfl (by decide) v l.length (cellsL l) hs hown ad m.length c (cellsL m) hx (cellsL_len m) ?_ (cellsL_one m) ?_ hlen hB ?_
    · intro j u hu
      have hj : j < m.length * 2 := by rw [← cellsL_len]; exact (List.getElem?_eq_some_iff.1 hu).1
      obtain ⟨b, off, e, _, hcc⟩ := hcell (by omega)
      injection e with e
      subst e
      have hh := hcc (j / 2) (by omega)
      have hg := cellsL_get m (j / 2) (by omega)
      rw [add_flat]
      rcases Nat.mod_two_eq_zero_or_one j with e2 | e2
      · rw [show j = j / 2 * 2 by omega] at hu ⊢
        rw [hg.1] at hu
        rw [← hu]
        exact hh.1
      · rw [show j = j / 2 * 2 + 1 by omega] at hu ⊢
        rw [hg.2] at hu
        rw [← hu, ← Nat.add_assoc]
        exact hh.2
    · unfold maxLen; omega
    · intro v' w' h1 h2 _
      exact h v' w' (by unfold OwnL; rw [cellsL_app, List.length_append]; exact h1) ((Below.refl B w).grown h2 hB (fun k hk => (World.ownsRow.lt hown k hk).1)) h2
set_option maxHeartbeats 4000000 in
set_option maxRecDepth 100000 in
theorem RefSort_is (v : Value) (l : List Lab) (w : World) (hR : RdL w v l) (hsz : ∀ x ∈ l, x.1.length ≤ 9223372036854775807 ∧ x.2.length ≤ 9223372036854775807) :
    Calls Tryz.prog 40 #[v] w (SortOut l w) := by
  obtain ⟨A, c, rfl, hlc, hcell⟩ := hR
  by_cases h16 : 16 < l.length
  · have h16' : (16 : Int) < l.length := by omega
    go_enter Tryz.func40, Tryz.ntmps40
    go_wp2
    go_ret2
    exact ⟨.inl ⟨h16, rfl⟩, Below.refl _ _⟩
  · have h16' : ¬ (16 : Int) < l.length := by omega
    go_enter Tryz.func40, Tryz.ntmps40
    go_wp2
    go_loopw [4, 5] (fun ov iv wr => ∃ (i : Nat) (o : List Lab), iv = .int .i64 i ∧ i ≤ l.length ∧ OwnL wr w.heap.size ov o ∧ o.length = i ∧ Below w.heap.size w wr ∧ Hid (o = insAll (l.take i))) (fun _ iv _ => l.length - (intOf iv).toNat)
    case atStart => exact ⟨0, [], rfl, by omega, OwnL.nil _ _, rfl, Below.refl _ _, hid rfl⟩
    case round =>
      obtain ⟨i, o, rfl, hi, ho, hol, hbw, HO⟩ := hrel
      by_cases hlt : i < l.length
      · obtain ⟨b, off, rfl, hb, hcell⟩ := hcell (by omega)
        have hc0 := (hbw.cell (p := ⟨b, off + i * 2, none⟩) hb).trans (hcell i hlt).1
        have hc1 := (hbw.cell (p := ⟨b, off + i * 2 + 1, none⟩) hb).trans (hcell i hlt).2
        have htk : Hid (insAll (l.take (i + 1)) = insL o l[i]) := hid (by unfold insAll; rw [List.take_succ_eq_append_getElem hlt, List.foldl_append, HO.out]; rfl)
        have hbz := Nat.lt_of_lt_of_le hb hbw.size
        clear hcell HO
        generalize l[i] = x at *
        have hrd := ho.rd
        have ho2 := ho.rd
        obtain ⟨AO, co, rfl, hoc, hocell⟩ := hrd
        subst hol
        generalize wr = wo at *
        go_wp2
        go_loopw [6] (fun kv ws => ∃ k : Nat, kv = .int .i64 k ∧ k ≤ o.length ∧ Below wo.heap.size wo ws ∧ Hid (downK o x o.length = downK o x k)) (fun kv _ => (intOf kv).toNat)
        case atStart => exact ⟨o.length, rfl, by omega, Below.refl _ _, hid rfl⟩
        case round =>
          obtain ⟨k, rfl, hk, hbs, HK⟩ := hrel
          by_cases hk0 : k = 0
          · subst hk0
            have HZ : Hid (downK o x o.length = 0) := hid (by rw [HK.out]; rfl)
            clear HK
            go_wp2
            refine wp_region_held_drew (S := fun _ => True ∧ True) (by kernel_rfl) ⟨trivial, trivial⟩ (fun hHeld => ?_)
            refine takeAt (i := 0) (d := 18) (v := .int .i64 0) rfl rfl (by kernel_rfl) (by kernel_rfl) (by kernel_rfl) (fun _ _ _ h => h) (Or.inl ⟨by rfl, fun w hSw => by obtain ⟨hS1, hS2⟩ := hSw; go_simp⟩) hHeld ?_
            simp only [List.setIfInBounds_toArray, List.set_cons_zero, List.set_cons_succ]
            refine takeAt (i := 1) (d := 19) (v := .bool false) rfl rfl (by kernel_rfl) (by kernel_rfl) (by kernel_rfl) (fun _ _ _ h => h) (Or.inl ⟨by rfl, fun w hSw => by obtain ⟨hS1, hS2⟩ := hSw; go_simp⟩) hHeld ?_
            simp only [List.setIfInBounds_toArray, List.set_cons_zero, List.set_cons_succ]
            refine takeAt (i := 2) (d := 20) (v := .bool false) rfl rfl (by kernel_rfl) (by kernel_rfl) (by kernel_rfl) (fun _ _ _ h => h) (Or.inl ⟨by rfl, fun w hSw => by obtain ⟨hS1, hS2⟩ := hSw; go_simp⟩) hHeld ?_
            simp only [List.setIfInBounds_toArray, List.set_cons_zero, List.set_cons_succ]
            refine takeAt (i := 3) (d := 21) (v := undef) rfl rfl (by kernel_rfl) (by kernel_rfl) (by kernel_rfl) (fun _ _ _ h => h) (Or.inr ⟨by rfl, rfl⟩) hHeld ?_
            simp only [List.setIfInBounds_toArray, List.set_cons_zero, List.set_cons_succ]
            refine takeAt (i := 4) (d := 22) (v := undef) rfl rfl (by kernel_rfl) (by kernel_rfl) (by kernel_rfl) (fun _ _ _ h => h) (Or.inr ⟨by rfl, rfl⟩) hHeld ?_
            simp only [List.setIfInBounds_toArray, List.set_cons_zero, List.set_cons_succ]
            refine takeAt (i := 5) (d := 23) (v := undef) rfl rfl (by kernel_rfl) (by kernel_rfl) (by kernel_rfl) (fun _ _ _ h => h) (Or.inr ⟨by rfl, rfl⟩) hHeld ?_
            simp only [List.setIfInBounds_toArray, List.set_cons_zero, List.set_cons_succ]
            refine takeAt (i := 6) (d := 24) (v := undef) rfl rfl (by kernel_rfl) (by kernel_rfl) (by kernel_rfl) (fun _ _ _ h => h) (Or.inr ⟨by rfl, rfl⟩) hHeld ?_
            simp only [List.setIfInBounds_toArray, List.set_cons_zero, List.set_cons_succ]
            refine takeAt (i := 7) (d := 25) (v := undef) rfl rfl (by kernel_rfl) (by kernel_rfl) (by kernel_rfl) (fun _ _ _ h => h) (Or.inr ⟨by rfl, rfl⟩) hHeld ?_
            simp only [List.setIfInBounds_toArray, List.set_cons_zero, List.set_cons_succ]
            refine takeAt (i := 8) (d := 26) (v := undef) rfl rfl (by kernel_rfl) (by kernel_rfl) (by kernel_rfl) (fun _ _ _ h => h) (Or.inr ⟨by rfl, rfl⟩) hHeld ?_
            simp only [List.setIfInBounds_toArray, List.set_cons_zero, List.set_cons_succ]
            refine takeAt (i := 9) (d := 27) (v := undef) rfl rfl (by kernel_rfl) (by kernel_rfl) (by kernel_rfl) (fun _ _ _ h => h) (Or.inr ⟨by rfl, rfl⟩) hHeld ?_
            simp only [List.setIfInBounds_toArray, List.set_cons_zero, List.set_cons_succ]
            refine takeAt (i := 10) (d := 28) (v := undef) rfl rfl (by kernel_rfl) (by kernel_rfl) (by kernel_rfl) (fun _ _ _ h => h) (Or.inr ⟨by rfl, rfl⟩) hHeld ?_
            simp only [List.setIfInBounds_toArray, List.set_cons_zero, List.set_cons_succ]
            refine takeAt (i := 11) (d := 29) (v := undef) rfl rfl (by kernel_rfl) (by kernel_rfl) (by kernel_rfl) (fun _ _ _ h => h) (Or.inr ⟨by rfl, rfl⟩) hHeld ?_
            simp only [List.setIfInBounds_toArray, List.set_cons_zero, List.set_cons_succ]
            refine takeAt (i := 12) (d := 30) (v := undef) rfl rfl (by kernel_rfl) (by kernel_rfl) (by kernel_rfl) (fun _ _ _ h => h) (Or.inr ⟨by rfl, rfl⟩) hHeld ?_
            simp only [List.setIfInBounds_toArray, List.set_cons_zero, List.set_cons_succ]
            refine takeAt (i := 13) (d := 31) (v := undef) rfl rfl (by kernel_rfl) (by kernel_rfl) (by kernel_rfl) (fun _ _ _ h => h) (Or.inr ⟨by rfl, rfl⟩) hHeld ?_
            simp only [List.setIfInBounds_toArray, List.set_cons_zero, List.set_cons_succ]
            refine takeAt (i := 14) (d := 32) (v := undef) rfl rfl (by kernel_rfl) (by kernel_rfl) (by kernel_rfl) (fun _ _ _ h => h) (Or.inr ⟨by rfl, rfl⟩) hHeld ?_
            simp only [List.setIfInBounds_toArray, List.set_cons_zero, List.set_cons_succ]
            refine takeAt (i := 15) (d := 33) (v := .bool false) rfl rfl (by kernel_rfl) (by kernel_rfl) (by kernel_rfl) (fun _ _ _ h => h) (Or.inl ⟨by rfl, fun w hSw => by obtain ⟨hS1, hS2⟩ := hSw; go_simp⟩) hHeld ?_
            simp only [List.setIfInBounds_toArray, List.set_cons_zero, List.set_cons_succ]
            refine wpAnyH_done (by kernel_rfl) ?_ _
            go_wp2
            have hs1 : ∀ wx, (Instr.slice 22 (.slice AO o.length co) none (some (.int .i64 (0 : Int))) none).run Tryz.prog wx = .ok (sliced AO 0 0 co 2) wx := fun wx => by
              have := run_slice_h (P := Tryz.prog) (w := wx) 22 AO o.length co Tryz.underlying22 .i64 (0 : Int) (by omega) (by omega)
              rw [this]
              have hz : (sizeOf (Tryz.prog.elem 22)).run Tryz.prog wx = .ok 2 wx := by go_simp
              rw [hz]
              simp [Result.andThen]
            have hs2 : ∀ wx, (Instr.slice 22 (.slice AO o.length co) (some (.int .i64 (0 : Int))) none none).run Tryz.prog wx = .ok (sliced AO 0 o.length co 2) wx := fun wx => by
              have := run_slice_l (P := Tryz.prog) (w := wx) 22 AO o.length co Tryz.underlying22 .i64 (0 : Int) (by omega) (by omega)
              rw [this]
              have hz : (sizeOf (Tryz.prog.elem 22)).run Tryz.prog wx = .ok 2 wx := by go_simp
              rw [hz]
              simp [Result.andThen]
            have r1 := rd_slice_take (k := 0) (ho2.below hbs) (by omega)
            have r2 := rd_slice_drop (k := 0) (ho2.below hbs) (by omega)
            generalize sliced AO 0 0 co 2 = v1 at *
            generalize sliced AO 0 o.length co 2 = v2 at *
            have hx0 := (hbs.cell (p := ⟨b, off + o.length * 2, none⟩) hbz).trans hc0
            have hx1 := (hbs.cell (p := ⟨b, off + o.length * 2 + 1, none⟩) hbz).trans hc1
            have hbs3 := Nat.lt_of_lt_of_le hbz hbs.size
            have hbs0 := Nat.le_trans hbw.size hbs.size
            have KEY : Hid (insL o x = o.take 0 ++ x :: o.drop 0) := hid (by unfold insL; rw [HZ.out])
            refine wp_region_held_drew (S := fun w' => Below wr.heap.size wr w') (by kernel_rfl) (Below.refl _ _).drew.drew (fun hHeld => ?_)
            refine takeAt (i := 1) (d := 37) (v := .slice AO o.length co) rfl rfl (by kernel_rfl) (by kernel_rfl) (by kernel_rfl) (fun _ _ _ h => h) (Or.inl ⟨by rfl, fun w hSw => by go_simp⟩) hHeld ?_
            simp only [List.setIfInBounds_toArray, List.set_cons_zero, List.set_cons_succ]
            refine takeAt (i := 2) (d := 38) (v := .int .i64 0) rfl rfl (by kernel_rfl) (by kernel_rfl) (by kernel_rfl) (fun _ _ _ h => h) (Or.inl ⟨by rfl, fun w hSw => by go_simp⟩) hHeld ?_
            simp only [List.setIfInBounds_toArray, List.set_cons_zero, List.set_cons_succ]
            refine takeAt (i := 3) (d := 39) (v := v1) rfl rfl (by kernel_rfl) (by kernel_rfl) (by kernel_rfl) (fun _ _ _ h => h) (Or.inl ⟨by rfl, fun w hSw => by go_simp⟩) hHeld ?_
            simp only [List.setIfInBounds_toArray, List.set_cons_zero, List.set_cons_succ]
            refine takeAt (i := 5) (d := 41) (v := .slice (some ⟨b, off, none⟩) l.length c) rfl rfl (by kernel_rfl) (by kernel_rfl) (by kernel_rfl) (fun _ _ _ h => h) (Or.inl ⟨by rfl, fun w hSw => by go_simp⟩) hHeld ?_
            simp only [List.setIfInBounds_toArray, List.set_cons_zero, List.set_cons_succ]
            refine takeAt (i := 6) (d := 42) (v := .int .i64 o.length) rfl rfl (by kernel_rfl) (by kernel_rfl) (by kernel_rfl) (fun _ _ _ h => h) (Or.inl ⟨by rfl, fun w hSw => by go_simp⟩) hHeld ?_
            simp only [List.setIfInBounds_toArray, List.set_cons_zero, List.set_cons_succ]
            refine takeAt (i := 7) (d := 43) (v := .pointer (some ⟨b, off + o.length * 2, none⟩)) rfl rfl (by kernel_rfl) (by kernel_rfl) (by kernel_rfl) (fun _ _ _ h => h) (Or.inl ⟨by rfl, fun w hSw => by go_simp⟩) hHeld ?_
            simp only [List.setIfInBounds_toArray, List.set_cons_zero, List.set_cons_succ]
            refine takeAt (i := 8) (d := 44) (v := .agg #[.string ⟨x.1.toArray⟩, .string ⟨x.2.toArray⟩]) rfl rfl (by kernel_rfl) (by kernel_rfl) (by kernel_rfl) (fun _ _ _ h => h) (Or.inl ⟨by rfl, fun w hSw => by have g0 := (hSw.cell (p := ⟨b, off + o.length * 2, none⟩) hbs3).trans hx0; have g1 := (hSw.cell (p := ⟨b, off + o.length * 2 + 1, none⟩) hbs3).trans hx1; go_simp⟩) hHeld ?_
            simp only [List.setIfInBounds_toArray, List.set_cons_zero, List.set_cons_succ]
            refine takeAt (i := 11) (d := 47) (v := .slice AO o.length co) rfl rfl (by kernel_rfl) (by kernel_rfl) (by kernel_rfl) (fun _ _ _ h => h) (Or.inl ⟨by rfl, fun w hSw => by go_simp⟩) hHeld ?_
            simp only [List.setIfInBounds_toArray, List.set_cons_zero, List.set_cons_succ]
            refine takeAt (i := 12) (d := 48) (v := .int .i64 0) rfl rfl (by kernel_rfl) (by kernel_rfl) (by kernel_rfl) (fun _ _ _ h => h) (Or.inl ⟨by rfl, fun w hSw => by go_simp⟩) hHeld ?_
            simp only [List.setIfInBounds_toArray, List.set_cons_zero, List.set_cons_succ]
            refine takeAt (i := 13) (d := 49) (v := v2) rfl rfl (by kernel_rfl) (by kernel_rfl) (by kernel_rfl) (fun _ _ _ h => h) (Or.inl ⟨by rfl, fun w hSw => by go_simp⟩) hHeld ?_
            simp only [List.setIfInBounds_toArray, List.set_cons_zero, List.set_cons_succ]
            refine wpAnyH_ready (rs := [0, 9]) (by kernel_rfl) (by simp) ?_
            refine (AllReadyH.cons (o := { dst := some 36, op := Go.Op.buildSlice 22 0 #[], type := 22, pos := "ref.go:112", after := #[], guard := none }) rfl (fun K hK => ?_) (AllReadyH.cons (o := { dst := some 45, op := Go.Op.buildSlice 22 1 #[(0, Go.Operand.tmp 44)], type := 22, pos := "ref.go:112", after := #[{ on := 8, ground := Go.Ground.data }], guard := none }) rfl (fun K hK => ?_) AllReadyH.nil))
            · rw [if_pos (by rfl)]
              go_simp
              refine hK.out _ _ (hHeld.alloc (hHeld.size) _) (fun hHeld1 => ?_)
              clear hK K
              refine wpAnyH_ready (rs := [4, 9]) (by kernel_rfl) (by simp) ?_
              refine (AllReadyH.cons (o := { dst := some 40, op := Go.Op.call { callee := Go.Callee.builtin Go.Builtin.append, args := #[Go.Operand.tmp 36, Go.Operand.tmp 39], argTypes := #[22, 22] }, type := 22, pos := "ref.go:112", after := #[{ on := 0, ground := Go.Ground.data }, { on := 3, ground := Go.Ground.data }], guard := none }) rfl (fun K hK => ?_) (AllReadyH.cons (o := { dst := some 45, op := Go.Op.buildSlice 22 1 #[(0, Go.Operand.tmp 44)], type := 22, pos := "ref.go:112", after := #[{ on := 8, ground := Go.Ground.data }], guard := none }) rfl (fun K hK => ?_) AllReadyH.nil))
              · refine step_appG rfl (.tmp 36) (.tmp 39) rfl wr.heap.size _ _ [] (o.take 0) (by simp [Act.eval]) ((OwnL.made wr.drew.drew (Nat.le_refl _))) (by simp [Act.eval]) (r1.below hHeld1) (by first | (simp; done) | (simp; omega)) hHeld1.size ?_
                intro v3 w3 o3 b3 g3
                refine hK.out _ _ (hHeld1.trans b3) (fun hHeld2 => ?_)
                clear hK K
                simp only [Act.put, List.setIfInBounds_toArray, List.set_cons_zero, List.set_cons_succ]
                refine wpAnyH_ready (rs := [9]) (by kernel_rfl) (by simp) ?_
                refine (AllReadyH.cons (o := { dst := some 45, op := Go.Op.buildSlice 22 1 #[(0, Go.Operand.tmp 44)], type := 22, pos := "ref.go:112", after := #[{ on := 8, ground := Go.Ground.data }], guard := none }) rfl (fun K hK => ?_) AllReadyH.nil)
                rw [if_pos (by rfl)]
                go_simp
                refine hK.out _ _ (hHeld2.alloc (hHeld2.size) _) (fun hHeld3 => ?_)
                clear hK K
                refine wpAnyH_ready (rs := [10]) (by kernel_rfl) (by simp) ?_
                refine (AllReadyH.cons (o := { dst := some 46, op := Go.Op.call { callee := Go.Callee.builtin Go.Builtin.append, args := #[Go.Operand.tmp 40, Go.Operand.tmp 45], argTypes := #[22, 22] }, type := 22, pos := "ref.go:112", after := #[{ on := 4, ground := Go.Ground.data }, { on := 9, ground := Go.Ground.data }, { on := 4, ground := Go.Ground.chain }], guard := none }) rfl (fun K hK => ?_) AllReadyH.nil)
                refine step_appG rfl (.tmp 40) (.tmp 45) rfl wr.heap.size _ _ _ [x] (by simp [Act.eval]) (o3.alloc _) (by simp [Act.eval]) ((OwnL_one w3 x (Nat.le_refl _)).rd) (by first | (simp; done) | (simp; omega)) hHeld3.size ?_
                intro v4 w4 o4 b4 g4
                refine hK.out _ _ (hHeld3.trans b4) (fun hHeldX => ?_)
                clear hK K
                simp only [Act.put, List.setIfInBounds_toArray, List.set_cons_zero, List.set_cons_succ]
                refine wpAnyH_ready (rs := [14]) (by kernel_rfl) (by simp) ?_
                refine (AllReadyH.cons (o := { dst := some 50, op := Go.Op.call { callee := Go.Callee.builtin Go.Builtin.append, args := #[Go.Operand.tmp 46, Go.Operand.tmp 49], argTypes := #[22, 22] }, type := 22, pos := "ref.go:112", after := #[{ on := 10, ground := Go.Ground.data }, { on := 13, ground := Go.Ground.data }, { on := 10, ground := Go.Ground.chain }], guard := none }) rfl (fun K hK => ?_) AllReadyH.nil)
                refine step_appG rfl (.tmp 46) (.tmp 49) rfl wr.heap.size _ _ _ (o.drop 0) (by simp [Act.eval]) o4 (by simp [Act.eval]) (r2.below hHeldX) (by first | (simp; done) | (simp; omega)) hHeldX.size ?_
                intro v5 w5 o5 b5 g5
                refine hK.out _ _ (hHeldX.trans b5) (fun hHeldY => ?_)
                clear hK K
                simp only [Act.put, List.setIfInBounds_toArray, List.set_cons_zero, List.set_cons_succ]
                refine takeAt (i := 15) (d := 4) (v := v5) rfl rfl (by kernel_rfl) (by kernel_rfl) (by kernel_rfl) (fun _ _ _ h => h) (Or.inl ⟨by rfl, fun w hSw => by go_simp⟩) hHeldY ?_
                simp only [List.setIfInBounds_toArray, List.set_cons_zero, List.set_cons_succ]
                refine wpAnyH_done (by kernel_rfl) ?_ _
                go_wp2
                go_roundw
                case rel => exact ⟨o.length + 1, insL o x, by go_num, by omega, by rw [KEY.out]; simpa using o5.mono hbs0, by rw [KEY.out]; first | (simp; done) | (simp; omega), hbw.trans ((hbs.trans (hHeldY.mono hbs.size)).mono hbw.size), hid htk.out.symm⟩
                case measure => first | (simp [intOf]; done) | (simp [intOf]; omega)
              · rw [if_pos (by rfl)]
                go_simp
                refine hK.out _ _ (hHeld1.alloc (hHeld1.size) _) (fun hHeld2 => ?_)
                clear hK K
                refine wpAnyH_ready (rs := [4]) (by kernel_rfl) (by simp) ?_
                refine (AllReadyH.cons (o := { dst := some 40, op := Go.Op.call { callee := Go.Callee.builtin Go.Builtin.append, args := #[Go.Operand.tmp 36, Go.Operand.tmp 39], argTypes := #[22, 22] }, type := 22, pos := "ref.go:112", after := #[{ on := 0, ground := Go.Ground.data }, { on := 3, ground := Go.Ground.data }], guard := none }) rfl (fun K hK => ?_) AllReadyH.nil)
                refine step_appG rfl (.tmp 36) (.tmp 39) rfl wr.heap.size _ _ [] (o.take 0) (by simp [Act.eval]) ((OwnL.made wr.drew.drew (Nat.le_refl _)).alloc _) (by simp [Act.eval]) (r1.below hHeld2) (by first | (simp; done) | (simp; omega)) hHeld2.size ?_
                intro v3 w3 o3 b3 g3
                refine hK.out _ _ (hHeld2.trans b3) (fun hHeld3 => ?_)
                clear hK K
                simp only [Act.put, List.setIfInBounds_toArray, List.set_cons_zero, List.set_cons_succ]
                refine wpAnyH_ready (rs := [10]) (by kernel_rfl) (by simp) ?_
                refine (AllReadyH.cons (o := { dst := some 46, op := Go.Op.call { callee := Go.Callee.builtin Go.Builtin.append, args := #[Go.Operand.tmp 40, Go.Operand.tmp 45], argTypes := #[22, 22] }, type := 22, pos := "ref.go:112", after := #[{ on := 4, ground := Go.Ground.data }, { on := 9, ground := Go.Ground.data }, { on := 4, ground := Go.Ground.chain }], guard := none }) rfl (fun K hK => ?_) AllReadyH.nil)
                refine step_appG rfl (.tmp 40) (.tmp 45) rfl wr.heap.size _ _ _ [x] (by simp [Act.eval]) o3 (by simp [Act.eval]) (RdL.far g3 ((OwnL_one (wr.drew.drew.alloc (.cells #[] 53)) x (Nat.le_refl _)).rd) (by simp [Value.ownBlock])) (by first | (simp; done) | (simp; omega)) hHeld3.size ?_
                intro v4 w4 o4 b4 g4
                refine hK.out _ _ (hHeld3.trans b4) (fun hHeldX => ?_)
                clear hK K
                simp only [Act.put, List.setIfInBounds_toArray, List.set_cons_zero, List.set_cons_succ]
                refine wpAnyH_ready (rs := [14]) (by kernel_rfl) (by simp) ?_
                refine (AllReadyH.cons (o := { dst := some 50, op := Go.Op.call { callee := Go.Callee.builtin Go.Builtin.append, args := #[Go.Operand.tmp 46, Go.Operand.tmp 49], argTypes := #[22, 22] }, type := 22, pos := "ref.go:112", after := #[{ on := 10, ground := Go.Ground.data }, { on := 13, ground := Go.Ground.data }, { on := 10, ground := Go.Ground.chain }], guard := none }) rfl (fun K hK => ?_) AllReadyH.nil)
                refine step_appG rfl (.tmp 46) (.tmp 49) rfl wr.heap.size _ _ _ (o.drop 0) (by simp [Act.eval]) o4 (by simp [Act.eval]) (r2.below hHeldX) (by first | (simp; done) | (simp; omega)) hHeldX.size ?_
                intro v5 w5 o5 b5 g5
                refine hK.out _ _ (hHeldX.trans b5) (fun hHeldY => ?_)
                clear hK K
                simp only [Act.put, List.setIfInBounds_toArray, List.set_cons_zero, List.set_cons_succ]
                refine takeAt (i := 15) (d := 4) (v := v5) rfl rfl (by kernel_rfl) (by kernel_rfl) (by kernel_rfl) (fun _ _ _ h => h) (Or.inl ⟨by rfl, fun w hSw => by go_simp⟩) hHeldY ?_
                simp only [List.setIfInBounds_toArray, List.set_cons_zero, List.set_cons_succ]
                refine wpAnyH_done (by kernel_rfl) ?_ _
                go_wp2
                go_roundw
                case rel => exact ⟨o.length + 1, insL o x, by go_num, by omega, by rw [KEY.out]; simpa using o5.mono hbs0, by rw [KEY.out]; first | (simp; done) | (simp; omega), hbw.trans ((hbs.trans (hHeldY.mono hbs.size)).mono hbw.size), hid htk.out.symm⟩
                case measure => first | (simp [intOf]; done) | (simp [intOf]; omega)
            · rw [if_pos (by rfl)]
              go_simp
              refine hK.out _ _ (hHeld.alloc (hHeld.size) _) (fun hHeld1 => ?_)
              clear hK K
              refine wpAnyH_ready (rs := [0]) (by kernel_rfl) (by simp) ?_
              refine (AllReadyH.cons (o := { dst := some 36, op := Go.Op.buildSlice 22 0 #[], type := 22, pos := "ref.go:112", after := #[], guard := none }) rfl (fun K hK => ?_) AllReadyH.nil)
              rw [if_pos (by rfl)]
              go_simp
              refine hK.out _ _ (hHeld1.alloc (hHeld1.size) _) (fun hHeld2 => ?_)
              clear hK K
              refine wpAnyH_ready (rs := [4]) (by kernel_rfl) (by simp) ?_
              refine (AllReadyH.cons (o := { dst := some 40, op := Go.Op.call { callee := Go.Callee.builtin Go.Builtin.append, args := #[Go.Operand.tmp 36, Go.Operand.tmp 39], argTypes := #[22, 22] }, type := 22, pos := "ref.go:112", after := #[{ on := 0, ground := Go.Ground.data }, { on := 3, ground := Go.Ground.data }], guard := none }) rfl (fun K hK => ?_) AllReadyH.nil)
              refine step_appG rfl (.tmp 36) (.tmp 39) rfl wr.heap.size _ _ [] (o.take 0) (by simp [Act.eval]) (OwnL.made _ hHeld1.size) (by simp [Act.eval]) (r1.below hHeld2) (by first | (simp; done) | (simp; omega)) hHeld2.size ?_
              intro v3 w3 o3 b3 g3
              refine hK.out _ _ (hHeld2.trans b3) (fun hHeld3 => ?_)
              clear hK K
              simp only [Act.put, List.setIfInBounds_toArray, List.set_cons_zero, List.set_cons_succ]
              refine wpAnyH_ready (rs := [10]) (by kernel_rfl) (by simp) ?_
              refine (AllReadyH.cons (o := { dst := some 46, op := Go.Op.call { callee := Go.Callee.builtin Go.Builtin.append, args := #[Go.Operand.tmp 40, Go.Operand.tmp 45], argTypes := #[22, 22] }, type := 22, pos := "ref.go:112", after := #[{ on := 4, ground := Go.Ground.data }, { on := 9, ground := Go.Ground.data }, { on := 4, ground := Go.Ground.chain }], guard := none }) rfl (fun K hK => ?_) AllReadyH.nil)
              refine step_appG rfl (.tmp 40) (.tmp 45) rfl wr.heap.size _ _ _ [x] (by simp [Act.eval]) o3 (by simp [Act.eval]) (RdL.far g3 (((OwnL_one wr.drew.drew x (Nat.le_refl _)).rd).alloc _) (by simp [Value.ownBlock])) (by first | (simp; done) | (simp; omega)) hHeld3.size ?_
              intro v4 w4 o4 b4 g4
              refine hK.out _ _ (hHeld3.trans b4) (fun hHeldX => ?_)
              clear hK K
              simp only [Act.put, List.setIfInBounds_toArray, List.set_cons_zero, List.set_cons_succ]
              refine wpAnyH_ready (rs := [14]) (by kernel_rfl) (by simp) ?_
              refine (AllReadyH.cons (o := { dst := some 50, op := Go.Op.call { callee := Go.Callee.builtin Go.Builtin.append, args := #[Go.Operand.tmp 46, Go.Operand.tmp 49], argTypes := #[22, 22] }, type := 22, pos := "ref.go:112", after := #[{ on := 10, ground := Go.Ground.data }, { on := 13, ground := Go.Ground.data }, { on := 10, ground := Go.Ground.chain }], guard := none }) rfl (fun K hK => ?_) AllReadyH.nil)
              refine step_appG rfl (.tmp 46) (.tmp 49) rfl wr.heap.size _ _ _ (o.drop 0) (by simp [Act.eval]) o4 (by simp [Act.eval]) (r2.below hHeldX) (by first | (simp; done) | (simp; omega)) hHeldX.size ?_
              intro v5 w5 o5 b5 g5
              refine hK.out _ _ (hHeldX.trans b5) (fun hHeldY => ?_)
              clear hK K
              simp only [Act.put, List.setIfInBounds_toArray, List.set_cons_zero, List.set_cons_succ]
              refine takeAt (i := 15) (d := 4) (v := v5) rfl rfl (by kernel_rfl) (by kernel_rfl) (by kernel_rfl) (fun _ _ _ h => h) (Or.inl ⟨by rfl, fun w hSw => by go_simp⟩) hHeldY ?_
              simp only [List.setIfInBounds_toArray, List.set_cons_zero, List.set_cons_succ]
              refine wpAnyH_done (by kernel_rfl) ?_ _
              go_wp2
              go_roundw
              case rel => exact ⟨o.length + 1, insL o x, by go_num, by omega, by rw [KEY.out]; simpa using o5.mono hbs0, by rw [KEY.out]; first | (simp; done) | (simp; omega), hbw.trans ((hbs.trans (hHeldY.mono hbs.size)).mono hbw.size), hid htk.out.symm⟩
              case measure => first | (simp [intOf]; done) | (simp [intOf]; omega)
          · obtain ⟨j, rfl⟩ : ∃ j, k = j + 1 := ⟨k - 1, by omega⟩
            obtain ⟨g, og, rfl, hg, hgc⟩ := hocell (by omega)
            have hy0 := (hbs.cell (p := ⟨g, og + j * 2, none⟩) hg).trans (hgc j (by omega)).1
            have hx0 := (hbs.cell (p := ⟨b, off + o.length * 2, none⟩) hbz).trans hc0
            have HS : Hid (downK o x (j + 1) = if Op.bytesLess x.1 (o.getD j ([], [])).1 = true then downK o x j else j + 1) := hid rfl
            have hgd : o.getD j ([], []) = o[j]'(by omega) := by simp [List.getD, List.getElem?_eq_getElem (show j < o.length by omega)]
            rw [hgd] at HS
            have e1 : ¬ ((j : Int) + 1 < 0) := by omega
            have e2 : IntKind.i64.wrap (j : Int) = j := by rw [IntKind.wrap_i64]; omega
            have e3 : ¬ o.length ≤ j := by omega
            clear hgc hgd
            generalize o[j]'(by omega) = y at *
            have en := bytesCmp.neg x.1 y.1
            have ee := bytesCmp.eq y.1 x.1
            cases hl2 : Op.bytesLess x.1 y.1 with
            | true =>
              have HG : Hid (downK o x o.length = downK o x j) := hid (by rw [HK.out, HS.out, if_pos hl2])
              have e4 : Op.bytesLess y.1 x.1 = false ∧ ¬ y.1 = x.1 := by
                have h5 : Lib.compareBytes x.1 y.1 < 0 := by simpa [less_iff] using hl2
                refine ⟨?_, fun e => ?_⟩
                · simp only [less_iff, decide_eq_false_iff_not]
                  omega
                · have := ee.2 e
                  omega
              obtain ⟨e4, e5⟩ := e4
              clear HK HS en ee
              go_wp2
              refine wp_region_held_drew (S := fun w' => w'.cell? ⟨g, og + j * 2, none⟩ = some (.string ⟨y.1.toArray⟩) ∧ w'.cell? ⟨b, off + o.length * 2, none⟩ = some (.string ⟨x.1.toArray⟩)) (by kernel_rfl) ⟨hy0, hx0⟩ (fun hHeld => ?_)
              refine takeAt (i := 0) (d := 18) (v := .int .i64 (j + 1)) rfl rfl (by kernel_rfl) (by kernel_rfl) (by kernel_rfl) (fun _ _ _ h => h) (Or.inl ⟨by rfl, fun w hSw => by obtain ⟨hS1, hS2⟩ := hSw; go_simp⟩) hHeld ?_
              simp only [List.setIfInBounds_toArray, List.set_cons_zero, List.set_cons_succ]
              refine takeAt (i := 1) (d := 19) (v := .bool true) rfl rfl (by kernel_rfl) (by kernel_rfl) (by kernel_rfl) (fun _ _ _ h => h) (Or.inl ⟨by rfl, fun w hSw => by obtain ⟨hS1, hS2⟩ := hSw; go_simp⟩) hHeld ?_
              simp only [List.setIfInBounds_toArray, List.set_cons_zero, List.set_cons_succ]
              refine takeAt (i := 2) (d := 20) (v := .bool true) rfl rfl (by kernel_rfl) (by kernel_rfl) (by kernel_rfl) (fun _ _ _ h => h) (Or.inl ⟨by rfl, fun w hSw => by obtain ⟨hS1, hS2⟩ := hSw; go_simp⟩) hHeld ?_
              simp only [List.setIfInBounds_toArray, List.set_cons_zero, List.set_cons_succ]
              refine takeAt (i := 3) (d := 21) (v := .slice (some ⟨g, og, none⟩) o.length co) rfl rfl (by kernel_rfl) (by kernel_rfl) (by kernel_rfl) (fun _ _ _ h => h) (Or.inl ⟨by rfl, fun w hSw => by obtain ⟨hS1, hS2⟩ := hSw; go_simp⟩) hHeld ?_
              simp only [List.setIfInBounds_toArray, List.set_cons_zero, List.set_cons_succ]
              refine takeAt (i := 4) (d := 22) (v := .int .i64 (j + 1)) rfl rfl (by kernel_rfl) (by kernel_rfl) (by kernel_rfl) (fun _ _ _ h => h) (Or.inl ⟨by rfl, fun w hSw => by obtain ⟨hS1, hS2⟩ := hSw; go_simp⟩) hHeld ?_
              simp only [List.setIfInBounds_toArray, List.set_cons_zero, List.set_cons_succ]
              refine takeAt (i := 5) (d := 23) (v := .int .i64 j) rfl rfl (by kernel_rfl) (by kernel_rfl) (by kernel_rfl) (fun _ _ _ h => h) (Or.inl ⟨by rfl, fun w hSw => by obtain ⟨hS1, hS2⟩ := hSw; go_simp⟩) hHeld ?_
              simp only [List.setIfInBounds_toArray, List.set_cons_zero, List.set_cons_succ]
              refine takeAt (i := 6) (d := 24) (v := .pointer (some ⟨g, og + j * 2, none⟩)) rfl rfl (by kernel_rfl) (by kernel_rfl) (by kernel_rfl) (fun _ _ _ h => h) (Or.inl ⟨by rfl, fun w hSw => by obtain ⟨hS1, hS2⟩ := hSw; go_simp⟩) hHeld ?_
              simp only [List.setIfInBounds_toArray, List.set_cons_zero, List.set_cons_succ]
              refine takeAt (i := 7) (d := 25) (v := .pointer (some ⟨g, og + j * 2, none⟩)) rfl rfl (by kernel_rfl) (by kernel_rfl) (by kernel_rfl) (fun _ _ _ h => h) (Or.inl ⟨by rfl, fun w hSw => by obtain ⟨hS1, hS2⟩ := hSw; go_simp⟩) hHeld ?_
              simp only [List.setIfInBounds_toArray, List.set_cons_zero, List.set_cons_succ]
              refine takeAt (i := 8) (d := 26) (v := .string ⟨y.1.toArray⟩) rfl rfl (by kernel_rfl) (by kernel_rfl) (by kernel_rfl) (fun _ _ _ h => h) (Or.inl ⟨by rfl, fun w hSw => by obtain ⟨hS1, hS2⟩ := hSw; go_simp⟩) hHeld ?_
              simp only [List.setIfInBounds_toArray, List.set_cons_zero, List.set_cons_succ]
              refine takeAt (i := 9) (d := 27) (v := .slice (some ⟨b, off, none⟩) l.length c) rfl rfl (by kernel_rfl) (by kernel_rfl) (by kernel_rfl) (fun _ _ _ h => h) (Or.inl ⟨by rfl, fun w hSw => by obtain ⟨hS1, hS2⟩ := hSw; go_simp⟩) hHeld ?_
              simp only [List.setIfInBounds_toArray, List.set_cons_zero, List.set_cons_succ]
              refine takeAt (i := 10) (d := 28) (v := .int .i64 o.length) rfl rfl (by kernel_rfl) (by kernel_rfl) (by kernel_rfl) (fun _ _ _ h => h) (Or.inl ⟨by rfl, fun w hSw => by obtain ⟨hS1, hS2⟩ := hSw; go_simp⟩) hHeld ?_
              simp only [List.setIfInBounds_toArray, List.set_cons_zero, List.set_cons_succ]
              refine takeAt (i := 11) (d := 29) (v := .pointer (some ⟨b, off + o.length * 2, none⟩)) rfl rfl (by kernel_rfl) (by kernel_rfl) (by kernel_rfl) (fun _ _ _ h => h) (Or.inl ⟨by rfl, fun w hSw => by obtain ⟨hS1, hS2⟩ := hSw; go_simp⟩) hHeld ?_
              simp only [List.setIfInBounds_toArray, List.set_cons_zero, List.set_cons_succ]
              refine takeAt (i := 12) (d := 30) (v := .pointer (some ⟨b, off + o.length * 2, none⟩)) rfl rfl (by kernel_rfl) (by kernel_rfl) (by kernel_rfl) (fun _ _ _ h => h) (Or.inl ⟨by rfl, fun w hSw => by obtain ⟨hS1, hS2⟩ := hSw; go_simp⟩) hHeld ?_
              simp only [List.setIfInBounds_toArray, List.set_cons_zero, List.set_cons_succ]
              refine takeAt (i := 13) (d := 31) (v := .string ⟨x.1.toArray⟩) rfl rfl (by kernel_rfl) (by kernel_rfl) (by kernel_rfl) (fun _ _ _ h => h) (Or.inl ⟨by rfl, fun w hSw => by obtain ⟨hS1, hS2⟩ := hSw; go_simp⟩) hHeld ?_
              simp only [List.setIfInBounds_toArray, List.set_cons_zero, List.set_cons_succ]
              refine takeAt (i := 14) (d := 32) (v := .bool true) rfl rfl (by kernel_rfl) (by kernel_rfl) (by kernel_rfl) (fun _ _ _ h => h) (Or.inl ⟨by rfl, fun w hSw => by obtain ⟨hS1, hS2⟩ := hSw; go_simp⟩) hHeld ?_
              simp only [List.setIfInBounds_toArray, List.set_cons_zero, List.set_cons_succ]
              refine takeAt (i := 15) (d := 33) (v := .bool true) rfl rfl (by kernel_rfl) (by kernel_rfl) (by kernel_rfl) (fun _ _ _ h => h) (Or.inl ⟨by rfl, fun w hSw => by obtain ⟨hS1, hS2⟩ := hSw; go_simp⟩) hHeld ?_
              simp only [List.setIfInBounds_toArray, List.set_cons_zero, List.set_cons_succ]
              refine wpAnyH_done (by kernel_rfl) ?_ _
              go_wp2
              go_roundw
              case rel => exact ⟨j, rfl, by omega, hbs.drew, HG⟩
              case measure => simp [intOf]
            | false =>
              have HG : Hid (downK o x o.length = j + 1) := hid (by rw [HK.out, HS.out, if_neg (by rw [hl2]; decide)])
              have e4 : Op.bytesLess y.1 x.1 = true ∨ y.1 = x.1 := by
                have h5 : ¬ Lib.compareBytes x.1 y.1 < 0 := by simpa [less_iff] using hl2
                by_cases h6 : Lib.compareBytes y.1 x.1 = 0
                · exact .inr (ee.1 h6)
                · left
                  simp only [less_iff, decide_eq_true_eq]
                  omega
              have e6 : Op.bytesLess y.1 x.1 = false → y.1 = x.1 := fun h => by
                rcases e4 with e4 | e4
                · rw [e4] at h; cases h
                · exact e4
              clear HK HS en ee e4
              go_wp2
              refine wp_region_held_drew (S := fun w' => w'.cell? ⟨g, og + j * 2, none⟩ = some (.string ⟨y.1.toArray⟩) ∧ w'.cell? ⟨b, off + o.length * 2, none⟩ = some (.string ⟨x.1.toArray⟩)) (by kernel_rfl) ⟨hy0, hx0⟩ (fun hHeld => ?_)
              refine takeAt (i := 0) (d := 18) (v := .int .i64 (j + 1)) rfl rfl (by kernel_rfl) (by kernel_rfl) (by kernel_rfl) (fun _ _ _ h => h) (Or.inl ⟨by rfl, fun w hSw => by obtain ⟨hS1, hS2⟩ := hSw; go_simp⟩) hHeld ?_
              simp only [List.setIfInBounds_toArray, List.set_cons_zero, List.set_cons_succ]
              refine takeAt (i := 1) (d := 19) (v := .bool true) rfl rfl (by kernel_rfl) (by kernel_rfl) (by kernel_rfl) (fun _ _ _ h => h) (Or.inl ⟨by rfl, fun w hSw => by obtain ⟨hS1, hS2⟩ := hSw; go_simp⟩) hHeld ?_
              simp only [List.setIfInBounds_toArray, List.set_cons_zero, List.set_cons_succ]
              refine takeAt (i := 2) (d := 20) (v := .bool true) rfl rfl (by kernel_rfl) (by kernel_rfl) (by kernel_rfl) (fun _ _ _ h => h) (Or.inl ⟨by rfl, fun w hSw => by obtain ⟨hS1, hS2⟩ := hSw; go_simp⟩) hHeld ?_
              simp only [List.setIfInBounds_toArray, List.set_cons_zero, List.set_cons_succ]
              refine takeAt (i := 3) (d := 21) (v := .slice (some ⟨g, og, none⟩) o.length co) rfl rfl (by kernel_rfl) (by kernel_rfl) (by kernel_rfl) (fun _ _ _ h => h) (Or.inl ⟨by rfl, fun w hSw => by obtain ⟨hS1, hS2⟩ := hSw; go_simp⟩) hHeld ?_
              simp only [List.setIfInBounds_toArray, List.set_cons_zero, List.set_cons_succ]
              refine takeAt (i := 4) (d := 22) (v := .int .i64 (j + 1)) rfl rfl (by kernel_rfl) (by kernel_rfl) (by kernel_rfl) (fun _ _ _ h => h) (Or.inl ⟨by rfl, fun w hSw => by obtain ⟨hS1, hS2⟩ := hSw; go_simp⟩) hHeld ?_
              simp only [List.setIfInBounds_toArray, List.set_cons_zero, List.set_cons_succ]
              refine takeAt (i := 5) (d := 23) (v := .int .i64 j) rfl rfl (by kernel_rfl) (by kernel_rfl) (by kernel_rfl) (fun _ _ _ h => h) (Or.inl ⟨by rfl, fun w hSw => by obtain ⟨hS1, hS2⟩ := hSw; go_simp⟩) hHeld ?_
              simp only [List.setIfInBounds_toArray, List.set_cons_zero, List.set_cons_succ]
              refine takeAt (i := 6) (d := 24) (v := .pointer (some ⟨g, og + j * 2, none⟩)) rfl rfl (by kernel_rfl) (by kernel_rfl) (by kernel_rfl) (fun _ _ _ h => h) (Or.inl ⟨by rfl, fun w hSw => by obtain ⟨hS1, hS2⟩ := hSw; go_simp⟩) hHeld ?_
              simp only [List.setIfInBounds_toArray, List.set_cons_zero, List.set_cons_succ]
              refine takeAt (i := 7) (d := 25) (v := .pointer (some ⟨g, og + j * 2, none⟩)) rfl rfl (by kernel_rfl) (by kernel_rfl) (by kernel_rfl) (fun _ _ _ h => h) (Or.inl ⟨by rfl, fun w hSw => by obtain ⟨hS1, hS2⟩ := hSw; go_simp⟩) hHeld ?_
              simp only [List.setIfInBounds_toArray, List.set_cons_zero, List.set_cons_succ]
              refine takeAt (i := 8) (d := 26) (v := .string ⟨y.1.toArray⟩) rfl rfl (by kernel_rfl) (by kernel_rfl) (by kernel_rfl) (fun _ _ _ h => h) (Or.inl ⟨by rfl, fun w hSw => by obtain ⟨hS1, hS2⟩ := hSw; go_simp⟩) hHeld ?_
              simp only [List.setIfInBounds_toArray, List.set_cons_zero, List.set_cons_succ]
              refine takeAt (i := 9) (d := 27) (v := .slice (some ⟨b, off, none⟩) l.length c) rfl rfl (by kernel_rfl) (by kernel_rfl) (by kernel_rfl) (fun _ _ _ h => h) (Or.inl ⟨by rfl, fun w hSw => by obtain ⟨hS1, hS2⟩ := hSw; go_simp⟩) hHeld ?_
              simp only [List.setIfInBounds_toArray, List.set_cons_zero, List.set_cons_succ]
              refine takeAt (i := 10) (d := 28) (v := .int .i64 o.length) rfl rfl (by kernel_rfl) (by kernel_rfl) (by kernel_rfl) (fun _ _ _ h => h) (Or.inl ⟨by rfl, fun w hSw => by obtain ⟨hS1, hS2⟩ := hSw; go_simp⟩) hHeld ?_
              simp only [List.setIfInBounds_toArray, List.set_cons_zero, List.set_cons_succ]
              refine takeAt (i := 11) (d := 29) (v := .pointer (some ⟨b, off + o.length * 2, none⟩)) rfl rfl (by kernel_rfl) (by kernel_rfl) (by kernel_rfl) (fun _ _ _ h => h) (Or.inl ⟨by rfl, fun w hSw => by obtain ⟨hS1, hS2⟩ := hSw; go_simp⟩) hHeld ?_
              simp only [List.setIfInBounds_toArray, List.set_cons_zero, List.set_cons_succ]
              refine takeAt (i := 12) (d := 30) (v := .pointer (some ⟨b, off + o.length * 2, none⟩)) rfl rfl (by kernel_rfl) (by kernel_rfl) (by kernel_rfl) (fun _ _ _ h => h) (Or.inl ⟨by rfl, fun w hSw => by obtain ⟨hS1, hS2⟩ := hSw; go_simp⟩) hHeld ?_
              simp only [List.setIfInBounds_toArray, List.set_cons_zero, List.set_cons_succ]
              refine takeAt (i := 13) (d := 31) (v := .string ⟨x.1.toArray⟩) rfl rfl (by kernel_rfl) (by kernel_rfl) (by kernel_rfl) (fun _ _ _ h => h) (Or.inl ⟨by rfl, fun w hSw => by obtain ⟨hS1, hS2⟩ := hSw; go_simp⟩) hHeld ?_
              simp only [List.setIfInBounds_toArray, List.set_cons_zero, List.set_cons_succ]
              refine takeAt (i := 14) (d := 32) (v := .bool false) rfl rfl (by kernel_rfl) (by kernel_rfl) (by kernel_rfl) (fun _ _ _ h => h) (Or.inl ⟨by rfl, fun w hSw => by obtain ⟨hS1, hS2⟩ := hSw; go_simp; exact e6⟩) hHeld ?_
              simp only [List.setIfInBounds_toArray, List.set_cons_zero, List.set_cons_succ]
              refine takeAt (i := 15) (d := 33) (v := .bool false) rfl rfl (by kernel_rfl) (by kernel_rfl) (by kernel_rfl) (fun _ _ _ h => h) (Or.inl ⟨by rfl, fun w hSw => by obtain ⟨hS1, hS2⟩ := hSw; go_simp⟩) hHeld ?_
              simp only [List.setIfInBounds_toArray, List.set_cons_zero, List.set_cons_succ]
              refine wpAnyH_done (by kernel_rfl) ?_ _
              go_wp2
              have hs1 : ∀ wx, (Instr.slice 22 (.slice (some ⟨g, og, none⟩) o.length co) none (some (.int .i64 (↑j + 1 : Int))) none).run Tryz.prog wx = .ok (sliced (some ⟨g, og, none⟩) 0 (j + 1) co 2) wx := fun wx => by
                have := run_slice_h (P := Tryz.prog) (w := wx) 22 (some ⟨g, og, none⟩) o.length co Tryz.underlying22 .i64 (↑j + 1 : Int) (by omega) (by omega)
                rw [this]
                have hz : (sizeOf (Tryz.prog.elem 22)).run Tryz.prog wx = .ok 2 wx := by go_simp
                rw [hz]
                simp [Result.andThen]
              have hs2 : ∀ wx, (Instr.slice 22 (.slice (some ⟨g, og, none⟩) o.length co) (some (.int .i64 (↑j + 1 : Int))) none none).run Tryz.prog wx = .ok (sliced (some ⟨g, og, none⟩) (j + 1) o.length co 2) wx := fun wx => by
                have := run_slice_l (P := Tryz.prog) (w := wx) 22 (some ⟨g, og, none⟩) o.length co Tryz.underlying22 .i64 (↑j + 1 : Int) (by omega) (by omega)
                rw [this]
                have hz : (sizeOf (Tryz.prog.elem 22)).run Tryz.prog wx = .ok 2 wx := by go_simp
                rw [hz]
                simp [Result.andThen]
              have r1 := rd_slice_take (k := (j + 1)) (ho2.below hbs) (by omega)
              have r2 := rd_slice_drop (k := (j + 1)) (ho2.below hbs) (by omega)
              generalize sliced (some ⟨g, og, none⟩) 0 (j + 1) co 2 = v1 at *
              generalize sliced (some ⟨g, og, none⟩) (j + 1) o.length co 2 = v2 at *
              have hx0 := (hbs.cell (p := ⟨b, off + o.length * 2, none⟩) hbz).trans hc0
              have hx1 := (hbs.cell (p := ⟨b, off + o.length * 2 + 1, none⟩) hbz).trans hc1
              have hbs3 := Nat.lt_of_lt_of_le hbz hbs.size
              have hbs0 := Nat.le_trans hbw.size hbs.size
              have KEY : Hid (insL o x = o.take (j + 1) ++ x :: o.drop (j + 1)) := hid (by unfold insL; rw [HG.out])
              refine wp_region_held_drew (S := fun w' => Below wr.heap.size wr w') (by kernel_rfl) (Below.refl _ _).drew.drew (fun hHeld => ?_)
              refine takeAt (i := 1) (d := 37) (v := .slice (some ⟨g, og, none⟩) o.length co) rfl rfl (by kernel_rfl) (by kernel_rfl) (by kernel_rfl) (fun _ _ _ h => h) (Or.inl ⟨by rfl, fun w hSw => by go_simp⟩) hHeld ?_
              simp only [List.setIfInBounds_toArray, List.set_cons_zero, List.set_cons_succ]
              refine takeAt (i := 2) (d := 38) (v := .int .i64 (↑j + 1)) rfl rfl (by kernel_rfl) (by kernel_rfl) (by kernel_rfl) (fun _ _ _ h => h) (Or.inl ⟨by rfl, fun w hSw => by go_simp⟩) hHeld ?_
              simp only [List.setIfInBounds_toArray, List.set_cons_zero, List.set_cons_succ]
              refine takeAt (i := 3) (d := 39) (v := v1) rfl rfl (by kernel_rfl) (by kernel_rfl) (by kernel_rfl) (fun _ _ _ h => h) (Or.inl ⟨by rfl, fun w hSw => by go_simp⟩) hHeld ?_
              simp only [List.setIfInBounds_toArray, List.set_cons_zero, List.set_cons_succ]
              refine takeAt (i := 5) (d := 41) (v := .slice (some ⟨b, off, none⟩) l.length c) rfl rfl (by kernel_rfl) (by kernel_rfl) (by kernel_rfl) (fun _ _ _ h => h) (Or.inl ⟨by rfl, fun w hSw => by go_simp⟩) hHeld ?_
              simp only [List.setIfInBounds_toArray, List.set_cons_zero, List.set_cons_succ]
              refine takeAt (i := 6) (d := 42) (v := .int .i64 o.length) rfl rfl (by kernel_rfl) (by kernel_rfl) (by kernel_rfl) (fun _ _ _ h => h) (Or.inl ⟨by rfl, fun w hSw => by go_simp⟩) hHeld ?_
              simp only [List.setIfInBounds_toArray, List.set_cons_zero, List.set_cons_succ]
              refine takeAt (i := 7) (d := 43) (v := .pointer (some ⟨b, off + o.length * 2, none⟩)) rfl rfl (by kernel_rfl) (by kernel_rfl) (by kernel_rfl) (fun _ _ _ h => h) (Or.inl ⟨by rfl, fun w hSw => by go_simp⟩) hHeld ?_
              simp only [List.setIfInBounds_toArray, List.set_cons_zero, List.set_cons_succ]
              refine takeAt (i := 8) (d := 44) (v := .agg #[.string ⟨x.1.toArray⟩, .string ⟨x.2.toArray⟩]) rfl rfl (by kernel_rfl) (by kernel_rfl) (by kernel_rfl) (fun _ _ _ h => h) (Or.inl ⟨by rfl, fun w hSw => by have g0 := (hSw.cell (p := ⟨b, off + o.length * 2, none⟩) hbs3).trans hx0; have g1 := (hSw.cell (p := ⟨b, off + o.length * 2 + 1, none⟩) hbs3).trans hx1; go_simp⟩) hHeld ?_
              simp only [List.setIfInBounds_toArray, List.set_cons_zero, List.set_cons_succ]
              refine takeAt (i := 11) (d := 47) (v := .slice (some ⟨g, og, none⟩) o.length co) rfl rfl (by kernel_rfl) (by kernel_rfl) (by kernel_rfl) (fun _ _ _ h => h) (Or.inl ⟨by rfl, fun w hSw => by go_simp⟩) hHeld ?_
              simp only [List.setIfInBounds_toArray, List.set_cons_zero, List.set_cons_succ]
              refine takeAt (i := 12) (d := 48) (v := .int .i64 (↑j + 1)) rfl rfl (by kernel_rfl) (by kernel_rfl) (by kernel_rfl) (fun _ _ _ h => h) (Or.inl ⟨by rfl, fun w hSw => by go_simp⟩) hHeld ?_
              simp only [List.setIfInBounds_toArray, List.set_cons_zero, List.set_cons_succ]
              refine takeAt (i := 13) (d := 49) (v := v2) rfl rfl (by kernel_rfl) (by kernel_rfl) (by kernel_rfl) (fun _ _ _ h => h) (Or.inl ⟨by rfl, fun w hSw => by go_simp⟩) hHeld ?_
              simp only [List.setIfInBounds_toArray, List.set_cons_zero, List.set_cons_succ]
              refine wpAnyH_ready (rs := [0, 9]) (by kernel_rfl) (by simp) ?_
              refine (AllReadyH.cons (o := { dst := some 36, op := Go.Op.buildSlice 22 0 #[], type := 22, pos := "ref.go:112", after := #[], guard := none }) rfl (fun K hK => ?_) (AllReadyH.cons (o := { dst := some 45, op := Go.Op.buildSlice 22 1 #[(0, Go.Operand.tmp 44)], type := 22, pos := "ref.go:112", after := #[{ on := 8, ground := Go.Ground.data }], guard := none }) rfl (fun K hK => ?_) AllReadyH.nil))
              · rw [if_pos (by rfl)]
                go_simp
                refine hK.out _ _ (hHeld.alloc (hHeld.size) _) (fun hHeld1 => ?_)
                clear hK K
                refine wpAnyH_ready (rs := [4, 9]) (by kernel_rfl) (by simp) ?_
                refine (AllReadyH.cons (o := { dst := some 40, op := Go.Op.call { callee := Go.Callee.builtin Go.Builtin.append, args := #[Go.Operand.tmp 36, Go.Operand.tmp 39], argTypes := #[22, 22] }, type := 22, pos := "ref.go:112", after := #[{ on := 0, ground := Go.Ground.data }, { on := 3, ground := Go.Ground.data }], guard := none }) rfl (fun K hK => ?_) (AllReadyH.cons (o := { dst := some 45, op := Go.Op.buildSlice 22 1 #[(0, Go.Operand.tmp 44)], type := 22, pos := "ref.go:112", after := #[{ on := 8, ground := Go.Ground.data }], guard := none }) rfl (fun K hK => ?_) AllReadyH.nil))
                · refine step_appG rfl (.tmp 36) (.tmp 39) rfl wr.heap.size _ _ [] (o.take (j + 1)) (by simp [Act.eval]) ((OwnL.made wr.drew.drew (Nat.le_refl _))) (by simp [Act.eval]) (r1.below hHeld1) (by first | (simp; done) | (simp; omega)) hHeld1.size ?_
                  intro v3 w3 o3 b3 g3
                  refine hK.out _ _ (hHeld1.trans b3) (fun hHeld2 => ?_)
                  clear hK K
                  simp only [Act.put, List.setIfInBounds_toArray, List.set_cons_zero, List.set_cons_succ]
                  refine wpAnyH_ready (rs := [9]) (by kernel_rfl) (by simp) ?_
                  refine (AllReadyH.cons (o := { dst := some 45, op := Go.Op.buildSlice 22 1 #[(0, Go.Operand.tmp 44)], type := 22, pos := "ref.go:112", after := #[{ on := 8, ground := Go.Ground.data }], guard := none }) rfl (fun K hK => ?_) AllReadyH.nil)
                  rw [if_pos (by rfl)]
                  go_simp
                  refine hK.out _ _ (hHeld2.alloc (hHeld2.size) _) (fun hHeld3 => ?_)
                  clear hK K
                  refine wpAnyH_ready (rs := [10]) (by kernel_rfl) (by simp) ?_
                  refine (AllReadyH.cons (o := { dst := some 46, op := Go.Op.call { callee := Go.Callee.builtin Go.Builtin.append, args := #[Go.Operand.tmp 40, Go.Operand.tmp 45], argTypes := #[22, 22] }, type := 22, pos := "ref.go:112", after := #[{ on := 4, ground := Go.Ground.data }, { on := 9, ground := Go.Ground.data }, { on := 4, ground := Go.Ground.chain }], guard := none }) rfl (fun K hK => ?_) AllReadyH.nil)
                  refine step_appG rfl (.tmp 40) (.tmp 45) rfl wr.heap.size _ _ _ [x] (by simp [Act.eval]) (o3.alloc _) (by simp [Act.eval]) ((OwnL_one w3 x (Nat.le_refl _)).rd) (by first | (simp; done) | (simp; omega)) hHeld3.size ?_
                  intro v4 w4 o4 b4 g4
                  refine hK.out _ _ (hHeld3.trans b4) (fun hHeldX => ?_)
                  clear hK K
                  simp only [Act.put, List.setIfInBounds_toArray, List.set_cons_zero, List.set_cons_succ]
                  refine wpAnyH_ready (rs := [14]) (by kernel_rfl) (by simp) ?_
                  refine (AllReadyH.cons (o := { dst := some 50, op := Go.Op.call { callee := Go.Callee.builtin Go.Builtin.append, args := #[Go.Operand.tmp 46, Go.Operand.tmp 49], argTypes := #[22, 22] }, type := 22, pos := "ref.go:112", after := #[{ on := 10, ground := Go.Ground.data }, { on := 13, ground := Go.Ground.data }, { on := 10, ground := Go.Ground.chain }], guard := none }) rfl (fun K hK => ?_) AllReadyH.nil)
                  refine step_appG rfl (.tmp 46) (.tmp 49) rfl wr.heap.size _ _ _ (o.drop (j + 1)) (by simp [Act.eval]) o4 (by simp [Act.eval]) (r2.below hHeldX) (by first | (simp; done) | (simp; omega)) hHeldX.size ?_
                  intro v5 w5 o5 b5 g5
                  refine hK.out _ _ (hHeldX.trans b5) (fun hHeldY => ?_)
                  clear hK K
                  simp only [Act.put, List.setIfInBounds_toArray, List.set_cons_zero, List.set_cons_succ]
                  refine takeAt (i := 15) (d := 4) (v := v5) rfl rfl (by kernel_rfl) (by kernel_rfl) (by kernel_rfl) (fun _ _ _ h => h) (Or.inl ⟨by rfl, fun w hSw => by go_simp⟩) hHeldY ?_
                  simp only [List.setIfInBounds_toArray, List.set_cons_zero, List.set_cons_succ]
                  refine wpAnyH_done (by kernel_rfl) ?_ _
                  go_wp2
                  go_roundw
                  case rel => exact ⟨o.length + 1, insL o x, by go_num, by omega, by rw [KEY.out]; simpa using o5.mono hbs0, by rw [KEY.out]; first | (simp; done) | (simp; omega), hbw.trans ((hbs.trans (hHeldY.mono hbs.size)).mono hbw.size), hid htk.out.symm⟩
                  case measure => first | (simp [intOf]; done) | (simp [intOf]; omega)
                · rw [if_pos (by rfl)]
                  go_simp
                  refine hK.out _ _ (hHeld1.alloc (hHeld1.size) _) (fun hHeld2 => ?_)
                  clear hK K
                  refine wpAnyH_ready (rs := [4]) (by kernel_rfl) (by simp) ?_
                  refine (AllReadyH.cons (o := { dst := some 40, op := Go.Op.call { callee := Go.Callee.builtin Go.Builtin.append, args := #[Go.Operand.tmp 36, Go.Operand.tmp 39], argTypes := #[22, 22] }, type := 22, pos := "ref.go:112", after := #[{ on := 0, ground := Go.Ground.data }, { on := 3, ground := Go.Ground.data }], guard := none }) rfl (fun K hK => ?_) AllReadyH.nil)
                  refine step_appG rfl (.tmp 36) (.tmp 39) rfl wr.heap.size _ _ [] (o.take (j + 1)) (by simp [Act.eval]) ((OwnL.made wr.drew.drew (Nat.le_refl _)).alloc _) (by simp [Act.eval]) (r1.below hHeld2) (by first | (simp; done) | (simp; omega)) hHeld2.size ?_
                  intro v3 w3 o3 b3 g3
                  refine hK.out _ _ (hHeld2.trans b3) (fun hHeld3 => ?_)
                  clear hK K
                  simp only [Act.put, List.setIfInBounds_toArray, List.set_cons_zero, List.set_cons_succ]
                  refine wpAnyH_ready (rs := [10]) (by kernel_rfl) (by simp) ?_
                  refine (AllReadyH.cons (o := { dst := some 46, op := Go.Op.call { callee := Go.Callee.builtin Go.Builtin.append, args := #[Go.Operand.tmp 40, Go.Operand.tmp 45], argTypes := #[22, 22] }, type := 22, pos := "ref.go:112", after := #[{ on := 4, ground := Go.Ground.data }, { on := 9, ground := Go.Ground.data }, { on := 4, ground := Go.Ground.chain }], guard := none }) rfl (fun K hK => ?_) AllReadyH.nil)
                  refine step_appG rfl (.tmp 40) (.tmp 45) rfl wr.heap.size _ _ _ [x] (by simp [Act.eval]) o3 (by simp [Act.eval]) (RdL.far g3 ((OwnL_one (wr.drew.drew.alloc (.cells #[] 53)) x (Nat.le_refl _)).rd) (by simp [Value.ownBlock])) (by first | (simp; done) | (simp; omega)) hHeld3.size ?_
                  intro v4 w4 o4 b4 g4
                  refine hK.out _ _ (hHeld3.trans b4) (fun hHeldX => ?_)
                  clear hK K
                  simp only [Act.put, List.setIfInBounds_toArray, List.set_cons_zero, List.set_cons_succ]
                  refine wpAnyH_ready (rs := [14]) (by kernel_rfl) (by simp) ?_
                  refine (AllReadyH.cons (o := { dst := some 50, op := Go.Op.call { callee := Go.Callee.builtin Go.Builtin.append, args := #[Go.Operand.tmp 46, Go.Operand.tmp 49], argTypes := #[22, 22] }, type := 22, pos := "ref.go:112", after := #[{ on := 10, ground := Go.Ground.data }, { on := 13, ground := Go.Ground.data }, { on := 10, ground := Go.Ground.chain }], guard := none }) rfl (fun K hK => ?_) AllReadyH.nil)
                  refine step_appG rfl (.tmp 46) (.tmp 49) rfl wr.heap.size _ _ _ (o.drop (j + 1)) (by simp [Act.eval]) o4 (by simp [Act.eval]) (r2.below hHeldX) (by first | (simp; done) | (simp; omega)) hHeldX.size ?_
                  intro v5 w5 o5 b5 g5
                  refine hK.out _ _ (hHeldX.trans b5) (fun hHeldY => ?_)
                  clear hK K
                  simp only [Act.put, List.setIfInBounds_toArray, List.set_cons_zero, List.set_cons_succ]
                  refine takeAt (i := 15) (d := 4) (v := v5) rfl rfl (by kernel_rfl) (by kernel_rfl) (by kernel_rfl) (fun _ _ _ h => h) (Or.inl ⟨by rfl, fun w hSw => by go_simp⟩) hHeldY ?_
                  simp only [List.setIfInBounds_toArray, List.set_cons_zero, List.set_cons_succ]
                  refine wpAnyH_done (by kernel_rfl) ?_ _
                  go_wp2
                  go_roundw
                  case rel => exact ⟨o.length + 1, insL o x, by go_num, by omega, by rw [KEY.out]; simpa using o5.mono hbs0, by rw [KEY.out]; first | (simp; done) | (simp; omega), hbw.trans ((hbs.trans (hHeldY.mono hbs.size)).mono hbw.size), hid htk.out.symm⟩
                  case measure => first | (simp [intOf]; done) | (simp [intOf]; omega)
              · rw [if_pos (by rfl)]
                go_simp
                refine hK.out _ _ (hHeld.alloc (hHeld.size) _) (fun hHeld1 => ?_)
                clear hK K
                refine wpAnyH_ready (rs := [0]) (by kernel_rfl) (by simp) ?_
                refine (AllReadyH.cons (o := { dst := some 36, op := Go.Op.buildSlice 22 0 #[], type := 22, pos := "ref.go:112", after := #[], guard := none }) rfl (fun K hK => ?_) AllReadyH.nil)
                rw [if_pos (by rfl)]
                go_simp
                refine hK.out _ _ (hHeld1.alloc (hHeld1.size) _) (fun hHeld2 => ?_)
                clear hK K
                refine wpAnyH_ready (rs := [4]) (by kernel_rfl) (by simp) ?_
                refine (AllReadyH.cons (o := { dst := some 40, op := Go.Op.call { callee := Go.Callee.builtin Go.Builtin.append, args := #[Go.Operand.tmp 36, Go.Operand.tmp 39], argTypes := #[22, 22] }, type := 22, pos := "ref.go:112", after := #[{ on := 0, ground := Go.Ground.data }, { on := 3, ground := Go.Ground.data }], guard := none }) rfl (fun K hK => ?_) AllReadyH.nil)
                refine step_appG rfl (.tmp 36) (.tmp 39) rfl wr.heap.size _ _ [] (o.take (j + 1)) (by simp [Act.eval]) (OwnL.made _ hHeld1.size) (by simp [Act.eval]) (r1.below hHeld2) (by first | (simp; done) | (simp; omega)) hHeld2.size ?_
                intro v3 w3 o3 b3 g3
                refine hK.out _ _ (hHeld2.trans b3) (fun hHeld3 => ?_)
                clear hK K
                simp only [Act.put, List.setIfInBounds_toArray, List.set_cons_zero, List.set_cons_succ]
                refine wpAnyH_ready (rs := [10]) (by kernel_rfl) (by simp) ?_
                refine (AllReadyH.cons (o := { dst := some 46, op := Go.Op.call { callee := Go.Callee.builtin Go.Builtin.append, args := #[Go.Operand.tmp 40, Go.Operand.tmp 45], argTypes := #[22, 22] }, type := 22, pos := "ref.go:112", after := #[{ on := 4, ground := Go.Ground.data }, { on := 9, ground := Go.Ground.data }, { on := 4, ground := Go.Ground.chain }], guard := none }) rfl (fun K hK => ?_) AllReadyH.nil)
                refine step_appG rfl (.tmp 40) (.tmp 45) rfl wr.heap.size _ _ _ [x] (by simp [Act.eval]) o3 (by simp [Act.eval]) (RdL.far g3 (((OwnL_one wr.drew.drew x (Nat.le_refl _)).rd).alloc _) (by simp [Value.ownBlock])) (by first | (simp; done) | (simp; omega)) hHeld3.size ?_
                intro v4 w4 o4 b4 g4
                refine hK.out _ _ (hHeld3.trans b4) (fun hHeldX => ?_)
                clear hK K
                simp only [Act.put, List.setIfInBounds_toArray, List.set_cons_zero, List.set_cons_succ]
                refine wpAnyH_ready (rs := [14]) (by kernel_rfl) (by simp) ?_
                refine (AllReadyH.cons (o := { dst := some 50, op := Go.Op.call { callee := Go.Callee.builtin Go.Builtin.append, args := #[Go.Operand.tmp 46, Go.Operand.tmp 49], argTypes := #[22, 22] }, type := 22, pos := "ref.go:112", after := #[{ on := 10, ground := Go.Ground.data }, { on := 13, ground := Go.Ground.data }, { on := 10, ground := Go.Ground.chain }], guard := none }) rfl (fun K hK => ?_) AllReadyH.nil)
                refine step_appG rfl (.tmp 46) (.tmp 49) rfl wr.heap.size _ _ _ (o.drop (j + 1)) (by simp [Act.eval]) o4 (by simp [Act.eval]) (r2.below hHeldX) (by first | (simp; done) | (simp; omega)) hHeldX.size ?_
                intro v5 w5 o5 b5 g5
                refine hK.out _ _ (hHeldX.trans b5) (fun hHeldY => ?_)
                clear hK K
                simp only [Act.put, List.setIfInBounds_toArray, List.set_cons_zero, List.set_cons_succ]
                refine takeAt (i := 15) (d := 4) (v := v5) rfl rfl (by kernel_rfl) (by kernel_rfl) (by kernel_rfl) (fun _ _ _ h => h) (Or.inl ⟨by rfl, fun w hSw => by go_simp⟩) hHeldY ?_
                simp only [List.setIfInBounds_toArray, List.set_cons_zero, List.set_cons_succ]
                refine wpAnyH_done (by kernel_rfl) ?_ _
                go_wp2
                go_roundw
                case rel => exact ⟨o.length + 1, insL o x, by go_num, by omega, by rw [KEY.out]; simpa using o5.mono hbs0, by rw [KEY.out]; first | (simp; done) | (simp; omega), hbw.trans ((hbs.trans (hHeldY.mono hbs.size)).mono hbw.size), hid htk.out.symm⟩
                case measure => first | (simp [intOf]; done) | (simp [intOf]; omega)
      · have him : i = l.length := by omega
        subst him
        rw [List.take_length] at HO
        have hsrt := insAll_sorts l
        rw [← HO.out] at hsrt
        have hmem := fun x hx => hsz x (hsrt.1.subset hx)
        have A1 := fun w (hb : Below wr.heap.size wr w) => RefRight_is _ o w (ho.rd.below hb) (by omega) hmem
        clear HO hcell
        cases hr : rightS o with
        | true =>
          rw [hr] at A1
          go_wp2_with (go_at_call 45; refine (A1 _ (Below.refl _ _)).mono ?_; rintro e w5 ⟨rfl, b5⟩; clear A1)
          go_ret2
          exact ⟨.inr ⟨o, hsrt, .inl ⟨hr, _, rfl, ho.rd.below b5⟩⟩, hbw.trans (b5.mono hbw.size)⟩
        | false =>
          rw [hr] at A1
          go_wp2_with (go_at_call 45; refine (A1 _ (Below.refl _ _)).mono ?_; rintro e w5 ⟨rfl, b5⟩; clear A1)
          go_ret2
          exact ⟨.inr ⟨o, hsrt, .inr ⟨hr, rfl⟩⟩, hbw.trans (b5.mono hbw.size)⟩
end Go.Proofs.YthgmmloocdfphaaGreatDoor
