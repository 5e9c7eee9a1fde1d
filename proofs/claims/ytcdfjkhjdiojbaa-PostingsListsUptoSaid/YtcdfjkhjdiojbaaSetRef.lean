/-
  What the reference's in, with, And, Or, Not and Right of lists of numbers answer. Conditions: the lists can be read; sizes as each theorem names.
-/
import Derived.Test.YtcdfjkhjdiojbaaSetKnow
import Derived.Deep.RegionHeld3
import Derived.Deep.RegionLaw
import Derived.Deep.AppendLies
namespace Go.Proofs.Ytcdfjkhjdiojbaa
open Go.RowKit Go.Icz
set_option maxHeartbeats 1000000 in
set_option maxRecDepth 100000 in
theorem in_is (v : Value) (l : List Int) (x : Int) (w : World) (hR : RdI w v l) (hl : l.length ≤ 4611686018427387904) :
    Calls Try.prog 25 #[v, .int .i64 x] w fun e w' => e = .returned (.bool (decide (x ∈ l))) ∧ Below w.heap.size w w' := by
  obtain ⟨A, c, rfl, hc, hcell⟩ := hR
  go_enter Try.func25, Try.ntmps25
  go_wp2_with fail
  go_loopw [5] (fun iv wr => ∃ i : Nat, iv = .int .i64 i ∧ i ≤ l.length ∧ Hid (∀ y ∈ l.take i, y ≠ x) ∧ Below w.heap.size w wr) (fun iv _ => l.length - (intOf iv).toNat)
  case atStart => exact ⟨0, rfl, by omega, hid (by simp), Below.refl _ _⟩
  case round =>
    obtain ⟨i, rfl, hi, HT, hb⟩ := hrel
    by_cases hlt : i < l.length
    · obtain ⟨ba, oa, rfl, hba, hcl⟩ := hcell (by omega)
      have c0 := (hb.cell (p := ⟨ba, oa + i, none⟩) hba).trans (hcl i hlt)
      have hlt' : (i : Int) < (l.length : Int) := by omega
      have HS : Hid (l[i] ≠ x → ∀ y ∈ l.take (i + 1), y ≠ x) := hid (fun h y hy => by
        rw [List.take_succ_eq_append_getElem hlt] at hy
        rcases List.mem_append.1 hy with hy | hy
        · exact HT.out y hy
        · obtain rfl := List.mem_singleton.1 hy; exact h)
      have HM : Hid (l[i] = x → decide (x ∈ l) = true) := hid (fun h => decide_eq_true (h ▸ List.getElem_mem hlt))
      clear hcl hcell HT
      generalize l[i] = y at *
      by_cases hxy : y = x
      · have hne : (y == x) = true := by simp [hxy]
        have HG := HM.out hxy
        clear HM HS
        go_wp2_with fail
        go_ret
        try rw [HG]
        exact ⟨rfl, hb⟩
      · have hne : (y == x) = false := by simp [hxy]
        go_wp2_with fail
        go_roundw
        case rel => exact ⟨i + 1, by go_num, by omega, hid (HS.out hxy), hb⟩
        case measure => simp [intOf]; omega
    · have hge : ¬ (i : Int) < (l.length : Int) := by omega
      have HG : Hid (decide (x ∈ l) = false) := hid (decide_eq_false fun h => by
        have := HT.out
        rw [List.take_of_length_le (by omega)] at this
        exact this x h rfl)
      go_wp2_with fail
      go_ret
      rw [HG.out]
      exact ⟨rfl, hb⟩
set_option maxRecDepth 100000 in
theorem run_topI {A : Option Addr} {n c hi : Nat} (h2 : hi ≤ c) (wx : World) : (Instr.slice 22 (.slice A n c) none (some (.int .i64 (hi : Int))) none).run Try.prog wx = .ok (sliced A 0 hi c 1) wx := by
  have := run_slice_h (P := Try.prog) (w := wx) 22 A n c Try.underlying22 .i64 (hi : Int) (by omega) (by omega)
  rw [this]
  have hz : (sizeOf (Try.prog.elem 22)).run Try.prog wx = .ok 1 wx := by go_simp
  rw [hz]
  simp [Result.andThen]
set_option maxRecDepth 100000 in
theorem run_fromI {A : Option Addr} {n c s : Nat} (h : s ≤ n) (wx : World) : (Instr.slice 22 (.slice A n c) (some (.int .i64 (s : Int))) none none).run Try.prog wx = .ok (sliced A s n c 1) wx := by
  have := run_slice_l (P := Try.prog) (w := wx) 22 A n c Try.underlying22 .i64 (s : Int) (by omega) (by omega)
  rw [this]
  have hz : (sizeOf (Try.prog.elem 22)).run Try.prog wx = .ok 1 wx := by go_simp
  rw [hz]
  simp [Result.andThen]
theorem takeAt {P : Program} {ops : Array Oper} {Q : Exit → Act → World → Prop} {md : Region.Mode} {S : World → Prop} {i : Nat} {d : Tmp} {oi : Oper} {v : Value} {fuel : Nat} {listed : Array Bool} {a : Act} {w : World} (hi : ops[i]? = some oi) (hd : oi.dst = some d)
    (hs : Region.noSelect ops = true) (hf : Region.free md ops listed i = true) (hr : (Region.ready md ops listed).contains i = true)
    (hQ : ∀ c a w, Q (.panic c) (a.put oi.dst v) w → Q (.panic c) a w) (hy : YieldsIf P ops S oi v a) (hS : S w)
    (h : wpAnyH P md ops Q S fuel (listed.setIfInBounds i true) { tmps := a.tmps.setIfInBounds d v, defers := a.defers } w) : wpAnyH P md ops Q S (fuel + 1) listed a w := by
  refine wpAnyH_take hi hs hf hr hQ hy hS ?_
  rw [hd]
  exact h

theorem RdI.far {w w' : World} {row : Option Nat} (hg : w.grownBy w' row) {b off n c : Nat} {m : List Int} (h : RdI w (.slice (some ⟨b, off, none⟩) n c) m) (hb : some b ≠ row) : RdI w' (.slice (some ⟨b, off, none⟩) n c) m := by
  obtain ⟨A, c', hv, hc, hr⟩ := h
  refine ⟨A, c', hv, hc, fun h0 => ?_⟩
  obtain ⟨b', off', hA, hlt, hcell⟩ := hr h0
  subst hA
  injection hv with e1 e2 e3
  injection e1 with e1
  injection e1 with e1 e4
  subst e1
  exact ⟨b, off', rfl, Nat.lt_of_lt_of_le hlt hg.size, fun j hj => (hg.cell_far ⟨b, off' + j, none⟩ hlt hb).trans (hcell j hj)⟩
set_option maxRecDepth 100000 in
/-- 'append(v, x...)' at a step of a region; no block but v's own is changed. -/
theorem step_appI {ops : Array Oper} {o : Oper} {a : Act} {K : Act → World → Prop} {Q : Exit → Act → World → Prop} {E : Prop} {w : World} (hgd : o.guard = none) (s x : Operand)
    (ho : o.op = .call { callee := .builtin .append, args := #[s, x], argTypes := #[22, 22] })
    (B : Nat) (v u : Value) (l m : List Int) (hs : a.eval s = v) (hown : OwnI w B v l) (hx : a.eval x = u) (hr : RdI w u m)
    (hlen : l.length + m.length ≤ 17592186044416) (hB : B ≤ w.heap.size)
    (h : ∀ v' w', OwnI w' B v' (l ++ m) → Below B w w' → w.grownBy w' v.ownBlock → K (a.put o.dst v') w') :
    if Region.wanted o (yielded ops a.tmps) = true then Oper.wp Try.prog o a w K Q else E := by
  have hw : Region.wanted o (yielded ops a.tmps) = true := by simp [Region.wanted, hgd]
  rw [if_pos hw]
  obtain ⟨i0, hi, hz0, hz1, hz2⟩ := info_parts stdI.i
  obtain ⟨A, c, rfl, hc, hcell⟩ := hr
  rcases A with _ | ad
  · have hm : m = [] := by
      rcases Nat.eq_zero_or_pos m.length with h0 | h0
      · exact List.eq_nil_of_length_eq_zero h0
      · obtain ⟨b, off, e, _⟩ := hcell h0
        cases e
    subst hm
    unfold Oper.wp execOp
    have hrun : (Builtin.append_ #[22, 22] o.type #[v, .slice none 0 c]).run Try.prog w = .ok v w := by
      rcases hown.2 with ⟨rfl, _⟩ | ⟨g, cap, cur, rfl, _, _, hnc, _⟩
      · simp [Builtin.append_, run_underlying stdI.u, Go.sizeOf, typeInfo, hi, Builtin.lenOf, Builtin.firstCells]
      · simp [Builtin.append_, run_underlying stdI.u, Go.sizeOf, typeInfo, hi, Builtin.lenOf, Builtin.firstCells, hnc, storeCells]
    simp only [ho, resolve, invoke, builtin, Sem.run_bind, Sem.run_pure, Result.andThen_ok, List.map_toArray, List.map_cons, List.map_nil, hs, hx, List.length_nil, hrun]
    exact h v w (by simpa using hown) (Below.refl _ _) (World.grownBy.refl _ _)
  · refine wp_append_own _ s x 22 ho B 3 i0 (.int .i64 0) 1 8 stdI.u hi hz0 hz1 hz2 rfl (by decide) v l.length (cellsI l) hs hown ad m.length c (cellsI m) hx (by rw [cellsI_len]; omega) ?_ (cellsI_one m) ?_ (by omega) hB ?_
    · intro j u hj
      obtain ⟨hj', rfl⟩ := cellsI_get hj
      obtain ⟨b, off, e, _, hc'⟩ := hcell (by omega)
      injection e with e
      subst e
      rw [add_flat]
      exact hc' j hj'
    · unfold maxLen; omega
    · intro v' w' h1 h2 _
      exact h v' w' (by unfold OwnI; rw [cellsI_app, List.length_append]; exact h1) ((Below.refl B w).grown h2 hB (fun k hk => (World.ownsRow.lt hown k hk).1)) h2
/-- A list that rises, with one number more. -/
def WithOut (S : Int → Prop) (n : Nat) (x : Int) (w : World) (e : Ending) (w' : World) : Prop :=
  ∃ v l, e = .returned v ∧ RdI w' v l ∧ Rises l (fun y => S y ∨ y = x) ∧ l.length ≤ n + 1 ∧ Below w.heap.size w w'
set_option maxHeartbeats 4000000 in
set_option maxRecDepth 100000 in
theorem with_is (v : Value) (l : List Int) (x : Int) (S : Int → Prop) (w : World) (hR : RdI w v l) (hS : Rises l S) (hl : l.length ≤ 8796093022208) :
    Calls Try.prog 26 #[v, .int .i64 x] w (WithOut S l.length x w) := by
  have hin := in_is v l x w hR (by omega)
  have hR' := hR
  obtain ⟨A, c, rfl, hc, hcell⟩ := hR
  by_cases hx : x ∈ l
  · rw [decide_eq_true hx] at hin
    have HX := hid hx
    clear hx
    go_enter Try.func26, Try.ntmps26
    go_wp2_with (go_at_call 25; refine hin.mono ?_; rintro e w1 ⟨rfl, b1⟩; clear hin)
    go_ret
    exact ⟨_, l, rfl, hR'.below b1, hS.congr (fun y => ⟨.inl, fun h => h.elim id (fun e => (hS.2 y).1 (e ▸ HX.out))⟩), by omega, b1⟩
  · rw [decide_eq_false hx] at hin
    have HX := hid hx
    clear hx
    go_enter Try.func26, Try.ntmps26
    go_wp2_with (go_at_call 25; refine hin.mono ?_; rintro e w1 ⟨rfl, b1⟩; clear hin)
    have FIN0 : Hid (∀ k, k ≤ l.length → (∀ j (hj : j < l.length), k ≤ j → x < l[j]) → (∀ h0 : 0 < k, ∀ hk : k - 1 < l.length, l[k - 1] ≤ x) → ∀ w2 v5 w5, Below w.heap.size w w2 → OwnI w5 w2.heap.size v5 (l.take k ++ x :: l.drop k) → Below w2.heap.size w2 w5 → WithOut S l.length x w (.returned v5) w5) := hid (fun k hk h1 h2 w2 v5 w5 b2 o5 b5 => by
      have hr : Rises (l.take k ++ l.drop k) S := by rw [List.take_append_drop]; exact hS
      refine ⟨v5, _, rfl, o5.rd, Rises.put hr (fun y hy => ?_) (fun y hy => ?_), by simp; omega, b2.trans (b5.mono b2.size)⟩
      · obtain ⟨j, hj, e⟩ := List.mem_iff_getElem.1 hy
        rw [List.length_take] at hj
        rw [List.getElem_take] at e
        have h3 := h2 (by omega) (by omega)
        have h5 : l[j] ≠ x := fun h => HX.out (h ▸ List.getElem_mem _)
        rcases Nat.lt_or_ge j (k - 1) with h4 | h4
        · have := List.pairwise_iff_getElem.1 hS.1 j (k - 1) (by omega) (by omega) h4
          omega
        · have h6 : j = k - 1 := by omega
          subst h6
          omega
      · obtain ⟨j, hj, e⟩ := List.mem_iff_getElem.1 hy
        rw [List.length_drop] at hj
        rw [List.getElem_drop] at e
        have := h1 (k + j) (by omega) (by omega)
        omega)
    go_loopw [5] (fun kv wr => ∃ k : Nat, kv = .int .i64 (k : Int) ∧ k ≤ l.length ∧ Below w.heap.size w wr ∧ Hid (∀ j (hj : j < l.length), k ≤ j → x < l[j])) (fun kv _ => (intOf kv).toNat)
    case atStart => exact ⟨l.length, rfl, by omega, b1, hid (fun j hj h => by omega)⟩
    case round =>
      obtain ⟨k, rfl, hk, hb, HK⟩ := hrel
      by_cases hk0 : 0 < k
      · obtain ⟨b, off, rfl, hbl, hcl⟩ := hcell (by omega)
        obtain ⟨j, hj⟩ : ∃ j, k = j + 1 := ⟨k - 1, by omega⟩
        have hjl : j < l.length := by omega
        have c0 := (hb.cell (p := ⟨b, off + j, none⟩) hbl).trans (hcl j hjl)
        have zk : (k : Int) - 1 = (j : Int) := by omega
        have zk0 : (0 : Int) ≤ (j : Int) := by omega
        have zkl : (j : Int) < (l.length : Int) := by omega
        have hk0' : (0 : Int) < (k : Int) := by omega
        have HKJ := hid hj
        by_cases hyx : x < l[j]
        · have HK2 : Hid (∀ i (hi : i < l.length), j ≤ i → x < l[i]) := hid (fun i hi h => by
            rcases Nat.lt_or_ge i k with h4 | h4
            · have h6 : i = j := by have := HKJ.out; omega
              subst h6; exact hyx
            · exact HK.out i hi h4)
          clear HK hcl hj
          generalize l[j] = y at *
          go_wp2_with fail
          go_roundw
          case rel => exact ⟨j, rfl, by omega, hb, HK2⟩
          case measure => have := HKJ.out; simp [intOf]; omega
        · have HK3 : Hid (∀ h0 : 0 < k, ∀ hk : k - 1 < l.length, l[k - 1] ≤ x) := hid (fun _ h1 => by
            have h2 := HKJ.out
            subst h2
            simp at hyx ⊢
            exact hyx)
          have FIN := hid (FIN0.out k hk HK.out HK3.out wr)
          clear HK hcl hj HK3 FIN0
          generalize l[j] = y at *
          go_wp2_with fail
          have hs1 := fun wx => run_topI (A := (some ⟨b, off, none⟩)) (n := l.length) (c := c) (hi := k) (by omega) wx
          have hs2 := fun wx => run_fromI (A := (some ⟨b, off, none⟩)) (n := l.length) (c := c) (s := k) hk wx
          have r1 := (hR'.below hb).part 0 k (by omega) hk
          have r2 := (hR'.below hb).part k l.length hk (Nat.le_refl _)
          rw [Nat.sub_zero, List.drop_zero] at r1
          rw [List.take_of_length_le (by rw [List.length_drop]; exact Nat.le_refl _)] at r2
          generalize sliced (some ⟨b, off, none⟩) 0 k c 1 = v1 at *
          generalize sliced (some ⟨b, off, none⟩) k l.length c 1 = v2 at *
          refine wp_region_held_drew (S := fun w' => Below wr.heap.size wr w') (by kernel_rfl) (Below.refl _ _).drew (fun hHeld => ?_)
          refine takeAt (i := 1) (d := 26) (v := .slice (some ⟨b, off, none⟩) l.length c) rfl rfl (by kernel_rfl) (by kernel_rfl) (by kernel_rfl) (fun _ _ _ h => h) (Or.inl ⟨by rfl, fun w hSw => by go_simp⟩) hHeld ?_
          simp only [List.setIfInBounds_toArray, List.set_cons_zero, List.set_cons_succ]
          refine takeAt (i := 2) (d := 27) (v := .int .i64 (k : Int)) rfl rfl (by kernel_rfl) (by kernel_rfl) (by kernel_rfl) (fun _ _ _ h => h) (Or.inl ⟨by rfl, fun w hSw => by go_simp⟩) hHeld ?_
          simp only [List.setIfInBounds_toArray, List.set_cons_zero, List.set_cons_succ]
          refine takeAt (i := 3) (d := 28) (v := v1) rfl rfl (by kernel_rfl) (by kernel_rfl) (by kernel_rfl) (fun _ _ _ h => h) (Or.inl ⟨by rfl, fun w hSw => by go_simp⟩) hHeld ?_
          simp only [List.setIfInBounds_toArray, List.set_cons_zero, List.set_cons_succ]
          refine takeAt (i := 5) (d := 30) (v := .int .i64 x) rfl rfl (by kernel_rfl) (by kernel_rfl) (by kernel_rfl) (fun _ _ _ h => h) (Or.inl ⟨by rfl, fun w hSw => by go_simp⟩) hHeld ?_
          simp only [List.setIfInBounds_toArray, List.set_cons_zero, List.set_cons_succ]
          refine takeAt (i := 8) (d := 33) (v := .slice (some ⟨b, off, none⟩) l.length c) rfl rfl (by kernel_rfl) (by kernel_rfl) (by kernel_rfl) (fun _ _ _ h => h) (Or.inl ⟨by rfl, fun w hSw => by go_simp⟩) hHeld ?_
          simp only [List.setIfInBounds_toArray, List.set_cons_zero, List.set_cons_succ]
          refine takeAt (i := 9) (d := 34) (v := .int .i64 (k : Int)) rfl rfl (by kernel_rfl) (by kernel_rfl) (by kernel_rfl) (fun _ _ _ h => h) (Or.inl ⟨by rfl, fun w hSw => by go_simp⟩) hHeld ?_
          simp only [List.setIfInBounds_toArray, List.set_cons_zero, List.set_cons_succ]
          refine takeAt (i := 10) (d := 35) (v := v2) rfl rfl (by kernel_rfl) (by kernel_rfl) (by kernel_rfl) (fun _ _ _ h => h) (Or.inl ⟨by rfl, fun w hSw => by go_simp⟩) hHeld ?_
          simp only [List.setIfInBounds_toArray, List.set_cons_zero, List.set_cons_succ]
          refine wpAnyH_ready (rs := [0, 6]) (by kernel_rfl) (by simp) ?_
          refine (AllReadyH.cons (o := { dst := some 25, op := Go.Op.buildSlice 22 0 #[], type := 22, pos := "ref.go:53", after := #[], guard := none }) rfl (fun K hK => ?_) (AllReadyH.cons (o := { dst := some 31, op := Go.Op.buildSlice 22 1 #[(0, Go.Operand.tmp 30)], type := 22, pos := "ref.go:53", after := #[{ on := 5, ground := Go.Ground.data }], guard := none }) rfl (fun K hK => ?_) AllReadyH.nil))
          · rw [if_pos (by rfl)]
            go_simp
            refine hK.out _ _ (hHeld.alloc (hHeld.size) _) (fun hHeld1 => ?_)
            clear hK K
            refine wpAnyH_ready (rs := [4, 6]) (by kernel_rfl) (by simp) ?_
            refine (AllReadyH.cons (o := { dst := some 29, op := Go.Op.call { callee := Go.Callee.builtin Go.Builtin.append, args := #[Go.Operand.tmp 25, Go.Operand.tmp 28], argTypes := #[22, 22] }, type := 22, pos := "ref.go:53", after := #[{ on := 0, ground := Go.Ground.data }, { on := 3, ground := Go.Ground.data }], guard := none }) rfl (fun K hK => ?_) (AllReadyH.cons (o := { dst := some 31, op := Go.Op.buildSlice 22 1 #[(0, Go.Operand.tmp 30)], type := 22, pos := "ref.go:53", after := #[{ on := 5, ground := Go.Ground.data }], guard := none }) rfl (fun K hK => ?_) AllReadyH.nil))
            · refine step_appI rfl (.tmp 25) (.tmp 28) rfl wr.heap.size _ _ [] (l.take k) (by simp [Act.eval]) (OwnI.made wr.drew (Nat.le_refl _)) (by simp [Act.eval]) (r1.below hHeld1) (by first | (simp; done) | (simp; omega)) hHeld1.size ?_
              intro v3 w3 o3 b3 g3
              refine hK.out _ _ (hHeld1.trans b3) (fun hHeld2 => ?_)
              clear hK K
              simp only [Act.put, List.setIfInBounds_toArray, List.set_cons_zero, List.set_cons_succ]
              refine wpAnyH_ready (rs := [6]) (by kernel_rfl) (by simp) ?_
              refine (AllReadyH.cons (o := { dst := some 31, op := Go.Op.buildSlice 22 1 #[(0, Go.Operand.tmp 30)], type := 22, pos := "ref.go:53", after := #[{ on := 5, ground := Go.Ground.data }], guard := none }) rfl (fun K hK => ?_) AllReadyH.nil)
              rw [if_pos (by rfl)]
              go_simp
              refine hK.out _ _ (hHeld2.alloc (hHeld2.size) _) (fun hHeld3 => ?_)
              clear hK K
              refine wpAnyH_ready (rs := [7]) (by kernel_rfl) (by simp) ?_
              refine (AllReadyH.cons (o := { dst := some 32, op := Go.Op.call { callee := Go.Callee.builtin Go.Builtin.append, args := #[Go.Operand.tmp 29, Go.Operand.tmp 31], argTypes := #[22, 22] }, type := 22, pos := "ref.go:53", after := #[{ on := 4, ground := Go.Ground.data }, { on := 6, ground := Go.Ground.data }, { on := 4, ground := Go.Ground.chain }], guard := none }) rfl (fun K hK => ?_) AllReadyH.nil)
              refine step_appI rfl (.tmp 29) (.tmp 31) rfl wr.heap.size _ _ _ [x] (by simp [Act.eval]) (o3.alloc _) (by simp [Act.eval]) (RdI.lit1 w3 x _ rfl) (by first | (simp; done) | (simp; omega)) hHeld3.size ?_
              intro v4 w4 o4 b4 g4
              refine hK.out _ _ (hHeld3.trans b4) (fun hHeldX => ?_)
              clear hK K
              simp only [Act.put, List.setIfInBounds_toArray, List.set_cons_zero, List.set_cons_succ]
              refine wpAnyH_ready (rs := [11]) (by kernel_rfl) (by simp) ?_
              refine (AllReadyH.cons (o := { dst := some 36, op := Go.Op.call { callee := Go.Callee.builtin Go.Builtin.append, args := #[Go.Operand.tmp 32, Go.Operand.tmp 35], argTypes := #[22, 22] }, type := 22, pos := "ref.go:53", after := #[{ on := 7, ground := Go.Ground.data }, { on := 10, ground := Go.Ground.data }, { on := 7, ground := Go.Ground.chain }], guard := none }) rfl (fun K hK => ?_) AllReadyH.nil)
              refine step_appI rfl (.tmp 32) (.tmp 35) rfl wr.heap.size _ _ _ (l.drop k) (by simp [Act.eval]) o4 (by simp [Act.eval]) (r2.below hHeldX) (by first | (simp; done) | (simp; omega)) hHeldX.size ?_
              intro v5 w5 o5 b5 g5
              refine hK.out _ _ (hHeldX.trans b5) (fun hHeldY => ?_)
              clear hK K
              simp only [Act.put, List.setIfInBounds_toArray, List.set_cons_zero, List.set_cons_succ]
              refine takeAt (i := 12) (d := 4) (v := v5) rfl rfl (by kernel_rfl) (by kernel_rfl) (by kernel_rfl) (fun _ _ _ h => h) (Or.inl ⟨by rfl, fun w hSw => by go_simp⟩) hHeldY ?_
              simp only [List.setIfInBounds_toArray, List.set_cons_zero, List.set_cons_succ]
              refine wpAnyH_done (by kernel_rfl) ?_ _
              go_wp2
              go_ret
              exact FIN.out _ _ hb (by simpa using o5) hHeldY
            · rw [if_pos (by rfl)]
              go_simp
              refine hK.out _ _ (hHeld1.alloc (hHeld1.size) _) (fun hHeld2 => ?_)
              clear hK K
              refine wpAnyH_ready (rs := [4]) (by kernel_rfl) (by simp) ?_
              refine (AllReadyH.cons (o := { dst := some 29, op := Go.Op.call { callee := Go.Callee.builtin Go.Builtin.append, args := #[Go.Operand.tmp 25, Go.Operand.tmp 28], argTypes := #[22, 22] }, type := 22, pos := "ref.go:53", after := #[{ on := 0, ground := Go.Ground.data }, { on := 3, ground := Go.Ground.data }], guard := none }) rfl (fun K hK => ?_) AllReadyH.nil)
              refine step_appI rfl (.tmp 25) (.tmp 28) rfl wr.heap.size _ _ [] (l.take k) (by simp [Act.eval]) ((OwnI.made wr.drew (Nat.le_refl _)).alloc _) (by simp [Act.eval]) (r1.below hHeld2) (by first | (simp; done) | (simp; omega)) hHeld2.size ?_
              intro v3 w3 o3 b3 g3
              refine hK.out _ _ (hHeld2.trans b3) (fun hHeld3 => ?_)
              clear hK K
              simp only [Act.put, List.setIfInBounds_toArray, List.set_cons_zero, List.set_cons_succ]
              refine wpAnyH_ready (rs := [7]) (by kernel_rfl) (by simp) ?_
              refine (AllReadyH.cons (o := { dst := some 32, op := Go.Op.call { callee := Go.Callee.builtin Go.Builtin.append, args := #[Go.Operand.tmp 29, Go.Operand.tmp 31], argTypes := #[22, 22] }, type := 22, pos := "ref.go:53", after := #[{ on := 4, ground := Go.Ground.data }, { on := 6, ground := Go.Ground.data }, { on := 4, ground := Go.Ground.chain }], guard := none }) rfl (fun K hK => ?_) AllReadyH.nil)
              refine step_appI rfl (.tmp 29) (.tmp 31) rfl wr.heap.size _ _ _ [x] (by simp [Act.eval]) o3 (by simp [Act.eval]) (RdI.far g3 (RdI.lit1 (wr.drew.alloc (.cells #[] 3)) x _ rfl) (by simp [Value.ownBlock])) (by first | (simp; done) | (simp; omega)) hHeld3.size ?_
              intro v4 w4 o4 b4 g4
              refine hK.out _ _ (hHeld3.trans b4) (fun hHeldX => ?_)
              clear hK K
              simp only [Act.put, List.setIfInBounds_toArray, List.set_cons_zero, List.set_cons_succ]
              refine wpAnyH_ready (rs := [11]) (by kernel_rfl) (by simp) ?_
              refine (AllReadyH.cons (o := { dst := some 36, op := Go.Op.call { callee := Go.Callee.builtin Go.Builtin.append, args := #[Go.Operand.tmp 32, Go.Operand.tmp 35], argTypes := #[22, 22] }, type := 22, pos := "ref.go:53", after := #[{ on := 7, ground := Go.Ground.data }, { on := 10, ground := Go.Ground.data }, { on := 7, ground := Go.Ground.chain }], guard := none }) rfl (fun K hK => ?_) AllReadyH.nil)
              refine step_appI rfl (.tmp 32) (.tmp 35) rfl wr.heap.size _ _ _ (l.drop k) (by simp [Act.eval]) o4 (by simp [Act.eval]) (r2.below hHeldX) (by first | (simp; done) | (simp; omega)) hHeldX.size ?_
              intro v5 w5 o5 b5 g5
              refine hK.out _ _ (hHeldX.trans b5) (fun hHeldY => ?_)
              clear hK K
              simp only [Act.put, List.setIfInBounds_toArray, List.set_cons_zero, List.set_cons_succ]
              refine takeAt (i := 12) (d := 4) (v := v5) rfl rfl (by kernel_rfl) (by kernel_rfl) (by kernel_rfl) (fun _ _ _ h => h) (Or.inl ⟨by rfl, fun w hSw => by go_simp⟩) hHeldY ?_
              simp only [List.setIfInBounds_toArray, List.set_cons_zero, List.set_cons_succ]
              refine wpAnyH_done (by kernel_rfl) ?_ _
              go_wp2
              go_ret
              exact FIN.out _ _ hb (by simpa using o5) hHeldY
          · rw [if_pos (by rfl)]
            go_simp
            refine hK.out _ _ (hHeld.alloc (hHeld.size) _) (fun hHeld1 => ?_)
            clear hK K
            refine wpAnyH_ready (rs := [0]) (by kernel_rfl) (by simp) ?_
            refine (AllReadyH.cons (o := { dst := some 25, op := Go.Op.buildSlice 22 0 #[], type := 22, pos := "ref.go:53", after := #[], guard := none }) rfl (fun K hK => ?_) AllReadyH.nil)
            rw [if_pos (by rfl)]
            go_simp
            refine hK.out _ _ (hHeld1.alloc (hHeld1.size) _) (fun hHeld2 => ?_)
            clear hK K
            refine wpAnyH_ready (rs := [4]) (by kernel_rfl) (by simp) ?_
            refine (AllReadyH.cons (o := { dst := some 29, op := Go.Op.call { callee := Go.Callee.builtin Go.Builtin.append, args := #[Go.Operand.tmp 25, Go.Operand.tmp 28], argTypes := #[22, 22] }, type := 22, pos := "ref.go:53", after := #[{ on := 0, ground := Go.Ground.data }, { on := 3, ground := Go.Ground.data }], guard := none }) rfl (fun K hK => ?_) AllReadyH.nil)
            refine step_appI rfl (.tmp 25) (.tmp 28) rfl wr.heap.size _ _ [] (l.take k) (by simp [Act.eval]) (OwnI.made _ hHeld1.size) (by simp [Act.eval]) (r1.below hHeld2) (by first | (simp; done) | (simp; omega)) hHeld2.size ?_
            intro v3 w3 o3 b3 g3
            refine hK.out _ _ (hHeld2.trans b3) (fun hHeld3 => ?_)
            clear hK K
            simp only [Act.put, List.setIfInBounds_toArray, List.set_cons_zero, List.set_cons_succ]
            refine wpAnyH_ready (rs := [7]) (by kernel_rfl) (by simp) ?_
            refine (AllReadyH.cons (o := { dst := some 32, op := Go.Op.call { callee := Go.Callee.builtin Go.Builtin.append, args := #[Go.Operand.tmp 29, Go.Operand.tmp 31], argTypes := #[22, 22] }, type := 22, pos := "ref.go:53", after := #[{ on := 4, ground := Go.Ground.data }, { on := 6, ground := Go.Ground.data }, { on := 4, ground := Go.Ground.chain }], guard := none }) rfl (fun K hK => ?_) AllReadyH.nil)
            refine step_appI rfl (.tmp 29) (.tmp 31) rfl wr.heap.size _ _ _ [x] (by simp [Act.eval]) o3 (by simp [Act.eval]) (RdI.far g3 ((RdI.lit1 wr.drew x _ rfl).alloc _) (by simp [Value.ownBlock])) (by first | (simp; done) | (simp; omega)) hHeld3.size ?_
            intro v4 w4 o4 b4 g4
            refine hK.out _ _ (hHeld3.trans b4) (fun hHeldX => ?_)
            clear hK K
            simp only [Act.put, List.setIfInBounds_toArray, List.set_cons_zero, List.set_cons_succ]
            refine wpAnyH_ready (rs := [11]) (by kernel_rfl) (by simp) ?_
            refine (AllReadyH.cons (o := { dst := some 36, op := Go.Op.call { callee := Go.Callee.builtin Go.Builtin.append, args := #[Go.Operand.tmp 32, Go.Operand.tmp 35], argTypes := #[22, 22] }, type := 22, pos := "ref.go:53", after := #[{ on := 7, ground := Go.Ground.data }, { on := 10, ground := Go.Ground.data }, { on := 7, ground := Go.Ground.chain }], guard := none }) rfl (fun K hK => ?_) AllReadyH.nil)
            refine step_appI rfl (.tmp 32) (.tmp 35) rfl wr.heap.size _ _ _ (l.drop k) (by simp [Act.eval]) o4 (by simp [Act.eval]) (r2.below hHeldX) (by first | (simp; done) | (simp; omega)) hHeldX.size ?_
            intro v5 w5 o5 b5 g5
            refine hK.out _ _ (hHeldX.trans b5) (fun hHeldY => ?_)
            clear hK K
            simp only [Act.put, List.setIfInBounds_toArray, List.set_cons_zero, List.set_cons_succ]
            refine takeAt (i := 12) (d := 4) (v := v5) rfl rfl (by kernel_rfl) (by kernel_rfl) (by kernel_rfl) (fun _ _ _ h => h) (Or.inl ⟨by rfl, fun w hSw => by go_simp⟩) hHeldY ?_
            simp only [List.setIfInBounds_toArray, List.set_cons_zero, List.set_cons_succ]
            refine wpAnyH_done (by kernel_rfl) ?_ _
            go_wp2
            go_ret
            exact FIN.out _ _ hb (by simpa using o5) hHeldY
      · have hk0' : ¬ (0 : Int) < (k : Int) := by omega
        have FIN := hid (FIN0.out k hk HK.out (fun h => absurd h hk0) wr)
        clear HK FIN0
        go_wp2_with fail
        have hs1 := fun wx => run_topI (A := A) (n := l.length) (c := c) (hi := k) (by omega) wx
        have hs2 := fun wx => run_fromI (A := A) (n := l.length) (c := c) (s := k) hk wx
        have r1 := (hR'.below hb).part 0 k (by omega) hk
        have r2 := (hR'.below hb).part k l.length hk (Nat.le_refl _)
        rw [Nat.sub_zero, List.drop_zero] at r1
        rw [List.take_of_length_le (by rw [List.length_drop]; exact Nat.le_refl _)] at r2
        generalize sliced A 0 k c 1 = v1 at *
        generalize sliced A k l.length c 1 = v2 at *
        refine wp_region_held_drew (S := fun w' => Below wr.heap.size wr w') (by kernel_rfl) (Below.refl _ _).drew (fun hHeld => ?_)
        refine takeAt (i := 1) (d := 26) (v := .slice A l.length c) rfl rfl (by kernel_rfl) (by kernel_rfl) (by kernel_rfl) (fun _ _ _ h => h) (Or.inl ⟨by rfl, fun w hSw => by go_simp⟩) hHeld ?_
        simp only [List.setIfInBounds_toArray, List.set_cons_zero, List.set_cons_succ]
        refine takeAt (i := 2) (d := 27) (v := .int .i64 (k : Int)) rfl rfl (by kernel_rfl) (by kernel_rfl) (by kernel_rfl) (fun _ _ _ h => h) (Or.inl ⟨by rfl, fun w hSw => by go_simp⟩) hHeld ?_
        simp only [List.setIfInBounds_toArray, List.set_cons_zero, List.set_cons_succ]
        refine takeAt (i := 3) (d := 28) (v := v1) rfl rfl (by kernel_rfl) (by kernel_rfl) (by kernel_rfl) (fun _ _ _ h => h) (Or.inl ⟨by rfl, fun w hSw => by go_simp⟩) hHeld ?_
        simp only [List.setIfInBounds_toArray, List.set_cons_zero, List.set_cons_succ]
        refine takeAt (i := 5) (d := 30) (v := .int .i64 x) rfl rfl (by kernel_rfl) (by kernel_rfl) (by kernel_rfl) (fun _ _ _ h => h) (Or.inl ⟨by rfl, fun w hSw => by go_simp⟩) hHeld ?_
        simp only [List.setIfInBounds_toArray, List.set_cons_zero, List.set_cons_succ]
        refine takeAt (i := 8) (d := 33) (v := .slice A l.length c) rfl rfl (by kernel_rfl) (by kernel_rfl) (by kernel_rfl) (fun _ _ _ h => h) (Or.inl ⟨by rfl, fun w hSw => by go_simp⟩) hHeld ?_
        simp only [List.setIfInBounds_toArray, List.set_cons_zero, List.set_cons_succ]
        refine takeAt (i := 9) (d := 34) (v := .int .i64 (k : Int)) rfl rfl (by kernel_rfl) (by kernel_rfl) (by kernel_rfl) (fun _ _ _ h => h) (Or.inl ⟨by rfl, fun w hSw => by go_simp⟩) hHeld ?_
        simp only [List.setIfInBounds_toArray, List.set_cons_zero, List.set_cons_succ]
        refine takeAt (i := 10) (d := 35) (v := v2) rfl rfl (by kernel_rfl) (by kernel_rfl) (by kernel_rfl) (fun _ _ _ h => h) (Or.inl ⟨by rfl, fun w hSw => by go_simp⟩) hHeld ?_
        simp only [List.setIfInBounds_toArray, List.set_cons_zero, List.set_cons_succ]
        refine wpAnyH_ready (rs := [0, 6]) (by kernel_rfl) (by simp) ?_
        refine (AllReadyH.cons (o := { dst := some 25, op := Go.Op.buildSlice 22 0 #[], type := 22, pos := "ref.go:53", after := #[], guard := none }) rfl (fun K hK => ?_) (AllReadyH.cons (o := { dst := some 31, op := Go.Op.buildSlice 22 1 #[(0, Go.Operand.tmp 30)], type := 22, pos := "ref.go:53", after := #[{ on := 5, ground := Go.Ground.data }], guard := none }) rfl (fun K hK => ?_) AllReadyH.nil))
        · rw [if_pos (by rfl)]
          go_simp
          refine hK.out _ _ (hHeld.alloc (hHeld.size) _) (fun hHeld1 => ?_)
          clear hK K
          refine wpAnyH_ready (rs := [4, 6]) (by kernel_rfl) (by simp) ?_
          refine (AllReadyH.cons (o := { dst := some 29, op := Go.Op.call { callee := Go.Callee.builtin Go.Builtin.append, args := #[Go.Operand.tmp 25, Go.Operand.tmp 28], argTypes := #[22, 22] }, type := 22, pos := "ref.go:53", after := #[{ on := 0, ground := Go.Ground.data }, { on := 3, ground := Go.Ground.data }], guard := none }) rfl (fun K hK => ?_) (AllReadyH.cons (o := { dst := some 31, op := Go.Op.buildSlice 22 1 #[(0, Go.Operand.tmp 30)], type := 22, pos := "ref.go:53", after := #[{ on := 5, ground := Go.Ground.data }], guard := none }) rfl (fun K hK => ?_) AllReadyH.nil))
          · refine step_appI rfl (.tmp 25) (.tmp 28) rfl wr.heap.size _ _ [] (l.take k) (by simp [Act.eval]) (OwnI.made wr.drew (Nat.le_refl _)) (by simp [Act.eval]) (r1.below hHeld1) (by first | (simp; done) | (simp; omega)) hHeld1.size ?_
            intro v3 w3 o3 b3 g3
            refine hK.out _ _ (hHeld1.trans b3) (fun hHeld2 => ?_)
            clear hK K
            simp only [Act.put, List.setIfInBounds_toArray, List.set_cons_zero, List.set_cons_succ]
            refine wpAnyH_ready (rs := [6]) (by kernel_rfl) (by simp) ?_
            refine (AllReadyH.cons (o := { dst := some 31, op := Go.Op.buildSlice 22 1 #[(0, Go.Operand.tmp 30)], type := 22, pos := "ref.go:53", after := #[{ on := 5, ground := Go.Ground.data }], guard := none }) rfl (fun K hK => ?_) AllReadyH.nil)
            rw [if_pos (by rfl)]
            go_simp
            refine hK.out _ _ (hHeld2.alloc (hHeld2.size) _) (fun hHeld3 => ?_)
            clear hK K
            refine wpAnyH_ready (rs := [7]) (by kernel_rfl) (by simp) ?_
            refine (AllReadyH.cons (o := { dst := some 32, op := Go.Op.call { callee := Go.Callee.builtin Go.Builtin.append, args := #[Go.Operand.tmp 29, Go.Operand.tmp 31], argTypes := #[22, 22] }, type := 22, pos := "ref.go:53", after := #[{ on := 4, ground := Go.Ground.data }, { on := 6, ground := Go.Ground.data }, { on := 4, ground := Go.Ground.chain }], guard := none }) rfl (fun K hK => ?_) AllReadyH.nil)
            refine step_appI rfl (.tmp 29) (.tmp 31) rfl wr.heap.size _ _ _ [x] (by simp [Act.eval]) (o3.alloc _) (by simp [Act.eval]) (RdI.lit1 w3 x _ rfl) (by first | (simp; done) | (simp; omega)) hHeld3.size ?_
            intro v4 w4 o4 b4 g4
            refine hK.out _ _ (hHeld3.trans b4) (fun hHeldX => ?_)
            clear hK K
            simp only [Act.put, List.setIfInBounds_toArray, List.set_cons_zero, List.set_cons_succ]
            refine wpAnyH_ready (rs := [11]) (by kernel_rfl) (by simp) ?_
            refine (AllReadyH.cons (o := { dst := some 36, op := Go.Op.call { callee := Go.Callee.builtin Go.Builtin.append, args := #[Go.Operand.tmp 32, Go.Operand.tmp 35], argTypes := #[22, 22] }, type := 22, pos := "ref.go:53", after := #[{ on := 7, ground := Go.Ground.data }, { on := 10, ground := Go.Ground.data }, { on := 7, ground := Go.Ground.chain }], guard := none }) rfl (fun K hK => ?_) AllReadyH.nil)
            refine step_appI rfl (.tmp 32) (.tmp 35) rfl wr.heap.size _ _ _ (l.drop k) (by simp [Act.eval]) o4 (by simp [Act.eval]) (r2.below hHeldX) (by first | (simp; done) | (simp; omega)) hHeldX.size ?_
            intro v5 w5 o5 b5 g5
            refine hK.out _ _ (hHeldX.trans b5) (fun hHeldY => ?_)
            clear hK K
            simp only [Act.put, List.setIfInBounds_toArray, List.set_cons_zero, List.set_cons_succ]
            refine takeAt (i := 12) (d := 4) (v := v5) rfl rfl (by kernel_rfl) (by kernel_rfl) (by kernel_rfl) (fun _ _ _ h => h) (Or.inl ⟨by rfl, fun w hSw => by go_simp⟩) hHeldY ?_
            simp only [List.setIfInBounds_toArray, List.set_cons_zero, List.set_cons_succ]
            refine wpAnyH_done (by kernel_rfl) ?_ _
            go_wp2
            go_ret
            exact FIN.out _ _ hb (by simpa using o5) hHeldY
          · rw [if_pos (by rfl)]
            go_simp
            refine hK.out _ _ (hHeld1.alloc (hHeld1.size) _) (fun hHeld2 => ?_)
            clear hK K
            refine wpAnyH_ready (rs := [4]) (by kernel_rfl) (by simp) ?_
            refine (AllReadyH.cons (o := { dst := some 29, op := Go.Op.call { callee := Go.Callee.builtin Go.Builtin.append, args := #[Go.Operand.tmp 25, Go.Operand.tmp 28], argTypes := #[22, 22] }, type := 22, pos := "ref.go:53", after := #[{ on := 0, ground := Go.Ground.data }, { on := 3, ground := Go.Ground.data }], guard := none }) rfl (fun K hK => ?_) AllReadyH.nil)
            refine step_appI rfl (.tmp 25) (.tmp 28) rfl wr.heap.size _ _ [] (l.take k) (by simp [Act.eval]) ((OwnI.made wr.drew (Nat.le_refl _)).alloc _) (by simp [Act.eval]) (r1.below hHeld2) (by first | (simp; done) | (simp; omega)) hHeld2.size ?_
            intro v3 w3 o3 b3 g3
            refine hK.out _ _ (hHeld2.trans b3) (fun hHeld3 => ?_)
            clear hK K
            simp only [Act.put, List.setIfInBounds_toArray, List.set_cons_zero, List.set_cons_succ]
            refine wpAnyH_ready (rs := [7]) (by kernel_rfl) (by simp) ?_
            refine (AllReadyH.cons (o := { dst := some 32, op := Go.Op.call { callee := Go.Callee.builtin Go.Builtin.append, args := #[Go.Operand.tmp 29, Go.Operand.tmp 31], argTypes := #[22, 22] }, type := 22, pos := "ref.go:53", after := #[{ on := 4, ground := Go.Ground.data }, { on := 6, ground := Go.Ground.data }, { on := 4, ground := Go.Ground.chain }], guard := none }) rfl (fun K hK => ?_) AllReadyH.nil)
            refine step_appI rfl (.tmp 29) (.tmp 31) rfl wr.heap.size _ _ _ [x] (by simp [Act.eval]) o3 (by simp [Act.eval]) (RdI.far g3 (RdI.lit1 (wr.drew.alloc (.cells #[] 3)) x _ rfl) (by simp [Value.ownBlock])) (by first | (simp; done) | (simp; omega)) hHeld3.size ?_
            intro v4 w4 o4 b4 g4
            refine hK.out _ _ (hHeld3.trans b4) (fun hHeldX => ?_)
            clear hK K
            simp only [Act.put, List.setIfInBounds_toArray, List.set_cons_zero, List.set_cons_succ]
            refine wpAnyH_ready (rs := [11]) (by kernel_rfl) (by simp) ?_
            refine (AllReadyH.cons (o := { dst := some 36, op := Go.Op.call { callee := Go.Callee.builtin Go.Builtin.append, args := #[Go.Operand.tmp 32, Go.Operand.tmp 35], argTypes := #[22, 22] }, type := 22, pos := "ref.go:53", after := #[{ on := 7, ground := Go.Ground.data }, { on := 10, ground := Go.Ground.data }, { on := 7, ground := Go.Ground.chain }], guard := none }) rfl (fun K hK => ?_) AllReadyH.nil)
            refine step_appI rfl (.tmp 32) (.tmp 35) rfl wr.heap.size _ _ _ (l.drop k) (by simp [Act.eval]) o4 (by simp [Act.eval]) (r2.below hHeldX) (by first | (simp; done) | (simp; omega)) hHeldX.size ?_
            intro v5 w5 o5 b5 g5
            refine hK.out _ _ (hHeldX.trans b5) (fun hHeldY => ?_)
            clear hK K
            simp only [Act.put, List.setIfInBounds_toArray, List.set_cons_zero, List.set_cons_succ]
            refine takeAt (i := 12) (d := 4) (v := v5) rfl rfl (by kernel_rfl) (by kernel_rfl) (by kernel_rfl) (fun _ _ _ h => h) (Or.inl ⟨by rfl, fun w hSw => by go_simp⟩) hHeldY ?_
            simp only [List.setIfInBounds_toArray, List.set_cons_zero, List.set_cons_succ]
            refine wpAnyH_done (by kernel_rfl) ?_ _
            go_wp2
            go_ret
            exact FIN.out _ _ hb (by simpa using o5) hHeldY
        · rw [if_pos (by rfl)]
          go_simp
          refine hK.out _ _ (hHeld.alloc (hHeld.size) _) (fun hHeld1 => ?_)
          clear hK K
          refine wpAnyH_ready (rs := [0]) (by kernel_rfl) (by simp) ?_
          refine (AllReadyH.cons (o := { dst := some 25, op := Go.Op.buildSlice 22 0 #[], type := 22, pos := "ref.go:53", after := #[], guard := none }) rfl (fun K hK => ?_) AllReadyH.nil)
          rw [if_pos (by rfl)]
          go_simp
          refine hK.out _ _ (hHeld1.alloc (hHeld1.size) _) (fun hHeld2 => ?_)
          clear hK K
          refine wpAnyH_ready (rs := [4]) (by kernel_rfl) (by simp) ?_
          refine (AllReadyH.cons (o := { dst := some 29, op := Go.Op.call { callee := Go.Callee.builtin Go.Builtin.append, args := #[Go.Operand.tmp 25, Go.Operand.tmp 28], argTypes := #[22, 22] }, type := 22, pos := "ref.go:53", after := #[{ on := 0, ground := Go.Ground.data }, { on := 3, ground := Go.Ground.data }], guard := none }) rfl (fun K hK => ?_) AllReadyH.nil)
          refine step_appI rfl (.tmp 25) (.tmp 28) rfl wr.heap.size _ _ [] (l.take k) (by simp [Act.eval]) (OwnI.made _ hHeld1.size) (by simp [Act.eval]) (r1.below hHeld2) (by first | (simp; done) | (simp; omega)) hHeld2.size ?_
          intro v3 w3 o3 b3 g3
          refine hK.out _ _ (hHeld2.trans b3) (fun hHeld3 => ?_)
          clear hK K
          simp only [Act.put, List.setIfInBounds_toArray, List.set_cons_zero, List.set_cons_succ]
          refine wpAnyH_ready (rs := [7]) (by kernel_rfl) (by simp) ?_
          refine (AllReadyH.cons (o := { dst := some 32, op := Go.Op.call { callee := Go.Callee.builtin Go.Builtin.append, args := #[Go.Operand.tmp 29, Go.Operand.tmp 31], argTypes := #[22, 22] }, type := 22, pos := "ref.go:53", after := #[{ on := 4, ground := Go.Ground.data }, { on := 6, ground := Go.Ground.data }, { on := 4, ground := Go.Ground.chain }], guard := none }) rfl (fun K hK => ?_) AllReadyH.nil)
          refine step_appI rfl (.tmp 29) (.tmp 31) rfl wr.heap.size _ _ _ [x] (by simp [Act.eval]) o3 (by simp [Act.eval]) (RdI.far g3 ((RdI.lit1 wr.drew x _ rfl).alloc _) (by simp [Value.ownBlock])) (by first | (simp; done) | (simp; omega)) hHeld3.size ?_
          intro v4 w4 o4 b4 g4
          refine hK.out _ _ (hHeld3.trans b4) (fun hHeldX => ?_)
          clear hK K
          simp only [Act.put, List.setIfInBounds_toArray, List.set_cons_zero, List.set_cons_succ]
          refine wpAnyH_ready (rs := [11]) (by kernel_rfl) (by simp) ?_
          refine (AllReadyH.cons (o := { dst := some 36, op := Go.Op.call { callee := Go.Callee.builtin Go.Builtin.append, args := #[Go.Operand.tmp 32, Go.Operand.tmp 35], argTypes := #[22, 22] }, type := 22, pos := "ref.go:53", after := #[{ on := 7, ground := Go.Ground.data }, { on := 10, ground := Go.Ground.data }, { on := 7, ground := Go.Ground.chain }], guard := none }) rfl (fun K hK => ?_) AllReadyH.nil)
          refine step_appI rfl (.tmp 32) (.tmp 35) rfl wr.heap.size _ _ _ (l.drop k) (by simp [Act.eval]) o4 (by simp [Act.eval]) (r2.below hHeldX) (by first | (simp; done) | (simp; omega)) hHeldX.size ?_
          intro v5 w5 o5 b5 g5
          refine hK.out _ _ (hHeldX.trans b5) (fun hHeldY => ?_)
          clear hK K
          simp only [Act.put, List.setIfInBounds_toArray, List.set_cons_zero, List.set_cons_succ]
          refine takeAt (i := 12) (d := 4) (v := v5) rfl rfl (by kernel_rfl) (by kernel_rfl) (by kernel_rfl) (fun _ _ _ h => h) (Or.inl ⟨by rfl, fun w hSw => by go_simp⟩) hHeldY ?_
          simp only [List.setIfInBounds_toArray, List.set_cons_zero, List.set_cons_succ]
          refine wpAnyH_done (by kernel_rfl) ?_ _
          go_wp2
          go_ret
          exact FIN.out _ _ hb (by simpa using o5) hHeldY
end Go.Proofs.Ytcdfjkhjdiojbaa
