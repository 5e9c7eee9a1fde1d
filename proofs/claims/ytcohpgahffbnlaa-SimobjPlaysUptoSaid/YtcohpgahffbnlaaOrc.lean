/-
  The reference's Put of a new object. Conditions: those that each theorem names.
-/
import Derived.Test.YtcohpgahffbnlaaOrb
import Derived.Test.YtcohpgahffbnlaaOrl
namespace Go.Icz
open Go.RowKit
theorem own_ne {W : World} {gA gC : Nat} {cs : Array Value} {t : TypeId} (hA : W.heap[gA]? = some (.cells #[] t (0, 0))) (hC : W.heap[gC]? = some (.cells cs t (0, 0))) (h : cs.size ≠ 0) : (Value.slice (some ⟨gA, 0, none⟩) 0 0).ownBlock ≠ some gC := fun e => by
  injection e with e
  have e' : gA = gC := e
  rw [e', hC] at hA
  injection hA with hA
  injection hA with hA _ _
  rw [hA] at h
  exact h rfl
end Go.Icz
namespace Go.Proofs.Ytcohpgahffbnlaa
open Go.RowKit Go.Icz Go.Maps Go.ChangeMaps Go.MapKept
set_option maxRecDepth 100000
set_option maxHeartbeats 40000000
variable {w : World} {T : Nat → Prop} {r : Nat} {lv cv : Value} {xs : List OV} {M : SM} {c : Nat}
theorem rdC {W : World} {g n c : Nat} {k : ByteArray} {A : Option Addr} (h : W.heap[g]? = some (.cells #[.string k, .slice A n c] 74 (0, 0))) : KRO.Rd W (.slice (some ⟨g, 0, none⟩) 1 1) [⟨k, A, n, c⟩] :=
  ⟨_, 1, rfl, by simp, fun _ => ⟨g, 0, rfl, row_lt h, fun j u hu => by
    rw [Nat.zero_add]
    exact held_cell h (by simpa [Kd.cells, KRO] using hu)⟩⟩
theorem ob_one {W : World} {k : ByteArray} {A : Option Addr} {n c B : Nat} {l : List Nat} (h : KB.Own W B (.slice A n c) l) (hT : ∀ j, B ≤ j → T j) : ObR W T [⟨k, A, n, c⟩] [(k, l)] := by
  refine ⟨rfl, fun i h1 h2 => ?_⟩
  have hi : i = 0 := by simpa using h1
  subst hi
  exact ⟨rfl, Kd.Own.mono h (Nat.zero_le _), fun g hg => hT g (h.lt g hg).1⟩
theorem RPut_ins (h : Rf w T r lv cv xs M) (hwf : WfS M c) (hT : ∀ k, w.heap.size ≤ k → T k) (k : ByteArray) (hk : k.size ≤ 9223372036854775807) {A1 : Option Addr} {C1 : Nat} {l : List Nat} (hv : KB.Rd w (.slice A1 l.length C1) l) (hfar : 0 < l.length → ∀ g, (Value.slice A1 l.length C1).ownBlock = some g → ¬ T g) (hlm : l.length ≤ 1048576) (hb : nameB k = true) (ho : okS M = true) (hf : (rfind M.L k).2 = false) (hfu : M.L.length < 4096) :
    Calls Try.prog 17 #[.pointer (some ⟨r, 0, none⟩), .string k, .slice A1 l.length C1] w fun e w' => e = .returned (.int .i64 (errS M)) ∧ ∃ lv' cv' xs', Rf w' T r lv' cv' xs' { askS M with L := M.L.take (rfind M.L k).1 ++ [(k, l)] ++ M.L.drop (rfind M.L k).1, ch := M.ch ++ [⟨M.now, k, true⟩] } ∧ Tch T w w' := by
  have hTr := h.tr
  have hFi := Find_is h k hwf.ln
  have hF := fun w1 => fine_is k w1 hk
  have hixl := rfind_le M.L k
  obtain ⟨A, cp, rfl, _⟩ := kro_at h.lo
  have hcp : xs.length ≤ cp := by
    obtain ⟨A', c', hv, hc⟩ := h.lo.rd.form
    injection hv with _ _ e3
    rw [e3]
    exact hc
  have hix : (rfind M.L k).1 ≤ xs.length := by rw [h.ob.1]; exact hixl
  have hxl : xs.length < 4096 := by rw [h.ob.1]; exact hfu
  have HR : Hid (∀ w1 w2, Below w.heap.size w w1 → Tch (fun _ => False) w1 w2 → Rf w2 T r (.slice A xs.length cp) cv xs M ∧ w2.cell? ⟨r, 4, none⟩ = some (.slice A xs.length cp)) := hid (fun w1 w2 b t => by
    have R := (h.below b).far t (fun _ h => h.elim)
    exact ⟨R, held_cell R.r_ rfl⟩)
  have hC := fun w2 (R2 : Rf w2 T r (.slice A xs.length cp) cv xs M) => Rcall_is R2 hwf
  have HTB : Hid (∀ w1, Below w.heap.size w w1 → Tch T w w1) := hid (fun w1 b => Tch.of_below b)
  have hb2 : 1 ≤ k.size ∧ begB k = true := by unfold nameB at hb; rw [Bool.and_eq_true, decide_eq_true_eq] at hb; exact hb
  rw [hb2.2] at hF
  obtain ⟨n1, n2, n3⟩ := nil_no hb2.1
  have d : decide (1048576 < (l.length : Int)) = false := decide_eq_false (by omega)
  have d2 : decide (4096 ≤ (xs.length : Int)) = false := decide_eq_false (by omega)
  rw [ho] at hC
  rw [hf] at hFi
  have HV := hid hv
  have HFR := hid hfar
  have HTT := hid hT
  have hlc : M.ch.length ≤ 4194304 := Nat.le_trans hwf.lc hwf.hc
  generalize errS M = er at *
  have HLM := hid hlm
  have HXL := hid hxl
  have HIX := hid hix
  have HCP := hid hcp
  clear hf hb hb2 ho hixl hv hfar hT h hwf hfu hcp hix hxl
  generalize (rfind M.L k).1 = ix at *
  obtain ⟨nl, hnl⟩ : ∃ nl, nl = l.length := ⟨_, rfl⟩
  have HNL := hid hnl
  rw [← hnl] at d hlm
  rw [← hnl]
  clear hnl
  go_enter Try.func17, Try.ntmps17
  go_upto_region 14 with (first
    | (go_at_call 29; refine hFi.mono ?_; rintro e w1 ⟨rfl, b1⟩; clear hFi)
    | (go_at_call 42; refine (hF _).mono ?_; rintro e w2 ⟨rfl, t2⟩; obtain ⟨R2, c4⟩ := HR.out _ _ b1 t2; clear hF HR)
    | (go_at_call 43; refine (hC _ R2).mono ?_; rintro e w3 ⟨rfl, R3, t3⟩; clear hC))
  have hnl := HNL.out
  subst hnl
  have HTC : Hid (Tch T w w3) := hid (((HTB.out _ b1).trans (t2.mono (fun _ h => h.elim))).trans (t3.mono (fun j hj => by rw [hj]; exact hTr)))
  clear c4 R2 b1 t2 t3 HTB
  have hT3 : Hid (∀ j, w3.heap.size ≤ j → T j) := hid (fun j hj => HTT.out j (Nat.le_trans HTC.out.size hj))
  have rb := rd_tch HV.out HTC.out HFR.out
  have CELL : Hid (∀ wx, Below w3.heap.size w3 wx → wx.cell? ⟨r, 4, none⟩ = some (.slice A xs.length cp)) := hid (fun wx b => held_cell (R3.below b).r_ rfl)
  have FRZ : Hid (∀ wx, Below w3.heap.size w3 wx → wx.frozen? ⟨r, 4, none⟩ = false) := hid (fun wx b => held_frozen (R3.below b).r_)
  have hs1 : ∀ wx, (Instr.slice 45 (.slice A xs.length cp) none (some (.int .i64 (ix : Int))) none).run Try.prog wx = .ok (sliced A 0 ix cp 2) wx := fun wx => run_topO (hi := ix) (by have := HIX.out; have := HCP.out; omega) wx
  have hs2 : ∀ wx, (Instr.slice 45 (.slice A xs.length cp) (some (.int .i64 (ix : Int))) none none).run Try.prog wx = .ok (sliced A ix xs.length cp 2) wx := fun wx => run_fromO (A := A) (n := xs.length) (c := cp) (s := ix) HIX.out wx
  have r1 := R3.lo.rd.part 0 ix (by omega) HIX.out
  have r2 := R3.lo.rd.part ix xs.length HIX.out (Nat.le_refl _)
  rw [Nat.sub_zero, List.drop_zero] at r1
  rw [List.take_of_length_le (by rw [List.length_drop]; omega)] at r2
  change KRO.Rd w3 (sliced A 0 ix cp 2) _ at r1
  change KRO.Rd w3 (sliced A ix xs.length cp 2) _ at r2
  generalize sliced A 0 ix cp 2 = v1 at *
  generalize sliced A ix xs.length cp 2 = v2 at *
  have ht1 : (xs.take ix).length ≤ 4096 := by have := HXL.out; rw [List.length_take]; omega
  have ht2 : (xs.drop ix).length ≤ 4096 := by have := HXL.out; rw [List.length_drop]; omega
  have HOB : Hid (∀ wx, Below w3.heap.size w3 wx → ObR wx T (xs.take ix) (M.L.take ix) ∧ ObR wx T (xs.drop ix) (M.L.drop ix)) := hid (fun wx b => ⟨(R3.below b).ob.take ix, (R3.below b).ob.drop ix⟩)
  generalize xs.take ix = x1 at *
  generalize xs.drop ix = x2 at *
  have OBR : Hid (∀ wx, Below w3.heap.size w3 wx → ∀ A7 k7, KB.Own wx w3.heap.size (.slice A7 l.length k7) l → ObR wx T (x1 ++ [⟨k, A7, l.length, k7⟩] ++ x2) (M.L.take ix ++ [(k, l)] ++ M.L.drop ix)) := hid (fun wx b A7 k7 o7 => ((HOB.out wx b).1.app (ob_one o7 hT3.out)).app (HOB.out wx b).2)
  have HR3 := hid R3
  have hm1 : ([] : List OV).length + x1.length ≤ maxLen := by simp; unfold maxLen; omega
  have hn1 : (([] : List OV).length + x1.length) * 40 ≤ 140737488355328 := by simp; omega
  have hmb : ([] : List Nat).length + l.length ≤ maxLen := by have := HLM.out; simp; unfold maxLen; omega
  have hnb : (([] : List Nat).length + l.length) * 1 ≤ 140737488355328 := by have := HLM.out; simp; omega
  have hm2 : ∀ {y : OV}, x1.length + [y].length ≤ maxLen := fun {y} => by simp; unfold maxLen; omega
  have hn2 : ∀ {y : OV}, (x1.length + [y].length) * 40 ≤ 140737488355328 := fun {y} => by simp; omega
  have hm3 : ∀ {y : OV}, (x1 ++ [y]).length + x2.length ≤ maxLen := fun {y} => by simp; unfold maxLen; omega
  have hn3 : ∀ {y : OV}, ((x1 ++ [y]).length + x2.length) * 40 ≤ 140737488355328 := fun {y} => by simp; omega
  clear R3 HOB HV HFR ht1 ht2
  go_cut [6] (fun _ wx => ∃ lv8 ys, Hid (Rf wx T r lv8 cv ys { askS M with L := M.L.take ix ++ [(k, l)] ++ M.L.drop ix }) ∧ Hid (Tch T w wx))
  case first =>

    refine wp_region_L 25 (fun w' => w'.cell? ⟨r, 4, none⟩ = some (.slice A xs.length cp)) (by kernel_rfl) ?_
    have bs := (Below.refl w3.heap.size w3).drew
    generalize w3.drew = Ws at *
    refine takeL (i := 0) (d := 60) (v := .pointer (some ⟨r, 0, none⟩)) rfl rfl (by kernel_rfl) (by kernel_rfl) (by kernel_rfl) (by kernel_rfl) (by kernel_rfl) (fun _ _ _ h => h) (Or.inl ⟨by rfl, fun w hSw => by go_simp⟩) (CELL.out _ bs) ?_
    simp only [List.setIfInBounds_toArray, List.set_cons_zero, List.set_cons_succ]
    refine takeL (i := 2) (d := 62) (v := .pointer (some ⟨r, 0, none⟩)) rfl rfl (by kernel_rfl) (by kernel_rfl) (by kernel_rfl) (by kernel_rfl) (by kernel_rfl) (fun _ _ _ h => h) (Or.inl ⟨by rfl, fun w hSw => by go_simp⟩) (CELL.out _ bs) ?_
    simp only [List.setIfInBounds_toArray, List.set_cons_zero, List.set_cons_succ]
    refine takeL (i := 3) (d := 63) (v := .pointer (some ⟨r, 0, none⟩)) rfl rfl (by kernel_rfl) (by kernel_rfl) (by kernel_rfl) (by kernel_rfl) (by kernel_rfl) (fun _ _ _ h => h) (Or.inl ⟨by rfl, fun w hSw => by go_simp⟩) (CELL.out _ bs) ?_
    simp only [List.setIfInBounds_toArray, List.set_cons_zero, List.set_cons_succ]
    refine takeL (i := 4) (d := 64) (v := .pointer (some ⟨r, 4, none⟩)) rfl rfl (by kernel_rfl) (by kernel_rfl) (by kernel_rfl) (by kernel_rfl) (by kernel_rfl) (fun _ _ _ h => h) (Or.inl ⟨by rfl, fun w hSw => by go_simp⟩) (CELL.out _ bs) ?_
    simp only [List.setIfInBounds_toArray, List.set_cons_zero, List.set_cons_succ]
    refine takeL (i := 5) (d := 65) (v := .slice A xs.length cp) rfl rfl (by kernel_rfl) (by kernel_rfl) (by kernel_rfl) (by kernel_rfl) (by kernel_rfl) (fun _ _ _ h => h) (Or.inl ⟨by rfl, fun w hSw => by go_simp⟩) (CELL.out _ bs) ?_
    simp only [List.setIfInBounds_toArray, List.set_cons_zero, List.set_cons_succ]
    refine takeL (i := 6) (d := 66) (v := .int .i64 (ix : Int)) rfl rfl (by kernel_rfl) (by kernel_rfl) (by kernel_rfl) (by kernel_rfl) (by kernel_rfl) (fun _ _ _ h => h) (Or.inl ⟨by rfl, fun w hSw => by go_simp⟩) (CELL.out _ bs) ?_
    simp only [List.setIfInBounds_toArray, List.set_cons_zero, List.set_cons_succ]
    refine takeL (i := 7) (d := 67) (v := v1) rfl rfl (by kernel_rfl) (by kernel_rfl) (by kernel_rfl) (by kernel_rfl) (by kernel_rfl) (fun _ _ _ h => h) (Or.inl ⟨by rfl, fun w hSw => by go_simp⟩) (CELL.out _ bs) ?_
    simp only [List.setIfInBounds_toArray, List.set_cons_zero, List.set_cons_succ]
    refine takeL (i := 9) (d := 69) (v := .string k) rfl rfl (by kernel_rfl) (by kernel_rfl) (by kernel_rfl) (by kernel_rfl) (by kernel_rfl) (fun _ _ _ h => h) (Or.inl ⟨by rfl, fun w hSw => by go_simp⟩) (CELL.out _ bs) ?_
    simp only [List.setIfInBounds_toArray, List.set_cons_zero, List.set_cons_succ]
    refine takeL (i := 11) (d := 71) (v := .slice A1 l.length C1) rfl rfl (by kernel_rfl) (by kernel_rfl) (by kernel_rfl) (by kernel_rfl) (by kernel_rfl) (fun _ _ _ h => h) (Or.inl ⟨by rfl, fun w hSw => by go_simp⟩) (CELL.out _ bs) ?_
    simp only [List.setIfInBounds_toArray, List.set_cons_zero, List.set_cons_succ]
    refine takeL (i := 16) (d := 76) (v := .pointer (some ⟨r, 0, none⟩)) rfl rfl (by kernel_rfl) (by kernel_rfl) (by kernel_rfl) (by kernel_rfl) (by kernel_rfl) (fun _ _ _ h => h) (Or.inl ⟨by rfl, fun w hSw => by go_simp⟩) (CELL.out _ bs) ?_
    simp only [List.setIfInBounds_toArray, List.set_cons_zero, List.set_cons_succ]
    refine takeL (i := 17) (d := 77) (v := .pointer (some ⟨r, 0, none⟩)) rfl rfl (by kernel_rfl) (by kernel_rfl) (by kernel_rfl) (by kernel_rfl) (by kernel_rfl) (fun _ _ _ h => h) (Or.inl ⟨by rfl, fun w hSw => by go_simp⟩) (CELL.out _ bs) ?_
    simp only [List.setIfInBounds_toArray, List.set_cons_zero, List.set_cons_succ]
    refine takeL (i := 18) (d := 78) (v := .pointer (some ⟨r, 4, none⟩)) rfl rfl (by kernel_rfl) (by kernel_rfl) (by kernel_rfl) (by kernel_rfl) (by kernel_rfl) (fun _ _ _ h => h) (Or.inl ⟨by rfl, fun w hSw => by go_simp⟩) (CELL.out _ bs) ?_
    simp only [List.setIfInBounds_toArray, List.set_cons_zero, List.set_cons_succ]
    refine takeL (i := 19) (d := 79) (v := .slice A xs.length cp) rfl rfl (by kernel_rfl) (by kernel_rfl) (by kernel_rfl) (by kernel_rfl) (by kernel_rfl) (fun _ _ _ h => h) (Or.inl ⟨by rfl, fun w hSw => by go_simp⟩) (CELL.out _ bs) ?_
    simp only [List.setIfInBounds_toArray, List.set_cons_zero, List.set_cons_succ]
    refine takeL (i := 20) (d := 80) (v := .int .i64 (ix : Int)) rfl rfl (by kernel_rfl) (by kernel_rfl) (by kernel_rfl) (by kernel_rfl) (by kernel_rfl) (fun _ _ _ h => h) (Or.inl ⟨by rfl, fun w hSw => by go_simp⟩) (CELL.out _ bs) ?_
    simp only [List.setIfInBounds_toArray, List.set_cons_zero, List.set_cons_succ]
    refine takeL (i := 21) (d := 81) (v := v2) rfl rfl (by kernel_rfl) (by kernel_rfl) (by kernel_rfl) (by kernel_rfl) (by kernel_rfl) (fun _ _ _ h => h) (Or.inl ⟨by rfl, fun w hSw => by go_simp⟩) (CELL.out _ bs) ?_
    simp only [List.setIfInBounds_toArray, List.set_cons_zero, List.set_cons_succ]
    refine readyL (rs := [1, 10]) (by kernel_rfl) (by simp) ?_
    refine AllReadyL.cons (o := { dst := some 61, op := Go.Op.buildSlice 45 0 #[], type := 45, pos := "ref.go:100", after := #[], guard := none }) rfl (fun K hK => ?_) ?_
    · rw [if_pos (by rfl)]
      go_simp
      have bsa := bs.alloc bs.size (.cells #[] 74)
      have rA := heap_alloc_new Ws (.cells #[] 74)
      have srA := bs.size
      refine hK.out _ _ (CELL.out _ bsa) ?_
      clear hK K
      generalize Ws.alloc (.cells #[] 74) = Wsa at *
      try simp only [List.setIfInBounds_toArray, List.set_cons_zero, List.set_cons_succ]
      refine readyL (rs := [8, 10]) (by kernel_rfl) (by simp) ?_
      refine AllReadyL.cons (o := { dst := some 68, op := Go.Op.call { callee := Go.Callee.builtin Go.Builtin.append, args := #[Go.Operand.tmp 61, Go.Operand.tmp 67], argTypes := #[45, 45] }, type := 45, pos := "ref.go:100", after := #[{ on := 1, ground := Go.Ground.data }, { on := 7, ground := Go.Ground.data }], guard := none }) rfl (fun K hK => ?_) ?_
      · refine Kd.step_appF (K := KRO) (w := Wsa) rfl (.tmp 61) (.tmp 67) 45 rfl Try.underlying45 infoRO rfl w3.heap.size (.slice (some ⟨_, 0, none⟩) 0 0) v1 [] x1 rfl (Kd.own_empty rA srA) rfl (r1.below bsa) hm1 hn1 bsa.size ?_
        intro v6 Wsaa o6 c6 F6 G6
        rw [List.nil_append] at o6
        have bsaa := bsa.trans c6
        refine hK.out _ _ (CELL.out _ bsaa) ?_
        clear hK K F6 G6
        try simp only [Act.put, List.setIfInBounds_toArray, List.set_cons_zero, List.set_cons_succ]
        refine readyL (rs := [10]) (by kernel_rfl) (by simp) ?_
        refine AllReadyL.cons (o := { dst := some 70, op := Go.Op.buildSlice 32 0 #[], type := 32, pos := "ref.go:100", after := #[], guard := none }) rfl (fun K hK => ?_) ?_
        · rw [if_pos (by rfl)]
          go_simp
          have bsaab := bsaa.alloc bsaa.size (.cells #[] 5)
          have o6 := o6.alloc (.cells #[] 5)
          have rB := heap_alloc_new Wsaa (.cells #[] 5)
          have srB := bsaa.size
          refine hK.out _ _ (CELL.out _ bsaab) ?_
          clear hK K
          generalize Wsaa.alloc (.cells #[] 5) = Wsaab at *
          try simp only [List.setIfInBounds_toArray, List.set_cons_zero, List.set_cons_succ]
          refine readyL (rs := [12]) (by kernel_rfl) (by simp) ?_
          refine AllReadyL.cons (o := { dst := some 72, op := Go.Op.call { callee := Go.Callee.builtin Go.Builtin.append, args := #[Go.Operand.tmp 70, Go.Operand.tmp 71], argTypes := #[32, 32] }, type := 32, pos := "ref.go:100", after := #[{ on := 10, ground := Go.Ground.data }, { on := 11, ground := Go.Ground.data }, { on := 8, ground := Go.Ground.chain }], guard := none }) rfl (fun K hK => ?_) ?_
          · refine Kd.step_appF (K := KB) (w := Wsaab) rfl (.tmp 70) (.tmp 71) 32 rfl Try.underlying32 infoB rfl w3.heap.size (.slice (some ⟨_, 0, none⟩) 0 0) (.slice A1 l.length C1) [] l rfl (Kd.own_empty rB srB) rfl (rb.below bsaab) hmb hnb bsaab.size ?_
            intro v7 Wsaabb o7 c7 F7 G7
            rw [List.nil_append] at o7
            obtain ⟨A7, k7, hv7, _⟩ := o7.rd.form
            subst hv7
            have bsaabb := bsaab.trans c7
            have o6 := own_keep F7 (by decide) o6
            refine hK.out _ _ (CELL.out _ bsaabb) ?_
            clear hK K F7 G7
            try simp only [Act.put, List.setIfInBounds_toArray, List.set_cons_zero, List.set_cons_succ]
            refine takeL (i := 13) (d := 73) (v := .agg #[.string k, .slice A7 l.length k7]) rfl rfl (by kernel_rfl) (by kernel_rfl) (by kernel_rfl) (by kernel_rfl) (by kernel_rfl) (fun _ _ _ h => h) (Or.inl ⟨by rfl, fun w hSw => by go_simp⟩) (CELL.out _ bsaabb) ?_
            simp only [List.setIfInBounds_toArray, List.set_cons_zero, List.set_cons_succ]
            refine readyL (rs := [14]) (by kernel_rfl) (by simp) ?_
            refine AllReadyL.cons (o := { dst := some 74, op := Go.Op.buildSlice 45 1 #[(0, Go.Operand.tmp 73)], type := 45, pos := "ref.go:100", after := #[{ on := 13, ground := Go.Ground.data }], guard := none }) rfl (fun K hK => ?_) ?_
            · rw [if_pos (by rfl)]
              go_simp
              have bsaabbb := bsaabb.alloc bsaabb.size (.cells #[.string k, .slice A7 l.length k7] 74)
              have o6 := o6.alloc (.cells #[.string k, .slice A7 l.length k7] 74)
              have o7 := o7.alloc (.cells #[.string k, .slice A7 l.length k7] 74)
              have rC := heap_alloc_new Wsaabb (.cells #[.string k, .slice A7 l.length k7] 74)
              have srC := bsaabb.size
              refine hK.out _ _ (CELL.out _ bsaabbb) ?_
              clear hK K
              generalize Wsaabb.alloc (.cells #[.string k, .slice A7 l.length k7] 74) = Wsaabbb at *
              try simp only [List.setIfInBounds_toArray, List.set_cons_zero, List.set_cons_succ]
              refine readyL (rs := [15]) (by kernel_rfl) (by simp) ?_
              refine AllReadyL.cons (o := { dst := some 75, op := Go.Op.call { callee := Go.Callee.builtin Go.Builtin.append, args := #[Go.Operand.tmp 68, Go.Operand.tmp 74], argTypes := #[45, 45] }, type := 45, pos := "ref.go:100", after := #[{ on := 8, ground := Go.Ground.data }, { on := 14, ground := Go.Ground.data }, { on := 12, ground := Go.Ground.chain }], guard := none }) rfl (fun K hK => ?_) AllReadyL.nil
              refine Kd.step_appF (K := KRO) (w := Wsaabbb) rfl (.tmp 68) (.tmp 74) 45 rfl Try.underlying45 infoRO rfl w3.heap.size v6 (.slice (some ⟨_, 0, none⟩) 1 1) x1 [⟨k, A7, l.length, k7⟩] rfl o6 rfl (rdC rC) hm2 hn2 bsaabbb.size ?_
              intro v8 X8 o8 c8 F8 G8
              have b8 := bsaabbb.trans c8
              have o7 := own_keep F8 (by decide) o7
              refine hK.out _ _ (CELL.out _ b8) ?_
              clear hK K F8 G8
              try simp only [Act.put, List.setIfInBounds_toArray, List.set_cons_zero, List.set_cons_succ]
              refine readyL (rs := [22]) (by kernel_rfl) (by simp) ?_
              refine AllReadyL.cons (o := { dst := some 82, op := Go.Op.call { callee := Go.Callee.builtin Go.Builtin.append, args := #[Go.Operand.tmp 75, Go.Operand.tmp 81], argTypes := #[45, 45] }, type := 45, pos := "ref.go:100", after := #[{ on := 15, ground := Go.Ground.data }, { on := 21, ground := Go.Ground.data }, { on := 15, ground := Go.Ground.chain }], guard := none }) rfl (fun K hK => ?_) AllReadyL.nil
              refine Kd.step_appF (K := KRO) (w := X8) rfl (.tmp 75) (.tmp 81) 45 rfl Try.underlying45 infoRO rfl w3.heap.size v8 v2 (x1 ++ [⟨k, A7, l.length, k7⟩]) x2 rfl o8 rfl (r2.below b8) hm3 hn3 b8.size ?_
              intro v9 X9 o9 c9 F9 G9
              have b9 := b8.trans c9
              have o7 := own_keep F9 (by decide) o7
              obtain ⟨ys, hys⟩ : ∃ ys, ys = x1 ++ [(⟨k, A7, l.length, k7⟩ : OV)] ++ x2 := ⟨_, rfl⟩
              rw [← hys] at o9
              have OB := hid (OBR.out X9 b9 A7 k7 o7)
              rw [← hys] at OB
              clear hys
              obtain ⟨A9, k9, hv9, _⟩ := o9.rd.form
              subst hv9
              have c4 := CELL.out _ b9
              have f4 := FRZ.out _ b9
              refine hK.out _ _ c4 ?_
              clear hK K F9 G9
              try simp only [Act.put, List.setIfInBounds_toArray, List.set_cons_zero, List.set_cons_succ]
              refine takeL (i := 23) (d := 83) (v := .pointer (some ⟨r, 0, none⟩)) rfl rfl (by kernel_rfl) (by kernel_rfl) (by kernel_rfl) (by kernel_rfl) (by kernel_rfl) (fun _ _ _ h => h) (Or.inl ⟨by rfl, fun w hSw => by go_simp⟩) (CELL.out _ b9) ?_
              simp only [List.setIfInBounds_toArray, List.set_cons_zero, List.set_cons_succ]
              refine takeL (i := 24) (d := 84) (v := .pointer (some ⟨r, 4, none⟩)) rfl rfl (by kernel_rfl) (by kernel_rfl) (by kernel_rfl) (by kernel_rfl) (by kernel_rfl) (fun _ _ _ h => h) (Or.inl ⟨by rfl, fun w hSw => by go_simp⟩) (CELL.out _ b9) ?_
              simp only [List.setIfInBounds_toArray, List.set_cons_zero, List.set_cons_succ]
              refine readyL (rs := [25]) (by kernel_rfl) (by simp) ?_
              refine AllReadyL.last (o := { dst := none, op := Go.Op.store 45 (Go.Operand.tmp 84) (Go.Operand.tmp 82), type := 0, pos := "ref.go:100", after := #[{ on := 24, ground := Go.Ground.data }, { on := 22, ground := Go.Ground.data }, { on := 22, ground := Go.Ground.chain }, { on := 0, ground := Go.Ground.phase }, { on := 1, ground := Go.Ground.phase }, { on := 2, ground := Go.Ground.phase }, { on := 3, ground := Go.Ground.phase }, { on := 4, ground := Go.Ground.phase }, { on := 5, ground := Go.Ground.phase }, { on := 6, ground := Go.Ground.phase }, { on := 7, ground := Go.Ground.phase }, { on := 8, ground := Go.Ground.phase }, { on := 9, ground := Go.Ground.phase }, { on := 10, ground := Go.Ground.phase }, { on := 11, ground := Go.Ground.phase }, { on := 12, ground := Go.Ground.phase }, { on := 13, ground := Go.Ground.phase }, { on := 14, ground := Go.Ground.phase }, { on := 15, ground := Go.Ground.phase }, { on := 16, ground := Go.Ground.phase }, { on := 17, ground := Go.Ground.phase }, { on := 18, ground := Go.Ground.phase }, { on := 19, ground := Go.Ground.phase }, { on := 20, ground := Go.Ground.phase }, { on := 21, ground := Go.Ground.phase }, { on := 22, ground := Go.Ground.phase }], guard := none }) rfl (fun K hK => ?_)
              rw [if_pos (by rfl)]
              go_simp
              refine hK.out _ _ ?_
              clear hK K
              refine doneL (by kernel_rfl) ?_
              have S8 := HR3.out.setL (M' := { askS M with L := M.L.take ix ++ [(k, l)] ++ M.L.drop ix }) b9 hT3.out o9 OB.out rfl rfl
              have T8 : Hid (Tch T w (X9.setCell ⟨r, 4, none⟩ (.slice A9 ys.length k9))) := hid ((HTC.out.trans (Tch.of_below b9)).trans (Tch.set _ _ ⟨r, 4, none⟩ _ hTr))
              go_wp2_with fail
              go_meet
              exact ⟨_, _, hid S8, T8⟩
            exact AllReadyL.nil
          exact AllReadyL.nil
        exact AllReadyL.nil
      refine AllReadyL.cons (o := { dst := some 70, op := Go.Op.buildSlice 32 0 #[], type := 32, pos := "ref.go:100", after := #[], guard := none }) rfl (fun K hK => ?_) ?_
      · rw [if_pos (by rfl)]
        go_simp
        have bsab := bsa.alloc bsa.size (.cells #[] 5)
        have rA := row_alloc rA (.cells #[] 5)
        have rB := heap_alloc_new Wsa (.cells #[] 5)
        have srB := bsa.size
        refine hK.out _ _ (CELL.out _ bsab) ?_
        clear hK K
        generalize Wsa.alloc (.cells #[] 5) = Wsab at *
        try simp only [List.setIfInBounds_toArray, List.set_cons_zero, List.set_cons_succ]
        refine readyL (rs := [8]) (by kernel_rfl) (by simp) ?_
        refine AllReadyL.cons (o := { dst := some 68, op := Go.Op.call { callee := Go.Callee.builtin Go.Builtin.append, args := #[Go.Operand.tmp 61, Go.Operand.tmp 67], argTypes := #[45, 45] }, type := 45, pos := "ref.go:100", after := #[{ on := 1, ground := Go.Ground.data }, { on := 7, ground := Go.Ground.data }], guard := none }) rfl (fun K hK => ?_) ?_
        · refine Kd.step_appF (K := KRO) (w := Wsab) rfl (.tmp 61) (.tmp 67) 45 rfl Try.underlying45 infoRO rfl w3.heap.size (.slice (some ⟨_, 0, none⟩) 0 0) v1 [] x1 rfl (Kd.own_empty rA srA) rfl (r1.below bsab) hm1 hn1 bsab.size ?_
          intro v6 Wsaba o6 c6 F6 G6
          rw [List.nil_append] at o6
          have bsaba := bsab.trans c6
          have rB := F6 _ _ _ (by decide) rB
          refine hK.out _ _ (CELL.out _ bsaba) ?_
          clear hK K F6 G6
          try simp only [Act.put, List.setIfInBounds_toArray, List.set_cons_zero, List.set_cons_succ]
          refine readyL (rs := [12]) (by kernel_rfl) (by simp) ?_
          refine AllReadyL.cons (o := { dst := some 72, op := Go.Op.call { callee := Go.Callee.builtin Go.Builtin.append, args := #[Go.Operand.tmp 70, Go.Operand.tmp 71], argTypes := #[32, 32] }, type := 32, pos := "ref.go:100", after := #[{ on := 10, ground := Go.Ground.data }, { on := 11, ground := Go.Ground.data }, { on := 8, ground := Go.Ground.chain }], guard := none }) rfl (fun K hK => ?_) ?_
          · refine Kd.step_appF (K := KB) (w := Wsaba) rfl (.tmp 70) (.tmp 71) 32 rfl Try.underlying32 infoB rfl w3.heap.size (.slice (some ⟨_, 0, none⟩) 0 0) (.slice A1 l.length C1) [] l rfl (Kd.own_empty rB srB) rfl (rb.below bsaba) hmb hnb bsaba.size ?_
            intro v7 Wsabab o7 c7 F7 G7
            rw [List.nil_append] at o7
            obtain ⟨A7, k7, hv7, _⟩ := o7.rd.form
            subst hv7
            have bsabab := bsaba.trans c7
            have o6 := own_keep F7 (by decide) o6
            refine hK.out _ _ (CELL.out _ bsabab) ?_
            clear hK K F7 G7
            try simp only [Act.put, List.setIfInBounds_toArray, List.set_cons_zero, List.set_cons_succ]
            refine takeL (i := 13) (d := 73) (v := .agg #[.string k, .slice A7 l.length k7]) rfl rfl (by kernel_rfl) (by kernel_rfl) (by kernel_rfl) (by kernel_rfl) (by kernel_rfl) (fun _ _ _ h => h) (Or.inl ⟨by rfl, fun w hSw => by go_simp⟩) (CELL.out _ bsabab) ?_
            simp only [List.setIfInBounds_toArray, List.set_cons_zero, List.set_cons_succ]
            refine readyL (rs := [14]) (by kernel_rfl) (by simp) ?_
            refine AllReadyL.cons (o := { dst := some 74, op := Go.Op.buildSlice 45 1 #[(0, Go.Operand.tmp 73)], type := 45, pos := "ref.go:100", after := #[{ on := 13, ground := Go.Ground.data }], guard := none }) rfl (fun K hK => ?_) ?_
            · rw [if_pos (by rfl)]
              go_simp
              have bsababb := bsabab.alloc bsabab.size (.cells #[.string k, .slice A7 l.length k7] 74)
              have o6 := o6.alloc (.cells #[.string k, .slice A7 l.length k7] 74)
              have o7 := o7.alloc (.cells #[.string k, .slice A7 l.length k7] 74)
              have rC := heap_alloc_new Wsabab (.cells #[.string k, .slice A7 l.length k7] 74)
              have srC := bsabab.size
              refine hK.out _ _ (CELL.out _ bsababb) ?_
              clear hK K
              generalize Wsabab.alloc (.cells #[.string k, .slice A7 l.length k7] 74) = Wsababb at *
              try simp only [List.setIfInBounds_toArray, List.set_cons_zero, List.set_cons_succ]
              refine readyL (rs := [15]) (by kernel_rfl) (by simp) ?_
              refine AllReadyL.cons (o := { dst := some 75, op := Go.Op.call { callee := Go.Callee.builtin Go.Builtin.append, args := #[Go.Operand.tmp 68, Go.Operand.tmp 74], argTypes := #[45, 45] }, type := 45, pos := "ref.go:100", after := #[{ on := 8, ground := Go.Ground.data }, { on := 14, ground := Go.Ground.data }, { on := 12, ground := Go.Ground.chain }], guard := none }) rfl (fun K hK => ?_) AllReadyL.nil
              refine Kd.step_appF (K := KRO) (w := Wsababb) rfl (.tmp 68) (.tmp 74) 45 rfl Try.underlying45 infoRO rfl w3.heap.size v6 (.slice (some ⟨_, 0, none⟩) 1 1) x1 [⟨k, A7, l.length, k7⟩] rfl o6 rfl (rdC rC) hm2 hn2 bsababb.size ?_
              intro v8 X8 o8 c8 F8 G8
              have b8 := bsababb.trans c8
              have o7 := own_keep F8 (by decide) o7
              refine hK.out _ _ (CELL.out _ b8) ?_
              clear hK K F8 G8
              try simp only [Act.put, List.setIfInBounds_toArray, List.set_cons_zero, List.set_cons_succ]
              refine readyL (rs := [22]) (by kernel_rfl) (by simp) ?_
              refine AllReadyL.cons (o := { dst := some 82, op := Go.Op.call { callee := Go.Callee.builtin Go.Builtin.append, args := #[Go.Operand.tmp 75, Go.Operand.tmp 81], argTypes := #[45, 45] }, type := 45, pos := "ref.go:100", after := #[{ on := 15, ground := Go.Ground.data }, { on := 21, ground := Go.Ground.data }, { on := 15, ground := Go.Ground.chain }], guard := none }) rfl (fun K hK => ?_) AllReadyL.nil
              refine Kd.step_appF (K := KRO) (w := X8) rfl (.tmp 75) (.tmp 81) 45 rfl Try.underlying45 infoRO rfl w3.heap.size v8 v2 (x1 ++ [⟨k, A7, l.length, k7⟩]) x2 rfl o8 rfl (r2.below b8) hm3 hn3 b8.size ?_
              intro v9 X9 o9 c9 F9 G9
              have b9 := b8.trans c9
              have o7 := own_keep F9 (by decide) o7
              obtain ⟨ys, hys⟩ : ∃ ys, ys = x1 ++ [(⟨k, A7, l.length, k7⟩ : OV)] ++ x2 := ⟨_, rfl⟩
              rw [← hys] at o9
              have OB := hid (OBR.out X9 b9 A7 k7 o7)
              rw [← hys] at OB
              clear hys
              obtain ⟨A9, k9, hv9, _⟩ := o9.rd.form
              subst hv9
              have c4 := CELL.out _ b9
              have f4 := FRZ.out _ b9
              refine hK.out _ _ c4 ?_
              clear hK K F9 G9
              try simp only [Act.put, List.setIfInBounds_toArray, List.set_cons_zero, List.set_cons_succ]
              refine takeL (i := 23) (d := 83) (v := .pointer (some ⟨r, 0, none⟩)) rfl rfl (by kernel_rfl) (by kernel_rfl) (by kernel_rfl) (by kernel_rfl) (by kernel_rfl) (fun _ _ _ h => h) (Or.inl ⟨by rfl, fun w hSw => by go_simp⟩) (CELL.out _ b9) ?_
              simp only [List.setIfInBounds_toArray, List.set_cons_zero, List.set_cons_succ]
              refine takeL (i := 24) (d := 84) (v := .pointer (some ⟨r, 4, none⟩)) rfl rfl (by kernel_rfl) (by kernel_rfl) (by kernel_rfl) (by kernel_rfl) (by kernel_rfl) (fun _ _ _ h => h) (Or.inl ⟨by rfl, fun w hSw => by go_simp⟩) (CELL.out _ b9) ?_
              simp only [List.setIfInBounds_toArray, List.set_cons_zero, List.set_cons_succ]
              refine readyL (rs := [25]) (by kernel_rfl) (by simp) ?_
              refine AllReadyL.last (o := { dst := none, op := Go.Op.store 45 (Go.Operand.tmp 84) (Go.Operand.tmp 82), type := 0, pos := "ref.go:100", after := #[{ on := 24, ground := Go.Ground.data }, { on := 22, ground := Go.Ground.data }, { on := 22, ground := Go.Ground.chain }, { on := 0, ground := Go.Ground.phase }, { on := 1, ground := Go.Ground.phase }, { on := 2, ground := Go.Ground.phase }, { on := 3, ground := Go.Ground.phase }, { on := 4, ground := Go.Ground.phase }, { on := 5, ground := Go.Ground.phase }, { on := 6, ground := Go.Ground.phase }, { on := 7, ground := Go.Ground.phase }, { on := 8, ground := Go.Ground.phase }, { on := 9, ground := Go.Ground.phase }, { on := 10, ground := Go.Ground.phase }, { on := 11, ground := Go.Ground.phase }, { on := 12, ground := Go.Ground.phase }, { on := 13, ground := Go.Ground.phase }, { on := 14, ground := Go.Ground.phase }, { on := 15, ground := Go.Ground.phase }, { on := 16, ground := Go.Ground.phase }, { on := 17, ground := Go.Ground.phase }, { on := 18, ground := Go.Ground.phase }, { on := 19, ground := Go.Ground.phase }, { on := 20, ground := Go.Ground.phase }, { on := 21, ground := Go.Ground.phase }, { on := 22, ground := Go.Ground.phase }], guard := none }) rfl (fun K hK => ?_)
              rw [if_pos (by rfl)]
              go_simp
              refine hK.out _ _ ?_
              clear hK K
              refine doneL (by kernel_rfl) ?_
              have S8 := HR3.out.setL (M' := { askS M with L := M.L.take ix ++ [(k, l)] ++ M.L.drop ix }) b9 hT3.out o9 OB.out rfl rfl
              have T8 : Hid (Tch T w (X9.setCell ⟨r, 4, none⟩ (.slice A9 ys.length k9))) := hid ((HTC.out.trans (Tch.of_below b9)).trans (Tch.set _ _ ⟨r, 4, none⟩ _ hTr))
              go_wp2_with fail
              go_meet
              exact ⟨_, _, hid S8, T8⟩
            exact AllReadyL.nil
          exact AllReadyL.nil
        exact AllReadyL.nil
      exact AllReadyL.nil
    refine AllReadyL.cons (o := { dst := some 70, op := Go.Op.buildSlice 32 0 #[], type := 32, pos := "ref.go:100", after := #[], guard := none }) rfl (fun K hK => ?_) ?_
    · rw [if_pos (by rfl)]
      go_simp
      have bsb := bs.alloc bs.size (.cells #[] 5)
      have rB := heap_alloc_new Ws (.cells #[] 5)
      have srB := bs.size
      refine hK.out _ _ (CELL.out _ bsb) ?_
      clear hK K
      generalize Ws.alloc (.cells #[] 5) = Wsb at *
      try simp only [List.setIfInBounds_toArray, List.set_cons_zero, List.set_cons_succ]
      refine readyL (rs := [1]) (by kernel_rfl) (by simp) ?_
      refine AllReadyL.cons (o := { dst := some 61, op := Go.Op.buildSlice 45 0 #[], type := 45, pos := "ref.go:100", after := #[], guard := none }) rfl (fun K hK => ?_) ?_
      · rw [if_pos (by rfl)]
        go_simp
        have bsba := bsb.alloc bsb.size (.cells #[] 74)
        have rB := row_alloc rB (.cells #[] 74)
        have rA := heap_alloc_new Wsb (.cells #[] 74)
        have srA := bsb.size
        refine hK.out _ _ (CELL.out _ bsba) ?_
        clear hK K
        generalize Wsb.alloc (.cells #[] 74) = Wsba at *
        try simp only [List.setIfInBounds_toArray, List.set_cons_zero, List.set_cons_succ]
        refine readyL (rs := [8]) (by kernel_rfl) (by simp) ?_
        refine AllReadyL.cons (o := { dst := some 68, op := Go.Op.call { callee := Go.Callee.builtin Go.Builtin.append, args := #[Go.Operand.tmp 61, Go.Operand.tmp 67], argTypes := #[45, 45] }, type := 45, pos := "ref.go:100", after := #[{ on := 1, ground := Go.Ground.data }, { on := 7, ground := Go.Ground.data }], guard := none }) rfl (fun K hK => ?_) ?_
        · refine Kd.step_appF (K := KRO) (w := Wsba) rfl (.tmp 61) (.tmp 67) 45 rfl Try.underlying45 infoRO rfl w3.heap.size (.slice (some ⟨_, 0, none⟩) 0 0) v1 [] x1 rfl (Kd.own_empty rA srA) rfl (r1.below bsba) hm1 hn1 bsba.size ?_
          intro v6 Wsbaa o6 c6 F6 G6
          rw [List.nil_append] at o6
          have bsbaa := bsba.trans c6
          have rB := F6 _ _ _ (by decide) rB
          refine hK.out _ _ (CELL.out _ bsbaa) ?_
          clear hK K F6 G6
          try simp only [Act.put, List.setIfInBounds_toArray, List.set_cons_zero, List.set_cons_succ]
          refine readyL (rs := [12]) (by kernel_rfl) (by simp) ?_
          refine AllReadyL.cons (o := { dst := some 72, op := Go.Op.call { callee := Go.Callee.builtin Go.Builtin.append, args := #[Go.Operand.tmp 70, Go.Operand.tmp 71], argTypes := #[32, 32] }, type := 32, pos := "ref.go:100", after := #[{ on := 10, ground := Go.Ground.data }, { on := 11, ground := Go.Ground.data }, { on := 8, ground := Go.Ground.chain }], guard := none }) rfl (fun K hK => ?_) ?_
          · refine Kd.step_appF (K := KB) (w := Wsbaa) rfl (.tmp 70) (.tmp 71) 32 rfl Try.underlying32 infoB rfl w3.heap.size (.slice (some ⟨_, 0, none⟩) 0 0) (.slice A1 l.length C1) [] l rfl (Kd.own_empty rB srB) rfl (rb.below bsbaa) hmb hnb bsbaa.size ?_
            intro v7 Wsbaab o7 c7 F7 G7
            rw [List.nil_append] at o7
            obtain ⟨A7, k7, hv7, _⟩ := o7.rd.form
            subst hv7
            have bsbaab := bsbaa.trans c7
            have o6 := own_keep F7 (by decide) o6
            refine hK.out _ _ (CELL.out _ bsbaab) ?_
            clear hK K F7 G7
            try simp only [Act.put, List.setIfInBounds_toArray, List.set_cons_zero, List.set_cons_succ]
            refine takeL (i := 13) (d := 73) (v := .agg #[.string k, .slice A7 l.length k7]) rfl rfl (by kernel_rfl) (by kernel_rfl) (by kernel_rfl) (by kernel_rfl) (by kernel_rfl) (fun _ _ _ h => h) (Or.inl ⟨by rfl, fun w hSw => by go_simp⟩) (CELL.out _ bsbaab) ?_
            simp only [List.setIfInBounds_toArray, List.set_cons_zero, List.set_cons_succ]
            refine readyL (rs := [14]) (by kernel_rfl) (by simp) ?_
            refine AllReadyL.cons (o := { dst := some 74, op := Go.Op.buildSlice 45 1 #[(0, Go.Operand.tmp 73)], type := 45, pos := "ref.go:100", after := #[{ on := 13, ground := Go.Ground.data }], guard := none }) rfl (fun K hK => ?_) ?_
            · rw [if_pos (by rfl)]
              go_simp
              have bsbaabb := bsbaab.alloc bsbaab.size (.cells #[.string k, .slice A7 l.length k7] 74)
              have o6 := o6.alloc (.cells #[.string k, .slice A7 l.length k7] 74)
              have o7 := o7.alloc (.cells #[.string k, .slice A7 l.length k7] 74)
              have rC := heap_alloc_new Wsbaab (.cells #[.string k, .slice A7 l.length k7] 74)
              have srC := bsbaab.size
              refine hK.out _ _ (CELL.out _ bsbaabb) ?_
              clear hK K
              generalize Wsbaab.alloc (.cells #[.string k, .slice A7 l.length k7] 74) = Wsbaabb at *
              try simp only [List.setIfInBounds_toArray, List.set_cons_zero, List.set_cons_succ]
              refine readyL (rs := [15]) (by kernel_rfl) (by simp) ?_
              refine AllReadyL.cons (o := { dst := some 75, op := Go.Op.call { callee := Go.Callee.builtin Go.Builtin.append, args := #[Go.Operand.tmp 68, Go.Operand.tmp 74], argTypes := #[45, 45] }, type := 45, pos := "ref.go:100", after := #[{ on := 8, ground := Go.Ground.data }, { on := 14, ground := Go.Ground.data }, { on := 12, ground := Go.Ground.chain }], guard := none }) rfl (fun K hK => ?_) AllReadyL.nil
              refine Kd.step_appF (K := KRO) (w := Wsbaabb) rfl (.tmp 68) (.tmp 74) 45 rfl Try.underlying45 infoRO rfl w3.heap.size v6 (.slice (some ⟨_, 0, none⟩) 1 1) x1 [⟨k, A7, l.length, k7⟩] rfl o6 rfl (rdC rC) hm2 hn2 bsbaabb.size ?_
              intro v8 X8 o8 c8 F8 G8
              have b8 := bsbaabb.trans c8
              have o7 := own_keep F8 (by decide) o7
              refine hK.out _ _ (CELL.out _ b8) ?_
              clear hK K F8 G8
              try simp only [Act.put, List.setIfInBounds_toArray, List.set_cons_zero, List.set_cons_succ]
              refine readyL (rs := [22]) (by kernel_rfl) (by simp) ?_
              refine AllReadyL.cons (o := { dst := some 82, op := Go.Op.call { callee := Go.Callee.builtin Go.Builtin.append, args := #[Go.Operand.tmp 75, Go.Operand.tmp 81], argTypes := #[45, 45] }, type := 45, pos := "ref.go:100", after := #[{ on := 15, ground := Go.Ground.data }, { on := 21, ground := Go.Ground.data }, { on := 15, ground := Go.Ground.chain }], guard := none }) rfl (fun K hK => ?_) AllReadyL.nil
              refine Kd.step_appF (K := KRO) (w := X8) rfl (.tmp 75) (.tmp 81) 45 rfl Try.underlying45 infoRO rfl w3.heap.size v8 v2 (x1 ++ [⟨k, A7, l.length, k7⟩]) x2 rfl o8 rfl (r2.below b8) hm3 hn3 b8.size ?_
              intro v9 X9 o9 c9 F9 G9
              have b9 := b8.trans c9
              have o7 := own_keep F9 (by decide) o7
              obtain ⟨ys, hys⟩ : ∃ ys, ys = x1 ++ [(⟨k, A7, l.length, k7⟩ : OV)] ++ x2 := ⟨_, rfl⟩
              rw [← hys] at o9
              have OB := hid (OBR.out X9 b9 A7 k7 o7)
              rw [← hys] at OB
              clear hys
              obtain ⟨A9, k9, hv9, _⟩ := o9.rd.form
              subst hv9
              have c4 := CELL.out _ b9
              have f4 := FRZ.out _ b9
              refine hK.out _ _ c4 ?_
              clear hK K F9 G9
              try simp only [Act.put, List.setIfInBounds_toArray, List.set_cons_zero, List.set_cons_succ]
              refine takeL (i := 23) (d := 83) (v := .pointer (some ⟨r, 0, none⟩)) rfl rfl (by kernel_rfl) (by kernel_rfl) (by kernel_rfl) (by kernel_rfl) (by kernel_rfl) (fun _ _ _ h => h) (Or.inl ⟨by rfl, fun w hSw => by go_simp⟩) (CELL.out _ b9) ?_
              simp only [List.setIfInBounds_toArray, List.set_cons_zero, List.set_cons_succ]
              refine takeL (i := 24) (d := 84) (v := .pointer (some ⟨r, 4, none⟩)) rfl rfl (by kernel_rfl) (by kernel_rfl) (by kernel_rfl) (by kernel_rfl) (by kernel_rfl) (fun _ _ _ h => h) (Or.inl ⟨by rfl, fun w hSw => by go_simp⟩) (CELL.out _ b9) ?_
              simp only [List.setIfInBounds_toArray, List.set_cons_zero, List.set_cons_succ]
              refine readyL (rs := [25]) (by kernel_rfl) (by simp) ?_
              refine AllReadyL.last (o := { dst := none, op := Go.Op.store 45 (Go.Operand.tmp 84) (Go.Operand.tmp 82), type := 0, pos := "ref.go:100", after := #[{ on := 24, ground := Go.Ground.data }, { on := 22, ground := Go.Ground.data }, { on := 22, ground := Go.Ground.chain }, { on := 0, ground := Go.Ground.phase }, { on := 1, ground := Go.Ground.phase }, { on := 2, ground := Go.Ground.phase }, { on := 3, ground := Go.Ground.phase }, { on := 4, ground := Go.Ground.phase }, { on := 5, ground := Go.Ground.phase }, { on := 6, ground := Go.Ground.phase }, { on := 7, ground := Go.Ground.phase }, { on := 8, ground := Go.Ground.phase }, { on := 9, ground := Go.Ground.phase }, { on := 10, ground := Go.Ground.phase }, { on := 11, ground := Go.Ground.phase }, { on := 12, ground := Go.Ground.phase }, { on := 13, ground := Go.Ground.phase }, { on := 14, ground := Go.Ground.phase }, { on := 15, ground := Go.Ground.phase }, { on := 16, ground := Go.Ground.phase }, { on := 17, ground := Go.Ground.phase }, { on := 18, ground := Go.Ground.phase }, { on := 19, ground := Go.Ground.phase }, { on := 20, ground := Go.Ground.phase }, { on := 21, ground := Go.Ground.phase }, { on := 22, ground := Go.Ground.phase }], guard := none }) rfl (fun K hK => ?_)
              rw [if_pos (by rfl)]
              go_simp
              refine hK.out _ _ ?_
              clear hK K
              refine doneL (by kernel_rfl) ?_
              have S8 := HR3.out.setL (M' := { askS M with L := M.L.take ix ++ [(k, l)] ++ M.L.drop ix }) b9 hT3.out o9 OB.out rfl rfl
              have T8 : Hid (Tch T w (X9.setCell ⟨r, 4, none⟩ (.slice A9 ys.length k9))) := hid ((HTC.out.trans (Tch.of_below b9)).trans (Tch.set _ _ ⟨r, 4, none⟩ _ hTr))
              go_wp2_with fail
              go_meet
              exact ⟨_, _, hid S8, T8⟩
            exact AllReadyL.nil
          exact AllReadyL.nil
        exact AllReadyL.nil
      exact AllReadyL.nil
    exact AllReadyL.nil
  case rest =>
    obtain ⟨lv8, ys, S8h, T8⟩ := hcut
    have S8 := S8h.out
    generalize wc = w8 at *
    have d8 : Below w8.heap.size w8 w8.drew := (Below.refl _ _).drew
    have S9 := S8.below d8
    have e1 : w8.drew.cell? ⟨r, 5, none⟩ = some cv := held_cell S9.r_ rfl
    have e2 : w8.drew.cell? ⟨r, 1, none⟩ = some (.int .i64 (M.now : Int)) := held_cell S9.r_ rfl
    have S9a := S9.below ((Below.refl _ w8.drew).alloc (Nat.le_refl _) (.cells #[.string k, .int .i64 (M.now : Int), .bool true] 84))
    have e3 : (w8.drew.alloc (.cells #[.string k, .int .i64 (M.now : Int), .bool true] 84)).cell? ⟨r, 5, none⟩ = some cv := held_cell S9a.r_ rfl
    have e4 : (w8.drew.alloc (.cells #[.string k, .int .i64 (M.now : Int), .bool true] 84)).cell? ⟨r, 1, none⟩ = some (.int .i64 (M.now : Int)) := held_cell S9a.r_ rfl
    obtain ⟨v9, w9, hrun, e5, e6, HS⟩ := S9.append (fun j hj => HTT.out j (Nat.le_trans T8.out.size hj)) ⟨M.now, k, true⟩ hlc (M' := { askS M with L := M.L.take ix ++ [(k, l)] ++ M.L.drop ix, ch := M.ch ++ [⟨M.now, k, true⟩] }) rfl rfl rfl
    have e7 : ((w8.alloc (.cells #[.string k, .int .i64 (M.now : Int), .bool true] 84)).drew).cell? ⟨r, 5, none⟩ = some cv := e3
    have e8 : ((w8.alloc (.cells #[.string k, .int .i64 (M.now : Int), .bool true] 84)).drew).cell? ⟨r, 1, none⟩ = some (.int .i64 (M.now : Int)) := e4
    have hrun2 : (Builtin.append_ #[46, 46] 46 #[cv, .slice (some ⟨w8.heap.size, 0, none⟩) 1 1]).run Try.prog ((w8.alloc (.cells #[.string k, .int .i64 (M.now : Int), .bool true] 84)).drew) = .ok v9 w9 := hrun
    obtain ⟨A8, k8, hv8, _⟩ := HS.out.1.ch.rd.form
    obtain ⟨Ac, kc, hvc, _⟩ := S9.ch.rd.form
    subst hvc hv8
    have hz : (M.ch ++ [(⟨M.now, k, true⟩ : Chg)]).length = M.ch.length + 1 := by simp
    rw [hz] at HS hrun hrun2
    clear hz
    have T9 := hid (T8.out.trans (Tch.of_below d8))
    clear S8 S8h S9 S9a T8 d8
    go_wp2_with fail
    go_region_law (refine step_run_app rfl (.tmp 89) (.tmp 96) 46 rfl _ _ _ w9 rfl rfl (by first | exact hrun2 | exact hrun) ?_)
    all_goals (
      go_wp2_with fail
      go_ret
      exact ⟨rfl, _, _, _, HS.out.1, T9.out.trans HS.out.2⟩)
end Go.Proofs.Ytcohpgahffbnlaa

