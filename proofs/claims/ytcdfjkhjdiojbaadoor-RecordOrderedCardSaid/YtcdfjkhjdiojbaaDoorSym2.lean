/-
  What slices.symMergeCmpFunc does to a row of entries where the second list alone has one element. Conditions: those that the theorem names.
-/
import Derived.Test.YtcdfjkhjdiojbaaDoorSym1
namespace Go.Proofs.YtcdfjkhjdiojbaaDoor
open Go.RowKit Go.Icz
set_option maxHeartbeats 2000000 in
set_option maxRecDepth 100000 in
theorem symMerge_last (b cap N a m c : Nat) (A L : List EV) (y : EV) (B : List EV) (w : World) (hN : A.length + L.length + 1 + B.length = N) (hR : RowE w b (A ++ L ++ y :: B)) (ha : a = A.length) (hm : m = a + L.length) (hc : c = m + 1) (hL : 2 ≤ L.length) (hS : SortedL ltE L) (hlen : N ≤ 1152921504606846976) :
    Calls Tryd.prog 73 #[.slice (some ⟨b, 0, none⟩) N cap, .int .i64 a, .int .i64 m, .int .i64 c, cmpF 28] w fun e w' => e = .returned (.tuple #[]) ∧ (∃ M, RowE w' b (A ++ M ++ B) ∧ StableOf ltE (L ++ [y]) M) ∧ w.grownBy w' (some b) := by
  have HN := hid hN
  have HA := hid ha
  have HMM := hid hm
  have hcN : c ≤ N := by omega
  have ham : a + 2 ≤ m := by omega
  have hma : ((m : Int) - (a : Int) == 1) = false := by simp; omega
  have hcm : (c : Int) - (m : Int) = 1 := by omega
  have hmN : m < N := by omega
  have hS := hid hS
  clear hN ha hc hm hL
  unfold cmpF
  go_enter Tryd.func73, Tryd.ntmps73
  go_wp2
  go_loopw [14, 15] (fun iv jv wr => ∃ (i j : Nat) (L1 Q L2 : List EV), iv = .int .i64 (i : Int) ∧ jv = .int .i64 (j : Int) ∧ Hid (L = L1 ++ Q ++ L2) ∧ Hid (i = a + L1.length) ∧ Hid (j = i + Q.length) ∧ i ≤ j ∧ j ≤ m ∧ Hid (∀ z ∈ L1, ltE y z = false) ∧ Hid (∀ z ∈ L2, ltE y z = true) ∧ RowE wr b (A ++ L ++ y :: B) ∧ w.grownBy wr (some b)) (fun iv jv _ => (intOf jv).toNat - (intOf iv).toNat)
  case atStart => exact ⟨a, m, [], L, [], rfl, rfl, hid (by simp), hid (by simp), hid (by rw [HMM.out]), by omega, by omega, hid (by simp), hid (by simp), hR, World.grownBy.refl _ _⟩
  case round =>
    obtain ⟨i, j, L1, Q, L2, rfl, rfl, HQ, HI, HJ, hij, hjm, H1, H2, hr, hg⟩ := hrel
    by_cases hlt : i < j
    · have hlt' : (i : Int) < (j : Int) := by omega
      obtain ⟨h, hh0⟩ : ∃ h, h = (i + j) / 2 := ⟨_, rfl⟩
      have hih : i ≤ h := by omega
      have hhj : h < j := by omega
      have hhN : h < N := by omega
      have hql : h - i < Q.length := by have := HJ.out; omega
      have HQ2 : Hid (Q = Q.take (h - i) ++ Q[h - i] :: Q.drop (h - i + 1)) := hid (by rw [← List.drop_eq_getElem_cons hql, List.take_append_drop])
      have HQL : Hid ((Q.take (h - i)).length = h - i ∧ (Q.drop (h - i + 1)).length = j - h - 1) := hid ⟨by rw [List.length_take]; omega, by rw [List.length_drop]; have := HJ.out; omega⟩
      generalize Q.take (h - i) = Q1 at *
      generalize Q[h - i] = z at *
      generalize Q.drop (h - i + 1) = Q2 at *
      have HRS : Hid (L = (L1 ++ Q1) ++ z :: (Q2 ++ L2)) := hid (by rw [HQ.out, HQ2.out]; simp only [List.append_assoc, List.cons_append])
      have gz : (A ++ L ++ y :: B)[h]? = some z := by
        have e : A ++ L ++ y :: B = (A ++ (L1 ++ Q1)) ++ z :: (Q2 ++ L2 ++ y :: B) := by rw [HRS.out]; simp only [List.append_assoc, List.cons_append]
        rw [e]
        refine at_len ?_
        have h1 := HI.out
        have h2 := HQL.out.1
        have h3 := HA.out
        simp only [List.length_append]
        omega
      have gy : (A ++ L ++ y :: B)[m]? = some y := at_len (by have h3 := HA.out; have h4 := HMM.out; rw [List.length_append]; omega)
      obtain ⟨x0, x1, x2, x3, -, -, -, -⟩ := hr.at gz
      obtain ⟨y0, y1, y2, y3, -, -, -, -⟩ := hr.at gy
      have hbz := hr.1
      have mkS : ∀ w', Below wr.heap.size wr w' → Below wr.heap.size wr w' ∧ w'.cell? ⟨b, h * 4, none⟩ = some (.int .i64 z.1.seq) ∧ w'.cell? ⟨b, h * 4 + 1, none⟩ = some (.int .i64 z.1.time) ∧ w'.cell? ⟨b, h * 4 + 2, none⟩ = some (.slice z.2.1 z.1.labs.length z.2.2) ∧ w'.cell? ⟨b, h * 4 + 3, none⟩ = some (.string ⟨z.1.line.toArray⟩) ∧ w'.cell? ⟨b, m * 4, none⟩ = some (.int .i64 y.1.seq) ∧ w'.cell? ⟨b, m * 4 + 1, none⟩ = some (.int .i64 y.1.time) ∧ w'.cell? ⟨b, m * 4 + 2, none⟩ = some (.slice y.2.1 y.1.labs.length y.2.2) ∧ w'.cell? ⟨b, m * 4 + 3, none⟩ = some (.string ⟨y.1.line.toArray⟩) := fun w' hh => ⟨hh, (hh.cell (p := ⟨b, h * 4, none⟩) hbz).trans x0, (hh.cell (p := ⟨b, h * 4 + 1, none⟩) hbz).trans x1, (hh.cell (p := ⟨b, h * 4 + 2, none⟩) hbz).trans x2, (hh.cell (p := ⟨b, h * 4 + 3, none⟩) hbz).trans x3, (hh.cell (p := ⟨b, m * 4, none⟩) hbz).trans y0, (hh.cell (p := ⟨b, m * 4 + 1, none⟩) hbz).trans y1, (hh.cell (p := ⟨b, m * 4 + 2, none⟩) hbz).trans y2, (hh.cell (p := ⟨b, m * 4 + 3, none⟩) hbz).trans y3⟩
      have hk := mkS wr.drew (Below.refl _ _).drew
      have HC2 := fun w1 => cmp_call y z w1
      have HRR := hid hr
      have hlz : Hid (ltE y z = decide (cmpE y.1 z.1 < 0)) := hid rfl
      clear x0 x1 x2 x3 y0 y1 y2 y3 gy gz hr hql
      generalize cmpE y.1 z.1 = cv at *
      subst hh0
      have z0 : (0 : Int) ≤ ((i : Int) + (j : Int)) / 2 := by omega
      have zl : ((i : Int) + (j : Int)) / 2 < (N : Int) := by omega
      have zn : (((i : Int) + (j : Int)) / 2).toNat = (i + j) / 2 := by omega
      have z2 : (m : Int) < (N : Int) := by omega
      by_cases hcv : cv < 0
      · have HZ : Hid (ltE y z = true) := hid (by rw [hlz.out]; exact decide_eq_true hcv)
        have hcd : decide (cv < 0) = true := decide_eq_true hcv
        go_wp2_with fail
        go_region_held3 (fun w' => Below wr.heap.size wr w' ∧ w'.cell? ⟨b, ((i + j) / 2) * 4, none⟩ = some (.int .i64 z.1.seq) ∧ w'.cell? ⟨b, ((i + j) / 2) * 4 + 1, none⟩ = some (.int .i64 z.1.time) ∧ w'.cell? ⟨b, ((i + j) / 2) * 4 + 2, none⟩ = some (.slice z.2.1 z.1.labs.length z.2.2) ∧ w'.cell? ⟨b, ((i + j) / 2) * 4 + 3, none⟩ = some (.string ⟨z.1.line.toArray⟩) ∧ w'.cell? ⟨b, m * 4, none⟩ = some (.int .i64 y.1.seq) ∧ w'.cell? ⟨b, m * 4 + 1, none⟩ = some (.int .i64 y.1.time) ∧ w'.cell? ⟨b, m * 4 + 2, none⟩ = some (.slice y.2.1 y.1.labs.length y.2.2) ∧ w'.cell? ⟨b, m * 4 + 3, none⟩ = some (.string ⟨y.1.line.toArray⟩)) (exact hk)
          (first | (go_at_call 28; refine (HC2 _).mono ?_; rintro e w1 ⟨rfl, b1⟩; have hk := mkS _ (hk.1.trans (b1.mono hk.1.size))))
        have hw1 := hk.1
        clear hk mkS
        go_wp2_with fail
        go_roundw
        case rel =>
          refine ⟨i, (i + j) / 2, L1, Q1, z :: Q2 ++ L2, rfl, by go_num, hid (by rw [HRS.out]; simp only [List.append_assoc, List.cons_append]), HI, hid ?_, by omega, by omega, H1, hid ?_, HRR.out.below hw1, World.grownBy.trans hg (below_grown hw1 _)⟩
          · have h2 := HQL.out.1
            omega
          · have hs := hS.out
            rw [HRS.out] at hs
            intro q hq
            have hq' : q = z ∨ q ∈ Q2 ∨ q ∈ L2 := by simpa [or_assoc] using hq
            rcases hq' with rfl | hq | hq
            · exact HZ.out
            · have h1 := (List.pairwise_cons.1 (SortedL.append_iff.1 hs).2.1).1 q (List.mem_append.2 (.inl hq))
              rcases ltE_ord.neg y q z HZ.out with h5 | h5
              · exact h5
              · rw [h1] at h5; cases h5
            · exact H2.out q hq
        case measure => simp [intOf]; omega
      · have HZ : Hid (ltE y z = false) := hid (by rw [hlz.out]; exact decide_eq_false hcv)
        have hcd : decide (cv < 0) = false := decide_eq_false hcv
        go_wp2_with fail
        go_region_held3 (fun w' => Below wr.heap.size wr w' ∧ w'.cell? ⟨b, ((i + j) / 2) * 4, none⟩ = some (.int .i64 z.1.seq) ∧ w'.cell? ⟨b, ((i + j) / 2) * 4 + 1, none⟩ = some (.int .i64 z.1.time) ∧ w'.cell? ⟨b, ((i + j) / 2) * 4 + 2, none⟩ = some (.slice z.2.1 z.1.labs.length z.2.2) ∧ w'.cell? ⟨b, ((i + j) / 2) * 4 + 3, none⟩ = some (.string ⟨z.1.line.toArray⟩) ∧ w'.cell? ⟨b, m * 4, none⟩ = some (.int .i64 y.1.seq) ∧ w'.cell? ⟨b, m * 4 + 1, none⟩ = some (.int .i64 y.1.time) ∧ w'.cell? ⟨b, m * 4 + 2, none⟩ = some (.slice y.2.1 y.1.labs.length y.2.2) ∧ w'.cell? ⟨b, m * 4 + 3, none⟩ = some (.string ⟨y.1.line.toArray⟩)) (exact hk)
          (first | (go_at_call 28; refine (HC2 _).mono ?_; rintro e w1 ⟨rfl, b1⟩; have hk := mkS _ (hk.1.trans (b1.mono hk.1.size))))
        have hw1 := hk.1
        clear hk mkS
        go_wp2_with fail
        go_roundw
        case rel =>
          refine ⟨(i + j) / 2 + 1, j, L1 ++ Q1 ++ [z], Q2, L2, by go_num, rfl, hid (by rw [HRS.out]; simp only [List.append_assoc, List.cons_append, List.nil_append]), hid ?_, hid ?_, by omega, hjm, hid ?_, H2, HRR.out.below hw1, World.grownBy.trans hg (below_grown hw1 _)⟩
          · have h1 := HI.out
            have h2 := HQL.out.1
            simp only [List.length_append, List.length_singleton]
            omega
          · have h2 := HQL.out.2
            omega
          · have hs := hS.out
            rw [HRS.out] at hs
            intro q hq
            rcases List.mem_append.1 hq with hq | hq
            · rcases List.mem_append.1 hq with hq | hq
              · exact H1.out q hq
              · exact SWOrd.le_trans ltE_ord ((SortedL.append_iff.1 hs).2.2 q (List.mem_append.2 (.inr hq)) z (List.mem_cons_self ..)) HZ.out
            · obtain rfl := List.mem_singleton.1 hq
              exact HZ.out
        case measure => simp [intOf]; omega
    · have hn : ¬ (i : Int) < (j : Int) := by omega
      have hq0 : Q = [] := List.eq_nil_of_length_eq_zero (by have := HJ.out; omega)
      have HRS : Hid (L = L1 ++ L2) := hid (by rw [HQ.out, hq0]; simp)
      have HI2 : Hid (i = a + L1.length) := HI
      have HML : Hid (m = i + L2.length) := hid (by have h1 := HMM.out; have h2 := HRS.out; have h3 := HI.out; rw [h2, List.length_append] at h1; omega)
      have hiN : i ≤ m := by have := HML.out; omega
      clear hq0 HQ HJ
      go_wp2
      generalize wr = wo at *
      go_loopw [17] (fun kv wi => ∃ (k s : Nat), kv = .int .i64 (k : Int) ∧ Hid (k = i + s) ∧ Hid (s ≤ L2.length) ∧ i ≤ k ∧ k ≤ m ∧ RowE wi b (A ++ L1 ++ L2.take s ++ y :: L2.drop s ++ B) ∧ w.grownBy wi (some b)) (fun kv _ => (intOf kv).toNat)
      case atStart => exact ⟨m, L2.length, rfl, HML, hid (Nat.le_refl _), hiN, Nat.le_refl _, by rw [HRS.out] at hr; simpa using hr, hg⟩
      case round =>
        obtain ⟨k, s, rfl, HK, HT, hki, hkm, hr3, hg3⟩ := hrel
        generalize wr = wi at *
        by_cases hlt2 : i < k
        · obtain ⟨jp, hjp⟩ : ∃ jp, k = jp + 1 := ⟨k - 1, by omega⟩
          obtain ⟨s', hs'⟩ : ∃ s', s = s' + 1 := ⟨s - 1, by have := HK.out; omega⟩
          subst hjp hs'
          have ht : s' < L2.length := by have := HT.out; omega
          have e1 : A ++ L1 ++ L2.take (s' + 1) ++ y :: L2.drop (s' + 1) ++ B = (A ++ L1 ++ L2.take s') ++ L2[s'] :: y :: (L2.drop (s' + 1) ++ B) := by
            rw [List.take_succ_eq_append_getElem ht]
            simp only [List.append_assoc, List.cons_append, List.nil_append]
          have e2 : (A ++ L1 ++ L2.take s') ++ y :: L2[s'] :: (L2.drop (s' + 1) ++ B) = A ++ L1 ++ L2.take s' ++ y :: L2.drop s' ++ B := by
            rw [List.drop_eq_getElem_cons ht]
            simp only [List.append_assoc, List.cons_append]
          have hpl : jp = (A ++ L1 ++ L2.take s').length := by
            have h1 := HK.out
            have h2 := HA.out
            have h3 := HI2.out
            rw [List.length_append, List.length_append, List.length_take]
            omega
          rw [e1] at hr3
          have HS2 := hid (set_two (A ++ L1 ++ L2.take s') (L2.drop (s' + 1) ++ B) y L2[s'])
          rw [← hpl, e2] at HS2
          have gx : ((A ++ L1 ++ L2.take s') ++ L2[s'] :: y :: (L2.drop (s' + 1) ++ B))[jp]? = some L2[s'] := at_len hpl
          have gy : ((A ++ L1 ++ L2.take s') ++ L2[s'] :: y :: (L2.drop (s' + 1) ++ B))[jp + 1]? = some y := by
            have e3 : (A ++ L1 ++ L2.take s') ++ L2[s'] :: y :: (L2.drop (s' + 1) ++ B) = ((A ++ L1 ++ L2.take s') ++ [L2[s']]) ++ y :: (L2.drop (s' + 1) ++ B) := by simp only [List.append_assoc, List.cons_append, List.nil_append]
            rw [e3]
            exact at_len (by rw [List.length_append, ← hpl, List.length_singleton])
          generalize L2[s'] = z at *
          have HT2 := hid ht
          clear e1 e2 hpl ht
          obtain ⟨x0, x1, x2, x3, xf0, xf1, xf2, xf3⟩ := hr3.at gx
          obtain ⟨y0, y1, y2, y3, yf0, yf1, yf2, yf3⟩ := hr3.at gy
          have hlk : Hid (jp < _ ∧ jp + 1 < _) := hid ⟨(List.getElem?_eq_some_iff.1 gx).1, (List.getElem?_eq_some_iff.1 gy).1⟩
          have HR3 := hid hr3
          clear gx gy hr3
          have hik : (i : Int) < (jp : Int) + 1 := by omega
          have zj : IntKind.i64.wrap (jp : Int) = (jp : Int) := by rw [IntKind.wrap_i64]; omega
          have zj0 : (0 : Int) ≤ (jp : Int) + 1 := by omega
          have zjl : (jp : Int) + 1 < (N : Int) := by omega
          have zjl2 : (jp : Int) < (N : Int) := by omega
          have zjn : ((jp : Int) + 1).toNat = jp + 1 := by omega
          go_wp2_with fail
          go_region
          go_wp2_with fail
          go_roundw
          case rel =>
            have P := (HR3.out.put (jp + 1) hlk.out.2 z).put jp (by rw [List.length_set]; exact hlk.out.1) y
            rw [HS2.out] at P
            exact ⟨jp, s', rfl, hid (by have := HK.out; omega), hid (by have := HT2.out; omega), by omega, by omega, row_drew P, World.grownBy.trans hg3 (World.grownBy.trans (World.grownBy.trans (put_grown _ b _ _ _ _ _ _ _ _) (put_grown _ b _ _ _ _ _ _ _ _)) (grown_drew1 _ _))⟩
          case measure => simp [intOf]
        · have hlt2' : ¬ (i : Int) < (k : Int) := by omega
          have ht : s = 0 := by have := HK.out; omega
          rw [ht, List.take_zero, List.drop_zero, List.append_nil] at hr3
          have HR4 : Hid (RowE wi b (A ++ (L1 ++ y :: L2) ++ B)) := hid (by simpa only [List.append_assoc, List.cons_append, List.nil_append] using hr3)
          have hs := hS.out
          rw [HRS.out] at hs
          have HF := hid (StableOf.last ltE_ord hs H1.out H2.out)
          clear hr3 hs ht HT
          go_wp2
          refine bodyPost_ret (results_none rfl _ _ _) rfl ?_
          exact ⟨rfl, ⟨L1 ++ y :: L2, by have h9 := HR4.out; simpa only [List.append_assoc, List.cons_append] using h9, by rw [HRS.out]; exact HF.out⟩, hg3⟩
end Go.Proofs.YtcdfjkhjdiojbaaDoor
