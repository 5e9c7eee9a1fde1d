/-
  What slices.symMergeCmpFunc does to a row of entries where one of the two lists has one element. Conditions: those that each theorem names.
-/
import Derived.Test.YtcdfjkhjdiojbaaDoorSins
namespace Go.Proofs.YtcdfjkhjdiojbaaDoor
open Go.RowKit Go.Icz
theorem set_two2 (P R : List EV) (x y : EV) : ((P ++ x :: y :: R).set P.length y).set (P.length + 1) x = P ++ y :: x :: R := by
  rw [List.set_append_right _ _ (by omega), List.set_append_right _ _ (by omega)]
  simp
theorem at_len {P R : List EV} {x : EV} {k : Nat} (h : k = P.length) : (P ++ x :: R)[k]? = some x := by subst h; simp
set_option maxHeartbeats 2000000 in
set_option maxRecDepth 100000 in
theorem symMerge_one (b cap N a m c : Nat) (A : List EV) (x : EV) (R B : List EV) (w : World) (hN : A.length + 1 + R.length + B.length = N) (hR : RowE w b (A ++ x :: R ++ B)) (ha : a = A.length) (hm : m = a + 1) (hc : c = m + R.length) (hS : SortedL ltE R) (hlen : N ≤ 1152921504606846976) :
    Calls Tryd.prog 73 #[.slice (some ⟨b, 0, none⟩) N cap, .int .i64 a, .int .i64 m, .int .i64 c, cmpF 28] w fun e w' => e = .returned (.tuple #[]) ∧ (∃ M, RowE w' b (A ++ M ++ B) ∧ StableOf ltE (x :: R) M) ∧ w.grownBy w' (some b) := by
  have HN := hid hN
  have HA := hid ha
  have HC := hid hc
  have hcN : c ≤ N := by omega
  have hmc : m ≤ c := by omega
  have HMM := hid hm
  have hma : (m : Int) - (a : Int) = 1 := by omega
  have ham : a < m := by omega
  have hS := hid hS
  clear hN ha hc hm
  unfold cmpF
  go_enter Tryd.func73, Tryd.ntmps73
  go_wp2
  go_loopw [10, 11] (fun iv jv wr => ∃ (i j : Nat) (R1 Q R2 : List EV), iv = .int .i64 (i : Int) ∧ jv = .int .i64 (j : Int) ∧ Hid (R = R1 ++ Q ++ R2) ∧ Hid (i = m + R1.length) ∧ Hid (j = i + Q.length) ∧ i ≤ j ∧ j ≤ c ∧ Hid (∀ y ∈ R1, ltE y x = true) ∧ Hid (∀ y ∈ R2, ltE y x = false) ∧ RowE wr b (A ++ x :: R ++ B) ∧ w.grownBy wr (some b)) (fun iv jv _ => (intOf jv).toNat - (intOf iv).toNat)
  case atStart => exact ⟨m, c, [], R, [], rfl, rfl, hid (by simp), hid (by simp), hid (by rw [HC.out]), by omega, by omega, hid (by simp), hid (by simp), hR, World.grownBy.refl _ _⟩
  case round =>
    obtain ⟨i, j, R1, Q, R2, rfl, rfl, HQ, HI, HJ, hij, hjc, H1, H2, hr, hg⟩ := hrel
    by_cases hlt : i < j
    · have hlt' : (i : Int) < (j : Int) := by omega
      obtain ⟨h, hh0⟩ : ∃ h, h = (i + j) / 2 := ⟨_, rfl⟩
      have zh : Hid (((i : Int) + (j : Int)) / 2 = (h : Int)) := hid (by omega)
      have hih : i ≤ h := by omega
      have hhj : h < j := by omega
      have hhN : h < N := by omega
      have haN : a < N := by omega
      have hql : h - i < Q.length := by have := HJ.out; omega
      have HQ2 : Hid (Q = Q.take (h - i) ++ Q[h - i] :: Q.drop (h - i + 1)) := hid (by rw [← List.drop_eq_getElem_cons hql, List.take_append_drop])
      have HQL : Hid ((Q.take (h - i)).length = h - i ∧ (Q.drop (h - i + 1)).length = j - h - 1) := hid ⟨by rw [List.length_take]; omega, by rw [List.length_drop]; have := HJ.out; omega⟩
      generalize Q.take (h - i) = Q1 at *
      generalize Q[h - i] = z at *
      generalize Q.drop (h - i + 1) = Q2 at *
      have HRS : Hid (R = (R1 ++ Q1) ++ z :: (Q2 ++ R2)) := hid (by rw [HQ.out, HQ2.out]; simp only [List.append_assoc, List.cons_append])
      have gz : (A ++ x :: R ++ B)[h]? = some z := by
        have e : A ++ x :: R ++ B = (A ++ x :: (R1 ++ Q1)) ++ z :: (Q2 ++ R2 ++ B) := by rw [HRS.out]; simp only [List.append_assoc, List.cons_append]
        rw [e]
        refine at_len ?_
        have h1 := HI.out
        have h2 := HQL.out.1
        have h3 := HA.out
        have h4 := HMM.out
        simp only [List.length_append, List.length_cons]
        omega
      have gx : (A ++ x :: R ++ B)[a]? = some x := by
        rw [List.append_assoc, List.cons_append]
        exact at_len HA.out
      obtain ⟨x0, x1, x2, x3, -, -, -, -⟩ := hr.at gx
      obtain ⟨y0, y1, y2, y3, -, -, -, -⟩ := hr.at gz
      have hbz := hr.1
      have mkS : ∀ w', Below wr.heap.size wr w' → Below wr.heap.size wr w' ∧ w'.cell? ⟨b, h * 4, none⟩ = some (.int .i64 z.1.seq) ∧ w'.cell? ⟨b, h * 4 + 1, none⟩ = some (.int .i64 z.1.time) ∧ w'.cell? ⟨b, h * 4 + 2, none⟩ = some (.slice z.2.1 z.1.labs.length z.2.2) ∧ w'.cell? ⟨b, h * 4 + 3, none⟩ = some (.string ⟨z.1.line.toArray⟩) ∧ w'.cell? ⟨b, a * 4, none⟩ = some (.int .i64 x.1.seq) ∧ w'.cell? ⟨b, a * 4 + 1, none⟩ = some (.int .i64 x.1.time) ∧ w'.cell? ⟨b, a * 4 + 2, none⟩ = some (.slice x.2.1 x.1.labs.length x.2.2) ∧ w'.cell? ⟨b, a * 4 + 3, none⟩ = some (.string ⟨x.1.line.toArray⟩) := fun w' hh => ⟨hh, (hh.cell (p := ⟨b, h * 4, none⟩) hbz).trans y0, (hh.cell (p := ⟨b, h * 4 + 1, none⟩) hbz).trans y1, (hh.cell (p := ⟨b, h * 4 + 2, none⟩) hbz).trans y2, (hh.cell (p := ⟨b, h * 4 + 3, none⟩) hbz).trans y3, (hh.cell (p := ⟨b, a * 4, none⟩) hbz).trans x0, (hh.cell (p := ⟨b, a * 4 + 1, none⟩) hbz).trans x1, (hh.cell (p := ⟨b, a * 4 + 2, none⟩) hbz).trans x2, (hh.cell (p := ⟨b, a * 4 + 3, none⟩) hbz).trans x3⟩
      have hk := mkS wr.drew (Below.refl _ _).drew
      have HC2 := fun w1 => cmp_call z x w1
      have HRR := hid hr
      have hlz : Hid (ltE z x = decide (cmpE z.1 x.1 < 0)) := hid rfl
      clear x0 x1 x2 x3 y0 y1 y2 y3 gx gz hr hql
      generalize cmpE z.1 x.1 = cv at *
      subst hh0
      have z0 : (0 : Int) ≤ ((i : Int) + (j : Int)) / 2 := by omega
      have zl : ((i : Int) + (j : Int)) / 2 < (N : Int) := by omega
      have zn : (((i : Int) + (j : Int)) / 2).toNat = (i + j) / 2 := by omega
      clear zh
      have z2 : (a : Int) < (N : Int) := by omega
      by_cases hcv : cv < 0
      · have HZ : Hid (ltE z x = true) := hid (by rw [hlz.out]; exact decide_eq_true hcv)
        go_wp2_with fail
        go_region_held3 (fun w' => Below wr.heap.size wr w' ∧ w'.cell? ⟨b, ((i + j) / 2) * 4, none⟩ = some (.int .i64 z.1.seq) ∧ w'.cell? ⟨b, ((i + j) / 2) * 4 + 1, none⟩ = some (.int .i64 z.1.time) ∧ w'.cell? ⟨b, ((i + j) / 2) * 4 + 2, none⟩ = some (.slice z.2.1 z.1.labs.length z.2.2) ∧ w'.cell? ⟨b, ((i + j) / 2) * 4 + 3, none⟩ = some (.string ⟨z.1.line.toArray⟩) ∧ w'.cell? ⟨b, a * 4, none⟩ = some (.int .i64 x.1.seq) ∧ w'.cell? ⟨b, a * 4 + 1, none⟩ = some (.int .i64 x.1.time) ∧ w'.cell? ⟨b, a * 4 + 2, none⟩ = some (.slice x.2.1 x.1.labs.length x.2.2) ∧ w'.cell? ⟨b, a * 4 + 3, none⟩ = some (.string ⟨x.1.line.toArray⟩)) (exact hk)
          (first | (go_at_call 28; refine (HC2 _).mono ?_; rintro e w1 ⟨rfl, b1⟩; have hk := mkS _ (hk.1.trans (b1.mono hk.1.size))))
        have hw1 := hk.1
        clear hk mkS
        go_wp2_with fail
        go_roundw
        case rel =>
          refine ⟨(i + j) / 2 + 1, j, R1 ++ Q1 ++ [z], Q2, R2, by go_num, rfl, hid (by rw [HRS.out]; simp only [List.append_assoc, List.cons_append, List.nil_append]), hid ?_, hid ?_, by omega, hjc, hid ?_, H2, HRR.out.below hw1, World.grownBy.trans hg (below_grown hw1 _)⟩
          · have h1 := HI.out
            have h2 := HQL.out.1
            simp only [List.length_append, List.length_singleton]
            omega
          · have h2 := HQL.out.2
            omega
          · have hs := hS.out
            rw [HRS.out] at hs
            intro y hy
            rcases List.mem_append.1 hy with hy | hy
            · rcases List.mem_append.1 hy with hy | hy
              · exact H1.out y hy
              · have h1 := (SortedL.append_iff.1 hs).2.2 y (List.mem_append.2 (.inr hy)) z (List.mem_cons_self ..)
                rcases ltE_ord.neg z y x HZ.out with h5 | h5
                · rw [h1] at h5; cases h5
                · exact h5
            · obtain rfl := List.mem_singleton.1 hy
              exact HZ.out
        case measure => simp [intOf]; omega
      · have HZ : Hid (ltE z x = false) := hid (by rw [hlz.out]; exact decide_eq_false hcv)
        go_wp2_with fail
        go_region_held3 (fun w' => Below wr.heap.size wr w' ∧ w'.cell? ⟨b, ((i + j) / 2) * 4, none⟩ = some (.int .i64 z.1.seq) ∧ w'.cell? ⟨b, ((i + j) / 2) * 4 + 1, none⟩ = some (.int .i64 z.1.time) ∧ w'.cell? ⟨b, ((i + j) / 2) * 4 + 2, none⟩ = some (.slice z.2.1 z.1.labs.length z.2.2) ∧ w'.cell? ⟨b, ((i + j) / 2) * 4 + 3, none⟩ = some (.string ⟨z.1.line.toArray⟩) ∧ w'.cell? ⟨b, a * 4, none⟩ = some (.int .i64 x.1.seq) ∧ w'.cell? ⟨b, a * 4 + 1, none⟩ = some (.int .i64 x.1.time) ∧ w'.cell? ⟨b, a * 4 + 2, none⟩ = some (.slice x.2.1 x.1.labs.length x.2.2) ∧ w'.cell? ⟨b, a * 4 + 3, none⟩ = some (.string ⟨x.1.line.toArray⟩)) (exact hk)
          (first | (go_at_call 28; refine (HC2 _).mono ?_; rintro e w1 ⟨rfl, b1⟩; have hk := mkS _ (hk.1.trans (b1.mono hk.1.size))))
        have hw1 := hk.1
        clear hk mkS
        go_wp2_with fail
        go_roundw
        case rel =>
          refine ⟨i, (i + j) / 2, R1, Q1, z :: Q2 ++ R2, rfl, by go_num, hid (by rw [HRS.out]; simp only [List.append_assoc, List.cons_append]), HI, hid ?_, by omega, by omega, H1, hid ?_, HRR.out.below hw1, World.grownBy.trans hg (below_grown hw1 _)⟩
          · have h2 := HQL.out.1
            omega
          · have hs := hS.out
            rw [HRS.out] at hs
            intro y hy
            have hy' : y = z ∨ y ∈ Q2 ∨ y ∈ R2 := by simpa [or_assoc] using hy
            rcases hy' with rfl | hy | hy
            · exact HZ.out
            · have h1 := (List.pairwise_cons.1 (SortedL.append_iff.1 hs).2.1).1 y (List.mem_append.2 (.inl hy))
              cases e : ltE y x with
              | false => rfl
              | true =>
                rcases ltE_ord.neg y z x e with h5 | h5
                · rw [h1] at h5; cases h5
                · rw [HZ.out] at h5; cases h5
            · exact H2.out y hy
        case measure => simp [intOf]; omega
    · have hn : ¬ (i : Int) < (j : Int) := by omega
      have hq0 : Q = [] := List.eq_nil_of_length_eq_zero (by have := HJ.out; omega)
      have HRS : Hid (R = R1 ++ R2) := hid (by rw [HQ.out, hq0]; simp)
      have hi2 : i = a + 1 + R1.length := by have := HI.out; have := HMM.out; omega
      have HI2 := hid hi2
      have hiN : i ≤ N := by omega
      have hi1 : 1 ≤ i := by omega
      clear hq0 HQ HJ hi2
      go_wp2
      generalize wr = wo at *
      go_loopw [13] (fun kv wi => ∃ (k t : Nat), kv = .int .i64 (k : Int) ∧ Hid (k = a + t) ∧ Hid (t ≤ R1.length) ∧ k + 1 ≤ i ∧ RowE wi b (A ++ R1.take t ++ x :: R1.drop t ++ R2 ++ B) ∧ w.grownBy wi (some b)) (fun kv _ => i - (intOf kv).toNat)
      case atStart => exact ⟨a, 0, rfl, hid (by omega), hid (by omega), by have := HI2.out; omega, by rw [HRS.out] at hr; simpa using hr, hg⟩
      case round =>
        obtain ⟨k, t, rfl, HK, HT, hki, hr3, hg3⟩ := hrel
        generalize wr = wi at *
        by_cases hlt2 : k + 1 < i
        · have hlt2' : (k : Int) < (i : Int) - 1 := by omega
          have ht : t < R1.length := by have := HK.out; have := HI2.out; omega
          have e1 : A ++ R1.take t ++ x :: R1.drop t ++ R2 ++ B = (A ++ R1.take t) ++ x :: R1[t] :: (R1.drop (t + 1) ++ R2 ++ B) := by
            rw [List.drop_eq_getElem_cons ht]
            simp only [List.append_assoc, List.cons_append]
          have e2 : (A ++ R1.take t) ++ R1[t] :: x :: (R1.drop (t + 1) ++ R2 ++ B) = A ++ R1.take (t + 1) ++ x :: R1.drop (t + 1) ++ R2 ++ B := by
            rw [List.take_succ_eq_append_getElem ht]
            simp only [List.append_assoc, List.cons_append, List.nil_append]
          have hpl : k = (A ++ R1.take t).length := by
            have h1 := HK.out
            have h2 := HA.out
            rw [List.length_append, List.length_take]
            omega
          rw [e1] at hr3
          have HS2 := hid (set_two2 (A ++ R1.take t) (R1.drop (t + 1) ++ R2 ++ B) x R1[t])
          rw [← hpl, e2] at HS2
          have gx : ((A ++ R1.take t) ++ x :: R1[t] :: (R1.drop (t + 1) ++ R2 ++ B))[k]? = some x := at_len hpl
          have gy : ((A ++ R1.take t) ++ x :: R1[t] :: (R1.drop (t + 1) ++ R2 ++ B))[k + 1]? = some R1[t] := by
            have e3 : (A ++ R1.take t) ++ x :: R1[t] :: (R1.drop (t + 1) ++ R2 ++ B) = ((A ++ R1.take t) ++ [x]) ++ R1[t] :: (R1.drop (t + 1) ++ R2 ++ B) := by simp only [List.append_assoc, List.cons_append, List.nil_append]
            rw [e3]
            exact at_len (by rw [List.length_append, ← hpl, List.length_singleton])
          have HT2 := hid ht
          generalize R1[t] = y at *
          clear e1 e2 hpl ht
          obtain ⟨x0, x1, x2, x3, xf0, xf1, xf2, xf3⟩ := hr3.at gx
          obtain ⟨y0, y1, y2, y3, yf0, yf1, yf2, yf3⟩ := hr3.at gy
          have hlk : Hid (k < _ ∧ k + 1 < _) := hid ⟨(List.getElem?_eq_some_iff.1 gx).1, (List.getElem?_eq_some_iff.1 gy).1⟩
          have HR3 := hid hr3
          clear gx gy hr3
          have zk : IntKind.i64.wrap ((k : Int) + 1) = (k : Int) + 1 := by rw [IntKind.wrap_i64]; omega
          have zkn : ((k : Int) + 1).toNat = k + 1 := by omega
          have zk0 : (0 : Int) ≤ (k : Int) + 1 := by omega
          have zkl : (k : Int) + 1 < (N : Int) := by omega
          have zkl2 : (k : Int) < (N : Int) := by omega
          go_wp2_with fail
          go_region
          go_wp2_with fail
          go_roundw
          case rel =>
            have P := (HR3.out.put k hlk.out.1 y).put (k + 1) (by rw [List.length_set]; exact hlk.out.2) x
            rw [HS2.out] at P
            exact ⟨k + 1, t + 1, by go_num, hid (by have := HK.out; omega), hid (by have := HT2.out; omega), by omega, row_drew P, World.grownBy.trans hg3 (World.grownBy.trans (World.grownBy.trans (put_grown _ b _ _ _ _ _ _ _ _) (put_grown _ b _ _ _ _ _ _ _ _)) (grown_drew1 _ _))⟩
          case measure => simp [intOf]; omega
        · have hlt2' : ¬ (k : Int) < (i : Int) - 1 := by omega
          have ht : t = R1.length := by have := HK.out; have := HI2.out; have := HT.out; omega
          rw [ht, List.take_length, List.drop_length] at hr3
          have HR4 : Hid (RowE wi b (A ++ (R1 ++ x :: R2) ++ B)) := hid (by simpa only [List.append_assoc, List.cons_append, List.nil_append] using hr3)
          have hs := hS.out
          rw [HRS.out] at hs
          have HF := hid (StableOf.first ltE_ord hs H1.out H2.out)
          clear hr3 hs ht HT
          go_wp2
          refine bodyPost_ret (results_none rfl _ _ _) rfl ?_
          exact ⟨rfl, ⟨R1 ++ x :: R2, by have h9 := HR4.out; simpa only [List.append_assoc, List.cons_append] using h9, by rw [HRS.out]; exact HF.out⟩, hg3⟩
end Go.Proofs.YtcdfjkhjdiojbaaDoor
