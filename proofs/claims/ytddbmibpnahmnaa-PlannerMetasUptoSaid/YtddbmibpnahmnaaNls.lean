/-
  Lists of Metas and of numbers: laid, compared, picked out; what Look and Over answer. Conditions: no list is longer than 2^40; a number is one that an int holds.
-/
import Derived.Test.YtddbmibpnahmnaaNrl
namespace Go.Proofs.Ytddbmibpnahmnaa
open Go.RowKit Go.Icz
/-- A list of Metas is answered, in memory of the call's own. -/
def MetsOut (w : World) (a : List MV) (e : Ending) (w' : World) : Prop := ∃ v, e = .returned v ∧ KMet.Own w' w.heap.size v a ∧ Below w.heap.size w w'
theorem take_snoc {α : Type} {l : List α} {i : Nat} (h : i < l.length) : l.take i ++ [l[i]] = l.take (i + 1) := (List.take_succ_eq_append_getElem h).symm
set_option maxRecDepth 100000 in
set_option maxHeartbeats 4000000 in
theorem List_is (v : Value) (l : List MV) (w : World) (hR : KRm.Rd w v l) (hlen : l.length ≤ 1099511627776) :
    Calls Try.prog 5 #[v] w (MetsOut w l) := by
  obtain ⟨A, c, rfl, hlc⟩ := hR.form
  have ROW := hid (met_row (K := KRm) rfl rfl hR)
  clear hR
  go_enter Try.func5, Try.ntmps5
  go_wp2
  go_loopw [3, 4] (fun ov iv wr => ∃ (i : Nat) (M : List MV), iv = .int .i64 i ∧ i ≤ l.length ∧ Hid (M = l.take i) ∧ M.length ≤ i ∧ KMet.Own wr w.heap.size ov M ∧ Below w.heap.size w wr) (fun _ iv _ => l.length - (intOf iv).toNat)
  case atStart => exact ⟨0, [], rfl, by omega, hid (by simp), by simp, Kd.Own.nil _ _, Below.refl _ _⟩
  case round =>
    obtain ⟨i, M, rfl, hi, HM, hMl, ho, hbw⟩ := hrel
    obtain ⟨A1, c1, rfl, _⟩ := ho.rd.form
    by_cases hLt : i < l.length
    · obtain ⟨b, off, hA, hb, hc⟩ := ROW.out i hLt
      subst hA
      obtain ⟨q0, q1, q2, q3, q4, q5, q6, q7⟩ := hc wr hbw
      have hil : (i : Int) < (l.length : Int) := by omega
      have HN : Hid (M ++ [l[i]] = l.take (i + 1)) := hid (by rw [HM.out, take_snoc hLt])
      have hmm : M.length + 1 ≤ maxLen := by unfold maxLen; omega
      have hml : (M.length + 1) * 64 ≤ 140737488355328 := by omega
      have hOw := Own_is l[i]
      have HL := hid hLt
      clear hc HM
      generalize l[i] = x at *
      have AFT : ∀ w7, Below wr.heap.size wr w7 → Below w.heap.size w w7 ∧ KMet.Own w7 w.heap.size (.slice A1 M.length c1) M ∧ w.heap.size ≤ w7.heap.size := fun w7 b7 => ⟨hbw.trans (b7.mono hbw.size), ho.below b7, Nat.le_trans hbw.size b7.size⟩
      clear ho
      unfold metaV at hOw
      go_wp2_with (first
        | (go_at_call 10; refine (hOw _).mono ?_; rintro e w7 ⟨rfl, b7⟩; obtain ⟨b8, o8, z8⟩ := AFT w7 b7)
        | (at_builtin; refine Kd.wp_app1 (K := KMet) rfl (.tmp 11) (.tmp 17) 25 rfl Try.underlying25 infoMet rfl w.heap.size _ M x rfl o8 rfl rfl rfl hmm hml z8 ?_; intro v5 w5 o5 b5 g5 n5))
      obtain ⟨A5, c5, rfl, _⟩ := o5.rd.form
      go_roundw
      case rel => exact ⟨i + 1, M ++ [x], by go_num, HL.out, HN, by simp; omega, o5, b8.trans b5⟩
      case measure => have := HL.out; simp [intOf]; omega
    · have hil : ¬ (i : Int) < (l.length : Int) := by omega
      have HY : Hid (l = M) := hid (by rw [HM.out, List.take_of_length_le (by omega)])
      clear HM
      go_wp2
      go_ret
      exact ⟨_, rfl, by rw [HY.out]; exact ho, hbw⟩
set_option maxRecDepth 100000 in
set_option maxHeartbeats 4000000 in
theorem ids_is (v : Value) (l : List MV) (w : World) (hR : KMet.Rd w v l) (hlen : l.length ≤ 1099511627776) :
    Calls Try.prog 43 #[v] w (IntsOut w (idsM l)) := by
  obtain ⟨A, c, rfl, hlc⟩ := hR.form
  have ROW := hid (met_row (K := KMet) rfl rfl hR)
  clear hR
  go_enter Try.func43, Try.ntmps43
  go_wp2
  go_loopw [3, 8] (fun ov iv wr => ∃ (i : Nat) (M : List Int), iv = .int .i64 i ∧ i ≤ l.length ∧ Hid (M = idsM (l.take i)) ∧ M.length ≤ i ∧ KInt.Own wr w.heap.size ov M ∧ Below w.heap.size w wr) (fun _ iv _ => l.length - (intOf iv).toNat)
  case atStart => exact ⟨0, [], rfl, by omega, hid (by simp [idsM]), by simp, Kd.Own.nil _ _, Below.refl _ _⟩
  case round =>
    obtain ⟨i, M, rfl, hi, HM, hMl, ho, hbw⟩ := hrel
    obtain ⟨A1, c1, rfl, _⟩ := ho.rd.form
    by_cases hLt : i < l.length
    · obtain ⟨b, off, hA, hb, hc⟩ := ROW.out i hLt
      subst hA
      obtain ⟨q0, q1, q2, q3, q4, q5, q6, q7⟩ := hc wr hbw
      have hil : (i : Int) < (l.length : Int) := by omega
      have HN : Hid (M ++ [l[i].id] = idsM (l.take (i + 1))) := hid (by rw [HM.out, ← take_snoc hLt, idsM_app]; rfl)
      have hmm : M.length + 1 ≤ maxLen := by unfold maxLen; omega
      have hml : (M.length + 1) * 8 ≤ 140737488355328 := by omega
      have HL := hid hLt
      clear hc HM
      generalize l[i] = x at *
      have o8 := ho.alloc (.cells #[.int .i64 x.id, .int .i64 x.least, .int .i64 x.most, .int .i64 x.first, .int .i64 x.last, .int .i64 x.rows, .int .i64 x.bytes, .int .i64 x.level] 28)
      have b8 := below_box hbw hbw.size (.cells #[.int .i64 x.id, .int .i64 x.least, .int .i64 x.most, .int .i64 x.first, .int .i64 x.last, .int .i64 x.rows, .int .i64 x.bytes, .int .i64 x.level] 28)
      have z8 := b8.size
      clear ho
      go_wp2_with (at_builtin; refine Kd.wp_app1 (K := KInt) (n := wr.heap.size + 1) rfl (.tmp 12) (.tmp 15) 58 rfl Try.underlying58 infoInt rfl w.heap.size _ M x.id rfl o8 (World.size_alloc _ _) rfl rfl hmm hml z8 ?_; intro v5 w5 o5 b5 g5 n5)
      obtain ⟨A5, c5, rfl, _⟩ := o5.rd.form
      go_roundw
      case rel => exact ⟨i + 1, M ++ [x.id], by go_num, HL.out, HN, by simp; omega, o5, b8.trans b5⟩
      case measure => have := HL.out; simp [intOf]; omega
    · have hil : ¬ (i : Int) < (l.length : Int) := by omega
      have HY : Hid (idsM l = M) := hid (by rw [HM.out, List.take_of_length_le (by omega)])
      clear HM
      go_wp2
      go_ret
      exact ⟨_, rfl, by rw [HY.out]; exact ho, hbw⟩
set_option maxRecDepth 100000 in
set_option maxHeartbeats 4000000 in
theorem Ints_is (v u : Value) (a b : List Int) (w : World) (hR : KInt.Rd w v a) (hS : KInt.Rd w u b) (ha : a.length ≤ 1099511627776) (hb : b.length ≤ 1099511627776) :
    Calls Try.prog 31 #[v, u] w fun e w' => e = .returned (.bool (decide (a = b))) ∧ Below w.heap.size w w' := by
  obtain ⟨A, c, rfl, hlc⟩ := hR.form
  obtain ⟨A2, c2, rfl, hlc2⟩ := hS.form
  by_cases hle : a.length = b.length
  · have ROW : Hid (∀ i (h : i < a.length) (h2 : i < b.length), ∃ b1 o1 b2 o2, A = some ⟨b1, o1, none⟩ ∧ A2 = some ⟨b2, o2, none⟩ ∧ ∀ wr, Below w.heap.size w wr → wr.cell? ⟨b1, o1 + i, none⟩ = some (.int .i64 a[i]) ∧ wr.cell? ⟨b2, o2 + i, none⟩ = some (.int .i64 b[i])) := hid (fun i h h2 => by
      obtain ⟨b1, o1, e1, l1, c1⟩ := hR.at h
      obtain ⟨b2, o2, e2, l2, c2⟩ := hS.at h2
      refine ⟨b1, o1, b2, o2, e1, e2, fun wr hw => ⟨?_, ?_⟩⟩
      · have := (hw.cell (p := ⟨b1, o1 + (i * 1 + 0), none⟩) l1).trans (c1 0 (.int .i64 a[i]) (by decide) rfl)
        rwa [Nat.mul_one, Nat.add_zero] at this
      · have := (hw.cell (p := ⟨b2, o2 + (i * 1 + 0), none⟩) l2).trans (c2 0 (.int .i64 b[i]) (by decide) rfl)
        rwa [Nat.mul_one, Nat.add_zero] at this)
    have HLE := hid hle
    have hleI : ((a.length : Int) != (b.length : Int)) = false := by simp [hle]
    clear hR hS
    go_enter Try.func31, Try.ntmps31
    go_wp2
    go_loopw [5] (fun iv wr => ∃ i : Nat, iv = .int .i64 i ∧ i ≤ a.length ∧ Hid (a.take i = b.take i) ∧ Below w.heap.size w wr) (fun iv _ => a.length - (intOf iv).toNat)
    case atStart => exact ⟨0, rfl, by omega, hid rfl, Below.refl _ _⟩
    case round =>
      obtain ⟨i, rfl, hi, HT, hbw⟩ := hrel
      by_cases hLt : i < a.length
      · have hLt2 : i < b.length := by omega
        obtain ⟨b1, o1, b2, o2, e1, e2, hc⟩ := ROW.out i hLt hLt2
        subst e1 e2
        obtain ⟨q1, q2⟩ := hc wr hbw
        have hil : (i : Int) < (a.length : Int) := by omega
        have hil2 : (i : Int) < (b.length : Int) := by omega
        have HN : Hid (a[i] = b[i] → a.take (i + 1) = b.take (i + 1)) := hid (fun e => by rw [List.take_succ_eq_append_getElem hLt, List.take_succ_eq_append_getElem hLt2, HT.out, e])
        have HO : Hid (a[i] ≠ b[i] → decide (a = b) = false) := hid (fun e => decide_eq_false (fun h => by subst h; exact e rfl))
        have HL := hid hLt
        clear hc HT hle
        generalize a[i] = x at *
        generalize b[i] = y at *
        by_cases he : x = y
        · subst he
          have HN2 := hid (HN.out rfl)
          clear HN HO
          go_wp2_with fail
          go_quiet (fail)
          go_wp2_with fail
          go_roundw
          case rel => exact ⟨i + 1, by go_num, HL.out, HN2, bdN hbw _⟩
          case measure => have := HL.out; simp [intOf]; omega
        · have HN2 := hid (HO.out he)
          have hd : (x != y) = true := by simpa using he
          clear HN HO
          go_wp2_with fail
          go_quiet (fail)
          go_wp2_with fail
          go_ret
          exact ⟨by rw [HN2.out]; rfl, bdN hbw _⟩
      · have hil : ¬ (i : Int) < (a.length : Int) := by omega
        have HY : Hid (decide (a = b) = true) := hid (decide_eq_true (by have h := HT.out; rw [List.take_of_length_le (by omega), List.take_of_length_le (by omega)] at h; exact h))
        clear HT
        go_wp2
        go_ret
        exact ⟨by rw [HY.out]; rfl, hbw⟩
  · have HY : Hid (decide (a = b) = false) := hid (decide_eq_false (fun h => hle (by rw [h])))
    have hleI : ((a.length : Int) != (b.length : Int)) = true := by simp; omega
    clear hR hS
    go_enter Try.func31, Try.ntmps31
    go_wp2
    go_ret
    exact ⟨by rw [HY.out]; rfl, Below.refl _ _⟩
set_option maxRecDepth 100000 in
set_option maxHeartbeats 4000000 in
theorem thoseO_is (v : Value) (l : List MV) (k n : Int) (gk gn : Nat) (w : World) (hR : KMet.Rd w v l) (hlen : l.length ≤ 1099511627776) (hwf : ∀ x ∈ l, wfI x.id) (hk : w.cell? ⟨gk, 0, none⟩ = some (.int .i64 k)) (hn : w.cell? ⟨gn, 0, none⟩ = some (.int .i64 n)) (hn2 : n ≤ 9223372036854775807) :
    Calls Try.prog 44 #[v, .func (.func 45) #[] #[.pointer (some ⟨gk, 0, none⟩), .pointer (some ⟨gn, 0, none⟩)]] w (MetsOut w (thoseM l (fun x => overM k n x))) := by
  have hF := Fine_is v l w hR hlen hwf
  have hC : FinT l → ∀ x ∈ l, ∀ w1, Below w.heap.size w w1 → Calls Try.prog 45 #[metaV x, .pointer (some ⟨gk, 0, none⟩), .pointer (some ⟨gn, 0, none⟩)] w1 fun e w' => e = .returned (.bool (overM k n x)) ∧ Below w1.heap.size w1 w' := fun hfin x hx w1 hw => Over1_is x gk gn k n w1 ((hw.cell (p := ⟨gk, 0, none⟩) (World.block_lt_of_cell? w _ hk)).trans hk) ((hw.cell (p := ⟨gn, 0, none⟩) (World.block_lt_of_cell? w _ hn)).trans hn) (by have := rt_iff.1 (hfin.1 x hx); have h1 := this.le1; have h2 := this.mo1; omega) hn2
  obtain ⟨A, c, rfl, hlc⟩ := hR.form
  have ROW := hid (met_row (K := KMet) rfl rfl hR)
  clear hR hk hn
  cases hf : fineM l with
  | false =>
    have HT : Hid (thoseM l (fun x => overM k n x) = []) := hid (by unfold thoseM; rw [hf]; rfl)
    rw [hf] at hF
    clear hC
    go_enter Try.func44, Try.ntmps44
    go_wp2_with (go_at_call 8; refine hF.mono ?_; rintro e w7 ⟨rfl, b7⟩)
    go_ret
    exact ⟨_, rfl, by rw [HT.out]; exact Kd.Own.nil _ _, b7⟩
  | true =>
    have HT : Hid (thoseM l (fun x => overM k n x) = l.filter (fun x => overM k n x)) := hid (by unfold thoseM; rw [hf]; rfl)
    have HCC := hid (hC (fine_iff.1 hf))
    clear hC
    rw [hf] at hF
    go_enter Try.func44, Try.ntmps44
    go_wp2_with (go_at_call 8; refine hF.mono ?_; rintro e w7 ⟨rfl, b7⟩)
    go_loopw [5, 13] (fun ov iv wr => ∃ (i : Nat) (M : List MV), iv = .int .i64 i ∧ i ≤ l.length ∧ Hid (M = (l.take i).filter (fun x => overM k n x)) ∧ M.length ≤ i ∧ KMet.Own wr w.heap.size ov M ∧ Below w.heap.size w wr) (fun _ iv _ => l.length - (intOf iv).toNat)
    case atStart => exact ⟨0, [], rfl, by omega, hid (by simp), by simp, Kd.Own.nil _ _, b7⟩
    case round =>
      obtain ⟨i, M, rfl, hi, HM, hMl, ho, hbw⟩ := hrel
      obtain ⟨A1, c1, rfl, _⟩ := ho.rd.form
      by_cases hLt : i < l.length
      · obtain ⟨b, off, hA, hb, hc⟩ := ROW.out i hLt
        subst hA
        obtain ⟨q0, q1, q2, q3, q4, q5, q6, q7⟩ := hc wr hbw
        have hil : (i : Int) < (l.length : Int) := by omega
        have HN : Hid ((l.take (i + 1)).filter (fun x => overM k n x) = M ++ (if (fun x => overM k n x) l[i] = true then [l[i]] else [])) := hid (by
          rw [filter_take hLt, HM.out])
        have hmm : M.length + 1 ≤ maxLen := by unfold maxLen; omega
        have hml : (M.length + 1) * 64 ≤ 140737488355328 := by omega
        have hCx := HCC.out _ (List.getElem_mem hLt)
        have HL := hid hLt
        clear hc HM
        generalize l[i] = x at *
        have b6 := below_box hbw hbw.size (.cells #[.int .i64 x.id, .int .i64 x.least, .int .i64 x.most, .int .i64 x.first, .int .i64 x.last, .int .i64 x.rows, .int .i64 x.bytes, .int .i64 x.level] 28)
        have AFT : ∀ w9, Below (wr.alloc (.cells #[.int .i64 x.id, .int .i64 x.least, .int .i64 x.most, .int .i64 x.first, .int .i64 x.last, .int .i64 x.rows, .int .i64 x.bytes, .int .i64 x.level] 28)).heap.size (wr.alloc (.cells #[.int .i64 x.id, .int .i64 x.least, .int .i64 x.most, .int .i64 x.first, .int .i64 x.last, .int .i64 x.rows, .int .i64 x.bytes, .int .i64 x.level] 28)) w9 → Below w.heap.size w w9 ∧ KMet.Own w9 w.heap.size (.slice A1 M.length c1) M ∧ w.heap.size ≤ w9.heap.size ∧ Mc w9 wr.heap.size 0 x := fun w9 b9 => by
          have bb := b6.trans (b9.mono b6.size)
          exact ⟨bb, (ho.alloc _).below b9, bb.size, (Mc.of_row (box_row wr #[.int .i64 x.id, .int .i64 x.least, .int .i64 x.most, .int .i64 x.first, .int .i64 x.last, .int .i64 x.rows, .int .i64 x.bytes, .int .i64 x.level] 28)).below b9 (by simp)⟩
        have hCy := hCx _ b6
        clear ho hCx
        unfold metaV at hCy
        cases hpx : (fun x => overM k n x) x with
        | true =>
          have HP := hid hpx
          simp only at hpx
          rw [hpx] at hCy
          clear hpx
          go_wp2_with (first
            | (go_at_call 45; refine hCy.mono ?_; rintro e w9 ⟨rfl, b9⟩; obtain ⟨bb9, o9, z9, p9⟩ := AFT w9 b9; clear AFT hCy; obtain ⟨p0, p1, p2, p3, p4, p5, p6, p7⟩ := p9; rw [Nat.zero_add] at p1 p2 p3 p4 p5 p6 p7)
            | (at_builtin; refine Kd.wp_app1 (K := KMet) rfl (.tmp 20) (.tmp 22) 25 rfl Try.underlying25 infoMet rfl w.heap.size _ M x rfl o9 rfl rfl rfl hmm hml z9 ?_; intro v5 w5 o5 b5 g5 n5))
          obtain ⟨A5, c5, rfl, _⟩ := o5.rd.form
          go_roundw
          case rel => exact ⟨i + 1, M ++ [x], by go_num, HL.out, hid (by rw [HN.out, if_pos HP.out]), by simp; omega, o5, bb9.trans b5⟩
          case measure => have := HL.out; simp [intOf]; omega
        | false =>
          have HP := hid hpx
          simp only at hpx
          rw [hpx] at hCy
          clear hpx
          go_wp2_with (go_at_call 45; refine hCy.mono ?_; rintro e w9 ⟨rfl, b9⟩; obtain ⟨bb9, o9, z9, p9⟩ := AFT w9 b9; clear AFT hCy)
          go_roundw
          case rel => exact ⟨i + 1, M, by go_num, HL.out, hid (by rw [HN.out, if_neg (by rw [HP.out]; decide), List.append_nil]), by omega, o9, bb9⟩
          case measure => have := HL.out; simp [intOf]; omega
      · have hil : ¬ (i : Int) < (l.length : Int) := by omega
        have HY : Hid (thoseM l (fun x => overM k n x) = M) := hid (by rw [HT.out, HM.out, List.take_of_length_le (by omega)])
        go_wp2
        go_ret
        exact ⟨_, rfl, by rw [HY.out]; exact ho, hbw⟩
set_option maxRecDepth 100000 in
set_option maxHeartbeats 4000000 in
theorem thoseP_is (v : Value) (l : List MV) (k n : Int) (gk gn : Nat) (w : World) (hR : KMet.Rd w v l) (hlen : l.length ≤ 1099511627776) (hwf : ∀ x ∈ l, wfI x.id) (hk : w.cell? ⟨gk, 2, none⟩ = some (.int .i64 k)) (hn : w.cell? ⟨gn, 0, none⟩ = some (.int .i64 n)) (hn2 : n ≤ 9223372036854775807) :
    Calls Try.prog 44 #[v, .func (.func 48) #[] #[.pointer (some ⟨gk, 0, none⟩), .pointer (some ⟨gn, 0, none⟩)]] w (MetsOut w (thoseM l (fun x => !overM k n x))) := by
  have hF := Fine_is v l w hR hlen hwf
  have hC : FinT l → ∀ x ∈ l, ∀ w1, Below w.heap.size w w1 → Calls Try.prog 48 #[metaV x, .pointer (some ⟨gk, 0, none⟩), .pointer (some ⟨gn, 0, none⟩)] w1 fun e w' => e = .returned (.bool (!overM k n x)) ∧ Below w1.heap.size w1 w' := fun hfin x hx w1 hw => Pack1_is x gk gn k n w1 ((hw.cell (p := ⟨gk, 2, none⟩) (World.block_lt_of_cell? w _ hk)).trans hk) ((hw.cell (p := ⟨gn, 0, none⟩) (World.block_lt_of_cell? w _ hn)).trans hn) (by have := rt_iff.1 (hfin.1 x hx); have h1 := this.le1; have h2 := this.mo1; omega) hn2
  obtain ⟨A, c, rfl, hlc⟩ := hR.form
  have ROW := hid (met_row (K := KMet) rfl rfl hR)
  clear hR hk hn
  cases hf : fineM l with
  | false =>
    have HT : Hid (thoseM l (fun x => !overM k n x) = []) := hid (by unfold thoseM; rw [hf]; rfl)
    rw [hf] at hF
    clear hC
    go_enter Try.func44, Try.ntmps44
    go_wp2_with (go_at_call 8; refine hF.mono ?_; rintro e w7 ⟨rfl, b7⟩)
    go_ret
    exact ⟨_, rfl, by rw [HT.out]; exact Kd.Own.nil _ _, b7⟩
  | true =>
    have HT : Hid (thoseM l (fun x => !overM k n x) = l.filter (fun x => !overM k n x)) := hid (by unfold thoseM; rw [hf]; rfl)
    have HCC := hid (hC (fine_iff.1 hf))
    clear hC
    rw [hf] at hF
    go_enter Try.func44, Try.ntmps44
    go_wp2_with (go_at_call 8; refine hF.mono ?_; rintro e w7 ⟨rfl, b7⟩)
    go_loopw [5, 13] (fun ov iv wr => ∃ (i : Nat) (M : List MV), iv = .int .i64 i ∧ i ≤ l.length ∧ Hid (M = (l.take i).filter (fun x => !overM k n x)) ∧ M.length ≤ i ∧ KMet.Own wr w.heap.size ov M ∧ Below w.heap.size w wr) (fun _ iv _ => l.length - (intOf iv).toNat)
    case atStart => exact ⟨0, [], rfl, by omega, hid (by simp), by simp, Kd.Own.nil _ _, b7⟩
    case round =>
      obtain ⟨i, M, rfl, hi, HM, hMl, ho, hbw⟩ := hrel
      obtain ⟨A1, c1, rfl, _⟩ := ho.rd.form
      by_cases hLt : i < l.length
      · obtain ⟨b, off, hA, hb, hc⟩ := ROW.out i hLt
        subst hA
        obtain ⟨q0, q1, q2, q3, q4, q5, q6, q7⟩ := hc wr hbw
        have hil : (i : Int) < (l.length : Int) := by omega
        have HN : Hid ((l.take (i + 1)).filter (fun x => !overM k n x) = M ++ (if (fun x => !overM k n x) l[i] = true then [l[i]] else [])) := hid (by
          rw [filter_take hLt, HM.out])
        have hmm : M.length + 1 ≤ maxLen := by unfold maxLen; omega
        have hml : (M.length + 1) * 64 ≤ 140737488355328 := by omega
        have hCx := HCC.out _ (List.getElem_mem hLt)
        have HL := hid hLt
        clear hc HM
        generalize l[i] = x at *
        have b6 := below_box hbw hbw.size (.cells #[.int .i64 x.id, .int .i64 x.least, .int .i64 x.most, .int .i64 x.first, .int .i64 x.last, .int .i64 x.rows, .int .i64 x.bytes, .int .i64 x.level] 28)
        have AFT : ∀ w9, Below (wr.alloc (.cells #[.int .i64 x.id, .int .i64 x.least, .int .i64 x.most, .int .i64 x.first, .int .i64 x.last, .int .i64 x.rows, .int .i64 x.bytes, .int .i64 x.level] 28)).heap.size (wr.alloc (.cells #[.int .i64 x.id, .int .i64 x.least, .int .i64 x.most, .int .i64 x.first, .int .i64 x.last, .int .i64 x.rows, .int .i64 x.bytes, .int .i64 x.level] 28)) w9 → Below w.heap.size w w9 ∧ KMet.Own w9 w.heap.size (.slice A1 M.length c1) M ∧ w.heap.size ≤ w9.heap.size ∧ Mc w9 wr.heap.size 0 x := fun w9 b9 => by
          have bb := b6.trans (b9.mono b6.size)
          exact ⟨bb, (ho.alloc _).below b9, bb.size, (Mc.of_row (box_row wr #[.int .i64 x.id, .int .i64 x.least, .int .i64 x.most, .int .i64 x.first, .int .i64 x.last, .int .i64 x.rows, .int .i64 x.bytes, .int .i64 x.level] 28)).below b9 (by simp)⟩
        have hCy := hCx _ b6
        clear ho hCx
        unfold metaV at hCy
        cases hpx : (fun x => !overM k n x) x with
        | true =>
          have HP := hid hpx
          simp only at hpx
          rw [hpx] at hCy
          clear hpx
          go_wp2_with (first
            | (go_at_call 48; refine hCy.mono ?_; rintro e w9 ⟨rfl, b9⟩; obtain ⟨bb9, o9, z9, p9⟩ := AFT w9 b9; clear AFT hCy; obtain ⟨p0, p1, p2, p3, p4, p5, p6, p7⟩ := p9; rw [Nat.zero_add] at p1 p2 p3 p4 p5 p6 p7)
            | (at_builtin; refine Kd.wp_app1 (K := KMet) rfl (.tmp 20) (.tmp 22) 25 rfl Try.underlying25 infoMet rfl w.heap.size _ M x rfl o9 rfl rfl rfl hmm hml z9 ?_; intro v5 w5 o5 b5 g5 n5))
          obtain ⟨A5, c5, rfl, _⟩ := o5.rd.form
          go_roundw
          case rel => exact ⟨i + 1, M ++ [x], by go_num, HL.out, hid (by rw [HN.out, if_pos HP.out]), by simp; omega, o5, bb9.trans b5⟩
          case measure => have := HL.out; simp [intOf]; omega
        | false =>
          have HP := hid hpx
          simp only at hpx
          rw [hpx] at hCy
          clear hpx
          go_wp2_with (go_at_call 48; refine hCy.mono ?_; rintro e w9 ⟨rfl, b9⟩; obtain ⟨bb9, o9, z9, p9⟩ := AFT w9 b9; clear AFT hCy)
          go_roundw
          case rel => exact ⟨i + 1, M, by go_num, HL.out, hid (by rw [HN.out, if_neg (by rw [HP.out]; decide), List.append_nil]), by omega, o9, bb9⟩
          case measure => have := HL.out; simp [intOf]; omega
      · have hil : ¬ (i : Int) < (l.length : Int) := by omega
        have HY : Hid (thoseM l (fun x => !overM k n x) = M) := hid (by rw [HT.out, HM.out, List.take_of_length_le (by omega)])
        go_wp2
        go_ret
        exact ⟨_, rfl, by rw [HY.out]; exact ho, hbw⟩
end Go.Proofs.Ytddbmibpnahmnaa
