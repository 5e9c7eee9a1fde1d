/-
  What the reference's Look and Over answer. Conditions: the list is no longer than 2^40; a number is one that an int holds.
-/
import Derived.Test.YtoomhfjmcdbgkaaNfr
namespace Go.Proofs.Ytoomhfjmcdbgkaa
open Go.RowKit Go.Icz
/-- A list of numbers is answered, in memory of the call's own. -/
def IntsOut (w : World) (a : List Int) (e : Ending) (w' : World) : Prop := ∃ v, e = .returned v ∧ KInt.Own w' w.heap.size v a ∧ Below w.heap.size w w'
set_option maxRecDepth 100000 in
set_option maxHeartbeats 4000000 in
theorem RLook_is (v : Value) (l : List MV) (f t : Int) (w : World) (hR : KRm.Rd w v l) (hlen : l.length ≤ 1099511627776) :
    Calls Try.prog 25 #[v, .int .i64 f, .int .i64 t] w (IntsOut w (idsM (thoseM l (lookM f t)))) := by
  have hF := fun w1 (hw : Below w.heap.size w w1) => RFine_is v l w1 (hR.below hw) hlen
  obtain ⟨A, c, rfl, hlc⟩ := hR.form
  have ROW := hid (met_row (K := KRm) rfl rfl hR)
  clear hR
  cases hf : fineM l with
  | false =>
    have HT : Hid (thoseM l (lookM f t) = []) := hid (by unfold thoseM; rw [hf]; rfl)
    rw [hf] at hF
    go_enter Try.func25, Try.ntmps25
    go_wp2
    go_loopw [7, 8] (fun ov iv wr => ov = .slice none 0 0 ∧ iv = .int .i64 0 ∧ wr = w) (fun _ _ _ => 0)
    case atStart => exact ⟨rfl, rfl, rfl⟩
    case round =>
      obtain ⟨rfl, rfl, rfl⟩ := hrel
      by_cases h0 : l.length = 0
      · have h1 : ¬ (0 : Int) < (l.length : Int) := by omega
        go_wp2
        go_ret
        exact ⟨_, rfl, by rw [HT.out]; exact Kd.Own.nil _ _, Below.refl _ _⟩
      · have h1 : (0 : Int) < (l.length : Int) := by omega
        have hF1 := hF _ (Below.refl _ _)
        go_wp2_with (go_at_call 14; refine hF1.mono ?_; rintro e w7 ⟨rfl, b7⟩)
        go_ret
        exact ⟨_, rfl, by rw [HT.out]; exact Kd.Own.nil _ _, b7⟩
  | true =>
    have HT : Hid (thoseM l (lookM f t) = l.filter (lookM f t)) := hid (by unfold thoseM; rw [hf]; rfl)
    have HFN := hid (fine_iff.1 hf)
    rw [hf] at hF
    go_enter Try.func25, Try.ntmps25
    go_wp2
    go_loopw [7, 8] (fun ov iv wr => ∃ (i : Nat) (M : List Int), iv = .int .i64 i ∧ i ≤ l.length ∧ Hid (M = idsM ((l.take i).filter (lookM f t))) ∧ M.length ≤ i ∧ KInt.Own wr w.heap.size ov M ∧ Below w.heap.size w wr) (fun _ iv _ => l.length - (intOf iv).toNat)
    case atStart => exact ⟨0, [], rfl, by omega, hid (by simp [idsM]), by simp, Kd.Own.nil _ _, Below.refl _ _⟩
    case round =>
      obtain ⟨i, M, rfl, hi, HM, hMl, ho, hbw⟩ := hrel
      have hF1 := hF _ hbw
      obtain ⟨A1, c1, rfl, _⟩ := ho.rd.form
      by_cases hLt : i < l.length
      · obtain ⟨b, off, hA, hb, hc⟩ := ROW.out i hLt
        subst hA
        have HC := hid hc
        have hil : (i : Int) < (l.length : Int) := by omega
        have HL := hid hLt
        have HN : Hid (idsM ((l.take (i + 1)).filter (lookM f t)) = M ++ (if (lookM f t) l[i] = true then [l[i].id] else [])) := hid (by
          rw [filter_take hLt, idsM_app, HM.out]
          cases (lookM f t) l[i]
          · simp [idsM]
          · rfl)
        have hmost : 0 ≤ l[i].most := by have := rt_iff.1 (HFN.out.1 _ (List.getElem_mem hLt)); have h1 := this.le1; have h2 := this.mo1; omega
        have hmm : M.length + 1 ≤ maxLen := by unfold maxLen; omega
        have hml : (M.length + 1) * 8 ≤ 140737488355328 := by omega
        have hwz := hbw.size
        clear hc HM
        generalize l[i] = x at *
        have AFT : ∀ w7, Below wr.heap.size wr w7 → Below w.heap.size w w7 ∧ KInt.Own w7 w.heap.size (.slice A1 M.length c1) M ∧ w.heap.size ≤ w7.heap.size := fun w7 b7 => ⟨hbw.trans (b7.mono hbw.size), ho.below b7, Nat.le_trans hwz b7.size⟩
        clear ho
        by_cases h1 : x.least < t
        · by_cases h2 : x.most ≥ f
          · have HP : Hid (lookM f t x = true) := hid (by unfold lookM; simp only [h1, h2, decide_true, Bool.and_self])
            go_wp2_with (first
              | (go_at_call 14; refine hF1.mono ?_; rintro e w7 ⟨rfl, b7⟩; obtain ⟨b8, o8, z8⟩ := AFT w7 b7; obtain ⟨q0, q1, q2, q3, q4, q5, q6, q7⟩ := HC.out w7 b8)
              | (at_builtin; refine Kd.wp_app1 (K := KInt) rfl (.tmp 35) (.tmp 41) 49 rfl Try.underlying49 infoInt rfl w.heap.size _ M x.id rfl o8 rfl rfl rfl hmm hml z8 ?_; intro v5 w5 o5 b5 g5 n5))
            obtain ⟨A5, c5, rfl, _⟩ := o5.rd.form
            go_roundw
            case rel => exact ⟨i + 1, M ++ [x.id], by go_num, HL.out, hid (by rw [HN.out, HP.out]; rfl), by simp; omega, o5, b8.trans (b5.mono (by have := b8.size; omega))⟩
            case measure => have := HL.out; simp [intOf]; omega
          · have HP : Hid (lookM f t x = false) := hid (by unfold lookM; simp only [h1, h2, decide_true, decide_false, Bool.and_false])
            go_wp2_with (go_at_call 14; refine hF1.mono ?_; rintro e w7 ⟨rfl, b7⟩; obtain ⟨b8, o8, z8⟩ := AFT w7 b7; obtain ⟨q0, q1, q2, q3, q4, q5, q6, q7⟩ := HC.out w7 b8)
            go_roundw
            case rel => exact ⟨i + 1, M, by go_num, HL.out, hid (by rw [HN.out, HP.out]; simp), by omega, o8, b8⟩
            case measure => have := HL.out; simp [intOf]; omega
        · have HP : Hid (lookM f t x = false) := hid (by unfold lookM; simp only [h1, decide_false, Bool.false_and])
          go_wp2_with (go_at_call 14; refine hF1.mono ?_; rintro e w7 ⟨rfl, b7⟩; obtain ⟨b8, o8, z8⟩ := AFT w7 b7; obtain ⟨q0, q1, q2, q3, q4, q5, q6, q7⟩ := HC.out w7 b8)
          go_roundw
          case rel => exact ⟨i + 1, M, by go_num, HL.out, hid (by rw [HN.out, HP.out]; simp), by omega, o8, b8⟩
          case measure => have := HL.out; simp [intOf]; omega
      · have hil : ¬ (i : Int) < (l.length : Int) := by omega
        have HY : Hid (idsM (thoseM l (lookM f t)) = M) := hid (by rw [HT.out, HM.out, List.take_of_length_le (by omega)])
        go_wp2
        go_ret
        exact ⟨_, rfl, by rw [HY.out]; exact ho, hbw⟩
set_option maxRecDepth 100000 in
set_option maxHeartbeats 4000000 in
theorem ROver_is (v : Value) (l : List MV) (k n : Int) (w : World) (hR : KRm.Rd w v l) (hlen : l.length ≤ 1099511627776) (hn : n ≤ 9223372036854775807) :
    Calls Try.prog 27 #[v, .int .i64 k, .int .i64 n] w (IntsOut w (idsM (thoseM l (overM k n)))) := by
  have hF := fun w1 (hw : Below w.heap.size w w1) => RFine_is v l w1 (hR.below hw) hlen
  obtain ⟨A, c, rfl, hlc⟩ := hR.form
  have ROW := hid (met_row (K := KRm) rfl rfl hR)
  clear hR
  cases hf : fineM l with
  | false =>
    have HT : Hid (thoseM l (overM k n) = []) := hid (by unfold thoseM; rw [hf]; rfl)
    rw [hf] at hF
    go_enter Try.func27, Try.ntmps27
    go_wp2
    go_loopw [7, 8] (fun ov iv wr => ov = .slice none 0 0 ∧ iv = .int .i64 0 ∧ wr = w) (fun _ _ _ => 0)
    case atStart => exact ⟨rfl, rfl, rfl⟩
    case round =>
      obtain ⟨rfl, rfl, rfl⟩ := hrel
      by_cases h0 : l.length = 0
      · have h1 : ¬ (0 : Int) < (l.length : Int) := by omega
        go_wp2
        go_ret
        exact ⟨_, rfl, by rw [HT.out]; exact Kd.Own.nil _ _, Below.refl _ _⟩
      · have h1 : (0 : Int) < (l.length : Int) := by omega
        have hF1 := hF _ (Below.refl _ _)
        go_wp2_with (go_at_call 14; refine hF1.mono ?_; rintro e w7 ⟨rfl, b7⟩)
        go_ret
        exact ⟨_, rfl, by rw [HT.out]; exact Kd.Own.nil _ _, b7⟩
  | true =>
    have HT : Hid (thoseM l (overM k n) = l.filter (overM k n)) := hid (by unfold thoseM; rw [hf]; rfl)
    have HFN := hid (fine_iff.1 hf)
    rw [hf] at hF
    go_enter Try.func27, Try.ntmps27
    go_wp2
    go_loopw [7, 8] (fun ov iv wr => ∃ (i : Nat) (M : List Int), iv = .int .i64 i ∧ i ≤ l.length ∧ Hid (M = idsM ((l.take i).filter (overM k n))) ∧ M.length ≤ i ∧ KInt.Own wr w.heap.size ov M ∧ Below w.heap.size w wr) (fun _ iv _ => l.length - (intOf iv).toNat)
    case atStart => exact ⟨0, [], rfl, by omega, hid (by simp [idsM]), by simp, Kd.Own.nil _ _, Below.refl _ _⟩
    case round =>
      obtain ⟨i, M, rfl, hi, HM, hMl, ho, hbw⟩ := hrel
      have hF1 := hF _ hbw
      obtain ⟨A1, c1, rfl, _⟩ := ho.rd.form
      by_cases hLt : i < l.length
      · obtain ⟨b, off, hA, hb, hc⟩ := ROW.out i hLt
        subst hA
        have HC := hid hc
        have hil : (i : Int) < (l.length : Int) := by omega
        have HL := hid hLt
        have HN : Hid (idsM ((l.take (i + 1)).filter (overM k n)) = M ++ (if (overM k n) l[i] = true then [l[i].id] else [])) := hid (by
          rw [filter_take hLt, idsM_app, HM.out]
          cases (overM k n) l[i]
          · simp [idsM]
          · rfl)
        have hmost : 0 ≤ l[i].most := by have := rt_iff.1 (HFN.out.1 _ (List.getElem_mem hLt)); have h1 := this.le1; have h2 := this.mo1; omega
        have hmm : M.length + 1 ≤ maxLen := by unfold maxLen; omega
        have hml : (M.length + 1) * 8 ≤ 140737488355328 := by omega
        have hwz := hbw.size
        clear hc HM
        generalize l[i] = x at *
        have AFT : ∀ w7, Below wr.heap.size wr w7 → Below w.heap.size w w7 ∧ KInt.Own w7 w.heap.size (.slice A1 M.length c1) M ∧ w.heap.size ≤ w7.heap.size := fun w7 b7 => ⟨hbw.trans (b7.mono hbw.size), ho.below b7, Nat.le_trans hwz b7.size⟩
        clear ho
        have hO := fun w1 => Rover_is x k n w1 hmost hn
        generalize hPx : overM k n x = r at hO
        have HP := hid hPx
        clear hPx
        unfold metaV at hO
        cases r with
        | true =>
          go_wp2_with (first
            | (go_at_call 14; refine hF1.mono ?_; rintro e w7 ⟨rfl, b7⟩; obtain ⟨b8, o8, z8⟩ := AFT w7 b7; obtain ⟨q0, q1, q2, q3, q4, q5, q6, q7⟩ := HC.out w7 b8)
            | (go_at_call 52; refine (hO _).mono ?_; rintro e w9 ⟨rfl, b9⟩; have bb9 := b8.trans (b9.mono b8.size); have o9 := o8.below b9; have z9 := bb9.size; have y0 := (HC.out w9 bb9).c0)
            | (at_builtin; refine Kd.wp_app1 (K := KInt) rfl (.tmp 26) (.tmp 32) 49 rfl Try.underlying49 infoInt rfl w.heap.size _ M x.id rfl o9 rfl rfl rfl hmm hml z9 ?_; intro v5 w5 o5 b5 g5 n5))
          obtain ⟨A5, c5, rfl, _⟩ := o5.rd.form
          go_roundw
          case rel => exact ⟨i + 1, M ++ [x.id], by go_num, HL.out, hid (by rw [HN.out, HP.out]; rfl), by simp; omega, o5, bb9.trans (b5.mono (by have := bb9.size; omega))⟩
          case measure => have := HL.out; simp [intOf]; omega
        | false =>
          go_wp2_with (first
            | (go_at_call 14; refine hF1.mono ?_; rintro e w7 ⟨rfl, b7⟩; obtain ⟨b8, o8, z8⟩ := AFT w7 b7; obtain ⟨q0, q1, q2, q3, q4, q5, q6, q7⟩ := HC.out w7 b8)
            | (go_at_call 52; refine (hO _).mono ?_; rintro e w9 ⟨rfl, b9⟩; have bb9 := b8.trans (b9.mono b8.size); have o9 := o8.below b9))
          go_roundw
          case rel => exact ⟨i + 1, M, by go_num, HL.out, hid (by rw [HN.out, HP.out]; simp), by omega, o9, bb9⟩
          case measure => have := HL.out; simp [intOf]; omega
      · have hil : ¬ (i : Int) < (l.length : Int) := by omega
        have HY : Hid (idsM (thoseM l (overM k n)) = M) := hid (by rw [HT.out, HM.out, List.take_of_length_le (by omega)])
        go_wp2
        go_ret
        exact ⟨_, rfl, by rw [HY.out]; exact ho, hbw⟩
end Go.Proofs.Ytoomhfjmcdbgkaa
