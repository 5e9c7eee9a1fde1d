/-
  What the program's Joined answers of one block or more in a fine list. Conditions: the list is no longer than 2^40; a number is one that an int holds.
-/
import Derived.Test.YtoomhfjmcdbgkaaNjo
namespace Go.Proofs.Ytoomhfjmcdbgkaa
open Go.RowKit Go.Icz
set_option maxRecDepth 100000 in
set_option maxHeartbeats 8000000 in
theorem Joined_yes (v : Value) (x : MV) (t : List MV) (id : Int) (w : World) (hR : KMet.Rd w v (x :: t)) (hlen : (x :: t).length ≤ 1099511627776) (hwf : ∀ y ∈ x :: t, wfI y.id) (hf : fineM (x :: t) = true) :
    Calls Try.prog 29 #[v, .int .i64 id] w (JoinOut w (joinM (x :: t) id)) := by
  have b1 : Below w.heap.size w (w.alloc (.cells #[.int .i64 0, .int .i64 0, .int .i64 0, .int .i64 0, .int .i64 0, .int .i64 0, .int .i64 0, .int .i64 0] 28)) := (Below.refl _ w).alloc (Nat.le_refl _) _
  have r1 := box_row w #[.int .i64 0, .int .i64 0, .int .i64 0, .int .i64 0, .int .i64 0, .int .i64 0, .int .i64 0, .int .i64 0] 28
  have hF := Fine_is v (x :: t) (w.alloc (.cells #[.int .i64 0, .int .i64 0, .int .i64 0, .int .i64 0, .int .i64 0, .int .i64 0, .int .i64 0, .int .i64 0] 28)) (hR.below b1) hlen hwf
  rw [hf] at hF
  obtain ⟨A, c, rfl, hcap⟩ := hR.form
  have hfin := fine_iff.1 hf
  have HJY := hid (fun h => join_yes (l := x :: t) (id := id) rfl hf h)
  have HJN := hid (fun h => join_no (l := x :: t) (id := id) rfl hf h)
  have HRT : Hid (∀ y ∈ x :: t, RtM y) := hid (fun y hy => rt_iff.1 (hfin.1 y hy))
  have HJB : Hid (∀ i, JnB (jnM x (t.take i))) := hid (fun i => jn_bound (HRT.out x (List.mem_cons_self ..)) _ (fun y hy => HRT.out y (List.mem_cons_of_mem _ (List.mem_of_mem_take hy))))
  obtain ⟨n, hn⟩ : ∃ n, (x :: t).length = n := ⟨_, rfl⟩
  rw [hn]
  have hn1 : t.length + 1 = n := by rw [← hn]; rfl
  have hp := Kd.Rd.part hR 1 (x :: t).length (by simp) (Nat.le_refl _)
  have ed : ((x :: t).drop 1).take ((x :: t).length - 1) = t := by simp
  rw [ed] at hp
  change KMet.Rd w (sliced A 1 (x :: t).length c 8) t at hp
  have h0 := Kd.Rd.met hR (j := 0) (by simp)
  obtain ⟨b, off, hA, hb, hc0⟩ := h0
  have hc0' : Mc w b off x := by
    have e : off + 0 * 8 = off := by omega
    rw [e] at hc0
    exact hc0
  clear hc0 hfin hwf hf
  try rw [hn] at hF
  try rw [hn] at hp
  try rw [hn] at hlen
  try rw [hn] at hcap
  try rw [hn] at hR
  subst hA
  change Calls _ _ #[.slice (some ⟨b, off, none⟩) n c] _ _ at hF
  have hs : ∀ wx, (Instr.slice 25 (.slice (some ⟨b, off, none⟩) n c) (some (.int .i64 1)) none none).run Try.prog wx = .ok (sliced (some ⟨b, off, none⟩) 1 n c 8) wx := fun wx => run_fromM (s := 1) (by omega) wx
  obtain ⟨At, ct, et, _⟩ := hp.form
  rw [et] at hp hs
  have HN := hid hn1
  have hti : t.length ≤ 1099511627776 := by omega
  have hn0 : ((n : Int) == 0) = false := by simp; omega
  have hn01 : (0 : Int) < (n : Int) := by omega
  have hnI : (1 : Int) ≤ (n : Int) := by omega
  have hbm : ∀ wr, Below w.heap.size w wr → Mc wr b off x := fun wr hw => hc0'.below hw hb
  have HP := hid (met_row (K := KMet) rfl rfl hp)
  clear et hc0' hp hn hR hn1 ed
  go_enter Try.func29, Try.ntmps29
  go_wp2_with (go_at_call 13; go_loud (refine hF.mono ?_; rintro e w3 ⟨rfl, b3⟩; have bw3 := b1.trans (b3.mono b1.size); have r3 := (Tch.of_below b3 (S := fun _ => False)).row r1 (fun h => h); obtain ⟨q0, q1, q2, q3, q4, q5, q6, q7⟩ := hbm w3 bw3; clear hF r1))
  have r6 := box_row w3 #[.int .i64 x.id, .int .i64 x.least, .int .i64 x.most, .int .i64 x.first, .int .i64 x.last, .int .i64 x.rows, .int .i64 x.bytes, .int .i64 x.level] 28
  have r4 := row_alloc r3 (.cells #[.int .i64 x.id, .int .i64 x.least, .int .i64 x.most, .int .i64 x.first, .int .i64 x.last, .int .i64 x.rows, .int .i64 x.bytes, .int .i64 x.level] 28)
  have bw4 := below_box bw3 bw3.size (.cells #[.int .i64 x.id, .int .i64 x.least, .int .i64 x.most, .int .i64 x.first, .int .i64 x.last, .int .i64 x.rows, .int .i64 x.bytes, .int .i64 x.level] 28)
  have hz3 : w.heap.size < w3.heap.size := row_lt r3
  have HZ := hid hz3
  generalize hW4 : w3.alloc (.cells #[.int .i64 x.id, .int .i64 x.least, .int .i64 x.most, .int .i64 x.first, .int .i64 x.last, .int .i64 x.rows, .int .i64 x.bytes, .int .i64 x.level] 28) = W4 at *
  clear hW4
  go_loopw [24] (fun iv wr => ∃ (i : Nat) (q : MV), iv = .int .i64 i ∧ i ≤ t.length ∧ Hid (q = jnM x (t.take i)) ∧ wr.heap[w3.heap.size]? = some (.cells #[.int .i64 q.id, .int .i64 q.least, .int .i64 q.most, .int .i64 q.first, .int .i64 q.last, .int .i64 q.rows, .int .i64 q.bytes, .int .i64 q.level] 28 (0, 0)) ∧ wr.heap[w.heap.size]? = some (.cells #[.int .i64 0, .int .i64 0, .int .i64 0, .int .i64 0, .int .i64 0, .int .i64 0, .int .i64 0, .int .i64 0] 28 (0, 0)) ∧ Below w.heap.size w wr) (fun iv _ => t.length - (intOf iv).toNat)
  case atStart => exact ⟨0, x, rfl, by omega, hid rfl, r6, r4, bw4⟩
  case round =>
    obtain ⟨i, q, rfl, hi, HQ, hq, hr4, hbw⟩ := hrel
    by_cases hLt : i < t.length
    · obtain ⟨bt, ot, hAt, hbt, hct⟩ := HP.out i hLt
      subst hAt
      have hct2 := hct wr hbw
      have hil : (i : Int) < (t.length : Int) := by omega
      have hBo := fun w1 => both_is q t[i] w1 (by rw [HQ.out]; exact HJB.out i) (HRT.out _ (List.mem_cons_of_mem _ (List.getElem_mem hLt)))
      have HQ2 : Hid (bothM q t[i] = jnM x (t.take (i + 1))) := hid (by rw [HQ.out, ← jnM_snoc, ← List.take_succ_eq_append_getElem hLt])
      have HL := hid hLt
      clear hct HQ
      generalize t[i] = y at *
      generalize bothM q y = q2 at *
      unfold metaV at hBo
      obtain ⟨s0, s1, s2, s3, s4, s5, s6, s7⟩ := hct2
      have hqa := row_alloc hq (.cells #[.int .i64 y.id, .int .i64 y.least, .int .i64 y.most, .int .i64 y.first, .int .i64 y.last, .int .i64 y.rows, .int .i64 y.bytes, .int .i64 y.level] 28)
      have hra := row_alloc hr4 (.cells #[.int .i64 y.id, .int .i64 y.least, .int .i64 y.most, .int .i64 y.first, .int .i64 y.last, .int .i64 y.rows, .int .i64 y.bytes, .int .i64 y.level] 28)
      have bwa := below_box hbw hbw.size (.cells #[.int .i64 y.id, .int .i64 y.least, .int .i64 y.most, .int .i64 y.first, .int .i64 y.last, .int .i64 y.rows, .int .i64 y.bytes, .int .i64 y.level] 28)
      have ac0 := held_cell (i := 0) hqa rfl
      have af0 := held_frozen (i := 0) hqa
      have ac1 := held_cell (i := 1) hqa rfl
      have af1 := held_frozen (i := 1) hqa
      have ac2 := held_cell (i := 2) hqa rfl
      have af2 := held_frozen (i := 2) hqa
      have ac3 := held_cell (i := 3) hqa rfl
      have af3 := held_frozen (i := 3) hqa
      have ac4 := held_cell (i := 4) hqa rfl
      have af4 := held_frozen (i := 4) hqa
      have ac5 := held_cell (i := 5) hqa rfl
      have af5 := held_frozen (i := 5) hqa
      have ac6 := held_cell (i := 6) hqa rfl
      have af6 := held_frozen (i := 6) hqa
      have ac7 := held_cell (i := 7) hqa rfl
      have af7 := held_frozen (i := 7) hqa
      go_wp2_with (go_at_call 53; go_loud (refine (hBo _).mono ?_; rintro e w5 ⟨rfl, b5⟩; have hq5 := (Tch.of_below b5 (S := fun _ => False)).row hqa (fun h => h); have hr5 := (Tch.of_below b5 (S := fun _ => False)).row hra (fun h => h); have bw5 := bwa.trans (b5.mono bwa.size); clear ac0 af0 ac1 af1 ac2 af2 ac3 af3 ac4 af4 ac5 af5 ac6 af6 ac7 af7; have pc0 := held_cell (i := 0) hq5 rfl; have pf0 := held_frozen (i := 0) hq5; have pc1 := held_cell (i := 1) hq5 rfl; have pf1 := held_frozen (i := 1) hq5; have pc2 := held_cell (i := 2) hq5 rfl; have pf2 := held_frozen (i := 2) hq5; have pc3 := held_cell (i := 3) hq5 rfl; have pf3 := held_frozen (i := 3) hq5; have pc4 := held_cell (i := 4) hq5 rfl; have pf4 := held_frozen (i := 4) hq5; have pc5 := held_cell (i := 5) hq5 rfl; have pf5 := held_frozen (i := 5) hq5; have pc6 := held_cell (i := 6) hq5 rfl; have pf6 := held_frozen (i := 6) hq5; have pc7 := held_cell (i := 7) hq5 rfl; have pf7 := held_frozen (i := 7) hq5))
      have hq6 := put8_row hq5 (.int .i64 q2.id) (.int .i64 q2.least) (.int .i64 q2.most) (.int .i64 q2.first) (.int .i64 q2.last) (.int .i64 q2.rows) (.int .i64 q2.bytes) (.int .i64 q2.level)
      have ht6 := put8_tch (w := w5) (b := w3.heap.size) (.int .i64 q2.id) (.int .i64 q2.least) (.int .i64 q2.most) (.int .i64 q2.first) (.int .i64 q2.last) (.int .i64 q2.rows) (.int .i64 q2.bytes) (.int .i64 q2.level)
      have hr6 := ht6.row hr5 (show ¬ w.heap.size = w3.heap.size by have := HZ.out; omega)
      have bw6 := Tch.below bw5 ht6 (fun j (e : j = w3.heap.size) => (show w.heap.size ≤ j by have := HZ.out; omega)) bw5.size
      go_roundw
      case rel => exact ⟨i + 1, q2, by go_num, HL.out, HQ2, hq6, hr6, bw6⟩
      case measure => have := HL.out; simp [intOf]; omega
    · have hil : ¬ (i : Int) < (t.length : Int) := by omega
      have HM : Hid (q = jnM x t) := hid (by rw [HQ.out, List.take_of_length_le (by omega)])
      have hjb := HJB.out i
      rw [← HQ.out] at hjb
      have hw1 : IntKind.i64.wrap (q.level + 1) = q.level + 1 := by rw [IntKind.wrap_i64]; have := hjb.lv1; have := hjb.lv2; omega
      have hRt := Right_is (topM q id)
      have bwr := hbw
      clear HQ hjb
      unfold metaV topM at hRt
      simp only at hRt
      have h6 : ((wr.setCell ⟨w3.heap.size, 0, none⟩ (.int .i64 id)).setCell ⟨w3.heap.size, 7, none⟩ (.int .i64 (q.level + 1))).heap[w3.heap.size]? = some (.cells #[.int .i64 id, .int .i64 q.least, .int .i64 q.most, .int .i64 q.first, .int .i64 q.last, .int .i64 q.rows, .int .i64 q.bytes, .int .i64 (q.level + 1)] 28 (0, 0)) := by
        have k1 := row_set (i := 7) (row_set (i := 0) hq (.int .i64 id)) (.int .i64 (q.level + 1))
        simpa using k1
      have h4 := row_far (i := 7) (row_far (i := 0) hr4 (.int .i64 id) (show w.heap.size ≠ w3.heap.size by have := HZ.out; omega)) (.int .i64 (q.level + 1)) (show w.heap.size ≠ w3.heap.size by have := HZ.out; omega)
      have b8 : Below w.heap.size w ((wr.setCell ⟨w3.heap.size, 0, none⟩ (.int .i64 id)).setCell ⟨w3.heap.size, 7, none⟩ (.int .i64 (q.level + 1))) := (hbw.setCell (p := ⟨w3.heap.size, 0, none⟩) (show w.heap.size ≤ w3.heap.size by have := HZ.out; omega) _).setCell (p := ⟨w3.heap.size, 7, none⟩) (show w.heap.size ≤ w3.heap.size by have := HZ.out; omega) _
      have ac0 := held_cell (i := 0) hq rfl
      have af0 := held_frozen (i := 0) hq
      have ac1 := held_cell (i := 1) hq rfl
      have af1 := held_frozen (i := 1) hq
      have ac2 := held_cell (i := 2) hq rfl
      have af2 := held_frozen (i := 2) hq
      have ac3 := held_cell (i := 3) hq rfl
      have af3 := held_frozen (i := 3) hq
      have ac4 := held_cell (i := 4) hq rfl
      have af4 := held_frozen (i := 4) hq
      have ac5 := held_cell (i := 5) hq rfl
      have af5 := held_frozen (i := 5) hq
      have ac6 := held_cell (i := 6) hq rfl
      have af6 := held_frozen (i := 6) hq
      have ac7 := held_cell (i := 7) hq rfl
      have af7 := held_frozen (i := 7) hq
      have DONE : ∀ w7, Below ((wr.setCell ⟨w3.heap.size, 0, none⟩ (.int .i64 id)).setCell ⟨w3.heap.size, 7, none⟩ (.int .i64 (q.level + 1))).heap.size ((wr.setCell ⟨w3.heap.size, 0, none⟩ (.int .i64 id)).setCell ⟨w3.heap.size, 7, none⟩ (.int .i64 (q.level + 1))) w7 → w7.heap[w3.heap.size]? = some (.cells #[.int .i64 id, .int .i64 q.least, .int .i64 q.most, .int .i64 q.first, .int .i64 q.last, .int .i64 q.rows, .int .i64 q.bytes, .int .i64 (q.level + 1)] 28 (0, 0)) ∧ w7.heap[w.heap.size]? = some (.cells #[.int .i64 0, .int .i64 0, .int .i64 0, .int .i64 0, .int .i64 0, .int .i64 0, .int .i64 0, .int .i64 0] 28 (0, 0)) ∧ Below w.heap.size w w7 := fun w7 h7 => ⟨(Tch.of_below h7 (S := fun _ => False)).row h6 (fun h => h), (Tch.of_below h7 (S := fun _ => False)).row h4 (fun h => h), b8.trans (h7.mono b8.size)⟩
      clear hq hr4 h6 h4 b8 hbw r6 r4 bw4
      cases hr : rightM (topM q id) with
      | true =>
        have HO := hid (HJY.out (by rw [← HM.out]; exact hr))
        unfold topM at hr
        rw [hr] at hRt
        go_wp2_with (go_at_call 20; go_loud (refine (hRt _).mono ?_; rintro e w7 ⟨rfl, h7⟩; obtain ⟨g6, g4, bw7⟩ := DONE _ h7; clear ac0 af0 ac1 af1 ac2 af2 ac3 af3 ac4 af4 ac5 af5 ac6 af6 ac7 af7; have dc0 := held_cell (i := 0) g6 rfl; have df0 := held_frozen (i := 0) g6; have dc1 := held_cell (i := 1) g6 rfl; have df1 := held_frozen (i := 1) g6; have dc2 := held_cell (i := 2) g6 rfl; have df2 := held_frozen (i := 2) g6; have dc3 := held_cell (i := 3) g6 rfl; have df3 := held_frozen (i := 3) g6; have dc4 := held_cell (i := 4) g6 rfl; have df4 := held_frozen (i := 4) g6; have dc5 := held_cell (i := 5) g6 rfl; have df5 := held_frozen (i := 5) g6; have dc6 := held_cell (i := 6) g6 rfl; have df6 := held_frozen (i := 6) g6; have dc7 := held_cell (i := 7) g6 rfl; have df7 := held_frozen (i := 7) g6; have pc0 := held_cell (i := 0) g4 rfl; have pf0 := held_frozen (i := 0) g4; have pc1 := held_cell (i := 1) g4 rfl; have pf1 := held_frozen (i := 1) g4; have pc2 := held_cell (i := 2) g4 rfl; have pf2 := held_frozen (i := 2) g4; have pc3 := held_cell (i := 3) g4 rfl; have pf3 := held_frozen (i := 3) g4; have pc4 := held_cell (i := 4) g4 rfl; have pf4 := held_frozen (i := 4) g4; have pc5 := held_cell (i := 5) g4 rfl; have pf5 := held_frozen (i := 5) g4; have pc6 := held_cell (i := 6) g4 rfl; have pf6 := held_frozen (i := 6) g4; have pc7 := held_cell (i := 7) g4 rfl; have pf7 := held_frozen (i := 7) g4; clear DONE hRt))
        have rr := put8_row g4 (.int .i64 id) (.int .i64 q.least) (.int .i64 q.most) (.int .i64 q.first) (.int .i64 q.last) (.int .i64 q.rows) (.int .i64 q.bytes) (.int .i64 (q.level + 1))
        have ec0 := held_cell (i := 0) rr rfl
        have ef0 := held_frozen (i := 0) rr
        have ec1 := held_cell (i := 1) rr rfl
        have ef1 := held_frozen (i := 1) rr
        have ec2 := held_cell (i := 2) rr rfl
        have ef2 := held_frozen (i := 2) rr
        have ec3 := held_cell (i := 3) rr rfl
        have ef3 := held_frozen (i := 3) rr
        have ec4 := held_cell (i := 4) rr rfl
        have ef4 := held_frozen (i := 4) rr
        have ec5 := held_cell (i := 5) rr rfl
        have ef5 := held_frozen (i := 5) rr
        have ec6 := held_cell (i := 6) rr rfl
        have ef6 := held_frozen (i := 6) rr
        have ec7 := held_cell (i := 7) rr rfl
        have ef7 := held_frozen (i := 7) rr
        exact bodyPost_ret (v := .tuple #[metaV (topM q id), .bool true]) (by simp [results, Try.results29, go_sem, metaV, topM, ec0, ec1, ec2, ec3, ec4, ec5, ec6, ec7]) rfl ⟨by rw [HO.out, ← HM.out], Tch.below bw7 (put8_tch (w := w7) (b := w.heap.size) (.int .i64 id) (.int .i64 q.least) (.int .i64 q.most) (.int .i64 q.first) (.int .i64 q.last) (.int .i64 q.rows) (.int .i64 q.bytes) (.int .i64 (q.level + 1))) (fun j (e : j = w.heap.size) => (show w.heap.size ≤ j by omega)) bw7.size⟩
      | false =>
        have HO := hid (HJN.out (by rw [← HM.out]; exact hr))
        unfold topM at hr
        rw [hr] at hRt
        go_wp2_with (go_at_call 20; go_loud (refine (hRt _).mono ?_; rintro e w7 ⟨rfl, h7⟩; obtain ⟨g6, g4, bw7⟩ := DONE _ h7; clear ac0 af0 ac1 af1 ac2 af2 ac3 af3 ac4 af4 ac5 af5 ac6 af6 ac7 af7; have pc0 := held_cell (i := 0) g4 rfl; have pf0 := held_frozen (i := 0) g4; have pc1 := held_cell (i := 1) g4 rfl; have pf1 := held_frozen (i := 1) g4; have pc2 := held_cell (i := 2) g4 rfl; have pf2 := held_frozen (i := 2) g4; have pc3 := held_cell (i := 3) g4 rfl; have pf3 := held_frozen (i := 3) g4; have pc4 := held_cell (i := 4) g4 rfl; have pf4 := held_frozen (i := 4) g4; have pc5 := held_cell (i := 5) g4 rfl; have pf5 := held_frozen (i := 5) g4; have pc6 := held_cell (i := 6) g4 rfl; have pf6 := held_frozen (i := 6) g4; have pc7 := held_cell (i := 7) g4 rfl; have pf7 := held_frozen (i := 7) g4; clear DONE hRt))
        have rr := put8_row g4 (.int .i64 0) (.int .i64 0) (.int .i64 0) (.int .i64 0) (.int .i64 0) (.int .i64 0) (.int .i64 0) (.int .i64 0)
        have ec0 := held_cell (i := 0) rr rfl
        have ef0 := held_frozen (i := 0) rr
        have ec1 := held_cell (i := 1) rr rfl
        have ef1 := held_frozen (i := 1) rr
        have ec2 := held_cell (i := 2) rr rfl
        have ef2 := held_frozen (i := 2) rr
        have ec3 := held_cell (i := 3) rr rfl
        have ef3 := held_frozen (i := 3) rr
        have ec4 := held_cell (i := 4) rr rfl
        have ef4 := held_frozen (i := 4) rr
        have ec5 := held_cell (i := 5) rr rfl
        have ef5 := held_frozen (i := 5) rr
        have ec6 := held_cell (i := 6) rr rfl
        have ef6 := held_frozen (i := 6) rr
        have ec7 := held_cell (i := 7) rr rfl
        have ef7 := held_frozen (i := 7) rr
        exact bodyPost_ret (v := .tuple #[metaV zeroM, .bool false]) (by simp [results, Try.results29, go_sem, metaV, zeroM, ec0, ec1, ec2, ec3, ec4, ec5, ec6, ec7]) rfl ⟨by rw [HO.out], Tch.below bw7 (put8_tch (w := w7) (b := w.heap.size) (.int .i64 0) (.int .i64 0) (.int .i64 0) (.int .i64 0) (.int .i64 0) (.int .i64 0) (.int .i64 0) (.int .i64 0)) (fun j (e : j = w.heap.size) => (show w.heap.size ≤ j by omega)) bw7.size⟩
set_option maxRecDepth 100000 in
theorem Joined_is (v : Value) (l : List MV) (id : Int) (w : World) (hR : KMet.Rd w v l) (hlen : l.length ≤ 1099511627776) (hwf : ∀ y ∈ l, wfI y.id) : Calls Try.prog 29 #[v, .int .i64 id] w (JoinOut w (joinM l id)) := by
  cases l with
  | nil => exact Joined_no v [] id w hR hlen hwf (.inl rfl)
  | cons x t =>
    cases hf : fineM (x :: t) with
    | true => exact Joined_yes v x t id w hR hlen hwf hf
    | false =>
      rw [join_none (.inr hf)]
      exact Joined_no v _ id w hR hlen hwf (.inr hf)
end Go.Proofs.Ytoomhfjmcdbgkaa
