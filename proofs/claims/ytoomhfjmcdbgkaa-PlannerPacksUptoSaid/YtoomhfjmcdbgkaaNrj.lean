/-
  What the reference's Joined answers. Conditions: the list is no longer than 2^40.
-/
import Derived.Test.YtoomhfjmcdbgkaaNjy
import Derived.Test.YtoomhfjmcdbgkaaNfr
import Derived.StillTailTactics
namespace Go.Proofs.Ytoomhfjmcdbgkaa
open Go.RowKit Go.Icz
set_option maxRecDepth 100000 in
set_option maxHeartbeats 4000000 in
theorem RJoined_no (v : Value) (l : List MV) (id : Int) (w : World) (hR : KRm.Rd w v l) (hlen : l.length ≤ 1099511627776) (hno : l = [] ∨ fineM l = false) :
    Calls Try.prog 30 #[v, .int .i64 id] w (JoinOut w (zeroM, false)) := by
  have b1 : Below w.heap.size w (w.alloc (.cells #[.int .i64 0, .int .i64 0, .int .i64 0, .int .i64 0, .int .i64 0, .int .i64 0, .int .i64 0, .int .i64 0] 32)) := (Below.refl _ w).alloc (Nat.le_refl _) _
  have r1 := box_row w #[.int .i64 0, .int .i64 0, .int .i64 0, .int .i64 0, .int .i64 0, .int .i64 0, .int .i64 0, .int .i64 0] 32
  have hF := RFine_is v l (w.alloc (.cells #[.int .i64 0, .int .i64 0, .int .i64 0, .int .i64 0, .int .i64 0, .int .i64 0, .int .i64 0, .int .i64 0] 32)) (hR.below b1) hlen
  obtain ⟨A, c, rfl, _⟩ := hR.form
  by_cases h0 : l = []
  · subst h0
    go_enter Try.func30, Try.ntmps30
    go_wp2
    exact bodyPost_ret (v := .tuple #[metaV zeroM, .bool false]) (by simp [results, Try.results30, go_sem, metaV, zeroM]) rfl ⟨rfl, (Below.refl _ w).alloc (Nat.le_refl _) _⟩
  · have hf : fineM l = false := by
      rcases hno with h | h
      · exact absurd h h0
      · exact h
    have hl0 : ¬ l.length = 0 := fun h => h0 (List.eq_nil_of_length_eq_zero h)
    have hl1 : ((l.length : Int) == 0) = false := by simp; omega
    rw [hf] at hF
    clear hf hno h0
    go_enter Try.func30, Try.ntmps30
    go_wp2_with (go_at_call 14; go_loud (refine hF.mono ?_; rintro e w3 ⟨rfl, b3⟩; have r3 := (Tch.of_below b3 (S := fun _ => False)).row r1 (fun h => h); have pc0 := held_cell (i := 0) r3 rfl; have pf0 := held_frozen (i := 0) r3; have pc1 := held_cell (i := 1) r3 rfl; have pf1 := held_frozen (i := 1) r3; have pc2 := held_cell (i := 2) r3 rfl; have pf2 := held_frozen (i := 2) r3; have pc3 := held_cell (i := 3) r3 rfl; have pf3 := held_frozen (i := 3) r3; have pc4 := held_cell (i := 4) r3 rfl; have pf4 := held_frozen (i := 4) r3; have pc5 := held_cell (i := 5) r3 rfl; have pf5 := held_frozen (i := 5) r3; have pc6 := held_cell (i := 6) r3 rfl; have pf6 := held_frozen (i := 6) r3; have pc7 := held_cell (i := 7) r3 rfl; have pf7 := held_frozen (i := 7) r3))
    have rr := put8_row r3 (.int .i64 0) (.int .i64 0) (.int .i64 0) (.int .i64 0) (.int .i64 0) (.int .i64 0) (.int .i64 0) (.int .i64 0)
    clear r1
    clear pc0 pf0 pc1 pf1 pc2 pf2 pc3 pf3 pc4 pf4 pc5 pf5 pc6 pf6 pc7 pf7
    have ec0 := held_cell (i := 0) rr rfl
    have ef0 := held_frozen (i := 0) rr
    have ec1 := held_cell (i := 1) rr rfl
    have ef1 := held_frozen (i := 1) rr
    have ec2 := held_cell (i := 2) rr rfl
    have ef2 := held_frozen (i := 2) rr
    have ec3 := held_cell (i := 3) rr rfl
    have ef3 := held_frozen (i := 3) rr
    have ec4 := held_cell (i := 4) rr rfl
    have ef4 := held_frozen (i := 4) rr
    have ec5 := held_cell (i := 5) rr rfl
    have ef5 := held_frozen (i := 5) rr
    have ec6 := held_cell (i := 6) rr rfl
    have ef6 := held_frozen (i := 6) rr
    have ec7 := held_cell (i := 7) rr rfl
    have ef7 := held_frozen (i := 7) rr
    exact bodyPost_ret (v := .tuple #[metaV zeroM, .bool false]) (by simp [results, Try.results30, go_sem, metaV, zeroM, ec0, ec1, ec2, ec3, ec4, ec5, ec6, ec7]) rfl ⟨rfl, (b1.trans (b3.mono b1.size)).trans (Tch.to_below (put8_tch (b := w.heap.size) _ _ _ _ _ _ _ _) (fun j (e : j = w.heap.size) => (show w.heap.size ≤ j by omega)) (b1.trans (b3.mono b1.size)).size)⟩
set_option maxRecDepth 100000 in
set_option maxHeartbeats 16000000 in
theorem RJoined_yes (v : Value) (x : MV) (t : List MV) (id : Int) (w : World) (hR : KRm.Rd w v (x :: t)) (hlen : (x :: t).length ≤ 1099511627776) (hf : fineM (x :: t) = true) :
    Calls Try.prog 30 #[v, .int .i64 id] w (JoinOut w (joinM (x :: t) id)) := by
  have b1 : Below w.heap.size w (w.alloc (.cells #[.int .i64 0, .int .i64 0, .int .i64 0, .int .i64 0, .int .i64 0, .int .i64 0, .int .i64 0, .int .i64 0] 32)) := (Below.refl _ w).alloc (Nat.le_refl _) _
  have r1 := box_row w #[.int .i64 0, .int .i64 0, .int .i64 0, .int .i64 0, .int .i64 0, .int .i64 0, .int .i64 0, .int .i64 0] 32
  have hF := RFine_is v (x :: t) (w.alloc (.cells #[.int .i64 0, .int .i64 0, .int .i64 0, .int .i64 0, .int .i64 0, .int .i64 0, .int .i64 0, .int .i64 0] 32)) (hR.below b1) hlen
  rw [hf] at hF
  obtain ⟨A, c, rfl, hcap⟩ := hR.form
  have hfin := fine_iff.1 hf
  have HJY := hid (fun h => join_yes (l := x :: t) (id := id) rfl hf h)
  have HJN := hid (fun h => join_no (l := x :: t) (id := id) rfl hf h)
  have HRT : Hid (∀ y ∈ x :: t, RtM y) := hid (fun y hy => rt_iff.1 (hfin.1 y hy))
  have HJB : Hid (∀ i, JnB (jnM x (t.take i))) := hid (fun i => jn_bound (HRT.out x (List.mem_cons_self ..)) _ (fun y hy => HRT.out y (List.mem_cons_of_mem _ (List.mem_of_mem_take hy))))
  obtain ⟨n, hn⟩ : ∃ n, (x :: t).length = n := ⟨_, rfl⟩
  rw [hn]
  have hn1 : t.length + 1 = n := by rw [← hn]; rfl
  have h0 := Kd.Rd.rmt hR (j := 0) (by simp)
  obtain ⟨b, off, hA, hb, hc0⟩ := h0
  have hc0' : Mc w b off x := by
    have e : off + 0 * 8 = off := by omega
    rw [e] at hc0
    exact hc0
  have HP : Hid (∀ k (hk : k < t.length), ∀ wr, Below w.heap.size w wr → Mc wr b (off + (k + 1) * 8) t[k]) := hid (fun k hk wr hw => by
    obtain ⟨b2, off2, hA2, hb2, hc2⟩ := Kd.Rd.rmt hR (j := k + 1) (by simp; omega)
    rw [hA] at hA2
    injection hA2 with hA2
    injection hA2 with e1 e2
    subst e1 e2
    exact hc2.below hw hb2)
  clear hc0 hfin hf
  try rw [hn] at hF
  try rw [hn] at hlen
  try rw [hn] at hcap
  try rw [hn] at hR
  subst hA
  change Calls _ _ #[.slice (some ⟨b, off, none⟩) n c] _ _ at hF
  have HN := hid hn1
  have hti : t.length ≤ 1099511627776 := by omega
  have hn0 : ((n : Int) == 0) = false := by simp; omega
  have hn01 : (0 : Int) < (n : Int) := by omega
  have hbm : ∀ wr, Below w.heap.size w wr → Mc wr b off x := fun wr hw => hc0'.below hw hb
  have hblt := hb
  clear hc0' hn hR hn1
  go_enter Try.func30, Try.ntmps30
  go_wp2_with (go_at_call 14; go_loud (refine hF.mono ?_; rintro e w3 ⟨rfl, b3⟩; have bw3 := b1.trans (b3.mono b1.size); have r3 := (Tch.of_below b3 (S := fun _ => False)).row r1 (fun h => h); obtain ⟨q0, q1, q2, q3, q4, q5, q6, q7⟩ := hbm w3 bw3; clear hF r1))
  have r6 := box_row w3 #[.int .i64 x.id, .int .i64 x.least, .int .i64 x.most, .int .i64 x.first, .int .i64 x.last, .int .i64 x.rows, .int .i64 x.bytes, .int .i64 x.level] 32
  have r4 := row_alloc r3 (.cells #[.int .i64 x.id, .int .i64 x.least, .int .i64 x.most, .int .i64 x.first, .int .i64 x.last, .int .i64 x.rows, .int .i64 x.bytes, .int .i64 x.level] 32)
  have bw4 := below_box bw3 bw3.size (.cells #[.int .i64 x.id, .int .i64 x.least, .int .i64 x.most, .int .i64 x.first, .int .i64 x.last, .int .i64 x.rows, .int .i64 x.bytes, .int .i64 x.level] 32)
  have hz3 : w.heap.size < w3.heap.size := row_lt r3
  have HZ := hid hz3
  generalize hW4 : w3.alloc (.cells #[.int .i64 x.id, .int .i64 x.least, .int .i64 x.most, .int .i64 x.first, .int .i64 x.last, .int .i64 x.rows, .int .i64 x.bytes, .int .i64 x.level] 32) = W4 at *
  clear hW4
  go_loopw [7] (fun iv wr => ∃ (i k : Nat) (q : MV), iv = .int .i64 i ∧ i ≤ n ∧ Hid (i = k + 1) ∧ Hid (q = jnM x (t.take k)) ∧ wr.heap[w3.heap.size]? = some (.cells #[.int .i64 q.id, .int .i64 q.least, .int .i64 q.most, .int .i64 q.first, .int .i64 q.last, .int .i64 q.rows, .int .i64 q.bytes, .int .i64 q.level] 32 (0, 0)) ∧ wr.heap[w.heap.size]? = some (.cells #[.int .i64 0, .int .i64 0, .int .i64 0, .int .i64 0, .int .i64 0, .int .i64 0, .int .i64 0, .int .i64 0] 32 (0, 0)) ∧ Below w.heap.size w wr) (fun iv _ => n - (intOf iv).toNat)
  case atStart => exact ⟨1, 0, x, rfl, by omega, hid rfl, hid rfl, r6, r4, bw4⟩
  case round =>
    obtain ⟨i, k, q, rfl, hi, HIK, HQ, hq, hr4, hbw⟩ := hrel
    by_cases hLt : i < n
    · have hkt : k < t.length := by have := HN.out; have := HIK.out; omega
      have hct := HP.out k hkt wr hbw
      have e8 : off + (k + 1) * 8 = off + i * 8 := by rw [HIK.out]
      rw [e8] at hct
      obtain ⟨bt, hbte⟩ : ∃ bt, bt = b := ⟨_, rfl⟩
      obtain ⟨ot, hote⟩ : ∃ ot, ot = off := ⟨_, rfl⟩
      have hil : (i : Int) < (n : Int) := by omega
      have hjq := HJB.out k
      rw [← HQ.out] at hjq
      have hry := HRT.out _ (List.mem_cons_of_mem _ (List.getElem_mem hkt))
      have HQ2 : Hid (bothM q t[k] = jnM x (t.take (k + 1))) := hid (by rw [HQ.out, ← jnM_snoc, ← List.take_succ_eq_append_getElem hkt])
      have HL := hid hLt
      clear HQ e8
      generalize t[k] = y at *
      subst hbte hote
      have hw5 : IntKind.i64.wrap (q.rows + y.rows) = q.rows + y.rows := by rw [IntKind.wrap_i64]; have := hjq.ro1; have := hjq.ro2; have := hry.ro1; have := hry.ro2; omega
      have hw6 : IntKind.i64.wrap (q.bytes + y.bytes) = q.bytes + y.bytes := by rw [IntKind.wrap_i64]; have := hjq.by1; have := hjq.by2; have := hry.by1; have := hry.by2; omega
      have hbt : bt < w3.heap.size := by have := HZ.out; omega
      have hbt2 : bt < wr.heap.size := Nat.lt_of_lt_of_le hblt hbw.size
      clear hjq hry
      go_wp2_with fail
      have hrow0 := hq
      have hmc0 := hct
      have ht0 := Tch.refl (· = w3.heap.size) wr
      obtain ⟨wj0, hwj0⟩ : ∃ wj0, wj0 = wr := ⟨_, rfl⟩
      rw [← hwj0] at hrow0 hmc0
      have ht0 : Tch (· = w3.heap.size) wr wj0 := by rw [hwj0]; exact ht0
      rw [← hwj0]
      have hcd1 : wj0.drew.cell? ⟨w3.heap.size, 1, none⟩ = some (.int .i64 q.least) := held_cell (i := 1) hrow0 rfl
      have hfd1 : wj0.drew.frozen? ⟨w3.heap.size, 1, none⟩ = false := held_frozen (i := 1) hrow0
      have hyd1 : wj0.drew.cell? ⟨bt, ot + i * 8 + 1, none⟩ = some (.int .i64 y.least) := hmc0.c1
      have hrv1 : wj0.drew.heap[w3.heap.size]? = some (.cells #[.int .i64 q.id, .int .i64 q.least, .int .i64 q.most, .int .i64 q.first, .int .i64 q.last, .int .i64 q.rows, .int .i64 q.bytes, .int .i64 q.level] 32 (0, 0)) := hrow0
      have hmv1 : Mc wj0.drew bt (ot + i * 8) y := ⟨(hmc0).c0, (hmc0).c1, (hmc0).c2, (hmc0).c3, (hmc0).c4, (hmc0).c5, (hmc0).c6, (hmc0).c7⟩
      have htv1 : Tch (· = w3.heap.size) wr wj0.drew := ht0.trans (Tch.drew _ _)
      clear hrow0 hmc0 ht0
      refine wp_region_still_tail 9 (by kernel_rfl) (by kernel_rfl) ?_
      simp only [List.take_succ_cons, List.take_zero, List.drop_succ_cons, List.drop_zero]
      change wpStill _ _ wj0.drew (fun a' => wpList _ _ _ _ a' wj0.drew) _ _
      generalize wj0.drew = wv1 at *
      repeat still_step
      refine wpStill_nil ?_
      go_wp2_with fail
      have hrow1 : (wv1.setCell ⟨w3.heap.size, 1, none⟩ (.int .i64 (min q.least y.least))).heap[w3.heap.size]? = some (.cells #[.int .i64 q.id, .int .i64 (min q.least y.least), .int .i64 q.most, .int .i64 q.first, .int .i64 q.last, .int .i64 q.rows, .int .i64 q.bytes, .int .i64 q.level] 32 (0, 0)) := by
        have k1 := row_set (i := 1) hrv1 (.int .i64 (min q.least y.least))
        simpa using k1
      have hs1 : Tch (· = w3.heap.size) wv1 (wv1.setCell ⟨w3.heap.size, 1, none⟩ (.int .i64 (min q.least y.least))) := Tch.set _ _ _ _ rfl
      have ht1 := htv1.trans hs1
      have hmc1 := hmv1.touch hs1 (Nat.lt_of_lt_of_le hbt2 htv1.size) (show ¬ bt = w3.heap.size by omega)
      clear hcd1 hfd1 hyd1 hrv1 hmv1 htv1 hs1
      generalize wv1.setCell ⟨w3.heap.size, 1, none⟩ (.int .i64 (min q.least y.least)) = wj1 at *
      have hcd2 : wj1.drew.cell? ⟨w3.heap.size, 2, none⟩ = some (.int .i64 q.most) := held_cell (i := 2) hrow1 rfl
      have hfd2 : wj1.drew.frozen? ⟨w3.heap.size, 2, none⟩ = false := held_frozen (i := 2) hrow1
      have hyd2 : wj1.drew.cell? ⟨bt, ot + i * 8 + 2, none⟩ = some (.int .i64 y.most) := hmc1.c2
      have hrv2 : wj1.drew.heap[w3.heap.size]? = some (.cells #[.int .i64 q.id, .int .i64 (min q.least y.least), .int .i64 q.most, .int .i64 q.first, .int .i64 q.last, .int .i64 q.rows, .int .i64 q.bytes, .int .i64 q.level] 32 (0, 0)) := hrow1
      have hmv2 : Mc wj1.drew bt (ot + i * 8) y := ⟨(hmc1).c0, (hmc1).c1, (hmc1).c2, (hmc1).c3, (hmc1).c4, (hmc1).c5, (hmc1).c6, (hmc1).c7⟩
      have htv2 : Tch (· = w3.heap.size) wr wj1.drew := ht1.trans (Tch.drew _ _)
      clear hrow1 hmc1 ht1
      refine wp_region_still_tail 9 (by kernel_rfl) (by kernel_rfl) ?_
      simp only [List.take_succ_cons, List.take_zero, List.drop_succ_cons, List.drop_zero]
      change wpStill _ _ wj1.drew (fun a' => wpList _ _ _ _ a' wj1.drew) _ _
      generalize wj1.drew = wv2 at *
      repeat still_step
      refine wpStill_nil ?_
      go_wp2_with fail
      have hrow2 : (wv2.setCell ⟨w3.heap.size, 2, none⟩ (.int .i64 (max q.most y.most))).heap[w3.heap.size]? = some (.cells #[.int .i64 q.id, .int .i64 (min q.least y.least), .int .i64 (max q.most y.most), .int .i64 q.first, .int .i64 q.last, .int .i64 q.rows, .int .i64 q.bytes, .int .i64 q.level] 32 (0, 0)) := by
        have k1 := row_set (i := 2) hrv2 (.int .i64 (max q.most y.most))
        simpa using k1
      have hs2 : Tch (· = w3.heap.size) wv2 (wv2.setCell ⟨w3.heap.size, 2, none⟩ (.int .i64 (max q.most y.most))) := Tch.set _ _ _ _ rfl
      have ht2 := htv2.trans hs2
      have hmc2 := hmv2.touch hs2 (Nat.lt_of_lt_of_le hbt2 htv2.size) (show ¬ bt = w3.heap.size by omega)
      clear hcd2 hfd2 hyd2 hrv2 hmv2 htv2 hs2
      generalize wv2.setCell ⟨w3.heap.size, 2, none⟩ (.int .i64 (max q.most y.most)) = wj2 at *
      have hcd3 : wj2.drew.cell? ⟨w3.heap.size, 3, none⟩ = some (.int .i64 q.first) := held_cell (i := 3) hrow2 rfl
      have hfd3 : wj2.drew.frozen? ⟨w3.heap.size, 3, none⟩ = false := held_frozen (i := 3) hrow2
      have hyd3 : wj2.drew.cell? ⟨bt, ot + i * 8 + 3, none⟩ = some (.int .i64 y.first) := hmc2.c3
      have hrv3 : wj2.drew.heap[w3.heap.size]? = some (.cells #[.int .i64 q.id, .int .i64 (min q.least y.least), .int .i64 (max q.most y.most), .int .i64 q.first, .int .i64 q.last, .int .i64 q.rows, .int .i64 q.bytes, .int .i64 q.level] 32 (0, 0)) := hrow2
      have hmv3 : Mc wj2.drew bt (ot + i * 8) y := ⟨(hmc2).c0, (hmc2).c1, (hmc2).c2, (hmc2).c3, (hmc2).c4, (hmc2).c5, (hmc2).c6, (hmc2).c7⟩
      have htv3 : Tch (· = w3.heap.size) wr wj2.drew := ht2.trans (Tch.drew _ _)
      clear hrow2 hmc2 ht2
      refine wp_region_still_tail 9 (by kernel_rfl) (by kernel_rfl) ?_
      simp only [List.take_succ_cons, List.take_zero, List.drop_succ_cons, List.drop_zero]
      change wpStill _ _ wj2.drew (fun a' => wpList _ _ _ _ a' wj2.drew) _ _
      generalize wj2.drew = wv3 at *
      repeat still_step
      refine wpStill_nil ?_
      go_wp2_with fail
      have hrow3 : (wv3.setCell ⟨w3.heap.size, 3, none⟩ (.int .i64 (min q.first y.first))).heap[w3.heap.size]? = some (.cells #[.int .i64 q.id, .int .i64 (min q.least y.least), .int .i64 (max q.most y.most), .int .i64 (min q.first y.first), .int .i64 q.last, .int .i64 q.rows, .int .i64 q.bytes, .int .i64 q.level] 32 (0, 0)) := by
        have k1 := row_set (i := 3) hrv3 (.int .i64 (min q.first y.first))
        simpa using k1
      have hs3 : Tch (· = w3.heap.size) wv3 (wv3.setCell ⟨w3.heap.size, 3, none⟩ (.int .i64 (min q.first y.first))) := Tch.set _ _ _ _ rfl
      have ht3 := htv3.trans hs3
      have hmc3 := hmv3.touch hs3 (Nat.lt_of_lt_of_le hbt2 htv3.size) (show ¬ bt = w3.heap.size by omega)
      clear hcd3 hfd3 hyd3 hrv3 hmv3 htv3 hs3
      generalize wv3.setCell ⟨w3.heap.size, 3, none⟩ (.int .i64 (min q.first y.first)) = wj3 at *
      have hcd4 : wj3.drew.cell? ⟨w3.heap.size, 4, none⟩ = some (.int .i64 q.last) := held_cell (i := 4) hrow3 rfl
      have hfd4 : wj3.drew.frozen? ⟨w3.heap.size, 4, none⟩ = false := held_frozen (i := 4) hrow3
      have hyd4 : wj3.drew.cell? ⟨bt, ot + i * 8 + 4, none⟩ = some (.int .i64 y.last) := hmc3.c4
      have hrv4 : wj3.drew.heap[w3.heap.size]? = some (.cells #[.int .i64 q.id, .int .i64 (min q.least y.least), .int .i64 (max q.most y.most), .int .i64 (min q.first y.first), .int .i64 q.last, .int .i64 q.rows, .int .i64 q.bytes, .int .i64 q.level] 32 (0, 0)) := hrow3
      have hmv4 : Mc wj3.drew bt (ot + i * 8) y := ⟨(hmc3).c0, (hmc3).c1, (hmc3).c2, (hmc3).c3, (hmc3).c4, (hmc3).c5, (hmc3).c6, (hmc3).c7⟩
      have htv4 : Tch (· = w3.heap.size) wr wj3.drew := ht3.trans (Tch.drew _ _)
      clear hrow3 hmc3 ht3
      refine wp_region_still_tail 9 (by kernel_rfl) (by kernel_rfl) ?_
      simp only [List.take_succ_cons, List.take_zero, List.drop_succ_cons, List.drop_zero]
      change wpStill _ _ wj3.drew (fun a' => wpList _ _ _ _ a' wj3.drew) _ _
      generalize wj3.drew = wv4 at *
      repeat still_step
      refine wpStill_nil ?_
      go_wp2_with fail
      have hrow4 : (wv4.setCell ⟨w3.heap.size, 4, none⟩ (.int .i64 (max q.last y.last))).heap[w3.heap.size]? = some (.cells #[.int .i64 q.id, .int .i64 (min q.least y.least), .int .i64 (max q.most y.most), .int .i64 (min q.first y.first), .int .i64 (max q.last y.last), .int .i64 q.rows, .int .i64 q.bytes, .int .i64 q.level] 32 (0, 0)) := by
        have k1 := row_set (i := 4) hrv4 (.int .i64 (max q.last y.last))
        simpa using k1
      have hs4 : Tch (· = w3.heap.size) wv4 (wv4.setCell ⟨w3.heap.size, 4, none⟩ (.int .i64 (max q.last y.last))) := Tch.set _ _ _ _ rfl
      have ht4 := htv4.trans hs4
      have hmc4 := hmv4.touch hs4 (Nat.lt_of_lt_of_le hbt2 htv4.size) (show ¬ bt = w3.heap.size by omega)
      clear hcd4 hfd4 hyd4 hrv4 hmv4 htv4 hs4
      generalize wv4.setCell ⟨w3.heap.size, 4, none⟩ (.int .i64 (max q.last y.last)) = wj4 at *
      have hcd5 : wj4.drew.cell? ⟨w3.heap.size, 5, none⟩ = some (.int .i64 q.rows) := held_cell (i := 5) hrow4 rfl
      have hfd5 : wj4.drew.frozen? ⟨w3.heap.size, 5, none⟩ = false := held_frozen (i := 5) hrow4
      have hyd5 : wj4.drew.cell? ⟨bt, ot + i * 8 + 5, none⟩ = some (.int .i64 y.rows) := hmc4.c5
      have hrv5 : wj4.drew.heap[w3.heap.size]? = some (.cells #[.int .i64 q.id, .int .i64 (min q.least y.least), .int .i64 (max q.most y.most), .int .i64 (min q.first y.first), .int .i64 (max q.last y.last), .int .i64 q.rows, .int .i64 q.bytes, .int .i64 q.level] 32 (0, 0)) := hrow4
      have hmv5 : Mc wj4.drew bt (ot + i * 8) y := ⟨(hmc4).c0, (hmc4).c1, (hmc4).c2, (hmc4).c3, (hmc4).c4, (hmc4).c5, (hmc4).c6, (hmc4).c7⟩
      have htv5 : Tch (· = w3.heap.size) wr wj4.drew := ht4.trans (Tch.drew _ _)
      clear hrow4 hmc4 ht4
      refine wp_region_still_tail 10 (by kernel_rfl) (by kernel_rfl) ?_
      simp only [List.take_succ_cons, List.take_zero, List.drop_succ_cons, List.drop_zero]
      change wpStill _ _ wj4.drew (fun a' => wpList _ _ _ _ a' wj4.drew) _ _
      generalize wj4.drew = wv5 at *
      repeat still_step
      refine wpStill_nil ?_
      go_wp2_with fail
      have hrow5 : (wv5.setCell ⟨w3.heap.size, 5, none⟩ (.int .i64 (min (q.rows + y.rows) 1099511627776))).heap[w3.heap.size]? = some (.cells #[.int .i64 q.id, .int .i64 (min q.least y.least), .int .i64 (max q.most y.most), .int .i64 (min q.first y.first), .int .i64 (max q.last y.last), .int .i64 (min (q.rows + y.rows) 1099511627776), .int .i64 q.bytes, .int .i64 q.level] 32 (0, 0)) := by
        have k1 := row_set (i := 5) hrv5 (.int .i64 (min (q.rows + y.rows) 1099511627776))
        simpa using k1
      have hs5 : Tch (· = w3.heap.size) wv5 (wv5.setCell ⟨w3.heap.size, 5, none⟩ (.int .i64 (min (q.rows + y.rows) 1099511627776))) := Tch.set _ _ _ _ rfl
      have ht5 := htv5.trans hs5
      have hmc5 := hmv5.touch hs5 (Nat.lt_of_lt_of_le hbt2 htv5.size) (show ¬ bt = w3.heap.size by omega)
      clear hcd5 hfd5 hyd5 hrv5 hmv5 htv5 hs5
      generalize wv5.setCell ⟨w3.heap.size, 5, none⟩ (.int .i64 (min (q.rows + y.rows) 1099511627776)) = wj5 at *
      have hcd6 : wj5.drew.cell? ⟨w3.heap.size, 6, none⟩ = some (.int .i64 q.bytes) := held_cell (i := 6) hrow5 rfl
      have hfd6 : wj5.drew.frozen? ⟨w3.heap.size, 6, none⟩ = false := held_frozen (i := 6) hrow5
      have hyd6 : wj5.drew.cell? ⟨bt, ot + i * 8 + 6, none⟩ = some (.int .i64 y.bytes) := hmc5.c6
      have hrv6 : wj5.drew.heap[w3.heap.size]? = some (.cells #[.int .i64 q.id, .int .i64 (min q.least y.least), .int .i64 (max q.most y.most), .int .i64 (min q.first y.first), .int .i64 (max q.last y.last), .int .i64 (min (q.rows + y.rows) 1099511627776), .int .i64 q.bytes, .int .i64 q.level] 32 (0, 0)) := hrow5
      have hmv6 : Mc wj5.drew bt (ot + i * 8) y := ⟨(hmc5).c0, (hmc5).c1, (hmc5).c2, (hmc5).c3, (hmc5).c4, (hmc5).c5, (hmc5).c6, (hmc5).c7⟩
      have htv6 : Tch (· = w3.heap.size) wr wj5.drew := ht5.trans (Tch.drew _ _)
      clear hrow5 hmc5 ht5
      refine wp_region_still_tail 10 (by kernel_rfl) (by kernel_rfl) ?_
      simp only [List.take_succ_cons, List.take_zero, List.drop_succ_cons, List.drop_zero]
      change wpStill _ _ wj5.drew (fun a' => wpList _ _ _ _ a' wj5.drew) _ _
      generalize wj5.drew = wv6 at *
      repeat still_step
      refine wpStill_nil ?_
      go_wp2_with fail
      have hrow6 : (wv6.setCell ⟨w3.heap.size, 6, none⟩ (.int .i64 (min (q.bytes + y.bytes) 1099511627776))).heap[w3.heap.size]? = some (.cells #[.int .i64 q.id, .int .i64 (min q.least y.least), .int .i64 (max q.most y.most), .int .i64 (min q.first y.first), .int .i64 (max q.last y.last), .int .i64 (min (q.rows + y.rows) 1099511627776), .int .i64 (min (q.bytes + y.bytes) 1099511627776), .int .i64 q.level] 32 (0, 0)) := by
        have k1 := row_set (i := 6) hrv6 (.int .i64 (min (q.bytes + y.bytes) 1099511627776))
        simpa using k1
      have hs6 : Tch (· = w3.heap.size) wv6 (wv6.setCell ⟨w3.heap.size, 6, none⟩ (.int .i64 (min (q.bytes + y.bytes) 1099511627776))) := Tch.set _ _ _ _ rfl
      have ht6 := htv6.trans hs6
      have hmc6 := hmv6.touch hs6 (Nat.lt_of_lt_of_le hbt2 htv6.size) (show ¬ bt = w3.heap.size by omega)
      clear hcd6 hfd6 hyd6 hrv6 hmv6 htv6 hs6
      generalize wv6.setCell ⟨w3.heap.size, 6, none⟩ (.int .i64 (min (q.bytes + y.bytes) 1099511627776)) = wj6 at *
      have hcd7 : wj6.drew.cell? ⟨w3.heap.size, 7, none⟩ = some (.int .i64 q.level) := held_cell (i := 7) hrow6 rfl
      have hfd7 : wj6.drew.frozen? ⟨w3.heap.size, 7, none⟩ = false := held_frozen (i := 7) hrow6
      have hyd7 : wj6.drew.cell? ⟨bt, ot + i * 8 + 7, none⟩ = some (.int .i64 y.level) := hmc6.c7
      have hrv7 : wj6.drew.heap[w3.heap.size]? = some (.cells #[.int .i64 q.id, .int .i64 (min q.least y.least), .int .i64 (max q.most y.most), .int .i64 (min q.first y.first), .int .i64 (max q.last y.last), .int .i64 (min (q.rows + y.rows) 1099511627776), .int .i64 (min (q.bytes + y.bytes) 1099511627776), .int .i64 q.level] 32 (0, 0)) := hrow6
      have hmv7 : Mc wj6.drew bt (ot + i * 8) y := ⟨(hmc6).c0, (hmc6).c1, (hmc6).c2, (hmc6).c3, (hmc6).c4, (hmc6).c5, (hmc6).c6, (hmc6).c7⟩
      have htv7 : Tch (· = w3.heap.size) wr wj6.drew := ht6.trans (Tch.drew _ _)
      clear hrow6 hmc6 ht6
      refine wp_region_still_tail 9 (by kernel_rfl) (by kernel_rfl) ?_
      simp only [List.take_succ_cons, List.take_zero, List.drop_succ_cons, List.drop_zero]
      change wpStill _ _ wj6.drew (fun a' => wpList _ _ _ _ a' wj6.drew) _ _
      generalize wj6.drew = wv7 at *
      repeat still_step
      refine wpStill_nil ?_
      go_wp2_with fail
      have hrow7 : (wv7.setCell ⟨w3.heap.size, 7, none⟩ (.int .i64 (max q.level y.level))).heap[w3.heap.size]? = some (.cells #[.int .i64 q.id, .int .i64 (min q.least y.least), .int .i64 (max q.most y.most), .int .i64 (min q.first y.first), .int .i64 (max q.last y.last), .int .i64 (min (q.rows + y.rows) 1099511627776), .int .i64 (min (q.bytes + y.bytes) 1099511627776), .int .i64 (max q.level y.level)] 32 (0, 0)) := by
        have k1 := row_set (i := 7) hrv7 (.int .i64 (max q.level y.level))
        simpa using k1
      have hs7 : Tch (· = w3.heap.size) wv7 (wv7.setCell ⟨w3.heap.size, 7, none⟩ (.int .i64 (max q.level y.level))) := Tch.set _ _ _ _ rfl
      have ht7 := htv7.trans hs7
      have hmc7 := hmv7.touch hs7 (Nat.lt_of_lt_of_le hbt2 htv7.size) (show ¬ bt = w3.heap.size by omega)
      clear hcd7 hfd7 hyd7 hrv7 hmv7 htv7 hs7
      generalize wv7.setCell ⟨w3.heap.size, 7, none⟩ (.int .i64 (max q.level y.level)) = wj7 at *
      have hr7 := ht7.row hr4 (show ¬ w.heap.size = w3.heap.size by have := HZ.out; omega)
      have bw7 := Tch.below hbw ht7 (fun j (e : j = w3.heap.size) => (show w.heap.size ≤ j by have := HZ.out; omega)) hbw.size
      go_roundw
      case rel => exact ⟨i + 1, k + 1, bothM q y, by go_num, HL.out, hid (by rw [HIK.out]), HQ2, hrow7, hr7, bw7⟩
      case measure => have := HL.out; simp [intOf]; omega
    · have hil : ¬ (i : Int) < (n : Int) := by omega
      have hkk : t.length ≤ k := by have := HN.out; have := HIK.out; omega
      have HM : Hid (q = jnM x t) := hid (by rw [HQ.out, List.take_of_length_le hkk])
      have hjb := HJB.out k
      rw [← HQ.out] at hjb
      have hw1 : IntKind.i64.wrap (q.level + 1) = q.level + 1 := by rw [IntKind.wrap_i64]; have := hjb.lv1; have := hjb.lv2; omega
      have hRt := RRight_is (topM q id)
      clear HQ hjb hkk
      unfold metaV topM at hRt
      simp only at hRt
      have h6 : ((wr.setCell ⟨w3.heap.size, 7, none⟩ (.int .i64 (q.level + 1))).setCell ⟨w3.heap.size, 0, none⟩ (.int .i64 id)).heap[w3.heap.size]? = some (.cells #[.int .i64 id, .int .i64 q.least, .int .i64 q.most, .int .i64 q.first, .int .i64 q.last, .int .i64 q.rows, .int .i64 q.bytes, .int .i64 (q.level + 1)] 32 (0, 0)) := by
        have k1 := row_set (i := 0) (row_set (i := 7) hq (.int .i64 (q.level + 1))) (.int .i64 id)
        simpa using k1
      have h4 := row_far (i := 0) (row_far (i := 7) hr4 (.int .i64 (q.level + 1)) (show w.heap.size ≠ w3.heap.size by have := HZ.out; omega)) (.int .i64 id) (show w.heap.size ≠ w3.heap.size by have := HZ.out; omega)
      have b8 : Below w.heap.size w ((wr.setCell ⟨w3.heap.size, 7, none⟩ (.int .i64 (q.level + 1))).setCell ⟨w3.heap.size, 0, none⟩ (.int .i64 id)) := (hbw.setCell (p := ⟨w3.heap.size, 7, none⟩) (show w.heap.size ≤ w3.heap.size by have := HZ.out; omega) _).setCell (p := ⟨w3.heap.size, 0, none⟩) (show w.heap.size ≤ w3.heap.size by have := HZ.out; omega) _
      have ac0 := held_cell (i := 0) hq rfl
      have af0 := held_frozen (i := 0) hq
      have ac1 := held_cell (i := 1) hq rfl
      have af1 := held_frozen (i := 1) hq
      have ac2 := held_cell (i := 2) hq rfl
      have af2 := held_frozen (i := 2) hq
      have ac3 := held_cell (i := 3) hq rfl
      have af3 := held_frozen (i := 3) hq
      have ac4 := held_cell (i := 4) hq rfl
      have af4 := held_frozen (i := 4) hq
      have ac5 := held_cell (i := 5) hq rfl
      have af5 := held_frozen (i := 5) hq
      have ac6 := held_cell (i := 6) hq rfl
      have af6 := held_frozen (i := 6) hq
      have ac7 := held_cell (i := 7) hq rfl
      have af7 := held_frozen (i := 7) hq
      have DONE : ∀ w7, Below ((wr.setCell ⟨w3.heap.size, 7, none⟩ (.int .i64 (q.level + 1))).setCell ⟨w3.heap.size, 0, none⟩ (.int .i64 id)).heap.size ((wr.setCell ⟨w3.heap.size, 7, none⟩ (.int .i64 (q.level + 1))).setCell ⟨w3.heap.size, 0, none⟩ (.int .i64 id)) w7 → w7.heap[w3.heap.size]? = some (.cells #[.int .i64 id, .int .i64 q.least, .int .i64 q.most, .int .i64 q.first, .int .i64 q.last, .int .i64 q.rows, .int .i64 q.bytes, .int .i64 (q.level + 1)] 32 (0, 0)) ∧ w7.heap[w.heap.size]? = some (.cells #[.int .i64 0, .int .i64 0, .int .i64 0, .int .i64 0, .int .i64 0, .int .i64 0, .int .i64 0, .int .i64 0] 32 (0, 0)) ∧ Below w.heap.size w w7 := fun w7 h7 => ⟨(Tch.of_below h7 (S := fun _ => False)).row h6 (fun h => h), (Tch.of_below h7 (S := fun _ => False)).row h4 (fun h => h), b8.trans (h7.mono b8.size)⟩
      clear hq hr4 h6 h4 b8 hbw r6 r4 bw4
      cases hr : rightM (topM q id) with
      | true =>
        have HO := hid (HJY.out (by rw [← HM.out]; exact hr))
        unfold topM at hr
        rw [hr] at hRt
        go_wp2_with (go_at_call 21; go_loud (refine (hRt _).mono ?_; rintro e w7 ⟨rfl, h7⟩; obtain ⟨g6, g4, bw7⟩ := DONE _ h7; clear ac0 af0 ac1 af1 ac2 af2 ac3 af3 ac4 af4 ac5 af5 ac6 af6 ac7 af7; have dc0 := held_cell (i := 0) g6 rfl; have df0 := held_frozen (i := 0) g6; have dc1 := held_cell (i := 1) g6 rfl; have df1 := held_frozen (i := 1) g6; have dc2 := held_cell (i := 2) g6 rfl; have df2 := held_frozen (i := 2) g6; have dc3 := held_cell (i := 3) g6 rfl; have df3 := held_frozen (i := 3) g6; have dc4 := held_cell (i := 4) g6 rfl; have df4 := held_frozen (i := 4) g6; have dc5 := held_cell (i := 5) g6 rfl; have df5 := held_frozen (i := 5) g6; have dc6 := held_cell (i := 6) g6 rfl; have df6 := held_frozen (i := 6) g6; have dc7 := held_cell (i := 7) g6 rfl; have df7 := held_frozen (i := 7) g6; have pc0 := held_cell (i := 0) g4 rfl; have pf0 := held_frozen (i := 0) g4; have pc1 := held_cell (i := 1) g4 rfl; have pf1 := held_frozen (i := 1) g4; have pc2 := held_cell (i := 2) g4 rfl; have pf2 := held_frozen (i := 2) g4; have pc3 := held_cell (i := 3) g4 rfl; have pf3 := held_frozen (i := 3) g4; have pc4 := held_cell (i := 4) g4 rfl; have pf4 := held_frozen (i := 4) g4; have pc5 := held_cell (i := 5) g4 rfl; have pf5 := held_frozen (i := 5) g4; have pc6 := held_cell (i := 6) g4 rfl; have pf6 := held_frozen (i := 6) g4; have pc7 := held_cell (i := 7) g4 rfl; have pf7 := held_frozen (i := 7) g4; clear DONE hRt))
        have rr := put8_row g4 (.int .i64 id) (.int .i64 q.least) (.int .i64 q.most) (.int .i64 q.first) (.int .i64 q.last) (.int .i64 q.rows) (.int .i64 q.bytes) (.int .i64 (q.level + 1))
        have ec0 := held_cell (i := 0) rr rfl
        have ef0 := held_frozen (i := 0) rr
        have ec1 := held_cell (i := 1) rr rfl
        have ef1 := held_frozen (i := 1) rr
        have ec2 := held_cell (i := 2) rr rfl
        have ef2 := held_frozen (i := 2) rr
        have ec3 := held_cell (i := 3) rr rfl
        have ef3 := held_frozen (i := 3) rr
        have ec4 := held_cell (i := 4) rr rfl
        have ef4 := held_frozen (i := 4) rr
        have ec5 := held_cell (i := 5) rr rfl
        have ef5 := held_frozen (i := 5) rr
        have ec6 := held_cell (i := 6) rr rfl
        have ef6 := held_frozen (i := 6) rr
        have ec7 := held_cell (i := 7) rr rfl
        have ef7 := held_frozen (i := 7) rr
        exact bodyPost_ret (v := .tuple #[metaV (topM q id), .bool true]) (by simp [results, Try.results30, go_sem, metaV, topM, ec0, ec1, ec2, ec3, ec4, ec5, ec6, ec7]) rfl ⟨by rw [HO.out, ← HM.out], Tch.below bw7 (put8_tch (w := w7) (b := w.heap.size) (.int .i64 id) (.int .i64 q.least) (.int .i64 q.most) (.int .i64 q.first) (.int .i64 q.last) (.int .i64 q.rows) (.int .i64 q.bytes) (.int .i64 (q.level + 1))) (fun j (e : j = w.heap.size) => (show w.heap.size ≤ j by omega)) bw7.size⟩
      | false =>
        have HO := hid (HJN.out (by rw [← HM.out]; exact hr))
        unfold topM at hr
        rw [hr] at hRt
        go_wp2_with (go_at_call 21; go_loud (refine (hRt _).mono ?_; rintro e w7 ⟨rfl, h7⟩; obtain ⟨g6, g4, bw7⟩ := DONE _ h7; clear ac0 af0 ac1 af1 ac2 af2 ac3 af3 ac4 af4 ac5 af5 ac6 af6 ac7 af7; have pc0 := held_cell (i := 0) g4 rfl; have pf0 := held_frozen (i := 0) g4; have pc1 := held_cell (i := 1) g4 rfl; have pf1 := held_frozen (i := 1) g4; have pc2 := held_cell (i := 2) g4 rfl; have pf2 := held_frozen (i := 2) g4; have pc3 := held_cell (i := 3) g4 rfl; have pf3 := held_frozen (i := 3) g4; have pc4 := held_cell (i := 4) g4 rfl; have pf4 := held_frozen (i := 4) g4; have pc5 := held_cell (i := 5) g4 rfl; have pf5 := held_frozen (i := 5) g4; have pc6 := held_cell (i := 6) g4 rfl; have pf6 := held_frozen (i := 6) g4; have pc7 := held_cell (i := 7) g4 rfl; have pf7 := held_frozen (i := 7) g4; clear DONE hRt))
        have rr := put8_row g4 (.int .i64 0) (.int .i64 0) (.int .i64 0) (.int .i64 0) (.int .i64 0) (.int .i64 0) (.int .i64 0) (.int .i64 0)
        have ec0 := held_cell (i := 0) rr rfl
        have ef0 := held_frozen (i := 0) rr
        have ec1 := held_cell (i := 1) rr rfl
        have ef1 := held_frozen (i := 1) rr
        have ec2 := held_cell (i := 2) rr rfl
        have ef2 := held_frozen (i := 2) rr
        have ec3 := held_cell (i := 3) rr rfl
        have ef3 := held_frozen (i := 3) rr
        have ec4 := held_cell (i := 4) rr rfl
        have ef4 := held_frozen (i := 4) rr
        have ec5 := held_cell (i := 5) rr rfl
        have ef5 := held_frozen (i := 5) rr
        have ec6 := held_cell (i := 6) rr rfl
        have ef6 := held_frozen (i := 6) rr
        have ec7 := held_cell (i := 7) rr rfl
        have ef7 := held_frozen (i := 7) rr
        exact bodyPost_ret (v := .tuple #[metaV zeroM, .bool false]) (by simp [results, Try.results30, go_sem, metaV, zeroM, ec0, ec1, ec2, ec3, ec4, ec5, ec6, ec7]) rfl ⟨by rw [HO.out], Tch.below bw7 (put8_tch (w := w7) (b := w.heap.size) (.int .i64 0) (.int .i64 0) (.int .i64 0) (.int .i64 0) (.int .i64 0) (.int .i64 0) (.int .i64 0) (.int .i64 0)) (fun j (e : j = w.heap.size) => (show w.heap.size ≤ j by omega)) bw7.size⟩
set_option maxRecDepth 100000 in
theorem RJoined_is (v : Value) (l : List MV) (id : Int) (w : World) (hR : KRm.Rd w v l) (hlen : l.length ≤ 1099511627776) : Calls Try.prog 30 #[v, .int .i64 id] w (JoinOut w (joinM l id)) := by
  cases l with
  | nil => exact RJoined_no v [] id w hR hlen (.inl rfl)
  | cons x t =>
    cases hf : fineM (x :: t) with
    | true => exact RJoined_yes v x t id w hR hlen hf
    | false =>
      rw [join_none (.inr hf)]
      exact RJoined_no v _ id w hR hlen (.inr hf)
end Go.Proofs.Ytoomhfjmcdbgkaa
