/-
  What the reference's Right, Bytes, Put and Size of an entry answer. Conditions: the entry can be read; sizes as each theorem names.
-/
import Derived.Test.YtffpphigmdehfaaDoorEntSize
import Derived.Test.YtffpphigmdehfaaDoorRefRight
import Derived.Deep.RegionHeld3
namespace Go.Proofs.YtffpphigmdehfaaDoor
open Go.RowKit Go.Icz
set_option maxHeartbeats 2000000 in
set_option maxRecDepth 100000 in
theorem R3Right_is (x : Ent) (A : Option Addr) (c : Nat) (w : World) (hR : RdL w (.slice A x.labs.length c) x.labs) (hz : entZ x) :
    Calls Tryd.prog 21 #[entV x A c] w fun e w' => e = .returned (.bool (entR x)) ∧ Below w.heap.size w w' := by
  obtain ⟨hz1, hz2, hz3⟩ := hz
  have hRt := fun w1 (g : RdL w1 (.slice A x.labs.length c) x.labs) => RefRight_is _ x.labs w1 g (by omega) hz3
  obtain ⟨seq, time, labs, line⟩ := x
  unfold entV entR
  simp only at *
  have hR1 := fun o => hR.alloc o
  have hll : (⟨line.toArray⟩ : ByteArray).size = line.length := Lib.size_mk _
  by_cases h1 : 1 ≤ seq
  · by_cases h2 : seq < 1099511627776
    · by_cases h3 : 0 ≤ time
      · by_cases h4 : time < 1099511627776
        · have HV : Hid (((decide (1 ≤ seq ∧ seq < 1099511627776) && decide (0 ≤ time ∧ time < 1099511627776)) && decide (line.length ≤ 1024) && rightS labs) = (decide (line.length ≤ 1024) && rightS labs)) := hid (by simp [h1, h2, h3, h4])
          rw [HV.out]
          have hk : ∀ (a b : Value) o, b = b → ∀ w1, Below (w.alloc (.cells #[.int .i64 seq, .int .i64 time, .slice A labs.length c, .string ⟨line.toArray⟩] o)).heap.size (w.alloc (.cells #[.int .i64 seq, .int .i64 time, .slice A labs.length c, .string ⟨line.toArray⟩] o)) w1 → w1.cell? ⟨w.heap.size, 3, none⟩ = some (.string ⟨line.toArray⟩) := fun _ _ _ _ w1 hb => held_cell (box4 hb) rfl
          cases hr : rightS labs with
          | true =>
            rw [hr] at hRt
            by_cases h5 : line.length ≤ 1024
            · have h5' : (line.length : Int) ≤ 1024 := by omega
              have HF : Hid ((decide (line.length ≤ 1024) && true) = true) := hid (by simp [h5])
              rw [HF.out]
              clear HV hz1 hz2 hz3 h5 hR hk hr
              go_enter Tryd.func21, Tryd.ntmps21
              go_wp2_with (go_at_call 76; refine (hRt _ (hR1 _)).mono ?_; rintro e w1 ⟨rfl, b1⟩; have q3 := held_cell (i := 3) (box4 b1) rfl; clear hRt)
              go_ret
              exact ⟨rfl, below_push b1⟩
            · have h5' : ¬ (line.length : Int) ≤ 1024 := by omega
              have h5d : decide ((line.length : Int) ≤ 1024) = false := decide_eq_false h5'
              have HF : Hid ((decide (line.length ≤ 1024) && true) = false) := hid (by simp [h5])
              rw [HF.out]
              clear HV hz1 hz2 hz3 h5 hR hk hr
              go_enter Tryd.func21, Tryd.ntmps21
              go_wp2_with (go_at_call 76; refine (hRt _ (hR1 _)).mono ?_; rintro e w1 ⟨rfl, b1⟩; have q3 := held_cell (i := 3) (box4 b1) rfl; clear hRt)
              go_ret
              exact ⟨rfl, below_push b1⟩
          | false =>
            rw [hr] at hRt
            have HF : Hid ((decide (line.length ≤ 1024) && false) = false) := hid (by simp)
            rw [HF.out]
            clear HV hz1 hz2 hz3 hR hk hr
            go_enter Tryd.func21, Tryd.ntmps21
            go_wp2_with (go_at_call 76; refine (hRt _ (hR1 _)).mono ?_; rintro e w1 ⟨rfl, b1⟩; clear hRt)
            go_ret
            exact ⟨rfl, below_push b1⟩
        · have HV : Hid (((decide (1 ≤ seq ∧ seq < 1099511627776) && decide (0 ≤ time ∧ time < 1099511627776)) && decide (line.length ≤ 1024) && rightS labs) = false) := hid (by simp [h4])
          rw [HV.out]
          clear HV hz1 hz2 hz3 hR hR1 hRt hll
          go_enter Tryd.func21, Tryd.ntmps21
          go_wp2
          all_goals
            go_ret
            exact ⟨rfl, (Below.refl _ _).alloc (Nat.le_refl _) _⟩
      · have HV : Hid (((decide (1 ≤ seq ∧ seq < 1099511627776) && decide (0 ≤ time ∧ time < 1099511627776)) && decide (line.length ≤ 1024) && rightS labs) = false) := hid (by simp [h3])
        rw [HV.out]
        clear HV hz1 hz2 hz3 hR hR1 hRt hll
        go_enter Tryd.func21, Tryd.ntmps21
        go_wp2
        all_goals
          go_ret
          exact ⟨rfl, (Below.refl _ _).alloc (Nat.le_refl _) _⟩
    · have HV : Hid (((decide (1 ≤ seq ∧ seq < 1099511627776) && decide (0 ≤ time ∧ time < 1099511627776)) && decide (line.length ≤ 1024) && rightS labs) = false) := hid (by simp [h2])
      rw [HV.out]
      clear HV hz1 hz2 hz3 hR hR1 hRt hll
      go_enter Tryd.func21, Tryd.ntmps21
      go_wp2
      all_goals
        go_ret
        exact ⟨rfl, (Below.refl _ _).alloc (Nat.le_refl _) _⟩
  · have HV : Hid (((decide (1 ≤ seq ∧ seq < 1099511627776) && decide (0 ≤ time ∧ time < 1099511627776)) && decide (line.length ≤ 1024) && rightS labs) = false) := hid (by simp [h1])
    rw [HV.out]
    clear HV hz1 hz2 hz3 hR hR1 hRt hll
    go_enter Tryd.func21, Tryd.ntmps21
    go_wp2
    all_goals
      go_ret
      exact ⟨rfl, (Below.refl _ _).alloc (Nat.le_refl _) _⟩
set_option maxHeartbeats 4000000 in
set_option maxRecDepth 100000 in
theorem R3Bytes_is (x : Ent) (A : Option Addr) (c : Nat) (w : World) (hR : RdL w (.slice A x.labs.length c) x.labs) (hr : entR x = true) :
    Calls Tryd.prog 62 #[entV x A c] w (Bare w (entB x)) := by
  unfold entR at hr
  simp only [Bool.and_eq_true, decide_eq_true_eq] at hr
  obtain ⟨⟨⟨⟨s1, s2⟩, u1, u2⟩, l1⟩, hrr⟩ := hr
  have HB := hid (show entB x = num x.seq.toNat ++ num x.time.toNat ++ txt (str (bytesN x.labs)) ++ txt ⟨x.line.toArray⟩ from rfl)
  have hbl := bytesN_len hrr
  obtain ⟨h16, hal⟩ := right_lens hrr
  have hB := fun w1 (g : RdL w1 (.slice A x.labs.length c) x.labs) => BytesOf_is _ x.labs w1 g (by omega) hal
  have N1 := fun w1 => Bytes_any x.seq.toNat w1 (by omega)
  have N2 := fun w1 => Bytes_any x.time.toNat w1 (by omega)
  rw [Int.toNat_of_nonneg (by omega)] at N1 N2
  have hn1 := num_len8 (n := x.seq.toNat) (by omega)
  have hn2 := num_len8 (n := x.time.toNat) (by omega)
  have T1 := fun w1 => TextBytes_any (str (bytesN x.labs)) w1 (by rw [str_len]; omega)
  have ht1 := txt_len2 (str (bytesN x.labs)) (by rw [str_len]; omega)
  rw [str_len] at ht1
  have hls : (⟨x.line.toArray⟩ : ByteArray).size = x.line.length := Lib.size_mk _
  have T2 := fun w1 => TextBytes_any ⟨x.line.toArray⟩ w1 (by omega)
  have ht2 := txt_len2 ⟨x.line.toArray⟩ (by omega)
  rw [hls] at ht2
  rw [HB.out]
  have hR1 := fun o => hR.alloc o
  have cv := fun (v : Value) w1 (h : Rd w1 v (bytesN x.labs)) => conv_rd std h
  clear hrr hR hls s1 s2 u1 u2 HB
  unfold entV
  generalize num x.seq.toNat = m1 at *
  generalize num x.time.toNat = m2 at *
  generalize txt (str (bytesN x.labs)) = m3 at *
  generalize txt ⟨x.line.toArray⟩ = m4 at *
  have e1 : m1.length + m2.length ≤ 140737488355328 := by omega
  have e2 : (m1 ++ m2).length + m3.length ≤ 140737488355328 := by simp; omega
  have e3 : ((m1 ++ m2) ++ m3).length + m4.length ≤ 140737488355328 := by simp; omega
  generalize hmb : bytesN x.labs = mb at *
  clear hbl ht1 ht2 hn1 hn2 l1 hmb h16 hal
  go_enter Tryd.func62, Tryd.ntmps62
  go_wp2_with fail
  have hR2 := hR1 (.cells #[.int .i64 x.seq, .int .i64 x.time, .slice A x.labs.length c, .string ⟨x.line.toArray⟩] 24)
  have hnew := heap_alloc_new w (.cells #[.int .i64 x.seq, .int .i64 x.time, .slice A x.labs.length c, .string ⟨x.line.toArray⟩] 24)
  have hbx : Below w.heap.size w (w.alloc (.cells #[.int .i64 x.seq, .int .i64 x.time, .slice A x.labs.length c, .string ⟨x.line.toArray⟩] 24)) := (Below.refl _ _).alloc (Nat.le_refl _) _
  clear hR1
  generalize w.alloc (.cells #[.int .i64 x.seq, .int .i64 x.time, .slice A x.labs.length c, .string ⟨x.line.toArray⟩] 24) = W1 at *
  have mkS : ∀ w', Below W1.heap.size W1 w' → Below W1.heap.size W1 w' ∧ w'.cell? ⟨w.heap.size, 0, none⟩ = some (.int .i64 x.seq) ∧ w'.cell? ⟨w.heap.size, 1, none⟩ = some (.int .i64 x.time) := fun w' h => ⟨h, held_cell (keep4 hnew h) rfl, held_cell (keep4 hnew h) rfl⟩
  have hk := mkS W1.drew (Below.refl _ _).drew
  go_region_held3 (fun w' => Below W1.heap.size W1 w' ∧ w'.cell? ⟨w.heap.size, 0, none⟩ = some (.int .i64 x.seq) ∧ w'.cell? ⟨w.heap.size, 1, none⟩ = some (.int .i64 x.time)) (exact hk)
    (first
      | (go_at_call 80; refine (N1 _).mono ?_; rintro e w3 ⟨v3, rfl, o3, b3⟩; have hk := mkS _ (hk.1.trans (b3.mono hk.1.size)); clear N1)
      | (go_at_call 80; refine (N2 _).mono ?_; rintro e w5 ⟨v5, rfl, o5, b5⟩; have own3 := o3.below b5; have hk := mkS _ (hk.1.trans (b5.mono hk.1.size)); clear N2)
      | (refine step_appR rfl (.tmp 6) (.tmp 9) rfl _ _ _ m1 m2 (by simp [Act.eval]) own3 (by simp [Act.eval]) o5.rd e1 hk.1.size ?_; intro v6 w6 o6 b6; have hk := mkS _ (hk.1.trans b6)))
  have k6 := keep4 hnew hk.1
  have q2 := held_cell (i := 2) k6 rfl
  have rl6 := hR2.below hk.1
  have z6 := hk.1.size
  have bw6 := hbx.trans (hk.1.mono hbx.size)
  have t1 := True.intro
  have t2 := True.intro
  have o6' : Own w6 W1.heap.size v6 (m1 ++ m2) := o6
  go_wp2_with (first
    | (go_at_call 98; refine (hB _ rl6).mono ?_; rintro e w7 ⟨v7, rfl, o7, b7⟩; have own6 := o6'.below b7; have cv7 := cv _ _ o7.rd; have k7 := keep4 k6 b7; have bw7 := bw6.trans (b7.mono bw6.size); have z7 := Nat.le_trans z6 b7.size; clear hB)
    | (clear t1; go_at_call 81; refine (T1 _).mono ?_; rintro e w8 ⟨v8, rfl, o8, b8⟩; have own8 := own6.below b8; have k8 := keep4 k7 b8; have bw8 := bw7.trans (b8.mono bw7.size); have z8 := Nat.le_trans z7 b8.size; clear T1 cv7)
    | (at_builtin; refine wp_appR std rfl (.tmp 11) (.tmp 16) rfl W1.heap.size _ _ (m1 ++ m2) m3 rfl own8 rfl o8.rd e2 z8 ?_; intro v9 w9 o9 b9; have k9 := (b9.block _ (Array.getElem?_eq_some_iff.1 hnew).1).trans k8; have q3 := held_cell (i := 3) k9 rfl; have z9 := Nat.le_trans z8 b9.size; have bw9 := bw8.trans (b9.mono hbx.size); clear own8 o8)
    | (clear t2; go_at_call 81; refine (T2 _).mono ?_; rintro e w10 ⟨v10, rfl, o10, b10⟩; have own10 := o9.below b10; have z10 := Nat.le_trans z9 b10.size; have bw10 := bw9.trans (b10.mono bw9.size); clear T2 o9)
    | (at_builtin; refine wp_appR std rfl (.tmp 18) (.tmp 21) rfl W1.heap.size _ _ ((m1 ++ m2) ++ m3) m4 rfl own10 rfl o10.rd e3 z10 ?_; intro v11 w11 o11 b11)
    | fail)
  go_ret
  exact ⟨_, rfl, o11.mono hbx.size, bw10.trans (b11.mono hbx.size)⟩
set_option maxRecDepth 100000 in
set_option maxHeartbeats 1000000 in
theorem R3Put_is (x : Ent) (A : Option Addr) (c : Nat) (w : World) (hR : RdL w (.slice A x.labs.length c) x.labs) (hz : entZ x) :
    Calls Tryd.prog 17 #[entV x A c] w (EPutOut x w) := by
  have hRt := fun w1 (g : RdL w1 (.slice A x.labs.length c) x.labs) => R3Right_is x A c w1 g hz
  have hR1 := fun o => hR.alloc o
  cases hr : entR x with
  | false =>
    rw [hr] at hRt
    have HR := hid hr
    clear hr hR hz
    unfold entV at *
    go_enter Tryd.func17, Tryd.ntmps17
    go_wp2_with (go_at_call 21; refine (hRt _ (hR1 _)).mono ?_; rintro e w1 ⟨rfl, b1⟩; clear hRt)
    go_ret2
    unfold EPutOut
    rw [HR.out, if_neg (by decide), if_neg (by decide)]
    exact ⟨_, rfl, Rd.nil _, below_push b1⟩
  | true =>
    have hB := fun w1 (g : RdL w1 (.slice A x.labs.length c) x.labs) => R3Bytes_is x A c w1 g hr
    rw [hr] at hRt
    have HR := hid hr
    clear hr hR hz
    unfold entV at *
    go_enter Tryd.func17, Tryd.ntmps17
    go_wp2_with (first
      | (go_at_call 21; refine (hRt _ (hR1 _)).mono ?_; rintro e w1 ⟨rfl, b1⟩; have k1 := box4 b1; have g1 := (hR1 _).below b1; have c1 := below_push b1; have q0 := held_cell (i := 0) k1 rfl; have q1 := held_cell (i := 1) k1 rfl; have q2 := held_cell (i := 2) k1 rfl; have q3 := held_cell (i := 3) k1 rfl; clear hRt hR1)
      | (go_at_call 62; refine (hB _ g1).mono ?_; rintro e w2 ⟨v2, rfl, o2, b2⟩; clear hB))
    go_ret2
    unfold EPutOut
    rw [HR.out, if_pos rfl, if_pos rfl]
    exact ⟨_, rfl, o2.rd, c1.trans (b2.mono c1.size)⟩
set_option maxRecDepth 100000 in
set_option maxHeartbeats 1000000 in
theorem R3Size_is (x : Ent) (A : Option Addr) (c : Nat) (w : World) (hR : RdL w (.slice A x.labs.length c) x.labs) (hz : entZ x) :
    Calls Tryd.prog 25 #[entV x A c] w fun e w' => e = .returned (.int .i64 ((if entR x = true then entB x else []).length : Int)) ∧ Below w.heap.size w w' := by
  have hP := fun w1 (g : RdL w1 (.slice A x.labs.length c) x.labs) => R3Put_is x A c w1 g hz
  unfold EPutOut at hP
  have hR1 := fun o => hR.alloc o
  clear hR hz
  generalize (if entR x = true then (0 : Int) else 1) = n at *
  generalize (if entR x = true then entB x else []) = l at *
  unfold entV at *
  go_enter Tryd.func25, Tryd.ntmps25
  go_wp2_with (go_at_call 17; refine (hP _ (hR1 _)).mono ?_; rintro e w1 ⟨v1, rfl, r1, b1⟩; obtain ⟨A1, c1, rfl, -, -⟩ := r1; clear hP)
  go_ret
  exact ⟨rfl, below_push b1⟩
end Go.Proofs.YtffpphigmdehfaaDoor
