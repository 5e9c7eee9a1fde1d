/-
  The law CachePlays, walked. Conditions: the calls' sizes.
-/
import Derived.Test.YtflhgoecmcfkkaaCstp
namespace Go.Proofs.Ytflhgoecmcfkkaa
open Go.RowKit Go.Icz Go.Maps
theorem Ca.mono {w : World} {B B' q s m li : Nat} {hi mi : Int} {L : List It} (h : Ca w B q s m li hi mi L) (hB : B' ≤ B) : Ca w B' q s m li hi mi L :=
  ⟨⟨h.sh.at_, h.sh.ch, h.sh.nd, h.sh.sn, h.sh.ks, h.sh.mp, fun e he => (h.sh.vs e he).mono hB, ⟨Nat.le_trans hB h.sh.lo.1, Nat.le_trans hB h.sh.lo.2.1, fun e he => Nat.le_trans hB (h.sh.lo.2.2 e he)⟩, h.sh.le, h.sh.lim⟩, h.at_, Nat.le_trans hB h.lo⟩
theorem Rf.mono {w : World} {B B' rq li : Nat} {hi mi : Int} {v : Value} {l : List RIt} (h : Rf w B rq li hi mi v l) (hB : B' ≤ B) : Rf w B' rq li hi mi v l := by
  refine ⟨h.at_, ?_, fun x hx => (h.vs x hx).mono hB, Nat.le_trans hB h.lo, h.le, h.ks⟩
  rcases h.tl with h1 | ⟨g, o, cap, cur, hv, hg, r⟩
  · exact .inl h1
  · exact .inr ⟨g, o, cap, cur, hv, Nat.le_trans hB hg, r⟩
/-- A cache of the program's and one of the reference's that hold the same. -/
def Pw (w : World) (B q s m rq li : Nat) (L : List It) (v : Value) : Prop := ∃ hi mi l, Ca w B q s m li hi mi L ∧ Rf w B rq li hi mi v l ∧ Eqv L l
/-- Two such pairs have no block together. -/
def Dj (q1 s1 m1 rq1 : Nat) (L1 : List It) (v1 : Value) (q2 s2 m2 rq2 : Nat) (L2 : List It) (v2 : Value) : Prop :=
  (∀ j, (j = q1 ∨ Foot s1 m1 L1 j) → ¬ (j = q2 ∨ Foot s2 m2 L2 j)) ∧ ∀ j, FootR rq1 v1 j → ¬ FootR rq2 v2 j
theorem Dj.symm {q1 s1 m1 rq1 : Nat} {L1 : List It} {v1 : Value} {q2 s2 m2 rq2 : Nat} {L2 : List It} {v2 : Value} (h : Dj q1 s1 m1 rq1 L1 v1 q2 s2 m2 rq2 L2 v2) : Dj q2 s2 m2 rq2 L2 v2 q1 s1 m1 rq1 L1 v1 :=
  ⟨fun j h2 h1 => h.1 j h1 h2, fun j h2 h1 => h.2 j h1 h2⟩
theorem Pw.below {w w' : World} {B q s m rq li : Nat} {L : List It} {v : Value} (h : Pw w B q s m rq li L v) (k : Below w.heap.size w w') : Pw w' B q s m rq li L v := by
  obtain ⟨hi, mi, l, h1, h2, h3⟩ := h
  exact ⟨hi, mi, l, h1.below k, h2.below k, h3⟩
theorem pair_step {w0 w w' : World} {B q1 s1 m1 rq1 li1 : Nat} {L1 : List It} {v1 : Value} {q2 s2 m2 rq2 li2 : Nat} {L2 : List It} {v2 : Value} {e : Ending} (h1 : Pw w B q1 s1 m1 rq1 li1 L1 v1) (h2 : Pw w B q2 s2 m2 rq2 li2 L2 v2) (dj : Dj q1 s1 m1 rq1 L1 v1 q2 s2 m2 rq2 L2 v2) (hb : Below B w0 w) (ho : StepOut w B q1 s1 m1 rq1 li1 L1 v1 e w') :
    e = .returned (.bool true) ∧ ∃ L1' v1', Pw w' B q1 s1 m1 rq1 li1 L1' v1' ∧ Pw w' B q2 s2 m2 rq2 li2 L2 v2 ∧ Dj q1 s1 m1 rq1 L1' v1' q2 s2 m2 rq2 L2 v2 ∧ Below B w0 w' := by
  obtain ⟨he, hi', mi', L', v', l', hC, hR, hE, hT, hN1, hN2⟩ := ho
  obtain ⟨hi1, mi1, l1, hC1, hR1, hE1⟩ := h1
  obtain ⟨hi2, mi2, l2, hC2, hR2, hE2⟩ := h2
  have hnb : NB (fun j => Foot s1 m1 L1 j ∨ FootR rq1 v1 j) w := fun j hj => hj.elim (fun h => hC1.sh.nb j h) (fun h => hR1.nb j h)
  refine ⟨he, L', v', ⟨hi', mi', l', hC, hR, hE⟩, ⟨hi2, mi2, l2, hC2.touch hT ?_ hnb, hR2.touch hT ?_ hnb, hE2⟩, ⟨fun j hj h2 => ?_, fun j hj h2 => ?_⟩, ?_⟩
  · rintro j (hj | hj)
    · exact dj.1 j (.inr hj)
    · exact apart hC2 hR1 j hj
  · rintro j (hj | hj)
    · exact fun h => apart hC1 hR2 j h (.inr hj)
    · exact dj.2 j hj
  · rcases hj with hj | hj
    · exact dj.1 j (.inl hj) h2
    · rcases hN1 j hj with h3 | h3
      · exact dj.1 j (.inr h3) h2
      · have : j < w.heap.size := by
          rcases h2 with h2 | h2
          · rw [h2]; exact row_lt hC2.at_
          · exact (hC2.sh.lt j h2).2
        omega
  · rcases hj with hj | hj
    · exact dj.2 j (.inl hj) h2
    · rcases hN2 j hj with h3 | h3
      · exact dj.2 j (.inr h3) h2
      · have := (hR2.lt j h2).2
        omega
  · refine Tch.below hb hT ?_ (Nat.le_of_lt (Nat.lt_of_le_of_lt hC1.lo (row_lt hC1.at_)))
    rintro j (hj | hj)
    · exact (hC1.sh.lt j hj).1
    · exact (hR1.lt j hj).1
theorem one_step {w0 w w' : World} {B q1 s1 m1 rq1 li1 : Nat} {L1 : List It} {v1 : Value} {e : Ending} (h1 : Pw w B q1 s1 m1 rq1 li1 L1 v1) (hb : Below B w0 w) (ho : StepOut w B q1 s1 m1 rq1 li1 L1 v1 e w') :
    e = .returned (.bool true) ∧ ∃ L1' v1', Pw w' B q1 s1 m1 rq1 li1 L1' v1' ∧ Below B w0 w' := by
  obtain ⟨he, hi', mi', L', v', l', hC, hR, hE, hT, hN1, hN2⟩ := ho
  obtain ⟨hi1, mi1, l1, hC1, hR1, hE1⟩ := h1
  refine ⟨he, L', v', ⟨hi', mi', l', hC, hR, hE⟩, ?_⟩
  refine Tch.below hb hT ?_ (Nat.le_of_lt (Nat.lt_of_le_of_lt hC1.lo (row_lt hC1.at_)))
  rintro j (hj | hj)
  · exact (hC1.sh.lt j hj).1
  · exact (hR1.lt j hj).1
theorem RdO_some {W : World} {A : Option Addr} {n c : Nat} {ops : List OpE} (h : RdO W (.slice A n c) ops) (h0 : 0 < ops.length) : ∃ b off, A = some ⟨b, off, none⟩ := by
  obtain ⟨A', c', hv, _, hr⟩ := h
  injection hv with e1 _ _
  subst e1
  obtain ⟨b, off, hA, _⟩ := hr h0
  exact ⟨b, off, hA⟩
/-- A call of the list, at a later world. -/
theorem op_at {W w : World} {b off n c : Nat} {ops : List OpE} (h : RdO W (.slice (some ⟨b, off, none⟩) n c) ops) (hb : Below W.heap.size W w) {i : Nat} (hi : i < ops.length) :
    w.cell? ⟨b, off + i * 3, none⟩ = some (.int .i64 ops[i].kd) ∧ w.cell? ⟨b, off + i * 3 + 1, none⟩ = some (.string ops[i].key) ∧ w.cell? ⟨b, off + i * 3 + 2, none⟩ = some (.slice ops[i].A ops[i].bs.length ops[i].c) := by
  obtain ⟨A, c', hv, _, hr⟩ := h
  obtain ⟨b', off', hA, hlt, hc⟩ := hr (by omega)
  injection hv with e1 _ _
  rw [hA] at e1
  injection e1 with e1
  injection e1 with e1 e2
  subst e1 e2
  obtain ⟨x0, x1, x2, _⟩ := hc i hi
  refine ⟨(hb.cell (p := ⟨b, off + i * 3, none⟩) hlt).trans x0, ?_, ?_⟩
  · rw [Nat.add_assoc]; exact (hb.cell (p := ⟨b, off + (i * 3 + 1), none⟩) hlt).trans x1
  · rw [Nat.add_assoc]; exact (hb.cell (p := ⟨b, off + (i * 3 + 2), none⟩) hlt).trans x2
theorem op_step {W w : World} {v : Value} {ops : List OpE} (h : RdO W v ops) (hb : Below W.heap.size W w) {i : Nat} (hi : i < ops.length) {q s m rq li : Nat} {L : List It} {u : Value} (hp : Pw w W.heap.size q s m rq li L u) :
    Calls Try.prog 11 #[.pointer (some ⟨q, 0, none⟩), .pointer (some ⟨rq, 0, none⟩), .agg #[.int .i64 ops[i].kd, .string ops[i].key, .slice ops[i].A ops[i].bs.length ops[i].c]] w (StepOut w W.heap.size q s m rq li L u) := by
  obtain ⟨A, c, rfl, _, hr⟩ := h
  obtain ⟨b, off, rfl, hlt, hc⟩ := hr (by omega)
  obtain ⟨_, _, _, hrd, hk, hv, _⟩ := hc i hi
  obtain ⟨hi', mi', l, hC, hR, hE⟩ := hp
  exact step_is hC hR hE _ _ _ _ _ (hrd.below hb) hk hv (fun h0 b' hb' => Rd.lt hrd h0 b' hb')
theorem RdO_form {W : World} {v : Value} {ops : List OpE} (h : RdO W v ops) : ∃ A c, v = .slice A ops.length c ∧ ops.length ≤ 1048576 := by
  obtain ⟨A, c, rfl, hn, _⟩ := h
  exact ⟨A, c, rfl, hn⟩
set_option maxRecDepth 100000 in
set_option maxHeartbeats 16000000 in
theorem plays_walk (lim : Int) (v1 : Value) (ops1 : List OpE) (v2 : Value) (ops2 : List OpE) (W : World) (hO1 : RdO W v1 ops1) (hO2 : RdO W v2 ops2) (_hlim : (Lit.int .i64 lim).wf = true) :
    Calls Try.prog 3 #[.int .i64 lim, v1, v2] W fun e w' => e = .returned (.bool true) ∧ Below W.heap.size W w' := by
  obtain ⟨A1, c1, hv1, hn1⟩ := RdO_form hO1
  obtain ⟨A2, c2, hv2, hn2⟩ := RdO_form hO2
  by_cases hval : 1 ≤ lim ∧ lim ≤ 1048576
  · obtain ⟨li, rfl⟩ : ∃ li : Nat, lim = (li : Int) := ⟨lim.toNat, by omega⟩
    have hN1 := New_yes li W (by omega) (by omega)
    have hN2 : ∀ w1 : World, Calls Try.prog 7 #[.int .i64 9] w1 fun e w' => e = .returned (.tuple #[.pointer (some ⟨w1.heap.size + 1 + 1, 0, none⟩), .int .i64 0]) ∧ Ca w' w1.heap.size (w1.heap.size + 1 + 1) (w1.heap.size + 1) w1.heap.size 9 0 0 [] ∧ Below w1.heap.size w1 w' := fun w1 => New_yes 9 w1 (by decide) (by decide)
    have hM1 := fun w2 => R8New_yes li w2 (by omega) (by omega)
    have hM2 : ∀ w3 : World, Calls Try.prog 8 #[.int .i64 9] w3 fun e w' => e = .returned (.pointer (some ⟨w3.heap.size, 0, none⟩)) ∧ Rf w' w3.heap.size w3.heap.size 9 0 0 (.slice none 0 0) [] ∧ Below w3.heap.size w3 w' := fun w3 => R8New_yes 9 w3 (by decide) (by decide)
    subst hv1 hv2
    generalize hq : W.heap.size + 1 + 1 = q1 at *
    generalize hs : W.heap.size + 1 = s1 at *
    have t1 := True.intro
    have t2 := True.intro
    go_enter Try.func3, Try.ntmps3
    go_wp2_with (first
      | (clear t1; go_at_call 7; refine hN1.mono ?_; rintro e w1 ⟨rfl, hC1, b1⟩)
      | (go_at_call 7; refine (hN2 _).mono ?_; rintro e w2 ⟨rfl, hC2, b2⟩)
      | (clear t2; go_at_call 8; refine (hM1 _).mono ?_; rintro e w3 ⟨rfl, hR1, b3⟩; clear hM1)
      | (go_at_call 8; refine (hM2 _).mono ?_; rintro e w4 ⟨rfl, hR2, b4⟩)
      | (go_at_call 9; refine (num_is _ _).mono ?_; rintro e w0 ⟨rfl, hw0⟩; have hw0 := hw0.symm; subst hw0)
      | (go_at_call 10; refine (knows_is _).mono ?_; rintro e w5 ⟨rfl, b5⟩))
    have b45 := b4.trans (b5.mono b4.size)
    have b35 := b3.trans (b45.mono b3.size)
    have b25 := b2.trans (b35.mono b2.size)
    have hb0 := b1.trans (b25.mono b1.size)
    have e1 := b1.size
    have e2 := b2.size
    have e3 := b3.size
    have e4 := b4.size
    have hP1 : Pw w5 W.heap.size q1 s1 W.heap.size w2.heap.size li [] (.slice none 0 0) := ⟨0, 0, [], hC1.below b25, (hR1.below b45).mono (by omega), rfl⟩
    have hP2 : Pw w5 W.heap.size (w1.heap.size + 1 + 1) (w1.heap.size + 1) w1.heap.size w3.heap.size 9 [] (.slice none 0 0) := ⟨0, 0, [], (hC2.below b35).mono (by omega), (hR2.below b5).mono (by omega), rfl⟩
    have hDj : Dj q1 s1 W.heap.size w2.heap.size [] (.slice none 0 0) (w1.heap.size + 1 + 1) (w1.heap.size + 1) w1.heap.size w3.heap.size [] (.slice none 0 0) := by
      have y1 := row_lt hC1.at_
      have y2 := fun j hj => (hC1.sh.lt j hj).2
      have y3 := row_lt hR1.at_
      refine ⟨fun j hj h2 => ?_, fun j hj h2 => ?_⟩
      · have h1 : j < w1.heap.size := by
          rcases hj with hj | hj
          · omega
          · exact y2 j hj
        rcases h2 with h2 | h2 | h2 | h2
        · omega
        · omega
        · omega
        · simp [gs] at h2
      · rcases hj with hj | hj
        · rcases h2 with h2 | h2
          · omega
          · cases h2
        · cases hj
    generalize w1.heap.size + 1 + 1 = q2 at *
    generalize w1.heap.size + 1 = s2 at *
    generalize w1.heap.size = m2 at *
    generalize w2.heap.size = rq1 at *
    generalize w3.heap.size = rq2 at *
    clear hC1 hC2 hR1 hR2 b1 b2 b3 b4 b5 b25 b35 b45 e1 e2 e3 e4 hN1 hN2 hM2
    go_loopw [13] (fun iv wr => ∃ (i : Nat) (L1 : List It) (u1 : Value) (L2 : List It) (u2 : Value), iv = .int .i64 i ∧ (i ≤ ops1.length ∨ i ≤ ops2.length) ∧ Pw wr W.heap.size q1 s1 W.heap.size rq1 li L1 u1 ∧ Pw wr W.heap.size q2 s2 m2 rq2 9 L2 u2 ∧ Dj q1 s1 W.heap.size rq1 L1 u1 q2 s2 m2 rq2 L2 u2 ∧ Below W.heap.size W wr) (fun iv _ => ops1.length + ops2.length - (intOf iv).toNat)
    case atStart => exact ⟨0, [], _, [], _, rfl, .inl (Nat.zero_le _), hP1, hP2, hDj, hb0⟩
    case round =>
      obtain ⟨i, L1, u1, L2, u2, rfl, hin, hP1, hP2, hDj, hb0⟩ := hrel
      by_cases hi1 : i < ops1.length
      · have hi1I : (i : Int) < (ops1.length : Int) := by omega
        obtain ⟨b, off, hA1⟩ := RdO_some hO1 (by omega)
        subst hA1
        obtain ⟨x0, x1, x2⟩ := op_at hO1 hb0 hi1
        have hst := op_step hO1 hb0 hi1 hP1
        have hpair := fun e w5 (ho : StepOut wr W.heap.size q1 s1 W.heap.size rq1 li L1 u1 e w5) => pair_step hP1 hP2 hDj hb0 ho
        have hiA : Hid (i < ops1.length) := hid hi1
        generalize ops1[i] = x at *
        obtain ⟨kd, key, xA, xc, bs⟩ := x
        dsimp only at x0 x1 x2 hst
        by_cases hi2 : i < ops2.length
        · have hi2I : (i : Int) < (ops2.length : Int) := by omega
          obtain ⟨b', off', hA2⟩ := RdO_some hO2 (by omega)
          subst hA2
          have hat2 := fun w5 (hb5 : Below W.heap.size W w5) => op_at hO2 hb5 hi2
          have hst2 := fun w5 (hb5 : Below W.heap.size W w5) (hp2 : Pw w5 W.heap.size q2 s2 m2 rq2 9 L2 u2) => op_step hO2 hb5 hi2 hp2
          generalize ops2[i] = y at *
          obtain ⟨kd2, key2, yA, yc, bs2⟩ := y
          dsimp only at hat2 hst2
          have t3 := True.intro
          clear hO1 hO2
          go_wp2_with (first
            | (clear t3; go_at_call 11; refine hst.mono ?_; intro e w5 ho; obtain ⟨rfl, L1', u1', hP1', hP2', hDj', hb5⟩ := hpair e w5 ho; clear ho hpair; obtain ⟨y0, y1, y2⟩ := hat2 w5 hb5; clear hst x0 x1 x2; have hs2 := hst2 w5 hb5 hP2'; clear hst2)
            | (go_at_call 11; refine hs2.mono ?_; intro e w6 ho; obtain ⟨rfl, L2', u2', hQ2, hQ1, hDk, hb6⟩ := pair_step hP2' hP1' (Dj.symm hDj') hb5 ho; clear ho))
          go_roundw
          case rel => exact ⟨i + 1, L1', u1', L2', u2', by go_num, .inl (by have := hiA.out; omega), hQ1, hQ2, Dj.symm hDk, hb6⟩
          case measure => have := hiA.out; simp [intOf]; omega
        · have hi2I : decide ((i : Int) < (ops2.length : Int)) = false := decide_eq_false (by omega)
          clear hO1 hO2
          go_wp2_with (go_at_call 11; refine hst.mono ?_; intro e w5 ho; obtain ⟨rfl, L1', u1', hP1', hP2', hDj', hb5⟩ := hpair e w5 ho; clear ho hpair)
          go_roundw
          case rel => exact ⟨i + 1, L1', u1', L2, u2, by go_num, .inl (by have := hiA.out; omega), hP1', hP2', hDj', hb5⟩
          case measure => have := hiA.out; simp [intOf]; omega
      · have hi1I : decide ((i : Int) < (ops1.length : Int)) = false := decide_eq_false (by omega)
        by_cases hi2 : i < ops2.length
        · have hi2I : (i : Int) < (ops2.length : Int) := by omega
          obtain ⟨b', off', hA2⟩ := RdO_some hO2 (by omega)
          subst hA2
          obtain ⟨y0, y1, y2⟩ := op_at hO2 hb0 hi2
          have hst2 := op_step hO2 hb0 hi2 hP2
          have hpair := fun e w5 (ho : StepOut wr W.heap.size q2 s2 m2 rq2 9 L2 u2 e w5) => pair_step hP2 hP1 (Dj.symm hDj) hb0 ho
          have hiA : Hid (i < ops2.length) := hid hi2
          generalize ops2[i] = y at *
          obtain ⟨kd2, key2, yA, yc, bs2⟩ := y
          dsimp only at y0 y1 y2 hst2
          clear hO1 hO2
          go_wp2_with (go_at_call 11; refine hst2.mono ?_; intro e w6 ho; obtain ⟨rfl, L2', u2', hQ2, hQ1, hDk, hb6⟩ := hpair e w6 ho; clear ho hpair)
          go_roundw
          case rel => exact ⟨i + 1, L1, u1, L2', u2', by go_num, .inr (by have := hiA.out; omega), hQ1, hQ2, Dj.symm hDk, hb6⟩
          case measure => have := hiA.out; simp [intOf]; omega
        · have hi2I : decide ((i : Int) < (ops2.length : Int)) = false := decide_eq_false (by omega)
          go_wp2
          go_ret
          exact ⟨rfl, hb0⟩
  · have hbad : lim < 1 ∨ 1048576 < lim := by omega
    have hN1 := New_no lim W hbad
    have hN2 : ∀ w1 : World, Calls Try.prog 7 #[.int .i64 9] w1 fun e w' => e = .returned (.tuple #[.pointer (some ⟨w1.heap.size + 1 + 1, 0, none⟩), .int .i64 0]) ∧ Ca w' w1.heap.size (w1.heap.size + 1 + 1) (w1.heap.size + 1) w1.heap.size 9 0 0 [] ∧ Below w1.heap.size w1 w' := fun w1 => New_yes 9 w1 (by decide) (by decide)
    have hM1 := fun w2 => R8New_no lim w2 hbad
    have hM2 : ∀ w3 : World, Calls Try.prog 8 #[.int .i64 9] w3 fun e w' => e = .returned (.pointer (some ⟨w3.heap.size, 0, none⟩)) ∧ Rf w' w3.heap.size w3.heap.size 9 0 0 (.slice none 0 0) [] ∧ Below w3.heap.size w3 w' := fun w3 => R8New_yes 9 w3 (by decide) (by decide)
    subst hv1 hv2
    clear hval hbad
    have t1 := True.intro
    have t2 := True.intro
    go_enter Try.func3, Try.ntmps3
    go_wp2_with (first
      | (clear t1; go_at_call 7; refine hN1.mono ?_; rintro e w1 ⟨rfl, hw1⟩; subst hw1; clear hN1)
      | (go_at_call 7; refine (hN2 _).mono ?_; rintro e w2 ⟨rfl, hC2, b2⟩)
      | (clear t2; go_at_call 8; refine (hM1 _).mono ?_; rintro e w3 ⟨rfl, hw3⟩; have hw3 := hw3.symm; subst hw3; clear hM1)
      | (go_at_call 8; refine (hM2 _).mono ?_; rintro e w4 ⟨rfl, hR2, b4⟩)
      | (go_at_call 9; refine (num_is _ _).mono ?_; rintro e w0 ⟨rfl, hw0⟩; have hw0 := hw0.symm; subst hw0)
      | (go_at_call 10; refine (knows_is _).mono ?_; rintro e w5 ⟨rfl, b5⟩))
    have b45 := b4.trans (b5.mono b4.size)
    have hb0 := b2.trans (b45.mono b2.size)
    have e2 := b2.size
    have hP2 : Pw w5 w1.heap.size (w1.heap.size + 1 + 1) (w1.heap.size + 1) w1.heap.size w2.heap.size 9 [] (.slice none 0 0) := ⟨0, 0, [], hC2.below b45, (hR2.below b5).mono e2, rfl⟩
    have hB := Nat.le_refl w1.heap.size
    generalize w1.heap.size + 1 + 1 = q2 at *
    generalize w1.heap.size + 1 = s2 at *
    generalize hm2 : w1.heap.size = m2 at hP2 hB
    generalize w2.heap.size = rq2 at *
    clear hC2 hR2 b2 b4 b5 b45 e2 hN2 hM2 hB
    rw [← hm2] at hP2
    clear hm2
    generalize hmm : w1.heap.size = mm at hP2
    subst hmm
    go_loopw [13] (fun iv wr => ∃ (i : Nat) (L2 : List It) (u2 : Value), iv = .int .i64 i ∧ (i ≤ ops1.length ∨ i ≤ ops2.length) ∧ Pw wr w1.heap.size q2 s2 w1.heap.size rq2 9 L2 u2 ∧ Below w1.heap.size w1 wr) (fun iv _ => ops1.length + ops2.length - (intOf iv).toNat)
    case atStart => exact ⟨0, [], _, rfl, .inl (Nat.zero_le _), hP2, hb0⟩
    case round =>
      obtain ⟨i, L2, u2, rfl, hin, hP2, hb0⟩ := hrel
      by_cases hi2 : i < ops2.length
      · have hi2I : (i : Int) < (ops2.length : Int) := by omega
        obtain ⟨b', off', hA2⟩ := RdO_some hO2 (by omega)
        subst hA2
        obtain ⟨y0, y1, y2⟩ := op_at hO2 hb0 hi2
        have hst2 := op_step hO2 hb0 hi2 hP2
        have hpair := fun e w5 (ho : StepOut wr w1.heap.size q2 s2 w1.heap.size rq2 9 L2 u2 e w5) => one_step hP2 hb0 ho
        have hiA : Hid (i < ops2.length) := hid hi2
        generalize ops2[i] = y at *
        obtain ⟨kd2, key2, yA, yc, bs2⟩ := y
        dsimp only at y0 y1 y2 hst2
        clear hO1 hO2
        by_cases hi1 : i < ops1.length
        · have hi1I : (i : Int) < (ops1.length : Int) := by omega
          go_wp2_with (go_at_call 11; refine hst2.mono ?_; intro e w6 ho; obtain ⟨rfl, L2', u2', hQ2, hb6⟩ := hpair e w6 ho; clear ho hpair)
          go_roundw
          case rel => exact ⟨i + 1, L2', u2', by go_num, .inr (by have := hiA.out; omega), hQ2, hb6⟩
          case measure => have := hiA.out; simp [intOf]; omega
        · have hi1I : decide ((i : Int) < (ops1.length : Int)) = false := decide_eq_false (by omega)
          go_wp2_with (go_at_call 11; refine hst2.mono ?_; intro e w6 ho; obtain ⟨rfl, L2', u2', hQ2, hb6⟩ := hpair e w6 ho; clear ho hpair)
          go_roundw
          case rel => exact ⟨i + 1, L2', u2', by go_num, .inr (by have := hiA.out; omega), hQ2, hb6⟩
          case measure => have := hiA.out; simp [intOf]; omega
      · have hi2I : decide ((i : Int) < (ops2.length : Int)) = false := decide_eq_false (by omega)
        by_cases hi1 : i < ops1.length
        · have hi1I : (i : Int) < (ops1.length : Int) := by omega
          have hiA : Hid (i < ops1.length) := hid hi1
          clear hO1 hO2
          go_wp2
          go_roundw
          case rel => exact ⟨i + 1, L2, u2, by go_num, .inl (by have := hiA.out; omega), hP2, hb0⟩
          case measure => have := hiA.out; simp [intOf]; omega
        · have hi1I : decide ((i : Int) < (ops1.length : Int)) = false := decide_eq_false (by omega)
          go_wp2
          go_ret
          exact ⟨rfl, hb0⟩
end Go.Proofs.Ytflhgoecmcfkkaa
