/-
  SimobjPlays' walk: two pairs of stores, step for step. Conditions: the lists are no longer than 2^20.
-/
import Derived.Test.YtcohpgahffbnlaaOsv
import Derived.Test.YtcohpgahffbnlaaOop
namespace Go.Proofs.Ytcohpgahffbnlaa
open Go.RowKit Go.Icz Go.Maps Go.ChangeMaps Go.MapKept
set_option maxRecDepth 100000
set_option maxHeartbeats 8000000
/-- Two pairs of stores, apart; the first is there where y says so. -/
def Two (W w : World) (c : Nat) (y : Bool) (q p r q2 p2 r2 : Nat) : Prop := Below W.heap.size W w ∧ ∃ TA TB : Nat → Prop, (∀ k, TA k → W.heap.size ≤ k ∧ k < w.heap.size) ∧ (∀ k, TB k → W.heap.size ≤ k ∧ k < w.heap.size) ∧ (∀ k, TA k → ¬ TB k) ∧ (y = true → Pr w TA c q p r) ∧ Pr w TB c q2 p2 r2
variable {W w w' : World} {c d q p r q2 p2 r2 : Nat} {y : Bool} {o : OpD}
theorem Two.le (h : Two W w c y q p r q2 p2 r2) (hd : c ≤ d) (hh : d ≤ 4194304) : Two W w d y q p r q2 p2 r2 := by
  obtain ⟨b, TA, TB, h1, h2, h3, h4, h5⟩ := h
  exact ⟨b, TA, TB, h1, h2, h3, fun a => (h4 a).le hd hh, h5.le hd hh⟩
theorem Two.below (h : Two W w c y q p r q2 p2 r2) (b' : Below w.heap.size w w') : Two W w' c y q p r q2 p2 r2 := by
  obtain ⟨b, TA, TB, h1, h2, h3, h4, h5⟩ := h
  have := b'.size
  exact ⟨b.trans (b'.mono b.size), TA, TB, fun k a => ⟨(h1 k a).1, by have := (h1 k a).2; omega⟩, fun k a => ⟨(h2 k a).1, by have := (h2 k a).2; omega⟩, h3, fun a => (h4 a).below b', h5.below b'⟩
theorem opOk_up {B : Nat} (ok : OpOk W B o) (b : Below W.heap.size W w) : OpOk w B o := ⟨ok.nm, ok.bs, ok.n, Kd.Rd.below ok.rd b, ok.far⟩
theorem Two.a (h : Two W w c true q p r q2 p2 r2) (hc : c + 2 ≤ 4194304) (ok : OpOk W W.heap.size o) :
    Calls Try.prog 8 #[.pointer (some ⟨q, 0, none⟩), .pointer (some ⟨r, 0, none⟩), .agg #[.int .i64 o.kd, .string o.nm, .slice o.A o.bs.length o.C, .int .i64 o.n, .bool o.y]] w fun e w' => e = .returned (.bool true) ∧ Two W w' (c + 2) true q p r q2 p2 r2 := by
  obtain ⟨b, TA, TB, h1, h2, h3, h4, h5⟩ := h
  have hz := b.size
  refine (step_is (T := fun k => TA k ∨ w.heap.size ≤ k) ((h4 rfl).to (fun k a _ => .inl a)) (fun k a => .inr a) hc (opOk_up ok b) (fun k hk a => a.elim (fun a => by have := (h1 k a).1; omega) (fun a => by omega))).mono ?_
  rintro e w1 ⟨rfl, P, t⟩
  have := t.size
  refine ⟨rfl, Tch.below b t (fun j a => a.elim (fun a => (h1 j a).1) (fun a => by omega)) hz, fun k => (TA k ∨ w.heap.size ≤ k) ∧ k < w1.heap.size, TB, fun k a => ⟨a.1.elim (fun a => (h1 k a).1) (fun a => by omega), a.2⟩, fun k a => ⟨(h2 k a).1, by have := (h2 k a).2; omega⟩, fun k a b => a.1.elim (fun a => h3 k a b) (fun a => by have := (h2 k b).2; omega), fun _ => P.to (fun k a b => ⟨a, b⟩), ?_⟩
  exact (h5.far t (fun k a b => a.elim (fun a => h3 k a b) (fun a => by have := (h2 k b).2; omega))).le (by omega) hc
theorem Two.b (h : Two W w c y q p r q2 p2 r2) (hc : c + 2 ≤ 4194304) (ok : OpOk W W.heap.size o) :
    Calls Try.prog 8 #[.pointer (some ⟨q2, 0, none⟩), .pointer (some ⟨r2, 0, none⟩), .agg #[.int .i64 o.kd, .string o.nm, .slice o.A o.bs.length o.C, .int .i64 o.n, .bool o.y]] w fun e w' => e = .returned (.bool true) ∧ Two W w' (c + 2) y q p r q2 p2 r2 := by
  obtain ⟨b, TA, TB, h1, h2, h3, h4, h5⟩ := h
  have hz := b.size
  refine (step_is (T := fun k => TB k ∨ w.heap.size ≤ k) (h5.to (fun k a _ => .inl a)) (fun k a => .inr a) hc (opOk_up ok b) (fun k hk a => a.elim (fun a => by have := (h2 k a).1; omega) (fun a => by omega))).mono ?_
  rintro e w1 ⟨rfl, P, t⟩
  have := t.size
  refine ⟨rfl, Tch.below b t (fun j a => a.elim (fun a => (h2 j a).1) (fun a => by omega)) hz, TA, fun k => (TB k ∨ w.heap.size ≤ k) ∧ k < w1.heap.size, fun k a => ⟨(h1 k a).1, by have := (h1 k a).2; omega⟩, fun k a => ⟨a.1.elim (fun a => (h2 k a).1) (fun a => by omega), a.2⟩, fun k a b => b.1.elim (fun b => h3 k a b) (fun b => by have := (h1 k a).2; omega), fun hy => ?_, P.to (fun k a b => ⟨a, b⟩)⟩
  exact ((h4 hy).far t (fun k a b => a.elim (fun a => h3 k b a) (fun a => by have := (h1 k b).2; omega))).le (by omega) hc
theorem pr_new {T T1 T2 : Nat → Prop} {lag : Nat} {lv cv : Value} (S : Sto w T1 0 q p (newS lag)) (R : Rf w T2 r lv cv [] (newS lag)) (h1 : ∀ k, T1 k → T k ∧ k < w.heap.size) (h2 : ∀ k, T2 k → T k ∧ k < w.heap.size) (h12 : ∀ k, T1 k → ¬ T2 k) : Pr w T 0 q p r :=
  ⟨w.heap.size, newS lag, [], ⟨Nat.le_refl _, T1, T2, h1, h2, h12, S, _, _, _, R⟩, ⟨fun _ => rfl, List.Pairwise.nil⟩, Tog.new lag⟩
theorem two_new {w1 w2 w3 w4 : World} {lag : Nat} {lv cv lv2 cv2 : Value} (D1 : Sto w1 (fun k => W.heap.size ≤ k) 0 q p (newS lag)) (b1 : Below W.heap.size W w1) (D2 : Sto w2 (fun k => w1.heap.size ≤ k) 0 q2 p2 (newS 9)) (b2 : Below w1.heap.size w1 w2)
    (R3 : Rf w3 (fun k => w2.heap.size ≤ k) r lv cv [] (newS lag)) (b3 : Below w2.heap.size w2 w3) (R4 : Rf w4 (fun k => w3.heap.size ≤ k) r2 lv2 cv2 [] (newS 9)) (b4 : Below w3.heap.size w3 w4) : Two W w4 0 true q p r q2 p2 r2 := by
  have z1 := b1.size
  have z2 := b2.size
  have z3 := b3.size
  have z4 := b4.size
  have b24 := b3.trans (b4.mono z3)
  refine ⟨b1.trans ((b2.trans (b24.mono z2)).mono z1), fun k => (W.heap.size ≤ k ∧ k < w1.heap.size) ∨ (w2.heap.size ≤ k ∧ k < w3.heap.size), fun k => (w1.heap.size ≤ k ∧ k < w2.heap.size) ∨ (w3.heap.size ≤ k ∧ k < w4.heap.size), fun k a => by omega, fun k a => by omega, fun k a b => by omega, fun _ => ?_, ?_⟩
  · exact pr_new (T1 := fun k => W.heap.size ≤ k ∧ k < w1.heap.size) (T2 := fun k => w2.heap.size ≤ k ∧ k < w3.heap.size) ((D1.re (fun k a b => ⟨a, b⟩)).below (b2.trans (b24.mono z2))) ((R3.re (fun k a b => ⟨a, b⟩)).below b4) (fun k a => ⟨.inl a, by omega⟩) (fun k a => ⟨.inr a, by omega⟩) (fun k a b => by omega)
  · exact pr_new (T1 := fun k => w1.heap.size ≤ k ∧ k < w2.heap.size) (T2 := fun k => w3.heap.size ≤ k ∧ k < w4.heap.size) ((D2.re (fun k a b => ⟨a, b⟩)).below b24) (R4.re (fun k a b => ⟨a, b⟩)) (fun k a => ⟨.inl a, by omega⟩) (fun k a => ⟨.inr a, by omega⟩) (fun k a b => by omega)
theorem one_new {w2 w4 : World} {lv2 cv2 : Value} (D2 : Sto w2 (fun k => W.heap.size ≤ k) 0 q2 p2 (newS 9)) (b2 : Below W.heap.size W w2) (R4 : Rf w4 (fun k => w2.heap.size ≤ k) r2 lv2 cv2 [] (newS 9)) (b4 : Below w2.heap.size w2 w4) : Two W w4 0 false 0 0 0 q2 p2 r2 := by
  have z2 := b2.size
  have z4 := b4.size
  refine ⟨b2.trans (b4.mono z2), fun _ => False, fun k => (W.heap.size ≤ k ∧ k < w2.heap.size) ∨ (w2.heap.size ≤ k ∧ k < w4.heap.size), fun k a => a.elim, fun k a => by omega, fun k a => a.elim, fun hy => Bool.noConfusion hy, ?_⟩
  exact pr_new (T1 := fun k => W.heap.size ≤ k ∧ k < w2.heap.size) (T2 := fun k => w2.heap.size ≤ k ∧ k < w4.heap.size) ((D2.re (fun k a b => ⟨a, b⟩)).below b4) (R4.re (fun k a b => ⟨a, b⟩)) (fun k a => ⟨.inl a, by omega⟩) (fun k a => ⟨.inr a, by omega⟩) (fun k a b => by omega)
/-- A row of operations, seen from any later memory. -/
theorem rdo_at {v : Value} {l : List OpD} (h : RdO W W.heap.size v l) : ∃ A C, v = .slice A l.length C ∧ l.length ≤ 1048576 ∧ Hid (∀ i (hi : i < l.length), ∃ b1 off, A = some ⟨b1, off, none⟩ ∧ OpOk W W.heap.size l[i] ∧ ∀ wr, Below W.heap.size W wr → ∀ k u, k < 5 → l[i].cells[k]? = some u → wr.cell? ⟨b1, off + i * 5 + k, none⟩ = some u) := by
  obtain ⟨A1, C1, rfl, hlb, hrow⟩ := h
  refine ⟨A1, C1, rfl, hlb, hid (fun i hi => ?_)⟩
  obtain ⟨b1, off, hA, hlt, hlt2, hc⟩ := hrow (by omega)
  obtain ⟨c1, c2⟩ := hc i hi
  exact ⟨b1, off, hA, c2, fun wr bb k u hk hu => (bb.cell (p := ⟨b1, off + i * 5 + k, none⟩) hlt2).trans (by rw [Nat.add_assoc]; exact c1 k u hk hu)⟩
/-- The five cells of an operation. -/
def five (wr : World) (b a : Nat) (o : OpD) : Prop := wr.cell? ⟨b, a, none⟩ = some (.int .i64 o.kd) ∧ wr.cell? ⟨b, a + 1, none⟩ = some (.string o.nm) ∧ wr.cell? ⟨b, a + 2, none⟩ = some (.slice o.A o.bs.length o.C) ∧ wr.cell? ⟨b, a + 3, none⟩ = some (.int .i64 o.n) ∧ wr.cell? ⟨b, a + 4, none⟩ = some (.bool o.y)
theorem five_of {b a : Nat} (h : ∀ wr, Below W.heap.size W wr → ∀ k u, k < 5 → o.cells[k]? = some u → wr.cell? ⟨b, a + k, none⟩ = some u) {wr : World} (bb : Below W.heap.size W wr) : five wr b a o :=
  ⟨h wr bb 0 _ (by decide) rfl, h wr bb 1 _ (by decide) rfl, h wr bb 2 _ (by decide) rfl, h wr bb 3 _ (by decide) rfl, h wr bb 4 _ (by decide) rfl⟩
theorem plays_walk (lag : Int) (v1 v2 : Value) (l1 l2 : List OpD) (W : World) (h1 : RdO W W.heap.size v1 l1) (h2 : RdO W W.heap.size v2 l2) :
    Calls Try.prog 3 #[.int .i64 lag, v1, v2] W fun e W' => e = .returned (.bool true) ∧ Below W.heap.size W W' := by
  obtain ⟨A1, C1, rfl, hm1, R1⟩ := rdo_at h1
  obtain ⟨A2, C2, rfl, hm2, R2⟩ := rdo_at h2
  clear h1 h2
  have HM1 := hid hm1
  have HM2 := hid hm2
  clear hm1 hm2
  by_cases hl : 0 ≤ lag ∧ lag ≤ 100
  · obtain ⟨g, rfl⟩ : ∃ g : Nat, lag = (g : Int) := ⟨lag.toNat, by omega⟩
    have hg : g ≤ 100 := by omega
    have PN := fun w => New_is (T := fun k => w.heap.size ≤ k) g w hg (fun _ h => h)
    have PM := fun w => New_is (T := fun k => w.heap.size ≤ k) 9 w (by decide) (fun _ h => h)
    have PR := fun w => RNew_is (T := fun k => w.heap.size ≤ k) g w hg (fun _ h => h)
    have PS := fun w => RNew_is (T := fun k => w.heap.size ≤ k) 9 w (by decide) (fun _ h => h)
    clear hl hg
    have t1 := True.intro
    have t2 := True.intro
    go_enter Try.func3, Try.ntmps3
    go_upto_region 5 with (first
      | (have t3 := t1; go_at_call 4; refine (PN _).mono ?_; rintro e w1 ⟨q, p, rfl, D1, b1⟩; have X1 := hid (And.intro D1 b1); clear D1 b1 t1 t3)
      | (go_at_call 4; refine (PM _).mono ?_; rintro e w2 ⟨q2, p2, rfl, D2, b2⟩; have X2 := hid (And.intro D2 b2); clear D2 b2)
      | (have t3 := t2; go_at_call 5; refine (PR _).mono ?_; rintro e w3 ⟨r, rfl, D3, b3⟩; have X3 := hid (And.intro D3 b3); clear D3 b3 t2 t3)
      | (go_at_call 5; refine (PS _).mono ?_; rintro e w4 ⟨r2, rfl, D4, b4⟩; have X4 := hid (And.intro D4 b4); clear D4 b4))
    have J4 := hid (two_new X1.out.1 X1.out.2 X2.out.1 X2.out.2 X3.out.1 X3.out.2 X4.out.1 X4.out.2)
    clear X1 X2 X3 X4 PN PM PR PS
    go_wp2_with (first
      | (go_at_call 6; refine (num_is _ _).mono ?_; rintro e w0 ⟨rfl, hw0⟩; have hw0 := hw0.symm; subst hw0)
      | (go_at_call 7; refine (knows_is _).mono ?_; rintro e w5 ⟨rfl, b5⟩; have B5 := hid b5; clear b5))
    have J5 := hid (J4.out.below B5.out)
    clear J4 B5
    go_loopw [13] (fun iv wr => ∃ i : Nat, iv = .int .i64 i ∧ (i ≤ l1.length ∨ i ≤ l2.length) ∧ Hid (Two W wr (4 * i) true q p r q2 p2 r2)) (fun iv _ => l1.length + l2.length - (intOf iv).toNat)
    case atStart => exact ⟨0, rfl, .inl (Nat.zero_le _), J5⟩
    case round =>
      obtain ⟨i, rfl, hi, HJ⟩ := hrel
      have h1048 := HM1.out
      have h1049 := HM2.out
      clear hi
      by_cases ha : i < l1.length
      · by_cases hb : i < l2.length
        · have hx1 : (i : Int) < (l1.length : Int) := by omega
          have hx2 : (i : Int) < (l2.length : Int) := by omega
          have hm : i + 1 ≤ 1048576 ∧ i < l1.length + l2.length ∧ (i + 1 ≤ l1.length ∨ i + 1 ≤ l2.length) := by omega
          have HM := hid hm
          have hwr1 : IntKind.i64.wrap ((i : Int) + 1) = (i : Int) + 1 := by rw [IntKind.wrap_i64]; omega
          have cc : 4 * i + 2 ≤ 4194304 ∧ 4 * i + 2 + 2 ≤ 4194304 := by omega
          have J0 := hid HJ.out
          obtain ⟨b7, off7, hA7, ok7, hc7⟩ := R1.out i ha
          subst hA7
          obtain ⟨o7, ho7⟩ : ∃ o7, l1[i]'ha = o7 := ⟨_, rfl⟩
          rw [ho7] at ok7 hc7
          obtain ⟨b8, off8, hA8, ok8, hc8⟩ := R2.out i hb
          subst hA8
          obtain ⟨o8, ho8⟩ : ∃ o8, l2[i]'hb = o8 := ⟨_, rfl⟩
          rw [ho8] at ok8 hc8
          have hS : ∀ w', Below W.heap.size W w' → (w'.cell? ⟨b7, off7 + i * 5, none⟩ = some (.int .i64 o7.kd) ∧ w'.cell? ⟨b7, off7 + i * 5 + 1, none⟩ = some (.string o7.nm) ∧ w'.cell? ⟨b7, off7 + i * 5 + 2, none⟩ = some (.slice o7.A o7.bs.length o7.C) ∧ w'.cell? ⟨b7, off7 + i * 5 + 3, none⟩ = some (.int .i64 o7.n) ∧ w'.cell? ⟨b7, off7 + i * 5 + 4, none⟩ = some (.bool o7.y)) ∧ w'.cell? ⟨b8, off8 + i * 5, none⟩ = some (.int .i64 o8.kd) ∧ w'.cell? ⟨b8, off8 + i * 5 + 1, none⟩ = some (.string o8.nm) ∧ w'.cell? ⟨b8, off8 + i * 5 + 2, none⟩ = some (.slice o8.A o8.bs.length o8.C) ∧ w'.cell? ⟨b8, off8 + i * 5 + 3, none⟩ = some (.int .i64 o8.n) ∧ w'.cell? ⟨b8, off8 + i * 5 + 4, none⟩ = some (.bool o8.y) := fun w' b => ⟨five_of hc7 b, five_of hc8 b⟩
          have hkk := hS wr J0.out.1
          have hA : Calls Try.prog 8 #[.pointer (some ⟨q, 0, none⟩), .pointer (some ⟨r, 0, none⟩), .agg #[.int .i64 o7.kd, .string o7.nm, .slice o7.A o7.bs.length o7.C, .int .i64 o7.n, .bool o7.y]] wr fun e w' => e = .returned (.bool true) ∧ ((w'.cell? ⟨b7, off7 + i * 5, none⟩ = some (.int .i64 o7.kd) ∧ w'.cell? ⟨b7, off7 + i * 5 + 1, none⟩ = some (.string o7.nm) ∧ w'.cell? ⟨b7, off7 + i * 5 + 2, none⟩ = some (.slice o7.A o7.bs.length o7.C) ∧ w'.cell? ⟨b7, off7 + i * 5 + 3, none⟩ = some (.int .i64 o7.n) ∧ w'.cell? ⟨b7, off7 + i * 5 + 4, none⟩ = some (.bool o7.y)) ∧ w'.cell? ⟨b8, off8 + i * 5, none⟩ = some (.int .i64 o8.kd) ∧ w'.cell? ⟨b8, off8 + i * 5 + 1, none⟩ = some (.string o8.nm) ∧ w'.cell? ⟨b8, off8 + i * 5 + 2, none⟩ = some (.slice o8.A o8.bs.length o8.C) ∧ w'.cell? ⟨b8, off8 + i * 5 + 3, none⟩ = some (.int .i64 o8.n) ∧ w'.cell? ⟨b8, off8 + i * 5 + 4, none⟩ = some (.bool o8.y)) ∧ Hid (Two W w' (4 * i + 2) true q p r q2 p2 r2) := (J0.out.a cc.1 ok7).mono (fun e w' h => ⟨h.1, hS w' h.2.1, hid h.2⟩)
          have hB : ∀ w0, Hid (Two W w0 (4 * i + 2) true q p r q2 p2 r2) → Calls Try.prog 8 #[.pointer (some ⟨q2, 0, none⟩), .pointer (some ⟨r2, 0, none⟩), .agg #[.int .i64 o8.kd, .string o8.nm, .slice o8.A o8.bs.length o8.C, .int .i64 o8.n, .bool o8.y]] w0 fun e w' => e = .returned (.bool true) ∧ ((w'.cell? ⟨b7, off7 + i * 5, none⟩ = some (.int .i64 o7.kd) ∧ w'.cell? ⟨b7, off7 + i * 5 + 1, none⟩ = some (.string o7.nm) ∧ w'.cell? ⟨b7, off7 + i * 5 + 2, none⟩ = some (.slice o7.A o7.bs.length o7.C) ∧ w'.cell? ⟨b7, off7 + i * 5 + 3, none⟩ = some (.int .i64 o7.n) ∧ w'.cell? ⟨b7, off7 + i * 5 + 4, none⟩ = some (.bool o7.y)) ∧ w'.cell? ⟨b8, off8 + i * 5, none⟩ = some (.int .i64 o8.kd) ∧ w'.cell? ⟨b8, off8 + i * 5 + 1, none⟩ = some (.string o8.nm) ∧ w'.cell? ⟨b8, off8 + i * 5 + 2, none⟩ = some (.slice o8.A o8.bs.length o8.C) ∧ w'.cell? ⟨b8, off8 + i * 5 + 3, none⟩ = some (.int .i64 o8.n) ∧ w'.cell? ⟨b8, off8 + i * 5 + 4, none⟩ = some (.bool o8.y)) ∧ Hid (Two W w' (4 * i + 2 + 2) true q p r q2 p2 r2) := fun w0 J => (J.out.b cc.2 ok8).mono (fun e w' h => ⟨h.1, hS w' h.2.1, hid h.2⟩)
          clear hS ho7 ok7 hc7 ho8 ok8 hc8 ha hb cc hm HJ
          as_aux_lemma =>
            go_wp2_with (first | (go_at_call 8; refine hA.mono ?_; rintro e w6 ⟨rfl, hk1, J1⟩; clear hA) | (go_at_call 8; refine (hB _ J1).mono ?_; rintro e w7 ⟨rfl, hk2, J2⟩; clear hB))
            go_roundw
            case rel => exact ⟨i + 1, by go_num, HM.out.2.2, hid (J2.out.le (by omega) (by have := HM.out; omega))⟩
            case measure => have := HM.out; simp [intOf]; omega
        · have hx1 : (i : Int) < (l1.length : Int) := by omega
          have hx2 : ¬ (i : Int) < (l2.length : Int) := by omega
          have hm : i + 1 ≤ 1048576 ∧ i < l1.length + l2.length ∧ (i + 1 ≤ l1.length ∨ i + 1 ≤ l2.length) := by omega
          have HM := hid hm
          have hwr1 : IntKind.i64.wrap ((i : Int) + 1) = (i : Int) + 1 := by rw [IntKind.wrap_i64]; omega
          have cc : 4 * i + 2 ≤ 4194304 ∧ 4 * i + 2 + 2 ≤ 4194304 := by omega
          have J0 := hid HJ.out
          obtain ⟨b7, off7, hA7, ok7, hc7⟩ := R1.out i ha
          subst hA7
          obtain ⟨o7, ho7⟩ : ∃ o7, l1[i]'ha = o7 := ⟨_, rfl⟩
          rw [ho7] at ok7 hc7
          have hS : ∀ w', Below W.heap.size W w' → w'.cell? ⟨b7, off7 + i * 5, none⟩ = some (.int .i64 o7.kd) ∧ w'.cell? ⟨b7, off7 + i * 5 + 1, none⟩ = some (.string o7.nm) ∧ w'.cell? ⟨b7, off7 + i * 5 + 2, none⟩ = some (.slice o7.A o7.bs.length o7.C) ∧ w'.cell? ⟨b7, off7 + i * 5 + 3, none⟩ = some (.int .i64 o7.n) ∧ w'.cell? ⟨b7, off7 + i * 5 + 4, none⟩ = some (.bool o7.y) := fun w' b => five_of hc7 b
          have hkk := hS wr J0.out.1
          have hA : Calls Try.prog 8 #[.pointer (some ⟨q, 0, none⟩), .pointer (some ⟨r, 0, none⟩), .agg #[.int .i64 o7.kd, .string o7.nm, .slice o7.A o7.bs.length o7.C, .int .i64 o7.n, .bool o7.y]] wr fun e w' => e = .returned (.bool true) ∧ (w'.cell? ⟨b7, off7 + i * 5, none⟩ = some (.int .i64 o7.kd) ∧ w'.cell? ⟨b7, off7 + i * 5 + 1, none⟩ = some (.string o7.nm) ∧ w'.cell? ⟨b7, off7 + i * 5 + 2, none⟩ = some (.slice o7.A o7.bs.length o7.C) ∧ w'.cell? ⟨b7, off7 + i * 5 + 3, none⟩ = some (.int .i64 o7.n) ∧ w'.cell? ⟨b7, off7 + i * 5 + 4, none⟩ = some (.bool o7.y)) ∧ Hid (Two W w' (4 * i + 2) true q p r q2 p2 r2) := (J0.out.a cc.1 ok7).mono (fun e w' h => ⟨h.1, hS w' h.2.1, hid h.2⟩)
          clear hS ho7 ok7 hc7 ha hb cc hm HJ
          as_aux_lemma =>
            go_wp2_with (first | (go_at_call 8; refine hA.mono ?_; rintro e w6 ⟨rfl, hk1, J1⟩; clear hA))
            go_roundw
            case rel => exact ⟨i + 1, by go_num, HM.out.2.2, hid (J1.out.le (by omega) (by have := HM.out; omega))⟩
            case measure => have := HM.out; simp [intOf]; omega
      · by_cases hb : i < l2.length
        · have hx1 : ¬ (i : Int) < (l1.length : Int) := by omega
          have hx2 : (i : Int) < (l2.length : Int) := by omega
          have hm : i + 1 ≤ 1048576 ∧ i < l1.length + l2.length ∧ (i + 1 ≤ l1.length ∨ i + 1 ≤ l2.length) := by omega
          have HM := hid hm
          have hwr1 : IntKind.i64.wrap ((i : Int) + 1) = (i : Int) + 1 := by rw [IntKind.wrap_i64]; omega
          have cc : 4 * i + 2 ≤ 4194304 ∧ 4 * i + 2 + 2 ≤ 4194304 := by omega
          have J0 := hid HJ.out
          obtain ⟨b8, off8, hA8, ok8, hc8⟩ := R2.out i hb
          subst hA8
          obtain ⟨o8, ho8⟩ : ∃ o8, l2[i]'hb = o8 := ⟨_, rfl⟩
          rw [ho8] at ok8 hc8
          have hS : ∀ w', Below W.heap.size W w' → w'.cell? ⟨b8, off8 + i * 5, none⟩ = some (.int .i64 o8.kd) ∧ w'.cell? ⟨b8, off8 + i * 5 + 1, none⟩ = some (.string o8.nm) ∧ w'.cell? ⟨b8, off8 + i * 5 + 2, none⟩ = some (.slice o8.A o8.bs.length o8.C) ∧ w'.cell? ⟨b8, off8 + i * 5 + 3, none⟩ = some (.int .i64 o8.n) ∧ w'.cell? ⟨b8, off8 + i * 5 + 4, none⟩ = some (.bool o8.y) := fun w' b => five_of hc8 b
          have hkk := hS wr J0.out.1
          have hB : ∀ w0, Hid (Two W w0 (4 * i) true q p r q2 p2 r2) → Calls Try.prog 8 #[.pointer (some ⟨q2, 0, none⟩), .pointer (some ⟨r2, 0, none⟩), .agg #[.int .i64 o8.kd, .string o8.nm, .slice o8.A o8.bs.length o8.C, .int .i64 o8.n, .bool o8.y]] w0 fun e w' => e = .returned (.bool true) ∧ (w'.cell? ⟨b8, off8 + i * 5, none⟩ = some (.int .i64 o8.kd) ∧ w'.cell? ⟨b8, off8 + i * 5 + 1, none⟩ = some (.string o8.nm) ∧ w'.cell? ⟨b8, off8 + i * 5 + 2, none⟩ = some (.slice o8.A o8.bs.length o8.C) ∧ w'.cell? ⟨b8, off8 + i * 5 + 3, none⟩ = some (.int .i64 o8.n) ∧ w'.cell? ⟨b8, off8 + i * 5 + 4, none⟩ = some (.bool o8.y)) ∧ Hid (Two W w' (4 * i + 2) true q p r q2 p2 r2) := fun w0 J => (J.out.b cc.1 ok8).mono (fun e w' h => ⟨h.1, hS w' h.2.1, hid h.2⟩)
          clear hS ho8 ok8 hc8 ha hb cc hm HJ
          as_aux_lemma =>
            go_wp2_with (first | (go_at_call 8; refine (hB _ J0).mono ?_; rintro e w7 ⟨rfl, hk2, J2⟩; clear hB))
            go_roundw
            case rel => exact ⟨i + 1, by go_num, HM.out.2.2, hid (J2.out.le (by omega) (by have := HM.out; omega))⟩
            case measure => have := HM.out; simp [intOf]; omega
        · have hx1 : ¬ (i : Int) < (l1.length : Int) := by omega
          have hx2 : ¬ (i : Int) < (l2.length : Int) := by omega
          clear ha hb h1048 h1049
          as_aux_lemma =>
            go_wp2_with fail
            go_ret
            exact ⟨rfl, HJ.out.1⟩
  · have PN := fun w => New_no lag w (by omega)
    have PM := fun w => New_is (T := fun k => w.heap.size ≤ k) 9 w (by decide) (fun _ h => h)
    have PR := fun w => RNew_no lag w (by omega)
    have PS := fun w => RNew_is (T := fun k => w.heap.size ≤ k) 9 w (by decide) (fun _ h => h)
    clear hl
    have t1 := True.intro
    have t2 := True.intro
    go_enter Try.func3, Try.ntmps3
    go_upto_region 5 with (first
      | (have t3 := t1; go_at_call 4; refine (PN _).mono ?_; rintro e w0 ⟨rfl, hw0⟩; have hw0 := hw0.symm; subst hw0; clear t1 t3)
      | (go_at_call 4; refine (PM _).mono ?_; rintro e w2 ⟨q2, p2, rfl, D2, b2⟩; have X2 := hid (And.intro D2 b2); clear D2 b2)
      | (have t3 := t2; go_at_call 5; refine (PR _).mono ?_; rintro e w0 ⟨rfl, hw0⟩; have hw0 := hw0.symm; subst hw0; clear t2 t3)
      | (go_at_call 5; refine (PS _).mono ?_; rintro e w4 ⟨r2, rfl, D4, b4⟩; have X4 := hid (And.intro D4 b4); clear D4 b4))
    have J4 := hid (one_new X2.out.1 X2.out.2 X4.out.1 X4.out.2)
    clear X2 X4 PN PM PR PS
    go_wp2_with (first
      | (go_at_call 6; refine (num_is _ _).mono ?_; rintro e w0 ⟨rfl, hw0⟩; have hw0 := hw0.symm; subst hw0)
      | (go_at_call 7; refine (knows_is _).mono ?_; rintro e w5 ⟨rfl, b5⟩; have B5 := hid b5; clear b5))
    have J5 := hid (J4.out.below B5.out)
    clear J4 B5
    go_loopw [13] (fun iv wr => ∃ i : Nat, iv = .int .i64 i ∧ (i ≤ l1.length ∨ i ≤ l2.length) ∧ Hid (Two W wr (4 * i) false 0 0 0 q2 p2 r2)) (fun iv _ => l1.length + l2.length - (intOf iv).toNat)
    case atStart => exact ⟨0, rfl, .inl (Nat.zero_le _), J5⟩
    case round =>
      obtain ⟨i, rfl, hi, HJ⟩ := hrel
      have h1048 := HM1.out
      have h1049 := HM2.out
      clear hi
      by_cases ha : i < l1.length
      · by_cases hb : i < l2.length
        · have hx1 : (i : Int) < (l1.length : Int) := by omega
          have hx2 : (i : Int) < (l2.length : Int) := by omega
          have hm : i + 1 ≤ 1048576 ∧ i < l1.length + l2.length ∧ (i + 1 ≤ l1.length ∨ i + 1 ≤ l2.length) := by omega
          have HM := hid hm
          have hwr1 : IntKind.i64.wrap ((i : Int) + 1) = (i : Int) + 1 := by rw [IntKind.wrap_i64]; omega
          have cc : 4 * i + 2 ≤ 4194304 ∧ 4 * i + 2 + 2 ≤ 4194304 := by omega
          have J0 := hid HJ.out
          obtain ⟨b7, off7, hA7, ok7, hc7⟩ := R1.out i ha
          subst hA7
          obtain ⟨o7, ho7⟩ : ∃ o7, l1[i]'ha = o7 := ⟨_, rfl⟩
          rw [ho7] at ok7 hc7
          obtain ⟨b8, off8, hA8, ok8, hc8⟩ := R2.out i hb
          subst hA8
          obtain ⟨o8, ho8⟩ : ∃ o8, l2[i]'hb = o8 := ⟨_, rfl⟩
          rw [ho8] at ok8 hc8
          have hS : ∀ w', Below W.heap.size W w' → w'.cell? ⟨b8, off8 + i * 5, none⟩ = some (.int .i64 o8.kd) ∧ w'.cell? ⟨b8, off8 + i * 5 + 1, none⟩ = some (.string o8.nm) ∧ w'.cell? ⟨b8, off8 + i * 5 + 2, none⟩ = some (.slice o8.A o8.bs.length o8.C) ∧ w'.cell? ⟨b8, off8 + i * 5 + 3, none⟩ = some (.int .i64 o8.n) ∧ w'.cell? ⟨b8, off8 + i * 5 + 4, none⟩ = some (.bool o8.y) := fun w' b => five_of hc8 b
          have hkk := hS wr J0.out.1
          have hB : ∀ w0, Hid (Two W w0 (4 * i) false 0 0 0 q2 p2 r2) → Calls Try.prog 8 #[.pointer (some ⟨q2, 0, none⟩), .pointer (some ⟨r2, 0, none⟩), .agg #[.int .i64 o8.kd, .string o8.nm, .slice o8.A o8.bs.length o8.C, .int .i64 o8.n, .bool o8.y]] w0 fun e w' => e = .returned (.bool true) ∧ (w'.cell? ⟨b8, off8 + i * 5, none⟩ = some (.int .i64 o8.kd) ∧ w'.cell? ⟨b8, off8 + i * 5 + 1, none⟩ = some (.string o8.nm) ∧ w'.cell? ⟨b8, off8 + i * 5 + 2, none⟩ = some (.slice o8.A o8.bs.length o8.C) ∧ w'.cell? ⟨b8, off8 + i * 5 + 3, none⟩ = some (.int .i64 o8.n) ∧ w'.cell? ⟨b8, off8 + i * 5 + 4, none⟩ = some (.bool o8.y)) ∧ Hid (Two W w' (4 * i + 2) false 0 0 0 q2 p2 r2) := fun w0 J => (J.out.b cc.1 ok8).mono (fun e w' h => ⟨h.1, hS w' h.2.1, hid h.2⟩)
          clear hS ho7 ok7 hc7 ho8 ok8 hc8 ha hb cc hm HJ
          as_aux_lemma =>
            go_wp2_with (first | (go_at_call 8; refine (hB _ J0).mono ?_; rintro e w7 ⟨rfl, hk2, J2⟩; clear hB))
            go_roundw
            case rel => exact ⟨i + 1, by go_num, HM.out.2.2, hid (J2.out.le (by omega) (by have := HM.out; omega))⟩
            case measure => have := HM.out; simp [intOf]; omega
        · have hx1 : (i : Int) < (l1.length : Int) := by omega
          have hx2 : ¬ (i : Int) < (l2.length : Int) := by omega
          have hm : i + 1 ≤ 1048576 ∧ i < l1.length + l2.length ∧ (i + 1 ≤ l1.length ∨ i + 1 ≤ l2.length) := by omega
          have HM := hid hm
          have hwr1 : IntKind.i64.wrap ((i : Int) + 1) = (i : Int) + 1 := by rw [IntKind.wrap_i64]; omega
          have cc : 4 * i + 2 ≤ 4194304 ∧ 4 * i + 2 + 2 ≤ 4194304 := by omega
          have J0 := hid HJ.out
          obtain ⟨b7, off7, hA7, ok7, hc7⟩ := R1.out i ha
          subst hA7
          obtain ⟨o7, ho7⟩ : ∃ o7, l1[i]'ha = o7 := ⟨_, rfl⟩
          rw [ho7] at ok7 hc7
          clear ho7 ok7 hc7 ha hb cc hm
          as_aux_lemma =>
            go_wp2_with fail
            go_roundw
            case rel => exact ⟨i + 1, by go_num, HM.out.2.2, hid (HJ.out.le (by omega) (by have := HM.out; omega))⟩
            case measure => have := HM.out; simp [intOf]; omega
      · by_cases hb : i < l2.length
        · have hx1 : ¬ (i : Int) < (l1.length : Int) := by omega
          have hx2 : (i : Int) < (l2.length : Int) := by omega
          have hm : i + 1 ≤ 1048576 ∧ i < l1.length + l2.length ∧ (i + 1 ≤ l1.length ∨ i + 1 ≤ l2.length) := by omega
          have HM := hid hm
          have hwr1 : IntKind.i64.wrap ((i : Int) + 1) = (i : Int) + 1 := by rw [IntKind.wrap_i64]; omega
          have cc : 4 * i + 2 ≤ 4194304 ∧ 4 * i + 2 + 2 ≤ 4194304 := by omega
          have J0 := hid HJ.out
          obtain ⟨b8, off8, hA8, ok8, hc8⟩ := R2.out i hb
          subst hA8
          obtain ⟨o8, ho8⟩ : ∃ o8, l2[i]'hb = o8 := ⟨_, rfl⟩
          rw [ho8] at ok8 hc8
          have hS : ∀ w', Below W.heap.size W w' → w'.cell? ⟨b8, off8 + i * 5, none⟩ = some (.int .i64 o8.kd) ∧ w'.cell? ⟨b8, off8 + i * 5 + 1, none⟩ = some (.string o8.nm) ∧ w'.cell? ⟨b8, off8 + i * 5 + 2, none⟩ = some (.slice o8.A o8.bs.length o8.C) ∧ w'.cell? ⟨b8, off8 + i * 5 + 3, none⟩ = some (.int .i64 o8.n) ∧ w'.cell? ⟨b8, off8 + i * 5 + 4, none⟩ = some (.bool o8.y) := fun w' b => five_of hc8 b
          have hkk := hS wr J0.out.1
          have hB : ∀ w0, Hid (Two W w0 (4 * i) false 0 0 0 q2 p2 r2) → Calls Try.prog 8 #[.pointer (some ⟨q2, 0, none⟩), .pointer (some ⟨r2, 0, none⟩), .agg #[.int .i64 o8.kd, .string o8.nm, .slice o8.A o8.bs.length o8.C, .int .i64 o8.n, .bool o8.y]] w0 fun e w' => e = .returned (.bool true) ∧ (w'.cell? ⟨b8, off8 + i * 5, none⟩ = some (.int .i64 o8.kd) ∧ w'.cell? ⟨b8, off8 + i * 5 + 1, none⟩ = some (.string o8.nm) ∧ w'.cell? ⟨b8, off8 + i * 5 + 2, none⟩ = some (.slice o8.A o8.bs.length o8.C) ∧ w'.cell? ⟨b8, off8 + i * 5 + 3, none⟩ = some (.int .i64 o8.n) ∧ w'.cell? ⟨b8, off8 + i * 5 + 4, none⟩ = some (.bool o8.y)) ∧ Hid (Two W w' (4 * i + 2) false 0 0 0 q2 p2 r2) := fun w0 J => (J.out.b cc.1 ok8).mono (fun e w' h => ⟨h.1, hS w' h.2.1, hid h.2⟩)
          clear hS ho8 ok8 hc8 ha hb cc hm HJ
          as_aux_lemma =>
            go_wp2_with (first | (go_at_call 8; refine (hB _ J0).mono ?_; rintro e w7 ⟨rfl, hk2, J2⟩; clear hB))
            go_roundw
            case rel => exact ⟨i + 1, by go_num, HM.out.2.2, hid (J2.out.le (by omega) (by have := HM.out; omega))⟩
            case measure => have := HM.out; simp [intOf]; omega
        · have hx1 : ¬ (i : Int) < (l1.length : Int) := by omega
          have hx2 : ¬ (i : Int) < (l2.length : Int) := by omega
          clear ha hb h1048 h1049
          as_aux_lemma =>
            go_wp2_with fail
            go_ret
            exact ⟨rfl, HJ.out.1⟩
end Go.Proofs.Ytcohpgahffbnlaa
