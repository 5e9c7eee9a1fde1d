/-
  A step of both stores, walked: they answer alike. Conditions: the operation's bytes lie apart from both.
-/
import Derived.Test.YtcohpgahffbnlaaOsu
import Derived.Deep.DeepCutAuto
import Derived.Deep.CutBlock
import Derived.Deep.CutRange
import Derived.Deep.RegionHeld3
import Derived.Deep.RegionLaw
import Derived.Deep.QuietTactic
import Derived.BigQuiet
namespace Go.Proofs.Ytcohpgahffbnlaa
open Go.RowKit Go.Icz Go.Maps Go.ChangeMaps Go.MapKept
set_option maxRecDepth 100000
set_option maxHeartbeats 8000000
theorem below_dn (w : World) (k : Nat) : Below w.heap.size w (w.drewN k) := ⟨rfl, rfl, rfl, Nat.le_refl _, fun _ _ => rfl⟩
theorem Bp.c0 {T : Nat → Prop} {o : OpD} {bx c q p r : Nat} {W w : World} (h : Bp T o bx c q p r W w) : w.cell? ⟨bx, 0, none⟩ = some (.int .i64 o.kd) := by obtain ⟨M, L, h, _⟩ := h; exact h.c0
theorem Bp.c1 {T : Nat → Prop} {o : OpD} {bx c q p r : Nat} {W w : World} (h : Bp T o bx c q p r W w) : w.cell? ⟨bx, 1, none⟩ = some (.string o.nm) := by obtain ⟨M, L, h, _⟩ := h; exact h.c1
theorem Bp.c2 {T : Nat → Prop} {o : OpD} {bx c q p r : Nat} {W w : World} (h : Bp T o bx c q p r W w) : w.cell? ⟨bx, 2, none⟩ = some (.slice o.A o.bs.length o.C) := by obtain ⟨M, L, h, _⟩ := h; exact h.c2
theorem Bp.c3 {T : Nat → Prop} {o : OpD} {bx c q p r : Nat} {W w : World} (h : Bp T o bx c q p r W w) : w.cell? ⟨bx, 3, none⟩ = some (.int .i64 o.n) := by obtain ⟨M, L, h, _⟩ := h; exact h.c3
theorem Bp.c4 {T : Nat → Prop} {o : OpD} {bx c q p r : Nat} {W w : World} (h : Bp T o bx c q p r W w) : w.cell? ⟨bx, 4, none⟩ = some (.bool o.y) := by obtain ⟨M, L, h, _⟩ := h; exact h.c4
theorem step_is {w : World} {T : Nat → Prop} {c q p r B : Nat} {o : OpD} (H : Pr w T c q p r) (hT : ∀ k, w.heap.size ≤ k → T k) (hc : c + 2 ≤ 4194304) (ok : OpOk w B o) (hB : ∀ k, k < B → ¬ T k) :
    Calls Try.prog 8 #[.pointer (some ⟨q, 0, none⟩), .pointer (some ⟨r, 0, none⟩), .agg #[.int .i64 o.kd, .string o.nm, .slice o.A o.bs.length o.C, .int .i64 o.n, .bool o.y]] w fun e w' => e = .returned (.bool true) ∧ Pr w' T (c + 2) q p r ∧ Tch T w w' := by
  obtain ⟨T1, HB0, fin⟩ := H.box hT ok hB
  have HB1 := hid HB0
  have HF := hid fin
  have HC := hid hc
  have q0 := HB0.c0
  clear HB0 fin H hT ok hB hc
  go_enter Try.func8, Try.ntmps8
  go_upto_block 0 with fail
  generalize w.alloc (.cells #[.int .i64 o.kd, .string o.nm, .slice o.A o.bs.length o.C, .int .i64 o.n, .bool o.y] 34) = Wb at *
  generalize w.heap.size = bx at *
  generalize Value.agg #[.int .i64 o.kd, .string o.nm, .slice o.A o.bs.length o.C, .int .i64 o.n, .bool o.y] = pv
  clear q0
  go_cut [7, 8, 9, 10, 11, 12, 13, 14, 15, 16, 17, 18, 24] (fun a _ _ _ _ _ _ _ _ _ _ _ _ wx => a = .bool true ∧ Hid (Bp T1 o bx (c + 2) q p r Wb wx))
  case first =>
    by_cases k0 : o.kd = 0
    · rw [k0]
      clear k0
      have hk1 := HB1.out.c1
      have hk2 := HB1.out.c2
      have h1 := HB1.out.put HC.out
      clear HB1 HF
      generalize hL : o.bs.length = n at *
      clear hL
      as_aux_lemma =>
        go_upto_region 5 with (first
          | (go_at_call 16; refine h1.mono ?_; rintro e w3 ⟨g3, C3, rfl, h2⟩; clear h1))
        clear hk1 hk2
        obtain ⟨x, h3⟩ := h2.out
        obtain ⟨hkk, h3⟩ := h3 w3.drew (hid (Below.refl _ _).drew)
        clear h2
        go_region_held3 (fun w' => w'.cell? ⟨bx, 1, none⟩ = some (.string o.nm) ∧ w'.cell? ⟨bx, 2, none⟩ = some (.slice o.A n o.C)) (first | exact hk6 | exact hk5 | exact hk4 | exact hkk) (first
          | (go_at_call 10; refine h3.mono ?_; rintro e w4 ⟨rfl, hk4, h4⟩; clear h3)
          | (go_at_call 6; refine (num_is _ _).mono ?_; rintro e w0 ⟨rfl, hw0⟩; have hw0 := hw0.symm; subst hw0)
          | (go_at_call 17; refine h4.out.mono ?_; rintro e w5 ⟨rfl, hk5, h5⟩; clear h4)
          | (go_at_call 18; refine h5.out.mono ?_; rintro e w6 ⟨rfl, hk6, h6⟩; clear h5))
        clear hkk hk4 hk5 hk6
        go_wp2_with fail
        go_loopw [9] (fun iv wr => ∃ i : Nat, iv = .int .i64 i ∧ i ≤ n ∧ Hid (Bp T1 o bx (c + 2) q p r Wb wr ∧ (0 < n → ∃ g, g = g3 ∧ BytR wr g n ∧ ∀ wx, Tch (· = g) wr wx → Bp T1 o bx (c + 2) q p r Wb wx))) (fun iv _ => n - (intOf iv).toNat)
        case atStart => exact ⟨0, rfl, Nat.zero_le _, hid ⟨h6.out.2 _ (Tch.refl _ _), fun _ => ⟨g3, rfl, h6.out.1, h6.out.2⟩⟩⟩
        case round =>
          obtain ⟨i, rfl, hi, HP⟩ := hrel
          by_cases hl : i < n
          · have hil : (i : Int) < (n : Int) := by omega
            obtain ⟨g, hA, hb, hk⟩ := HP.out.2 (by omega)
            subst hA
            obtain ⟨x1, cx, fx, nx⟩ := hb.at hl
            have HX := hid hl
            have hw1 : IntKind.i64.wrap ((i : Int) + 1) = (i : Int) + 1 := by have := hb.1; rw [IntKind.wrap_i64]; omega
            have NX := hid nx
            have HK := hid hk
            clear hb hk nx hl HP hi
            go_wp2
            go_roundw
            case rel => exact ⟨i + 1, by go_num, HX.out, hid ⟨HK.out _ (NX.out _).2, fun _ => ⟨_, rfl, (NX.out _).1, fun wx t => HK.out wx ((NX.out _).2.trans t)⟩⟩⟩
            case measure => have := HX.out; simp [intOf]; omega
          · have hji : ¬ (i : Int) < (n : Int) := by omega
            clear hl
            go_wp2
            go_meet
            exact ⟨rfl, hid (HP.out.1)⟩
    by_cases k1 : o.kd = 1
    · rw [k1]
      clear k0 k1
      have h1c : c + 1 ≤ 4194304 := by have := HC.out; omega
      have hkk := HB1.out.c1
      obtain ⟨x, l, h1⟩ := HB1.out.get h1c
      clear HB1 HF h1c
      as_aux_lemma =>
        go_wp2_with (first
          | (go_at_call 13; refine h1.mono ?_; rintro e w3 ⟨A, C, rfl, hk3, h2⟩; clear h1)
          | (go_at_call 19; refine h2.out.mono ?_; rintro e w4 ⟨u4, rfl, cv1, cv2, P4⟩; clear h2)
          | (go_at_call 6; refine (num_is _ _).mono ?_; rintro e w0 ⟨rfl, hw0⟩; have hw0 := hw0.symm; subst hw0))
        clear cv1 cv2
        go_loopw [14] (fun iv wr => ∃ i : Nat, iv = .int .i64 i ∧ i ≤ l.length ∧ Hid (Bp T1 o bx (c + 1) q p r Wb wr ∧ (0 < l.length → ∃ g, A = some ⟨g, 0, none⟩ ∧ BytR wr g l.length ∧ ∀ wx, Tch (· = g) wr wx → Bp T1 o bx (c + 1) q p r Wb wx))) (fun iv _ => l.length - (intOf iv).toNat)
        case atStart => exact ⟨0, rfl, Nat.zero_le _, P4⟩
        case round =>
          obtain ⟨i, rfl, hi, HP⟩ := hrel
          by_cases hl : i < l.length
          · have hil : (i : Int) < (l.length : Int) := by omega
            obtain ⟨g, hA, hb, hk⟩ := HP.out.2 (by omega)
            subst hA
            obtain ⟨x1, cx, fx, nx⟩ := hb.at hl
            have HX := hid hl
            have hw1 : IntKind.i64.wrap ((i : Int) + 1) = (i : Int) + 1 := by have := hb.1; rw [IntKind.wrap_i64]; omega
            have NX := hid nx
            have HK := hid hk
            clear hb hk nx hl HP hi
            go_wp2
            go_roundw
            case rel => exact ⟨i + 1, by go_num, HX.out, hid ⟨HK.out _ (NX.out _).2, fun _ => ⟨_, rfl, (NX.out _).1, fun wx t => HK.out wx ((NX.out _).2.trans t)⟩⟩⟩
            case measure => have := HX.out; simp [intOf]; omega
          · have hji : ¬ (i : Int) < (l.length : Int) := by omega
            clear hl
            go_wp2
            go_meet
            exact ⟨rfl, hid (HP.out.1.le (by omega) HC.out)⟩
    by_cases k2 : o.kd = 2
    · rw [k2]
      clear k0 k1 k2
      as_aux_lemma =>
        go_wp2_with fail
        have HD := hid (HB1.out.below (w' := Wb.drew) (Below.refl _ _).drew)
        have hkk : Wb.drew.cell? ⟨bx, 1, none⟩ = some (.string o.nm) := HD.out.c1
        obtain ⟨x, P, h1, h2⟩ := HD.out.del HC.out
        clear HB1 HD HF
        go_region_held3 (fun w' => w'.cell? ⟨bx, 1, none⟩ = some (.string o.nm)) (first | exact hk4 | exact hk3 | exact hkk) (first
          | (go_at_call 20; refine h1.mono ?_; rintro e w3 ⟨rfl, hk3, P3⟩; clear h1)
          | (go_at_call 6; refine (num_is _ _).mono ?_; rintro e w0 ⟨rfl, hw0⟩; have hw0 := hw0.symm; subst hw0)
          | (go_at_call 21; refine (h2 _ P3).mono ?_; rintro e w4 ⟨rfl, hk4, P4⟩; clear h2))
        go_wp2_with fail
        go_meet
        exact ⟨rfl, P4⟩
    by_cases k3 : o.kd = 3
    · rw [k3]
      clear k0 k1 k2 k3
      have h1c : c + 1 ≤ 4194304 := by have := HC.out; omega
      have hkk := HB1.out.c1
      obtain ⟨x, ks, h1⟩ := HB1.out.list h1c
      clear HB1 HF h1c
      as_aux_lemma =>
        go_wp2_with (first
          | (go_at_call 12; refine h1.mono ?_; rintro e w3 ⟨v3, rfl, hk3, h2⟩; clear h1)
          | (go_at_call 22; refine h2.out.mono ?_; rintro e w4 ⟨u4, rfl, h3⟩; clear h2)
          | (go_at_call 23; refine h3.out.mono ?_; rintro e w5 ⟨rfl, P5⟩; clear h3)
          | (go_at_call 6; refine (num_is _ _).mono ?_; rintro e w0 ⟨rfl, hw0⟩; have hw0 := hw0.symm; subst hw0))
        go_meet
        exact ⟨rfl, hid (P5.out.le (by omega) HC.out)⟩
    by_cases k4 : o.kd = 4
    · rw [k4]
      clear k0 k1 k2 k3 k4
      as_aux_lemma =>
        go_wp2_with fail
        have HD := hid (HB1.out.below (w' := Wb.drew) (Below.refl _ _).drew)
        have hkk : Wb.drew.cell? ⟨bx, 3, none⟩ = some (.int .i64 o.n) := HD.out.c3
        obtain ⟨x, P, h1, h2⟩ := HD.out.tick
        clear HB1 HD HF
        go_region_held3 (fun w' => w'.cell? ⟨bx, 3, none⟩ = some (.int .i64 o.n)) (first | exact hk4 | exact hk3 | exact hkk) (first
          | (go_at_call 9; refine h1.mono ?_; rintro e w3 ⟨rfl, hk3, P3⟩; clear h1)
          | (go_at_call 6; refine (num_is _ _).mono ?_; rintro e w0 ⟨rfl, hw0⟩; have hw0 := hw0.symm; subst hw0)
          | (go_at_call 24; refine (h2 _ P3).mono ?_; rintro e w4 ⟨rfl, hk4, P4⟩; clear h2))
        go_wp2_with fail
        go_meet
        exact ⟨rfl, hid (P4.out.le (by omega) HC.out)⟩
    by_cases k5 : o.kd = 5
    · rw [k5]
      clear k0 k1 k2 k3 k4 k5
      as_aux_lemma =>
        go_wp2_with fail
        have HD := hid (HB1.out.below (w' := Wb.drew) (Below.refl _ _).drew)
        have hkk : Wb.drew.cell? ⟨bx, 3, none⟩ = some (.int .i64 o.n) := HD.out.c3
        obtain ⟨x, P, h1, h2⟩ := HD.out.lag
        clear HB1 HD HF
        go_region_held3 (fun w' => w'.cell? ⟨bx, 3, none⟩ = some (.int .i64 o.n)) (first | exact hk4 | exact hk3 | exact hkk) (first
          | (go_at_call 11; refine h1.mono ?_; rintro e w3 ⟨rfl, hk3, P3⟩; clear h1)
          | (go_at_call 6; refine (num_is _ _).mono ?_; rintro e w0 ⟨rfl, hw0⟩; have hw0 := hw0.symm; subst hw0)
          | (go_at_call 25; refine (h2 _ P3).mono ?_; rintro e w4 ⟨rfl, hk4, P4⟩; clear h2))
        go_wp2_with fail
        go_meet
        exact ⟨rfl, hid (P4.out.le (by omega) HC.out)⟩
    by_cases k6 : o.kd = 6
    · rw [k6]
      clear k0 k1 k2 k3 k4 k5 k6
      have hkk := HB1.out.c3
      have hk4 := HB1.out.c4
      obtain ⟨P, h1, h2⟩ := HB1.out.fail
      clear HB1 HF
      as_aux_lemma =>
        go_wp2_with (first
          | (go_at_call 26; refine h1.mono ?_; rintro e w3 ⟨rfl, ⟨hk3, hk5⟩, P3⟩; clear h1)
          | (go_at_call 27; refine (h2 _ P3).mono ?_; rintro e w4 ⟨rfl, P4⟩; clear h2))
        go_meet
        exact ⟨rfl, hid (P4.out.le (by omega) HC.out)⟩
    have d0 : (o.kd == 0) = false := by simp [k0]
    have d1 : (o.kd == 1) = false := by simp [k1]
    have d2 : (o.kd == 2) = false := by simp [k2]
    have d3 : (o.kd == 3) = false := by simp [k3]
    have d4 : (o.kd == 4) = false := by simp [k4]
    have d5 : (o.kd == 5) = false := by simp [k5]
    have d6 : (o.kd == 6) = false := by simp [k6]
    as_aux_lemma =>
      go_wp2_with fail
      go_meet
      exact ⟨rfl, hid (HB1.out.le (by omega) HC.out)⟩
  case rest =>
    obtain ⟨rfl, HP⟩ := hcut
    have hkk := HP.out.c1
    obtain ⟨y, i, h1⟩ := HP.out.look
    go_upto_region 33 with (first
      | (go_at_call 28; refine h1.mono ?_; rintro e w3 ⟨v3, rfl, hk3, h2⟩; clear h1)
      | (go_at_call 29; refine h2.out.mono ?_; rintro e w4 ⟨rfl, P4⟩; clear h2))
    clear hkk hk3 HP
    go_cut [207] (fun a wx => a = .bool false ∧ Hid (Bp T1 o bx (c + 2) q p r Wb wx))
    case first =>
      cases y
      · have HD := hid P4.out.1
        clear P4
        as_aux_lemma =>
          go_quiet (fail)
          go_wp2_with fail
          go_meet
          exact ⟨rfl, hid (HD.out.below (below_dn _ _))⟩
      · obtain ⟨HD0, hy⟩ := P4.out
        obtain ⟨n, cp, b, off, s, u, k1, k2, k3, k4, k5⟩ := hy rfl
        have HD := hid HD0
        have k2i : (i : Int) < (n : Int) := by omega
        clear P4 hy HD0 k2
        as_aux_lemma =>
          go_quiet (fail)
          go_wp2_with fail
          go_meet
          exact ⟨rfl, hid (HD.out.below (below_dn _ _))⟩
    case rest =>
      obtain ⟨rfl, HP⟩ := hcut
      go_upto_region 35 with fail
      obtain ⟨now, calls, hkk, hK⟩ := (HP.out.below (below_dn _ 1)).fin
      clear P4 HP
      go_region_held3 (fun w' => w'.cell? ⟨r, 1, none⟩ = some (.int .i64 now) ∧ w'.cell? ⟨r, 3, none⟩ = some (.int .i64 calls)) (first | exact hk5 | exact hk4 | exact hk3 | exact hkk) (first
        | (go_at_call 30; refine hK.mono ?_; rintro e w5 ⟨v5, rfl, hk3, h6⟩; clear hK)
        | (go_at_call 31; refine h6.out.mono ?_; rintro e w6 ⟨u6, rfl, hk4, h7⟩; clear h6)
        | (go_at_call 23; refine h7.out.mono ?_; rintro e w7 ⟨rfl, hk5, h8⟩; clear h7)
        | (go_at_call 14; refine h8.out.2.1.mono ?_; rintro e w0 ⟨rfl, hw0⟩; have hw0 := hw0.symm; subst hw0)
        | (go_at_call 15; refine h8.out.2.2.mono ?_; rintro e w0 ⟨rfl, hw0⟩; have hw0 := hw0.symm; subst hw0))
      go_wp2_with fail
      go_ret
      exact ⟨rfl, HF.out _ _ h8.out.1⟩
end Go.Proofs.Ytcohpgahffbnlaa
