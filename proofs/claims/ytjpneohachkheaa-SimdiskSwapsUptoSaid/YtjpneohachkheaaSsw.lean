/-
  The law's swap: its end, and what it leaves. Conditions: those that the theorem names.
-/
import Derived.Test.YtjpneohachkheaaSpw
import Derived.Test.YtjpneohachkheaaSgp
namespace Go.Proofs.Ytjpneohachkheaa
open Go.RowKit Go.Icz Go.Maps Go.ChangeMaps Go.MapKept
set_option maxRecDepth 100000
set_option maxHeartbeats 4000000
variable {w w' : World} {T T' : Nat → Prop} {c c' q p : Nat} {M M' : DM}
theorem swap_is (h : Dsk w T c q p M) (hT : ∀ k, w.heap.size ≤ k → T k) {a b : List Nat} {A : Option Addr} {C : Nat} (hb : KB.Rd w (.slice A b.length C) b) (hbl : b.length ≤ 500) (hal : a.length ≤ 500) (hfar : 0 < b.length → ∀ x, (Value.slice A b.length C).ownBlock = some x → ¬ T x) (hp : P0 a M ∨ P2 a M) (hc : c + 14 ≤ 1048576) :
    Calls Try.prog 27 #[.pointer (some ⟨q, 0, none⟩), .slice A b.length C] w fun e w' => ∃ er M', e = .returned (.int .i64 er) ∧ SwapEnd a b er M' ∧ Dn w T (c + 14) q p M' w' := by
  have hTw : ∀ w1, Tch T w w1 → ∀ k, w1.heap.size ≤ k → T k := fun w1 t k hk => hT k (Nat.le_trans t.size hk)
  have mk : ∀ (w1 w2 : World) (c1 : Nat) (M2 : DM) (x : Int) (e : Ending), Tch T w w1 → (e = .returned (.int .i64 x) ∧ Dn w1 T c1 q p M2 w2) → e = .returned (.int .i64 x) ∧ Hid (Dsk w2 T c1 q p M2) ∧ Hid (Tch T w w2) := fun w1 w2 c1 M2 x e t h => ⟨h.1, hid h.2.1, hid (t.trans h.2.2)⟩
  have OC : ∀ M1 c1 x M2, createM M1 kT = (x, M2) → c1 + 2 ≤ 1048576 → ∀ w1, Hid (Dsk w1 T c1 q p M1) → Hid (Tch T w w1) → Calls Try.prog 13 #[.pointer (some ⟨q, 0, none⟩), .string ⟨#[116, 109, 112]⟩] w1 fun e w2 => e = .returned (.int .i64 x) ∧ Hid (Dsk w2 T (c1 + 2) q p M2) ∧ Hid (Tch T w w2) := fun M1 c1 x M2 hm hc w1 h t => by
    have := Create_d h.out (hTw w1 t.out) kT (by decide) hc
    rw [hm] at this
    exact this.mono fun e w2 h => mk _ _ _ _ _ _ t.out h
  have OA : ∀ M1 c1 x M2, appendM M1 kT b = (x, M2) → c1 + 2 ≤ 1048576 → ∀ w1, Hid (Dsk w1 T c1 q p M1) → Hid (Tch T w w1) → Calls Try.prog 14 #[.pointer (some ⟨q, 0, none⟩), .string ⟨#[116, 109, 112]⟩, .slice A b.length C] w1 fun e w2 => e = .returned (.int .i64 x) ∧ Hid (Dsk w2 T (c1 + 2) q p M2) ∧ Hid (Tch T w w2) := fun M1 c1 x M2 hm hc w1 h t => by
    have := Append_d h.out (hTw w1 t.out) kT (by decide) (rd_touch hb t.out (fun h0 x hx hs => hfar h0 x hx hs)) (by omega) (fun h0 x hx e => hfar h0 x hx (e ▸ h.out.tp.1)) hc
    rw [hm] at this
    exact this.mono fun e w2 h => mk _ _ _ _ _ _ t.out h
  have OS : ∀ M1 c1 x M2, syncM M1 kT = (x, M2) → c1 + 2 ≤ 1048576 → ∀ w1, Hid (Dsk w1 T c1 q p M1) → Hid (Tch T w w1) → Calls Try.prog 17 #[.pointer (some ⟨q, 0, none⟩), .string ⟨#[116, 109, 112]⟩] w1 fun e w2 => e = .returned (.int .i64 x) ∧ Hid (Dsk w2 T (c1 + 2) q p M2) ∧ Hid (Tch T w w2) := fun M1 c1 x M2 hm hc w1 h t => by
    have := Sync_d h.out (hTw w1 t.out) kT (by decide) hc
    rw [hm] at this
    exact this.mono fun e w2 h => mk _ _ _ _ _ _ t.out h
  have OR : ∀ M1 c1 x M2, renameM M1 kT kI = (x, M2) → c1 + 2 ≤ 1048576 → ∀ w1, Hid (Dsk w1 T c1 q p M1) → Hid (Tch T w w1) → Calls Try.prog 15 #[.pointer (some ⟨q, 0, none⟩), .string ⟨#[116, 109, 112]⟩, .string ⟨#[105, 116]⟩] w1 fun e w2 => e = .returned (.int .i64 x) ∧ Hid (Dsk w2 T (c1 + 2) q p M2) ∧ Hid (Tch T w w2) := fun M1 c1 x M2 hm hc w1 h t => by
    have := Rename_d h.out (hTw w1 t.out) kT kI (by decide) (by decide) hc
    rw [hm] at this
    exact this.mono fun e w2 h => mk _ _ _ _ _ _ t.out h
  have OV : ∀ M1 c1 x M2, removeM M1 kT = (x, M2) → c1 + 2 ≤ 1048576 → ∀ w1, Hid (Dsk w1 T c1 q p M1) → Hid (Tch T w w1) → Calls Try.prog 16 #[.pointer (some ⟨q, 0, none⟩), .string ⟨#[116, 109, 112]⟩] w1 fun e w2 => e = .returned (.int .i64 x) ∧ Hid (Dsk w2 T (c1 + 2) q p M2) ∧ Hid (Tch T w w2) := fun M1 c1 x M2 hm hc w1 h t => by
    have := Remove_d h.out (hTw w1 t.out) kT (by decide) hc
    rw [hm] at this
    exact this.mono fun e w2 h => mk _ _ _ _ _ _ t.out h
  have OD : ∀ M1 c1 x M2, dirM M1 = (x, M2) → c1 + 2 ≤ 1048576 → ∀ w1, Hid (Dsk w1 T c1 q p M1) → Hid (Tch T w w1) → Calls Try.prog 18 #[.pointer (some ⟨q, 0, none⟩)] w1 fun e w2 => e = .returned (.int .i64 x) ∧ Hid (Dsk w2 T (c1 + 2) q p M2) ∧ Hid (Tch T w w2) := fun M1 c1 x M2 hm hc w1 h t => by
    have := SyncDir_d h.out (hTw w1 t.out) hc
    rw [hm] at this
    exact this.mono fun e w2 h => mk _ _ _ _ _ _ t.out h
  have RD : ∀ r, (readM M kT).2 = r → Calls Try.prog 11 #[.pointer (some ⟨q, 0, none⟩), .string ⟨#[116, 109, 112]⟩] w fun e w' => ∃ A C L, e = .returned (.tuple #[.slice A L C, .int .i64 r]) ∧ Hid (Dsk w' T c q p M) ∧ Hid (Tch T w w') := fun r hr => by
    refine (Read_d h kT (by decide)).mono ?_
    rw [hr]
    rintro e w' ⟨A, C, rfl, ow, b2⟩
    exact ⟨A, C, _, rfl, hid (h.below b2), hid (below_tch b2)⟩
  clear h hT hb hfar hTw mk
  rcases hp with hP | hP
  · have K0 := RD 0 (read_P0 hP)
    obtain ⟨x1, M1, hx1⟩ : ∃ x M', removeM M kT = (x, M') := ⟨_, _, rfl⟩
    have K1 := OV M (c) x1 M1 hx1 (by omega)
    have s1 := (st_remove hP : Stp a b (removeM M kT).1 (removeM M kT).2 _)
    rw [hx1] at s1
    clear hx1 hP
    rcases s1 with ⟨e1, hP⟩ | ⟨e1, g1⟩
    · obtain rfl : x1 = 0 := e1
      obtain ⟨x2, M2, hx2⟩ : ∃ x M', dirM M1 = (x, M') := ⟨_, _, rfl⟩
      have K2 := OD M1 (c + 2) x2 M2 hx2 (by omega)
      have s1 := (st_dir1 hP : Stp a b (dirM M1).1 (dirM M1).2 _)
      rw [hx2] at s1
      clear hx2 hP
      rcases s1 with ⟨e1, hP⟩ | ⟨e1, g1⟩
      · obtain rfl : x2 = 0 := e1
        obtain ⟨x3, M3, hx3⟩ : ∃ x M', createM M2 kT = (x, M') := ⟨_, _, rfl⟩
        have K3 := OC M2 (c + 2 + 2) x3 M3 hx3 (by omega)
        have s1 := (st_create hP : Stp a b (createM M2 kT).1 (createM M2 kT).2 _)
        rw [hx3] at s1
        clear hx3 hP
        rcases s1 with ⟨e1, hP⟩ | ⟨e1, g1⟩
        · obtain rfl : x3 = 0 := e1
          obtain ⟨x4, M4, hx4⟩ : ∃ x M', appendM M3 kT b = (x, M') := ⟨_, _, rfl⟩
          have K4 := OA M3 (c + 2 + 2 + 2) x4 M4 hx4 (by omega)
          have s1 := (st_append hal hbl hP : Stp a b (appendM M3 kT b).1 (appendM M3 kT b).2 _)
          rw [hx4] at s1
          clear hx4 hP
          rcases s1 with ⟨e1, hP⟩ | ⟨e1, g1⟩
          · obtain rfl : x4 = 0 := e1
            obtain ⟨ps, hP⟩ := hP
            obtain ⟨x5, M5, hx5⟩ : ∃ x M', syncM M4 kT = (x, M') := ⟨_, _, rfl⟩
            have K5 := OS M4 (c + 2 + 2 + 2 + 2) x5 M5 hx5 (by omega)
            have s1 := (st_sync hP : Stp a b (syncM M4 kT).1 (syncM M4 kT).2 _)
            rw [hx5] at s1
            clear hx5 hP
            rcases s1 with ⟨e1, hP⟩ | ⟨e1, g1⟩
            · obtain rfl : x5 = 0 := e1
              obtain ⟨x6, M6, hx6⟩ : ∃ x M', renameM M5 kT kI = (x, M') := ⟨_, _, rfl⟩
              have K6 := OR M5 (c + 2 + 2 + 2 + 2 + 2) x6 M6 hx6 (by omega)
              have s1 := (st_rename hP : Stp a b (renameM M5 kT kI).1 (renameM M5 kT kI).2 _)
              rw [hx6] at s1
              clear hx6 hP
              rcases s1 with ⟨e1, hP⟩ | ⟨e1, g1⟩
              · obtain rfl : x6 = 0 := e1
                obtain ⟨x7, M7, hx7⟩ : ∃ x M', dirM M6 = (x, M') := ⟨_, _, rfl⟩
                have K7 := OD M6 (c + 2 + 2 + 2 + 2 + 2 + 2) x7 M7 hx7 (by omega)
                have g1 := st_dir2 hP
                rw [hx7] at g1
                have G := hid g1
                clear hP hx7 g1
                clear OC OA OS OR OV OD RD
                go_enter Try.func27, Try.ntmps27
                go_wp2_with (first
                  | (go_at_call 11; refine K0.mono ?_; rintro e w0 ⟨A0, C0, L0, rfl, D0, t0⟩; clear K0)
                  | (go_at_call 16; with_reducible refine (K1 _ D0 t0).mono ?_; rintro e w1 ⟨rfl, D1, t1⟩; clear K1)
                  | (go_at_call 18; with_reducible refine (K2 _ D1 t1).mono ?_; rintro e w2 ⟨rfl, D2, t2⟩; clear K2)
                  | (go_at_call 13; with_reducible refine (K3 _ D2 t2).mono ?_; rintro e w3 ⟨rfl, D3, t3⟩; clear K3)
                  | (go_at_call 14; with_reducible refine (K4 _ D3 t3).mono ?_; rintro e w4 ⟨rfl, D4, t4⟩; clear K4)
                  | (go_at_call 17; with_reducible refine (K5 _ D4 t4).mono ?_; rintro e w5 ⟨rfl, D5, t5⟩; clear K5)
                  | (go_at_call 15; with_reducible refine (K6 _ D5 t5).mono ?_; rintro e w6 ⟨rfl, D6, t6⟩; clear K6)
                  | (go_at_call 18; with_reducible refine (K7 _ D6 t6).mono ?_; rintro e w7 ⟨rfl, D7, t7⟩; clear K7)
                  | (go_at_call 12; refine (num_is _ _).mono ?_; rintro e wn ⟨rfl, hwn⟩; have hwn := hwn.symm; subst hwn))
                go_ret
                exact ⟨_, _, rfl, G.out, D7.out.up (by omega) hc, t7.out⟩
              · have hn1 : (x6 == 0) = false := by rcases e1 with h | h <;> (rw [show x6 = _ from h]; rfl)
                have hn2 : (x6 != 0) = true := by rcases e1 with h | h <;> (rw [show x6 = _ from h]; rfl)
                have G : Hid (SwapEnd a b x6 M6) := hid (.inr ⟨e1, .inl g1⟩)
                clear e1 g1
                clear OC OA OS OR OV OD RD
                go_enter Try.func27, Try.ntmps27
                go_wp2_with (first
                  | (go_at_call 11; refine K0.mono ?_; rintro e w0 ⟨A0, C0, L0, rfl, D0, t0⟩; clear K0)
                  | (go_at_call 16; with_reducible refine (K1 _ D0 t0).mono ?_; rintro e w1 ⟨rfl, D1, t1⟩; clear K1)
                  | (go_at_call 18; with_reducible refine (K2 _ D1 t1).mono ?_; rintro e w2 ⟨rfl, D2, t2⟩; clear K2)
                  | (go_at_call 13; with_reducible refine (K3 _ D2 t2).mono ?_; rintro e w3 ⟨rfl, D3, t3⟩; clear K3)
                  | (go_at_call 14; with_reducible refine (K4 _ D3 t3).mono ?_; rintro e w4 ⟨rfl, D4, t4⟩; clear K4)
                  | (go_at_call 17; with_reducible refine (K5 _ D4 t4).mono ?_; rintro e w5 ⟨rfl, D5, t5⟩; clear K5)
                  | (go_at_call 15; with_reducible refine (K6 _ D5 t5).mono ?_; rintro e w6 ⟨rfl, D6, t6⟩; clear K6)
                  | (go_at_call 12; refine (num_is _ _).mono ?_; rintro e wn ⟨rfl, hwn⟩; have hwn := hwn.symm; subst hwn))
                go_ret
                exact ⟨_, _, rfl, G.out, D6.out.up (by omega) hc, t6.out⟩
            · have hn1 : (x5 == 0) = false := by rcases e1 with h | h <;> (rw [show x5 = _ from h]; rfl)
              have hn2 : (x5 != 0) = true := by rcases e1 with h | h <;> (rw [show x5 = _ from h]; rfl)
              have G : Hid (SwapEnd a b x5 M5) := hid (.inr ⟨e1, .inl g1⟩)
              clear e1 g1
              clear OC OA OS OR OV OD RD
              go_enter Try.func27, Try.ntmps27
              go_wp2_with (first
                | (go_at_call 11; refine K0.mono ?_; rintro e w0 ⟨A0, C0, L0, rfl, D0, t0⟩; clear K0)
                | (go_at_call 16; with_reducible refine (K1 _ D0 t0).mono ?_; rintro e w1 ⟨rfl, D1, t1⟩; clear K1)
                | (go_at_call 18; with_reducible refine (K2 _ D1 t1).mono ?_; rintro e w2 ⟨rfl, D2, t2⟩; clear K2)
                | (go_at_call 13; with_reducible refine (K3 _ D2 t2).mono ?_; rintro e w3 ⟨rfl, D3, t3⟩; clear K3)
                | (go_at_call 14; with_reducible refine (K4 _ D3 t3).mono ?_; rintro e w4 ⟨rfl, D4, t4⟩; clear K4)
                | (go_at_call 17; with_reducible refine (K5 _ D4 t4).mono ?_; rintro e w5 ⟨rfl, D5, t5⟩; clear K5)
                | (go_at_call 12; refine (num_is _ _).mono ?_; rintro e wn ⟨rfl, hwn⟩; have hwn := hwn.symm; subst hwn))
              go_ret
              exact ⟨_, _, rfl, G.out, D5.out.up (by omega) hc, t5.out⟩
          · have hn1 : (x4 == 0) = false := by rcases e1 with h | h <;> (rw [show x4 = _ from h]; rfl)
            have hn2 : (x4 != 0) = true := by rcases e1 with h | h <;> (rw [show x4 = _ from h]; rfl)
            have G : Hid (SwapEnd a b x4 M4) := hid (.inr ⟨e1, .inl g1⟩)
            clear e1 g1
            clear OC OA OS OR OV OD RD
            go_enter Try.func27, Try.ntmps27
            go_wp2_with (first
              | (go_at_call 11; refine K0.mono ?_; rintro e w0 ⟨A0, C0, L0, rfl, D0, t0⟩; clear K0)
              | (go_at_call 16; with_reducible refine (K1 _ D0 t0).mono ?_; rintro e w1 ⟨rfl, D1, t1⟩; clear K1)
              | (go_at_call 18; with_reducible refine (K2 _ D1 t1).mono ?_; rintro e w2 ⟨rfl, D2, t2⟩; clear K2)
              | (go_at_call 13; with_reducible refine (K3 _ D2 t2).mono ?_; rintro e w3 ⟨rfl, D3, t3⟩; clear K3)
              | (go_at_call 14; with_reducible refine (K4 _ D3 t3).mono ?_; rintro e w4 ⟨rfl, D4, t4⟩; clear K4)
              | (go_at_call 12; refine (num_is _ _).mono ?_; rintro e wn ⟨rfl, hwn⟩; have hwn := hwn.symm; subst hwn))
            go_ret
            exact ⟨_, _, rfl, G.out, D4.out.up (by omega) hc, t4.out⟩
        · have hn1 : (x3 == 0) = false := by rcases e1 with h | h <;> (rw [show x3 = _ from h]; rfl)
          have hn2 : (x3 != 0) = true := by rcases e1 with h | h <;> (rw [show x3 = _ from h]; rfl)
          have G : Hid (SwapEnd a b x3 M3) := hid (.inr ⟨e1, .inl g1⟩)
          clear e1 g1
          clear OC OA OS OR OV OD RD
          go_enter Try.func27, Try.ntmps27
          go_wp2_with (first
            | (go_at_call 11; refine K0.mono ?_; rintro e w0 ⟨A0, C0, L0, rfl, D0, t0⟩; clear K0)
            | (go_at_call 16; with_reducible refine (K1 _ D0 t0).mono ?_; rintro e w1 ⟨rfl, D1, t1⟩; clear K1)
            | (go_at_call 18; with_reducible refine (K2 _ D1 t1).mono ?_; rintro e w2 ⟨rfl, D2, t2⟩; clear K2)
            | (go_at_call 13; with_reducible refine (K3 _ D2 t2).mono ?_; rintro e w3 ⟨rfl, D3, t3⟩; clear K3)
            | (go_at_call 12; refine (num_is _ _).mono ?_; rintro e wn ⟨rfl, hwn⟩; have hwn := hwn.symm; subst hwn))
          go_ret
          exact ⟨_, _, rfl, G.out, D3.out.up (by omega) hc, t3.out⟩
      · have hn1 : (x2 == 0) = false := by rcases e1 with h | h <;> (rw [show x2 = _ from h]; rfl)
        have hn2 : (x2 != 0) = true := by rcases e1 with h | h <;> (rw [show x2 = _ from h]; rfl)
        have G : Hid (SwapEnd a b x2 M2) := hid (.inr ⟨e1, .inl g1⟩)
        clear e1 g1
        clear OC OA OS OR OV OD RD
        go_enter Try.func27, Try.ntmps27
        go_wp2_with (first
          | (go_at_call 11; refine K0.mono ?_; rintro e w0 ⟨A0, C0, L0, rfl, D0, t0⟩; clear K0)
          | (go_at_call 16; with_reducible refine (K1 _ D0 t0).mono ?_; rintro e w1 ⟨rfl, D1, t1⟩; clear K1)
          | (go_at_call 18; with_reducible refine (K2 _ D1 t1).mono ?_; rintro e w2 ⟨rfl, D2, t2⟩; clear K2)
          | (go_at_call 12; refine (num_is _ _).mono ?_; rintro e wn ⟨rfl, hwn⟩; have hwn := hwn.symm; subst hwn))
        go_ret
        exact ⟨_, _, rfl, G.out, D2.out.up (by omega) hc, t2.out⟩
    · have hn1 : (x1 == 0) = false := by rcases e1 with h | h <;> (rw [show x1 = _ from h]; rfl)
      have hn2 : (x1 != 0) = true := by rcases e1 with h | h <;> (rw [show x1 = _ from h]; rfl)
      have G : Hid (SwapEnd a b x1 M1) := hid (.inr ⟨e1, .inl g1⟩)
      clear e1 g1
      clear OC OA OS OR OV OD RD
      go_enter Try.func27, Try.ntmps27
      go_wp2_with (first
        | (go_at_call 11; refine K0.mono ?_; rintro e w0 ⟨A0, C0, L0, rfl, D0, t0⟩; clear K0)
        | (go_at_call 16; with_reducible refine (K1 _ D0 t0).mono ?_; rintro e w1 ⟨rfl, D1, t1⟩; clear K1)
        | (go_at_call 12; refine (num_is _ _).mono ?_; rintro e wn ⟨rfl, hwn⟩; have hwn := hwn.symm; subst hwn))
      go_ret
      exact ⟨_, _, rfl, G.out, D1.out.up (by omega) hc, t1.out⟩
  · have K0 := RD 3 (read_P2 hP)
    obtain ⟨x1, M1, hx1⟩ : ∃ x M', createM M kT = (x, M') := ⟨_, _, rfl⟩
    have K1 := OC M (c) x1 M1 hx1 (by omega)
    have s1 := (st_create hP : Stp a b (createM M kT).1 (createM M kT).2 _)
    rw [hx1] at s1
    clear hx1 hP
    rcases s1 with ⟨e1, hP⟩ | ⟨e1, g1⟩
    · obtain rfl : x1 = 0 := e1
      obtain ⟨x2, M2, hx2⟩ : ∃ x M', appendM M1 kT b = (x, M') := ⟨_, _, rfl⟩
      have K2 := OA M1 (c + 2) x2 M2 hx2 (by omega)
      have s1 := (st_append hal hbl hP : Stp a b (appendM M1 kT b).1 (appendM M1 kT b).2 _)
      rw [hx2] at s1
      clear hx2 hP
      rcases s1 with ⟨e1, hP⟩ | ⟨e1, g1⟩
      · obtain rfl : x2 = 0 := e1
        obtain ⟨ps, hP⟩ := hP
        obtain ⟨x3, M3, hx3⟩ : ∃ x M', syncM M2 kT = (x, M') := ⟨_, _, rfl⟩
        have K3 := OS M2 (c + 2 + 2) x3 M3 hx3 (by omega)
        have s1 := (st_sync hP : Stp a b (syncM M2 kT).1 (syncM M2 kT).2 _)
        rw [hx3] at s1
        clear hx3 hP
        rcases s1 with ⟨e1, hP⟩ | ⟨e1, g1⟩
        · obtain rfl : x3 = 0 := e1
          obtain ⟨x4, M4, hx4⟩ : ∃ x M', renameM M3 kT kI = (x, M') := ⟨_, _, rfl⟩
          have K4 := OR M3 (c + 2 + 2 + 2) x4 M4 hx4 (by omega)
          have s1 := (st_rename hP : Stp a b (renameM M3 kT kI).1 (renameM M3 kT kI).2 _)
          rw [hx4] at s1
          clear hx4 hP
          rcases s1 with ⟨e1, hP⟩ | ⟨e1, g1⟩
          · obtain rfl : x4 = 0 := e1
            obtain ⟨x5, M5, hx5⟩ : ∃ x M', dirM M4 = (x, M') := ⟨_, _, rfl⟩
            have K5 := OD M4 (c + 2 + 2 + 2 + 2) x5 M5 hx5 (by omega)
            have g1 := st_dir2 hP
            rw [hx5] at g1
            have G := hid g1
            clear hP hx5 g1
            clear OC OA OS OR OV OD RD
            go_enter Try.func27, Try.ntmps27
            go_wp2_with (first
              | (go_at_call 11; refine K0.mono ?_; rintro e w0 ⟨A0, C0, L0, rfl, D0, t0⟩; clear K0)
              | (go_at_call 13; with_reducible refine (K1 _ D0 t0).mono ?_; rintro e w1 ⟨rfl, D1, t1⟩; clear K1)
              | (go_at_call 14; with_reducible refine (K2 _ D1 t1).mono ?_; rintro e w2 ⟨rfl, D2, t2⟩; clear K2)
              | (go_at_call 17; with_reducible refine (K3 _ D2 t2).mono ?_; rintro e w3 ⟨rfl, D3, t3⟩; clear K3)
              | (go_at_call 15; with_reducible refine (K4 _ D3 t3).mono ?_; rintro e w4 ⟨rfl, D4, t4⟩; clear K4)
              | (go_at_call 18; with_reducible refine (K5 _ D4 t4).mono ?_; rintro e w5 ⟨rfl, D5, t5⟩; clear K5)
              | (go_at_call 12; refine (num_is _ _).mono ?_; rintro e wn ⟨rfl, hwn⟩; have hwn := hwn.symm; subst hwn))
            go_ret
            exact ⟨_, _, rfl, G.out, D5.out.up (by omega) hc, t5.out⟩
          · have hn1 : (x4 == 0) = false := by rcases e1 with h | h <;> (rw [show x4 = _ from h]; rfl)
            have hn2 : (x4 != 0) = true := by rcases e1 with h | h <;> (rw [show x4 = _ from h]; rfl)
            have G : Hid (SwapEnd a b x4 M4) := hid (.inr ⟨e1, .inl g1⟩)
            clear e1 g1
            clear OC OA OS OR OV OD RD
            go_enter Try.func27, Try.ntmps27
            go_wp2_with (first
              | (go_at_call 11; refine K0.mono ?_; rintro e w0 ⟨A0, C0, L0, rfl, D0, t0⟩; clear K0)
              | (go_at_call 13; with_reducible refine (K1 _ D0 t0).mono ?_; rintro e w1 ⟨rfl, D1, t1⟩; clear K1)
              | (go_at_call 14; with_reducible refine (K2 _ D1 t1).mono ?_; rintro e w2 ⟨rfl, D2, t2⟩; clear K2)
              | (go_at_call 17; with_reducible refine (K3 _ D2 t2).mono ?_; rintro e w3 ⟨rfl, D3, t3⟩; clear K3)
              | (go_at_call 15; with_reducible refine (K4 _ D3 t3).mono ?_; rintro e w4 ⟨rfl, D4, t4⟩; clear K4)
              | (go_at_call 12; refine (num_is _ _).mono ?_; rintro e wn ⟨rfl, hwn⟩; have hwn := hwn.symm; subst hwn))
            go_ret
            exact ⟨_, _, rfl, G.out, D4.out.up (by omega) hc, t4.out⟩
        · have hn1 : (x3 == 0) = false := by rcases e1 with h | h <;> (rw [show x3 = _ from h]; rfl)
          have hn2 : (x3 != 0) = true := by rcases e1 with h | h <;> (rw [show x3 = _ from h]; rfl)
          have G : Hid (SwapEnd a b x3 M3) := hid (.inr ⟨e1, .inl g1⟩)
          clear e1 g1
          clear OC OA OS OR OV OD RD
          go_enter Try.func27, Try.ntmps27
          go_wp2_with (first
            | (go_at_call 11; refine K0.mono ?_; rintro e w0 ⟨A0, C0, L0, rfl, D0, t0⟩; clear K0)
            | (go_at_call 13; with_reducible refine (K1 _ D0 t0).mono ?_; rintro e w1 ⟨rfl, D1, t1⟩; clear K1)
            | (go_at_call 14; with_reducible refine (K2 _ D1 t1).mono ?_; rintro e w2 ⟨rfl, D2, t2⟩; clear K2)
            | (go_at_call 17; with_reducible refine (K3 _ D2 t2).mono ?_; rintro e w3 ⟨rfl, D3, t3⟩; clear K3)
            | (go_at_call 12; refine (num_is _ _).mono ?_; rintro e wn ⟨rfl, hwn⟩; have hwn := hwn.symm; subst hwn))
          go_ret
          exact ⟨_, _, rfl, G.out, D3.out.up (by omega) hc, t3.out⟩
      · have hn1 : (x2 == 0) = false := by rcases e1 with h | h <;> (rw [show x2 = _ from h]; rfl)
        have hn2 : (x2 != 0) = true := by rcases e1 with h | h <;> (rw [show x2 = _ from h]; rfl)
        have G : Hid (SwapEnd a b x2 M2) := hid (.inr ⟨e1, .inl g1⟩)
        clear e1 g1
        clear OC OA OS OR OV OD RD
        go_enter Try.func27, Try.ntmps27
        go_wp2_with (first
          | (go_at_call 11; refine K0.mono ?_; rintro e w0 ⟨A0, C0, L0, rfl, D0, t0⟩; clear K0)
          | (go_at_call 13; with_reducible refine (K1 _ D0 t0).mono ?_; rintro e w1 ⟨rfl, D1, t1⟩; clear K1)
          | (go_at_call 14; with_reducible refine (K2 _ D1 t1).mono ?_; rintro e w2 ⟨rfl, D2, t2⟩; clear K2)
          | (go_at_call 12; refine (num_is _ _).mono ?_; rintro e wn ⟨rfl, hwn⟩; have hwn := hwn.symm; subst hwn))
        go_ret
        exact ⟨_, _, rfl, G.out, D2.out.up (by omega) hc, t2.out⟩
    · have hn1 : (x1 == 0) = false := by rcases e1 with h | h <;> (rw [show x1 = _ from h]; rfl)
      have hn2 : (x1 != 0) = true := by rcases e1 with h | h <;> (rw [show x1 = _ from h]; rfl)
      have G : Hid (SwapEnd a b x1 M1) := hid (.inr ⟨e1, .inl g1⟩)
      clear e1 g1
      clear OC OA OS OR OV OD RD
      go_enter Try.func27, Try.ntmps27
      go_wp2_with (first
        | (go_at_call 11; refine K0.mono ?_; rintro e w0 ⟨A0, C0, L0, rfl, D0, t0⟩; clear K0)
        | (go_at_call 13; with_reducible refine (K1 _ D0 t0).mono ?_; rintro e w1 ⟨rfl, D1, t1⟩; clear K1)
        | (go_at_call 12; refine (num_is _ _).mono ?_; rintro e wn ⟨rfl, hwn⟩; have hwn := hwn.symm; subst hwn))
      go_ret
      exact ⟨_, _, rfl, G.out, D1.out.up (by omega) hc, t1.out⟩
end Go.Proofs.Ytjpneohachkheaa
