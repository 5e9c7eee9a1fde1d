/-
  The law's first swap, on a new disk. Conditions: those that the theorem names.
-/
import Derived.Test.YtjpneohachkheaaSpx
namespace Go.Proofs.Ytjpneohachkheaa
open Go.RowKit Go.Icz Go.Maps Go.ChangeMaps Go.MapKept
set_option maxRecDepth 100000
set_option maxHeartbeats 4000000
variable {w w' : World} {T T' : Nat → Prop} {c c' q p : Nat} {M M' : DM}
theorem swap_first (h : Dsk w T 0 q p (newM 1048576)) (hT : ∀ k, w.heap.size ≤ k → T k) {A : Option Addr} {C : Nat} (hb : KB.Rd w (.slice A b1.length C) b1) (hfar : 0 < b1.length → ∀ x, (Value.slice A b1.length C).ownBlock = some x → ¬ T x) :
    Calls Try.prog 27 #[.pointer (some ⟨q, 0, none⟩), .slice A b1.length C] w fun e w' => e = .returned (.int .i64 0) ∧ Dn w T 10 q p F5 w' := by
  have hbl : b1.length ≤ 500 := by decide
  have hTw : ∀ w1, Tch T w w1 → ∀ k, w1.heap.size ≤ k → T k := fun w1 t k hk => hT k (Nat.le_trans t.size hk)
  have mk : ∀ (w1 w2 : World) (c1 : Nat) (M2 : DM) (x : Int) (e : Ending), Tch T w w1 → (e = .returned (.int .i64 x) ∧ Dn w1 T c1 q p M2 w2) → e = .returned (.int .i64 x) ∧ Hid (Dsk w2 T c1 q p M2) ∧ Hid (Tch T w w2) := fun w1 w2 c1 M2 x e t h => ⟨h.1, hid h.2.1, hid (t.trans h.2.2)⟩
  have OC : ∀ M1 c1 x M2, createM M1 kT = (x, M2) → c1 + 2 ≤ 1048576 → ∀ w1, Hid (Dsk w1 T c1 q p M1) → Hid (Tch T w w1) → Calls Try.prog 13 #[.pointer (some ⟨q, 0, none⟩), .string ⟨#[116, 109, 112]⟩] w1 fun e w2 => e = .returned (.int .i64 x) ∧ Hid (Dsk w2 T (c1 + 2) q p M2) ∧ Hid (Tch T w w2) := fun M1 c1 x M2 hm hc w1 h t => by
    have := Create_d h.out (hTw w1 t.out) kT (by decide) hc
    rw [hm] at this
    exact this.mono fun e w2 h => mk _ _ _ _ _ _ t.out h
  have OA : ∀ M1 c1 x M2, appendM M1 kT b1 = (x, M2) → c1 + 2 ≤ 1048576 → ∀ w1, Hid (Dsk w1 T c1 q p M1) → Hid (Tch T w w1) → Calls Try.prog 14 #[.pointer (some ⟨q, 0, none⟩), .string ⟨#[116, 109, 112]⟩, .slice A b1.length C] w1 fun e w2 => e = .returned (.int .i64 x) ∧ Hid (Dsk w2 T (c1 + 2) q p M2) ∧ Hid (Tch T w w2) := fun M1 c1 x M2 hm hc w1 h t => by
    have := Append_d h.out (hTw w1 t.out) kT (by decide) (rd_touch hb t.out (fun h0 x hx hs => hfar h0 x hx hs)) (by omega) (fun h0 x hx e => hfar h0 x hx (e ▸ h.out.tp.1)) hc
    rw [hm] at this
    exact this.mono fun e w2 h => mk _ _ _ _ _ _ t.out h
  have OS : ∀ M1 c1 x M2, syncM M1 kT = (x, M2) → c1 + 2 ≤ 1048576 → ∀ w1, Hid (Dsk w1 T c1 q p M1) → Hid (Tch T w w1) → Calls Try.prog 17 #[.pointer (some ⟨q, 0, none⟩), .string ⟨#[116, 109, 112]⟩] w1 fun e w2 => e = .returned (.int .i64 x) ∧ Hid (Dsk w2 T (c1 + 2) q p M2) ∧ Hid (Tch T w w2) := fun M1 c1 x M2 hm hc w1 h t => by
    have := Sync_d h.out (hTw w1 t.out) kT (by decide) hc
    rw [hm] at this
    exact this.mono fun e w2 h => mk _ _ _ _ _ _ t.out h
  have OR : ∀ M1 c1 x M2, renameM M1 kT kI = (x, M2) → c1 + 2 ≤ 1048576 → ∀ w1, Hid (Dsk w1 T c1 q p M1) → Hid (Tch T w w1) → Calls Try.prog 15 #[.pointer (some ⟨q, 0, none⟩), .string ⟨#[116, 109, 112]⟩, .string ⟨#[105, 116]⟩] w1 fun e w2 => e = .returned (.int .i64 x) ∧ Hid (Dsk w2 T (c1 + 2) q p M2) ∧ Hid (Tch T w w2) := fun M1 c1 x M2 hm hc w1 h t => by
    have := Rename_d h.out (hTw w1 t.out) kT kI (by decide) (by decide) hc
    rw [hm] at this
    exact this.mono fun e w2 h => mk _ _ _ _ _ _ t.out h
  have OV : ∀ M1 c1 x M2, removeM M1 kT = (x, M2) → c1 + 2 ≤ 1048576 → ∀ w1, Hid (Dsk w1 T c1 q p M1) → Hid (Tch T w w1) → Calls Try.prog 16 #[.pointer (some ⟨q, 0, none⟩), .string ⟨#[116, 109, 112]⟩] w1 fun e w2 => e = .returned (.int .i64 x) ∧ Hid (Dsk w2 T (c1 + 2) q p M2) ∧ Hid (Tch T w w2) := fun M1 c1 x M2 hm hc w1 h t => by
    have := Remove_d h.out (hTw w1 t.out) kT (by decide) hc
    rw [hm] at this
    exact this.mono fun e w2 h => mk _ _ _ _ _ _ t.out h
  have OD : ∀ M1 c1 x M2, dirM M1 = (x, M2) → c1 + 2 ≤ 1048576 → ∀ w1, Hid (Dsk w1 T c1 q p M1) → Hid (Tch T w w1) → Calls Try.prog 18 #[.pointer (some ⟨q, 0, none⟩)] w1 fun e w2 => e = .returned (.int .i64 x) ∧ Hid (Dsk w2 T (c1 + 2) q p M2) ∧ Hid (Tch T w w2) := fun M1 c1 x M2 hm hc w1 h t => by
    have := SyncDir_d h.out (hTw w1 t.out) hc
    rw [hm] at this
    exact this.mono fun e w2 h => mk _ _ _ _ _ _ t.out h
  have RD : ∀ r, (readM (newM 1048576) kT).2 = r → Calls Try.prog 11 #[.pointer (some ⟨q, 0, none⟩), .string ⟨#[116, 109, 112]⟩] w fun e w' => ∃ A C L, e = .returned (.tuple #[.slice A L C, .int .i64 r]) ∧ Hid (Dsk w' T 0 q p (newM 1048576)) ∧ Hid (Tch T w w') := fun r hr => by
    refine (Read_d h kT (by decide)).mono ?_
    rw [hr]
    rintro e w' ⟨A, C, rfl, ow, b2⟩
    exact ⟨A, C, _, rfl, hid (h.below b2), hid (below_tch b2)⟩
  clear h hT hb hfar hTw mk
  have K0 := RD 3 read0
  have K1 := OC (newM 1048576) 0 0 F1 fs1 (by omega)
  have K2 := OA F1 (0 + 2) 0 F2 fs2 (by omega)
  have K3 := OS F2 (0 + 2 + 2) 0 F3 fs3 (by omega)
  have K4 := OR F3 (0 + 2 + 2 + 2) 0 F4 fs4 (by omega)
  have K5 := OD F4 (0 + 2 + 2 + 2 + 2) 0 F5 fs5 (by omega)
  clear OC OA OS OR OV OD RD
  go_enter Try.func27, Try.ntmps27
  go_wp2_with (first
    | (go_at_call 11; refine K0.mono ?_; rintro e w0 ⟨A0, C0, L0, rfl, D0, t0⟩; clear K0)
    | (go_at_call 13; with_reducible refine (K1 _ D0 t0).mono ?_; rintro e w1 ⟨rfl, D1, t1⟩; clear K1)
    | (go_at_call 14; with_reducible refine (K2 _ D1 t1).mono ?_; rintro e w2 ⟨rfl, D2, t2⟩; clear K2)
    | (go_at_call 17; with_reducible refine (K3 _ D2 t2).mono ?_; rintro e w3 ⟨rfl, D3, t3⟩; clear K3)
    | (go_at_call 15; with_reducible refine (K4 _ D3 t3).mono ?_; rintro e w4 ⟨rfl, D4, t4⟩; clear K4)
    | (go_at_call 18; with_reducible refine (K5 _ D4 t4).mono ?_; rintro e w5 ⟨rfl, D5, t5⟩; clear K5)
    | (go_at_call 12; refine (num_is _ _).mono ?_; rintro e wn ⟨rfl, hwn⟩; have hwn := hwn.symm; subst hwn))
  go_ret
  exact ⟨rfl, D5.out, t5.out⟩
end Go.Proofs.Ytjpneohachkheaa
