/-
  An operation on a disk, as the law does it. Conditions: those that each theorem names.
-/
import Derived.Test.YtjpneohachkheaaSpu
namespace Go.Icz
open Go.RowKit
/-- An operation's cells. -/
structure OpD where
  kd : Int
  nm : ByteArray
  to : ByteArray
  A : Option Addr
  C : Nat
  bs : List Nat
  n : Int
  y : Bool
  A2 : Option Addr
  C2 : Nat
  ks : List Bool
def OpD.bv (o : OpD) : Value := .slice o.A o.bs.length o.C
def OpD.kv (o : OpD) : Value := .slice o.A2 o.ks.length o.C2
def OpD.cells (o : OpD) : Array Value := #[.int .i64 o.kd, .string o.nm, .string o.to, .slice o.A o.bs.length o.C, .int .i64 o.n, .bool o.y, .slice o.A2 o.ks.length o.C2]
/-- What is asked of an operation: it can be read, from what lies below B. -/
structure OpOk (w : World) (B : Nat) (o : OpD) : Prop where
  nz : o.nm.size ≤ maxLen
  tz : o.to.size ≤ maxLen
  bz : o.bs.length ≤ 1125899906842624
  hn : o.n ≤ 9223372036854775807
  br : KB.Rd w o.bv o.bs
  bB : 0 < o.bs.length → ∀ b, o.bv.ownBlock = some b → b < B
  kr : KBo.Rd w o.kv o.ks
  kB : 0 < o.ks.length → ∀ b, o.kv.ownBlock = some b → b < B
theorem OpOk.touch {S : Nat → Prop} {w w' : World} {B : Nat} {o : OpD} (h : OpOk w B o) (t : Tch S w w') (hS : ∀ k, S k → B ≤ k) : OpOk w' B o :=
  ⟨h.nz, h.tz, h.bz, h.hn, rd_touch h.br t (fun h0 b hb hs => by have := h.bB h0 b hb; have := hS b hs; omega), h.bB, rd_touch h.kr t (fun h0 b hb hs => by have := h.kB h0 b hb; have := hS b hs; omega), h.kB⟩
def doO (o : OpD) (M : DM) : DM := doM o.kd o.nm o.to o.bs o.n o.y M
end Go.Icz
namespace Go.Proofs.Ytjpneohachkheaa
open Go.RowKit Go.Icz Go.Maps Go.ChangeMaps Go.MapKept
set_option maxRecDepth 100000
set_option maxHeartbeats 2000000
variable {w w' : World} {T T' : Nat → Prop} {c c' q p : Nat} {M M' : DM}
theorem Dn.up (h : Dn w T c q p M w') (hc : c ≤ c') (hb : c' ≤ 1048576) : Dn w T c' q p M w' := ⟨h.1.up hc hb, h.2⟩
theorem Dn.pre {w1 : World} (t : Tch T w w1) (h : Dn w1 T c q p M w') : Dn w T c q p M w' := ⟨h.1, t.trans h.2⟩
theorem do_is (h : Dsk w T c q p M) (hT : ∀ k, w.heap.size ≤ k → T k) (o : OpD) {B : Nat} (ok : OpOk w B o) (hB : ∀ k, T k → B ≤ k) (hb : c + 2 ≤ 1048576) :
    Calls Try.prog 25 #[.pointer (some ⟨q, 0, none⟩), .agg o.cells] w fun e w' => e = .returned (.tuple #[]) ∧ Dn w T (c + 2) q p (doO o M) w' := by
  have ba := (Below.refl w.heap.size w).alloc (Nat.le_refl _) (.cells o.cells 25)
  have ta : Tch T w (w.alloc (.cells o.cells 25)) := below_tch ba
  have hW := h.below ba
  have hTW : ∀ k, (w.alloc (.cells o.cells 25)).heap.size ≤ k → T k := fun k hk => hT k (Nat.le_trans ba.size hk)
  have okW := ok.touch (below_tch (S := fun _ => False) ba) (fun _ h => h.elim)
  have hp := h.tp.1
  have r0 := heap_alloc_new w (.cells o.cells 25)
  obtain ⟨kd, nm, to, A, C, bs, n, y, A2, C2, ks⟩ := o
  have q0 : (w.alloc (.cells (OpD.cells ⟨kd, nm, to, A, C, bs, n, y, A2, C2, ks⟩) 25)).cell? ⟨w.heap.size, 0, none⟩ = some (.int .i64 kd) := held_cell r0 rfl
  have q1 : (w.alloc (.cells (OpD.cells ⟨kd, nm, to, A, C, bs, n, y, A2, C2, ks⟩) 25)).cell? ⟨w.heap.size, 1, none⟩ = some (.string nm) := held_cell r0 rfl
  have q2 : (w.alloc (.cells (OpD.cells ⟨kd, nm, to, A, C, bs, n, y, A2, C2, ks⟩) 25)).cell? ⟨w.heap.size, 2, none⟩ = some (.string to) := held_cell r0 rfl
  have q3 : (w.alloc (.cells (OpD.cells ⟨kd, nm, to, A, C, bs, n, y, A2, C2, ks⟩) 25)).cell? ⟨w.heap.size, 3, none⟩ = some (.slice A bs.length C) := held_cell r0 rfl
  have q4 : (w.alloc (.cells (OpD.cells ⟨kd, nm, to, A, C, bs, n, y, A2, C2, ks⟩) 25)).cell? ⟨w.heap.size, 4, none⟩ = some (.int .i64 n) := held_cell r0 rfl
  have q5 : (w.alloc (.cells (OpD.cells ⟨kd, nm, to, A, C, bs, n, y, A2, C2, ks⟩) 25)).cell? ⟨w.heap.size, 5, none⟩ = some (.bool y) := held_cell r0 rfl
  have hC0 := Create_d hW hTW nm ok.nz hb
  have hC1 := Append_d hW hTW nm ok.nz (A := A) (C := C) (l := bs) okW.br ok.bz (fun h0 b hb' e => by have := ok.bB h0 b hb'; have := hB p hp; omega) hb
  have hC2 := Rename_d hW hTW nm to ok.nz ok.tz hb
  have hC3 := Remove_d hW hTW nm ok.nz hb
  have hC4 := Sync_d hW hTW nm ok.nz hb
  have hC5 := SyncDir_d hW hTW hb
  have hC6 := Fail_d hW n y ok.hn
  have hC7 := Cut_d hW n ok.hn
  have hDn := hid (Dn.pre ta ⟨hW.up (c' := c + 2) (by omega) hb, Tch.refl T _⟩ : Dn w T (c + 2) q p M _)
  have TA := hid ta
  have hdo : doO ⟨kd, nm, to, A, C, bs, n, y, A2, C2, ks⟩ M = doM kd nm to bs n y M := rfl
  rw [hdo]
  unfold OpD.cells at *
  simp only at q0 q1 q2 q3 q4 q5 hC0 hC1 hC2 hC3 hC4 hC5 hC6 hC7 hDn TA ⊢
  clear h hW hTW ba ta okW ok r0 hp hB hT hdo
  by_cases k0 : kd = 0
  · have hm : doM kd nm to bs n y M = (createM M nm).2 := by unfold doM; simp [k0]
    rw [hm]
    subst k0
    clear hm hDn hC1 hC2 hC3 hC4 hC5 hC6 hC7
    go_enter Try.func25, Try.ntmps25
    go_wp2_with (go_at_call 13; refine hC0.mono ?_; rintro e2 w2 ⟨rfl, D2⟩; clear hC0)
    go_end0
    exact ⟨rfl, Dn.pre TA.out (D2)⟩
  by_cases k1 : kd = 1
  · have hm : doM kd nm to bs n y M = (appendM M nm bs).2 := by unfold doM; simp [k1]
    rw [hm]
    subst k1
    clear hm hDn hC0 hC2 hC3 hC4 hC5 hC6 hC7
    go_enter Try.func25, Try.ntmps25
    go_wp2_with (go_at_call 14; refine hC1.mono ?_; rintro e2 w2 ⟨rfl, D2⟩; clear hC1)
    go_end0
    exact ⟨rfl, Dn.pre TA.out (D2)⟩
  by_cases k2 : kd = 2
  · have hm : doM kd nm to bs n y M = (renameM M nm to).2 := by unfold doM; simp [k2]
    rw [hm]
    subst k2
    clear hm hDn hC0 hC1 hC3 hC4 hC5 hC6 hC7
    go_enter Try.func25, Try.ntmps25
    go_wp2_with (go_at_call 15; refine hC2.mono ?_; rintro e2 w2 ⟨rfl, D2⟩; clear hC2)
    go_end0
    exact ⟨rfl, Dn.pre TA.out (D2)⟩
  by_cases k3 : kd = 3
  · have hm : doM kd nm to bs n y M = (removeM M nm).2 := by unfold doM; simp [k3]
    rw [hm]
    subst k3
    clear hm hDn hC0 hC1 hC2 hC4 hC5 hC6 hC7
    go_enter Try.func25, Try.ntmps25
    go_wp2_with (go_at_call 16; refine hC3.mono ?_; rintro e2 w2 ⟨rfl, D2⟩; clear hC3)
    go_end0
    exact ⟨rfl, Dn.pre TA.out (D2)⟩
  by_cases k4 : kd = 4
  · have hm : doM kd nm to bs n y M = (syncM M nm).2 := by unfold doM; simp [k4]
    rw [hm]
    subst k4
    clear hm hDn hC0 hC1 hC2 hC3 hC5 hC6 hC7
    go_enter Try.func25, Try.ntmps25
    go_wp2_with (go_at_call 17; refine hC4.mono ?_; rintro e2 w2 ⟨rfl, D2⟩; clear hC4)
    go_end0
    exact ⟨rfl, Dn.pre TA.out (D2)⟩
  by_cases k5 : kd = 5
  · have hm : doM kd nm to bs n y M = (dirM M).2 := by unfold doM; simp [k5]
    rw [hm]
    subst k5
    clear hm hDn hC0 hC1 hC2 hC3 hC4 hC6 hC7
    go_enter Try.func25, Try.ntmps25
    go_wp2_with (go_at_call 18; refine hC5.mono ?_; rintro e2 w2 ⟨rfl, D2⟩; clear hC5)
    go_end0
    exact ⟨rfl, Dn.pre TA.out (D2)⟩
  by_cases k6 : kd = 6
  · have hm : doM kd nm to bs n y M = failM M n y := by unfold doM; simp [k6]
    rw [hm]
    subst k6
    clear hm hDn hC0 hC1 hC2 hC3 hC4 hC5 hC7
    go_enter Try.func25, Try.ntmps25
    go_wp2_with (go_at_call 8; refine hC6.mono ?_; rintro e2 w2 ⟨rfl, D2⟩; clear hC6)
    go_end0
    exact ⟨rfl, Dn.pre TA.out (D2.up (by omega) hb)⟩
  by_cases k7 : kd = 7
  · have hm : doM kd nm to bs n y M = cutM M n := by unfold doM; simp [k7]
    rw [hm]
    subst k7
    clear hm hDn hC0 hC1 hC2 hC3 hC4 hC5 hC6
    go_enter Try.func25, Try.ntmps25
    go_wp2_with (go_at_call 9; refine hC7.mono ?_; rintro e2 w2 ⟨rfl, D2⟩; clear hC7)
    go_end0
    exact ⟨rfl, Dn.pre TA.out (D2.up (by omega) hb)⟩
  have hm : doM kd nm to bs n y M = M := by unfold doM; simp [k0, k1, k2, k3, k4, k5, k6, k7]
  rw [hm]
  have e0 : (kd == 0) = false := by simpa using k0
  have e1 : (kd == 1) = false := by simpa using k1
  have e2 : (kd == 2) = false := by simpa using k2
  have e3 : (kd == 3) = false := by simpa using k3
  have e4 : (kd == 4) = false := by simpa using k4
  have e5 : (kd == 5) = false := by simpa using k5
  have e6 : (kd == 6) = false := by simpa using k6
  have e7 : (kd == 7) = false := by simpa using k7
  clear hm hC0 hC1 hC2 hC3 hC4 hC5 hC6 hC7 k0 k1 k2 k3 k4 k5 k6 k7
  go_enter Try.func25, Try.ntmps25
  go_wp2
  go_end0
  exact ⟨rfl, hDn.out⟩
end Go.Proofs.Ytjpneohachkheaa
