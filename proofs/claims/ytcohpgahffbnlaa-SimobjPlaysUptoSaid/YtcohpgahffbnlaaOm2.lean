/-
  The changes from the last one backward: slices.Backward, and late. Conditions: those that each theorem names.
-/
import Derived.Test.YtcohpgahffbnlaaOm1
import Derived.Test.YtcohpgahffbnlaaOrd
import Derived.Test.YtcohpgahffbnlaaOlp
import Derived.Shelf.Abstract
import Derived.Shelf.RegionOpen
import Derived.WalkKit
import Derived.OwnWalkIn
import Derived.TacticsInMore
import Derived.LoopNIn
import Derived.LoopIn
namespace Go.Icz
open Go.RowKit
def c0 : Chg := ⟨0, ⟨#[]⟩, false⟩
/-- The first n, from the last one backward, each with its place. -/
def bkFrom (l : List Chg) : Nat → List (Nat × Chg)
  | 0 => []
  | n + 1 => (n, l.getD n c0) :: bkFrom l n
theorem bk_snd (l : List Chg) : ∀ n, n ≤ l.length → (bkFrom l n).map (·.2) = (l.take n).reverse
  | 0, _ => rfl
  | n + 1, h => by
    have ih := bk_snd l n (by omega)
    have hl : n < l.length := h
    rw [List.take_succ_eq_append_getElem hl, List.reverse_append, ← ih]
    simp [bkFrom, List.getD, hl]
def chV (c : Chg) : Value := .agg #[.int .i64 (c.t : Int), .string c.k, .bool c.c]
theorem Kd.Rd.kept {α : Type} {K : Kd α} {n₁ : Nat} {w w' : World} {v : Value} {l : List α} (h : K.Rd w v l) (k : Kept n₁ w w') : K.Rd w' v l := by
  obtain ⟨A, c, hv, hc, hr⟩ := h
  refine ⟨A, c, hv, hc, fun h0 => ?_⟩
  obtain ⟨b, off, hA, hlt, hcell⟩ := hr h0
  exact ⟨b, off, hA, Nat.lt_of_lt_of_le hlt k.size, fun j u hj => k.cell (hcell j u hj)⟩
theorem bits_u (k n : Nat) (h : k < n) (hn : n ≤ 4194304) : IntKind.i64.wrap (k : Int) = (k : Int) := by rw [IntKind.wrap_i64]; omega
end Go.Icz
namespace Go.Proofs.Ytcohpgahffbnlaa
open Go.RowKit Go.Icz Go.Maps Go.ChangeMaps Go.MapKept Go.Shelf
attribute [local go_sem] Oper.semAt_some
set_option maxRecDepth 100000
set_option maxHeartbeats 4000000
theorem back1_gives (w0 : World) (bx : Nat) (v : Value) (l : List Chg) (hb : w0.cell? ⟨bx, 0, none⟩ = some v) (hbl : bx < w0.heap.size) (hr : KC.Rd w0 v l) (hlen : l.length ≤ 4194304) :
    Gives Try.prog 75 #[.pointer (some ⟨bx, 0, none⟩)] (fun x : Nat × Chg => #[.int .i64 (x.1 : Int), chV x.2]) (bkFrom l l.length) w0 := by
  intro r J Jx W hW hJ hJx hY h0
  refine (callsIn_wide (n := 3)).1 ?_
  refine callsIn_of_wp Try.func75 rfl trivial ?_ rfl
  have hWb : W.cell? ⟨bx, 0, none⟩ = some v := (hW.cell (p := ⟨bx, 0, none⟩) hbl).trans hb
  have hWr : KC.Rd W v l := hr.below hW
  obtain ⟨A, c, rfl, hc, hcell⟩ := id hWr
  have hHW := hid hWr
  clear hr hb hWr hcell
  simp only [Try.ntmps75, List.size_toArray, List.length_cons, List.length_nil, Nat.reduceAdd, Nat.reduceSub, Array.replicate_succ, Array.replicate_zero, List.push_toArray, List.append_toArray, List.nil_append, List.cons_append]
  gi_wp2
  gi_loopw [3] (fun i wr => ∃ (k : Nat) (pre : List (Nat × Chg)), i = .int .i64 ((k : Int) - 1) ∧ Hid (k ≤ l.length) ∧ Hid (bkFrom l l.length = pre ++ bkFrom l k) ∧ J pre wr ∧ Kept W.heap.size W wr)
    (fun i _ => (intOf i + 1).toNat)
  case atStart => exact ⟨l.length, [], rfl, hid (Nat.le_refl _), hid rfl, h0, Kept.refl _ _⟩
  case round =>
    obtain ⟨k, pre, rfl, hk, hx, hJs, hkp⟩ := hrel
    cases k with
    | zero =>
      have he := hx.out
      simp only [bkFrom, List.append_nil] at he
      have HE := hid he
      clear he hx hk
      have e0 : ((0 : Nat) : Int) - 1 = -1 := by omega
      rw [e0]
      gi_wp2
      go_end0
      exact ⟨⟨_, rfl⟩, .inl (by rw [HE.out]; exact hJs)⟩
    | succ k =>
      have hkl : k < l.length := hk.out
      have hkl' : (k : Int) < (l.length : Int) := by omega
      have e0 : ((k + 1 : Nat) : Int) - 1 = (k : Int) := by omega
      have zk : IntKind.i64.wrap (k : Int) = (k : Int) := bits_u k l.length hkl hlen
      have hge : (0 : Int) ≤ (k : Int) := by omega
      have hrw := (hHW.out).kept hkp
      obtain ⟨b, off, rfl, hlt, hcs⟩ := hrw.at hkl
      have d0 : wr.cell? ⟨b, off + k * 3, none⟩ = some (.int .i64 (l[k].t : Int)) := hcs 0 _ (by decide) rfl
      have d1 : wr.cell? ⟨b, off + k * 3 + 1, none⟩ = some (.string l[k].k) := hcs 1 _ (by decide) rfl
      have d2 : wr.cell? ⟨b, off + k * 3 + 2, none⟩ = some (.bool l[k].c) := hcs 2 _ (by decide) rfl
      have dbx := hkp.cell hWb
      have hxk : bkFrom l l.length = pre ++ (k, l[k]) :: bkFrom l k := by
        rw [hx.out]
        simp [bkFrom, List.getD, hkl]
      obtain ⟨fn, tmps, assign, body, hy, hR⟩ := yield_any (m' := 2) (hY pre (k, l[k]) _ wr hxk hJs)
      have hx2 : Hid (bkFrom l l.length = (pre ++ [(k, l[k])]) ++ bkFrom l k) := hid (by rw [hxk]; simp)
      have HK := hid hkl
      dsimp only at hy
      unfold chV at hy
      clear hx hk hxk hcs hrw hY hW hbl
      rw [e0]
      gi_wp2
      refine hR.mono ?_
      rintro e W3 (⟨rfl, hJ3, hk3⟩ | ⟨rfl, hJx3, _⟩)
      · gi_wp2
        go_roundw
        case rel => exact ⟨k, pre ++ [(k, l[k])], rfl, hid (Nat.le_of_lt HK.out), hx2, hJ3, hkp.trans hk3⟩
        case measure => simp [intOf]
      · gi_wp2
        refine bodyPost_ret (results_none rfl _ _ _) rfl ?_
        exact ⟨⟨_, rfl⟩, .inr hJx3⟩
theorem back_is (A : Option Addr) (n c : Nat) (w : World) : Calls Try.prog 69 #[.slice A n c] w fun e w' => e = .returned (.func (.func 75) #[] #[.pointer (some ⟨w.heap.size, 0, none⟩)]) ∧ w' = w.alloc (.cells #[.slice A n c] 38) := by
  go_enter Try.func69, Try.ntmps69
  go_wp2
  go_ret
  exact ⟨rfl, rfl⟩
theorem late_is (p : Nat) (w : World) : Calls Try.prog 58 #[.pointer (some ⟨p, 0, none⟩)] w fun e w' => e = .returned (.func (.func 68) #[] #[.pointer (some ⟨w.heap.size, 0, none⟩)]) ∧ w' = w.alloc (.cells #[.pointer (some ⟨p, 0, none⟩)] 36) := by
  go_enter Try.func58, Try.ntmps58
  go_wp2
  go_ret
  exact ⟨rfl, rfl⟩
end Go.Proofs.Ytcohpgahffbnlaa
