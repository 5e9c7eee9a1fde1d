/-
  The text that matcher's Parse reads: the sign of a match. Condition: the signs lie in their table.
-/
import Derived.Test.YtlhodanpfpfodaaGreatDoorTxt
namespace Go.Icz
open Go.RowKit
/-- The sign that stands there, and what is left. -/
def opS : B8 → Option (Nat × B8)
  | 33 :: 126 :: t => some (4, t)
  | 61 :: 126 :: t => some (3, t)
  | 33 :: 61 :: t => some (2, t)
  | 61 :: t => some (1, t)
  | _ => none
def signB : Nat → B8
  | 1 => [61]
  | 2 => [33, 61]
  | 3 => [61, 126]
  | 4 => [33, 126]
  | _ => []
end Go.Icz
namespace Go.Proofs.YtlhodanpfpfodaaGreatDoor
open Go.RowKit Go.Icz
/-- The table of signs. -/
def SigAt (w : World) : Prop := ∀ k, k ≤ 4 → w.cell? ⟨0, k, none⟩ = some (.string ⟨(signB k).toArray⟩)
theorem SigAt.touch {S : Nat → Prop} {w w' : World} (h : SigAt w) (k : Tch S w w') (hS : ∀ j, S j → j ≠ 0) : SigAt w' := fun i hi => by
  have h0 := h i hi
  have hlt := World.block_lt_of_cell? w _ h0
  rw [← h0]
  exact World.cell?_of_block (k.block _ hlt (fun hs => hS _ hs rfl))
/-- The first sign from k on downwards that stands there. -/
def opK (l : B8) : Nat → Option (Nat × B8)
  | 0 => none
  | k + 1 => if Lib.hasPrefix l (signB (k + 1)) = true then some (k + 1, Lib.trimPrefix l (signB (k + 1))) else opK l k
theorem opK_eq (l : B8) : opK l 4 = opS l := by
  have tp : ∀ (p t : B8), Lib.trimPrefix (p ++ t) p = t := fun p t => (take_yes rfl).2
  unfold opS
  split
  · rename_i t
    have := tp [33, 126] t
    simp [opK, signB, Lib.hasPrefix] at *
    exact this
  · rename_i t
    have := tp [61, 126] t
    simp [opK, signB, Lib.hasPrefix] at *
    exact this
  · rename_i t
    have := tp [33, 61] t
    simp [opK, signB, Lib.hasPrefix] at *
    exact this
  · rename_i t hn
    have := tp [61] t
    have h2 : ¬ (∃ u, t = 126 :: u) := fun ⟨u, hu⟩ => hn u (by rw [hu])
    have h3 : Lib.hasPrefix (61 :: t) [61, 126] = false := by
      cases hx : Lib.hasPrefix (61 :: t) [61, 126] with
      | false => rfl
      | true =>
        obtain ⟨u, hu⟩ := (hasPrefix_iff _ _).1 hx
        simp at hu
        exact absurd ⟨u, hu⟩ h2
    unfold opK
    rw [if_neg (by simp [signB, Lib.hasPrefix])]
    unfold opK
    rw [if_neg (by rw [show signB (2 + 1) = [61, 126] from rfl, h3]; simp)]
    unfold opK
    rw [if_neg (by simp [signB, Lib.hasPrefix])]
    unfold opK
    rw [if_pos (by simp [signB, Lib.hasPrefix])]
    simp [signB]
    exact this
  · rename_i h1 h2 h3 h4
    have no : ∀ p : B8, (∀ t, l ≠ p ++ t) → Lib.hasPrefix l p = false := fun p hp => by
      cases hx : Lib.hasPrefix l p with
      | false => rfl
      | true => obtain ⟨t, ht⟩ := (hasPrefix_iff _ _).1 hx; exact absurd ht (hp t)
    unfold opK; rw [if_neg (by rw [no _ (fun t e => h1 t e)]; simp)]
    unfold opK; rw [if_neg (by rw [no _ (fun t e => h2 t e)]; simp)]
    unfold opK; rw [if_neg (by rw [no _ (fun t e => h3 t e)]; simp)]
    unfold opK; rw [if_neg (by rw [no _ (fun t e => h4 t e)]; simp)]
    rfl
/-- How op ends. -/
def opOut (o : Option (Nat × B8)) (l : B8) (v0 : Int) : Bool × B8 × Int := match o with | some (k, r) => (true, r, k) | none => (false, l, v0)
set_option maxHeartbeats 2000000 in
set_option maxRecDepth 100000 in
theorem Top_is (g b i : Nat) (l : B8) (cs : Array Value) (t : TypeId) (v0 : Int) (w : World) (h : TxAt w g l) (hr : w.heap[b]? = some (.cells cs t (0, 0))) (hi : cs[i]? = some (.int .i64 v0)) (hne : b ≠ g) (hS : SigAt w) (hg : g ≠ 0) :
    Calls Tryz.prog 121 #[.pointer (some ⟨g, 0, none⟩), .pointer (some ⟨b, i, none⟩)] w fun e w' => e = .returned (.bool (opOut (opS l) l v0).1) ∧ TxAt w' g (opOut (opS l) l v0).2.1 ∧ w'.heap[b]? = some (.cells (cs.setIfInBounds i (.int .i64 (opOut (opS l) l v0).2.2)) t (0, 0)) ∧ Tch (fun k => k = g ∨ k = b) w w' := by
  have hset0 : cs.setIfInBounds i (.int .i64 v0) = cs := by
    apply Array.ext_getElem?
    intro j
    rw [Array.getElem?_setIfInBounds]
    split
    · rename_i e; subst e
      split
      · exact hi.symm
      · rename_i hlt; rw [Array.getElem?_eq_none (by omega)]
    · rfl
  have HO : Hid (opS l = opK l 4) := hid (opK_eq l).symm
  generalize opS l = o at *
  go_enter Tryz.func121, Tryz.ntmps121
  go_wp2_with fail
  go_loopw [5] (fun kv wr => ∃ k : Nat, kv = .int .i64 k ∧ k ≤ 4 ∧ TxAt wr g l ∧ Tch (· = g) w wr ∧ Hid (o = opK l k)) (fun kv _ => (intOf kv).toNat)
  case atStart => exact ⟨4, rfl, by omega, h, Tch.refl _ _, HO⟩
  case round =>
    obtain ⟨k, rfl, hk, hA, hT, HK⟩ := hrel
    have hrb := hT.row hr (by omega)
    cases k with
    | zero =>
      have HN : Hid (o = none) := hid HK.out
      clear HK HO
      go_wp2_with fail
      go_ret
      rw [HN.out]
      unfold opOut
      simp only []
      rw [hset0]
      exact ⟨rfl, hA, hrb, hT.mono fun _ => .inl⟩
    | succ k =>
      have hs := (hS.touch hT (fun j hj => by rw [hj]; exact hg)) (k + 1) hk
      have hTk := Ttake_is g l (signB (k + 1)) wr hA
      have hge : (1 : Int) ≤ (k : Int) + 1 := by omega
      have p0 := held_cell hrb hi
      have f0 := held_frozen (i := i) hrb
      cases hp : Lib.hasPrefix l (signB (k + 1)) with
      | true =>
        have HN : Hid (o = some (k + 1, Lib.trimPrefix l (signB (k + 1)))) := hid (by rw [HK.out, opK, if_pos hp])
        rw [hp] at hTk
        clear HK HO hp
        generalize Lib.trimPrefix l (signB (k + 1)) = r at *
        generalize signB (k + 1) = sg at *
        go_wp2_with (go_at_call 91; refine hTk.mono ?_; rintro e w1 ⟨rfl, A1, k1⟩; have r1 := k1.row hrb (by omega); have p1 := held_cell r1 hi; have f1 := held_frozen (i := i) r1; clear hTk p0 f0)
        go_ret
        rw [HN.out]
        unfold opOut
        simp only []
        push_cast
        exact ⟨rfl, A1.touch (S := (· = b)) (Tch.set _ _ _ _ rfl) (by omega), row_set r1 _, (hT.mono fun _ => .inl).trans ((k1.mono fun _ => .inl).trans (Tch.set _ _ _ _ (.inr rfl)))⟩
      | false =>
        have HN : Hid (o = opK l k) := hid (by rw [HK.out, opK, if_neg (by rw [hp]; simp)])
        rw [hp, take_no hp] at hTk
        clear HK HO hp
        generalize signB (k + 1) = sg at *
        go_wp2_with (go_at_call 91; refine hTk.mono ?_; rintro e w1 ⟨rfl, A1, k1⟩)
        exact ⟨⟨k, by go_num, by omega, A1, hT.trans k1, HN⟩, by first | (simp [intOf]; done) | (simp [intOf]; omega)⟩
end Go.Proofs.YtlhodanpfpfodaaGreatDoor
