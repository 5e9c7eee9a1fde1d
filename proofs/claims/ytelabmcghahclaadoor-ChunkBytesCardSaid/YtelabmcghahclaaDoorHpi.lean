/-
  What chunk.pairs hands over. Conditions: those that each theorem names.
-/
import Derived.Test.YtelabmcghahclaaDoorHk
import Derived.Shelf.Abstract
import Derived.Shelf.RegionOpen
import Derived.WalkKit
import Derived.OwnWalkIn
import Derived.TacticsInMore
import Derived.LoopNIn
import Derived.LoopIn
namespace Go.Proofs.YtelabmcghahclaaDoor
open Go.RowKit Go.Icz Go.Shelf
attribute [local go_sem] Oper.semAt_some
set_option maxRecDepth 100000
set_option maxHeartbeats 4000000
theorem pairsI1_gives (w0 : World) (bx : Nat) (v : Value) (l : List Int) (hb : w0.cell? ⟨bx, 0, none⟩ = some v) (hbl : bx < w0.heap.size) (hr : KInt.Rd w0 v l) (hlen : l.length ≤ 4611686018427387904) :
    Gives Tryd.prog 105 #[.pointer (some ⟨bx, 0, none⟩)] (fun x : Int × Int => #[intV x.1, intV x.2]) (prs l 0) w0 := by
  intro r J Jx W hW hJ hJx hY h0
  refine (callsIn_wide (n := 3)).1 ?_
  refine callsIn_of_wp Tryd.func105 rfl trivial ?_ rfl
  have hWb : W.cell? ⟨bx, 0, none⟩ = some v := (hW.cell (p := ⟨bx, 0, none⟩) hbl).trans hb
  have hWr : KInt.Rd W v l := hr.below hW
  obtain ⟨A, c, rfl, hc, hcell⟩ := id hWr
  have hHW := hid hWr
  have HJ := hid hJ
  have HLn := hid hlen
  clear hr hb hWr hcell hJ hlen
  simp only [Tryd.ntmps105, List.size_toArray, List.length_cons, List.length_nil, Nat.reduceAdd, Nat.reduceSub, Array.replicate_succ, Array.replicate_zero, List.push_toArray, List.append_toArray, List.nil_append, List.cons_append]
  gi_wp2
  gi_loopw [3] (fun i wr => ∃ (j : Nat) (pre : List (Int × Int)), i = .int .i64 (j : Int) ∧ Hid (1 ≤ j) ∧ Hid (prs l 0 = pre ++ prs l (j - 1)) ∧ J pre wr ∧ Kept W.heap.size W wr)
    (fun i _ => l.length + 1 - (intOf i).toNat)
  case atStart => exact ⟨1, [], rfl, hid (Nat.le_refl _), hid rfl, h0, Kept.refl _ _⟩
  case round =>
    obtain ⟨j, pre, rfl, hj1, hx, hJs, hkp⟩ := hrel
    have dbx := hkp.cell hWb
    by_cases hjl : j < l.length
    · have hji : (j : Int) < (l.length : Int) := by omega
      have h1 := hj1.out
      obtain ⟨k, hk⟩ : ∃ k, j = k + 1 := ⟨j - 1, by omega⟩
      have hkl : k < l.length := by omega
      have hki : (k : Int) < (l.length : Int) := by omega
      have zk : IntKind.i64.wrap ((j : Int) - 1) = (k : Int) := by have := HLn.out; rw [IntKind.wrap_i64]; omega
      have zj : IntKind.i64.wrap ((j : Int) + 1) = (j : Int) + 1 := by have := HLn.out; rw [IntKind.wrap_i64]; omega
      obtain ⟨b, off, c2, hv, hlt, hcs⟩ := (hHW.out.kept hkp).ats hjl
      injection hv with hv1 _ hv2
      subst hv1
      subst hv2
      have dk0 : wr.cell? ⟨b, off + k, none⟩ = some (.int .i64 l[k]) := by
        have := hcs k (by omega) 0 _ (by decide) rfl
        rwa [show k * KInt.z + 0 = k by show k * 1 + 0 = k; omega] at this
      have dj0 : wr.cell? ⟨b, off + j, none⟩ = some (.int .i64 l[j]) := by
        have := hcs j (by omega) 0 _ (by decide) rfl
        rwa [show j * KInt.z + 0 = j by show j * 1 + 0 = j; omega] at this
      have hxk : prs l 0 = pre ++ (l[k], l[j]) :: prs l j := by
        rw [hx.out, show j - 1 = k by omega, prs_cons l k (by omega)]
        subst hk
        rfl
      have hx2 : Hid (prs l 0 = (pre ++ [(l[k], l[j])]) ++ prs l ((j + 1) - 1)) := hid (by rw [hxk]; simp)
      have HY := hid (fun n => yield_any (m' := 2) (hY pre (l[k], l[j]) _ (wr.drewN n) hxk (HJ.out _ _ _ hJs (tch_drewN _ _ _))))
      have HK := hid (And.intro hjl hkp)
      have HK1 := hid hk
      clear hx hj1 hxk hcs hY hbl hJs hkp hk h1 hW
      gi_wp2
      refine wpIn_region_any (by kernel_rfl) (wpIn_region_reads (m := 10) rfl (by kernel_rfl) ?_)
      simp only [List.take_succ_cons, List.take_zero, List.drop_succ_cons, List.drop_zero]
      repeat (gi_big_quiet_step (fail))
      refine wpQuietIn_nil ?_
      rintro _ ⟨nq, rfl⟩
      obtain ⟨fn, tmps, assign, body, hy, hR⟩ := HY.out nq
      try dsimp only at hy
      unfold intV at hy
      gi_wp2
      refine hR.mono ?_
      rintro e W3 (⟨rfl, hJ3, hk3⟩ | ⟨rfl, hJx3, _⟩)
      · have HK3 := hid hk3
        clear hk3
        gi_wp2
        go_roundw
        case rel => exact ⟨j + 1, pre ++ [(l[k], l[j])], by go_num, hid (by omega), hx2, hJ3, HK.out.2.trans ((kept_drewN _ _ _).trans (HK3.out.mono (Nat.le_refl _)))⟩
        case measure => have := HK.out.1; simp [intOf]; omega
      · gi_wp2
        refine bodyPost_ret (results_none rfl _ _ _) rfl ?_
        exact ⟨⟨_, rfl⟩, .inr hJx3⟩
    · have hji : ¬ (j : Int) < (l.length : Int) := by omega
      have he := hx.out
      rw [prs_nil l (j - 1) (by omega), List.append_nil] at he
      have HE := hid he
      clear he hx hj1
      gi_wp2
      go_end0
      exact ⟨⟨_, rfl⟩, .inl (by rw [HE.out]; exact hJs)⟩
theorem pairsI_is (A : Option Addr) (n c : Nat) (w : World) : Calls Tryd.prog 83 #[.slice A n c] w fun e w' => e = .returned (.func (.func 105) #[] #[.pointer (some ⟨w.heap.size, 0, none⟩)]) ∧ w' = w.alloc (.cells #[.slice A n c] 131) := by
  go_enter Tryd.func83, Tryd.ntmps83
  go_wp2
  go_ret
  exact ⟨rfl, rfl⟩
end Go.Proofs.YtelabmcghahclaaDoor
