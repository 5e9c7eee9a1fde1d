/-
  Rows of a chunk, numbers: how they lie in memory. No condition.
  What chunk.pairs hands over. Conditions: those that each theorem names.
  What chunk.pairs hands over. Conditions: those that each theorem names.
-/
import Derived.Test.YtaoeabnpmpimgaaDoorEnt
import Derived.Test.YtaoeabnpmpimgaaDoorGRo
import Derived.Test.YtaoeabnpmpimgaaDoorOrl
import Derived.Test.YtaoeabnpmpimgaaDoorHlp
import Derived.Shelf.Abstract
import Derived.Shelf.RegionOpen
import Derived.WalkKit
import Derived.OwnWalkIn
import Derived.TacticsInMore
import Derived.LoopNIn
import Derived.LoopIn
section
namespace Go.Icz
open Go.RowKit
structure CRow where
  seq : Int
  time : Int
  line : B8
def rowV (r : CRow) : Value := .agg #[.int .i64 r.seq, .int .i64 r.time, .string ⟨r.line.toArray⟩]
def intV (n : Int) : Value := .int .i64 n
def KRw : Kd CRow where
  e := 45
  z := 3
  enc := fun r => [.int .i64 r.seq, .int .i64 r.time, .string ⟨r.line.toArray⟩]
  len := fun _ => rfl
  pos := by decide
  one := fun r u hu => by simp at hu; rcases hu with rfl | rfl | rfl <;> rfl
def KRr : Kd CRow where
  e := 46
  z := 3
  enc := fun r => [.int .i64 r.seq, .int .i64 r.time, .string ⟨r.line.toArray⟩]
  len := fun _ => rfl
  pos := by decide
  one := fun r u hu => by simp at hu; rcases hu with rfl | rfl | rfl <;> rfl
def KInt : Kd Int where
  e := 3
  z := 1
  enc := fun n => [.int .i64 n]
  len := fun _ => rfl
  pos := by decide
  one := fun r u hu => by simp at hu; subst hu; rfl
/-- From the place k on, each with the one behind it. -/
def prs {α : Type} (l : List α) (k : Nat) : List (α × α) := (l.drop k).zip (l.drop (k + 1))
theorem prs_cons {α : Type} (l : List α) (k : Nat) (h : k + 1 < l.length) : prs l k = (l[k], l[k + 1]) :: prs l (k + 1) := by
  unfold prs
  rw [List.drop_eq_getElem_cons (show k < l.length by omega), List.drop_eq_getElem_cons h, List.zip_cons_cons, ← List.drop_eq_getElem_cons h]
theorem prs_nil {α : Type} (l : List α) (k : Nat) (h : l.length ≤ k + 1) : prs l k = [] := by
  unfold prs
  rw [List.drop_eq_nil_of_le h, List.zip_nil_right]
theorem Kd.Rd.kept {α : Type} {K : Kd α} {n₁ : Nat} {w w' : World} {v : Value} {l : List α} (h : K.Rd w v l) (k : Kept n₁ w w') : K.Rd w' v l := by
  obtain ⟨A, c, hv, hc, hr⟩ := h
  refine ⟨A, c, hv, hc, fun h0 => ?_⟩
  obtain ⟨b, off, hA, hlt, hcell⟩ := hr h0
  exact ⟨b, off, hA, Nat.lt_of_lt_of_le hlt k.size, fun j u hj => k.cell (hcell j u hj)⟩
theorem Kd.Rd.ats {α : Type} {K : Kd α} {w : World} {v : Value} {l : List α} (h : K.Rd w v l) {j : Nat} (hj : j < l.length) : ∃ b off c, v = .slice (some ⟨b, off, none⟩) l.length c ∧ b < w.heap.size ∧ ∀ j (hj : j < l.length) i u, i < K.z → (K.enc l[j])[i]? = some u → w.cell? ⟨b, off + (j * K.z + i), none⟩ = some u := by
  obtain ⟨A, c, rfl, hc, hr⟩ := h
  obtain ⟨b, off, rfl, hlt, hcell⟩ := hr (by omega)
  exact ⟨b, off, c, rfl, hlt, fun j hj i u hi hu => hcell _ u ((Kd.cells_get (K := K) l j hj i hi).trans hu)⟩
theorem tch_drewN (S : Nat → Prop) (w : World) (n : Nat) : Tch S w (w.drewN n) := ⟨rfl, rfl, rfl, Nat.le_refl _, fun _ _ _ => rfl⟩
theorem kept_drewN (n₁ : Nat) (w : World) (n : Nat) : Kept n₁ w (w.drewN n) := ⟨rfl, rfl, rfl, Nat.le_refl _, fun _ _ _ _ h => h, fun _ _ _ => rfl⟩
end Go.Icz
end
section
namespace Go.Proofs.YtaoeabnpmpimgaaDoor
open Go.RowKit Go.Icz Go.Shelf
attribute [local go_sem] Oper.semAt_some
set_option maxRecDepth 100000
set_option maxHeartbeats 4000000
theorem pairsR1_gives (w0 : World) (bx : Nat) (v : Value) (l : List CRow) (hb : w0.cell? ⟨bx, 0, none⟩ = some v) (hbl : bx < w0.heap.size) (hr : KRw.Rd w0 v l) (hlen : l.length ≤ 4611686018427387904) :
    Gives Tryd.prog 61 #[.pointer (some ⟨bx, 0, none⟩)] (fun x : CRow × CRow => #[rowV x.1, rowV x.2]) (prs l 0) w0 := by
  intro r J Jx W hW hJ hJx hY h0
  refine (callsIn_wide (n := 3)).1 ?_
  refine callsIn_of_wp Tryd.func61 rfl trivial ?_ rfl
  have hWb : W.cell? ⟨bx, 0, none⟩ = some v := (hW.cell (p := ⟨bx, 0, none⟩) hbl).trans hb
  have hWr : KRw.Rd W v l := hr.below hW
  obtain ⟨A, c, rfl, hc, hcell⟩ := id hWr
  have hHW := hid hWr
  have HJ := hid hJ
  have HLn := hid hlen
  clear hr hb hWr hcell hJ hlen
  simp only [Tryd.ntmps61, List.size_toArray, List.length_cons, List.length_nil, Nat.reduceAdd, Nat.reduceSub, Array.replicate_succ, Array.replicate_zero, List.push_toArray, List.append_toArray, List.nil_append, List.cons_append]
  gi_wp2
  gi_loopw [3] (fun i wr => ∃ (j : Nat) (pre : List (CRow × CRow)), i = .int .i64 (j : Int) ∧ Hid (1 ≤ j) ∧ Hid (prs l 0 = pre ++ prs l (j - 1)) ∧ J pre wr ∧ Kept W.heap.size W wr)
    (fun i _ => l.length + 1 - (intOf i).toNat)
  case atStart => exact ⟨1, [], rfl, hid (Nat.le_refl _), hid rfl, h0, Kept.refl _ _⟩
  case round =>
    obtain ⟨j, pre, rfl, hj1, hx, hJs, hkp⟩ := hrel
    have dbx := hkp.cell hWb
    by_cases hjl : j < l.length
    · have hji : (j : Int) < (l.length : Int) := by omega
      have h1 := hj1.out
      obtain ⟨k, hk⟩ : ∃ k, j = k + 1 := ⟨j - 1, by omega⟩
      have hkl : k < l.length := by omega
      have hki : (k : Int) < (l.length : Int) := by omega
      have zk : IntKind.i64.wrap ((j : Int) - 1) = (k : Int) := by have := HLn.out; rw [IntKind.wrap_i64]; omega
      have zj : IntKind.i64.wrap ((j : Int) + 1) = (j : Int) + 1 := by have := HLn.out; rw [IntKind.wrap_i64]; omega
      obtain ⟨b, off, c2, hv, hlt, hcs⟩ := (hHW.out.kept hkp).ats hjl
      injection hv with hv1 _ hv2
      subst hv1
      subst hv2
      have dk0 : wr.cell? ⟨b, off + k * 3, none⟩ = some (.int .i64 l[k].seq) := hcs k (by omega) 0 _ (by decide) rfl
      have dk1 : wr.cell? ⟨b, off + k * 3 + 1, none⟩ = some (.int .i64 l[k].time) := hcs k (by omega) 1 _ (by decide) rfl
      have dk2 : wr.cell? ⟨b, off + k * 3 + 2, none⟩ = some (.string ⟨l[k].line.toArray⟩) := hcs k (by omega) 2 _ (by decide) rfl
      have dj0 : wr.cell? ⟨b, off + j * 3, none⟩ = some (.int .i64 l[j].seq) := hcs j (by omega) 0 _ (by decide) rfl
      have dj1 : wr.cell? ⟨b, off + j * 3 + 1, none⟩ = some (.int .i64 l[j].time) := hcs j (by omega) 1 _ (by decide) rfl
      have dj2 : wr.cell? ⟨b, off + j * 3 + 2, none⟩ = some (.string ⟨l[j].line.toArray⟩) := hcs j (by omega) 2 _ (by decide) rfl
      have hxk : prs l 0 = pre ++ (l[k], l[j]) :: prs l j := by
        rw [hx.out, show j - 1 = k by omega, prs_cons l k (by omega)]
        subst hk
        rfl
      have hx2 : Hid (prs l 0 = (pre ++ [(l[k], l[j])]) ++ prs l ((j + 1) - 1)) := hid (by rw [hxk]; simp)
      have HY := hid (fun n => yield_any (m' := 2) (hY pre (l[k], l[j]) _ (wr.drewN n) hxk (HJ.out _ _ _ hJs (tch_drewN _ _ _))))
      have HK := hid (And.intro hjl hkp)
      have HK1 := hid hk
      clear hx hj1 hxk hcs hY hbl hJs hkp hk h1 hW
      gi_wp2
      refine wpIn_region_any (by kernel_rfl) (wpIn_region_reads (m := 10) rfl (by kernel_rfl) ?_)
      simp only [List.take_succ_cons, List.take_zero, List.drop_succ_cons, List.drop_zero]
      repeat (gi_big_quiet_step (fail))
      refine wpQuietIn_nil ?_
      rintro _ ⟨nq, rfl⟩
      obtain ⟨fn, tmps, assign, body, hy, hR⟩ := HY.out nq
      try dsimp only at hy
      unfold rowV at hy
      gi_wp2
      refine hR.mono ?_
      rintro e W3 (⟨rfl, hJ3, hk3⟩ | ⟨rfl, hJx3, _⟩)
      · have HK3 := hid hk3
        clear hk3
        gi_wp2
        go_roundw
        case rel => exact ⟨j + 1, pre ++ [(l[k], l[j])], by go_num, hid (by omega), hx2, hJ3, HK.out.2.trans ((kept_drewN _ _ _).trans (HK3.out.mono (Nat.le_refl _)))⟩
        case measure => have := HK.out.1; simp [intOf]; omega
      · gi_wp2
        refine bodyPost_ret (results_none rfl _ _ _) rfl ?_
        exact ⟨⟨_, rfl⟩, .inr hJx3⟩
    · have hji : ¬ (j : Int) < (l.length : Int) := by omega
      have he := hx.out
      rw [prs_nil l (j - 1) (by omega), List.append_nil] at he
      have HE := hid he
      clear he hx hj1
      gi_wp2
      go_end0
      exact ⟨⟨_, rfl⟩, .inl (by rw [HE.out]; exact hJs)⟩
theorem pairsR_is (A : Option Addr) (n c : Nat) (w : World) : Calls Tryd.prog 37 #[.slice A n c] w fun e w' => e = .returned (.func (.func 61) #[] #[.pointer (some ⟨w.heap.size, 0, none⟩)]) ∧ w' = w.alloc (.cells #[.slice A n c] 37) := by
  go_enter Tryd.func37, Tryd.ntmps37
  go_wp2
  go_ret
  exact ⟨rfl, rfl⟩
end Go.Proofs.YtaoeabnpmpimgaaDoor
end
section
namespace Go.Proofs.YtaoeabnpmpimgaaDoor
open Go.RowKit Go.Icz Go.Shelf
attribute [local go_sem] Oper.semAt_some
set_option maxRecDepth 100000
set_option maxHeartbeats 4000000
theorem pairsI1_gives (w0 : World) (bx : Nat) (v : Value) (l : List Int) (hb : w0.cell? ⟨bx, 0, none⟩ = some v) (hbl : bx < w0.heap.size) (hr : KInt.Rd w0 v l) (hlen : l.length ≤ 4611686018427387904) :
    Gives Tryd.prog 79 #[.pointer (some ⟨bx, 0, none⟩)] (fun x : Int × Int => #[intV x.1, intV x.2]) (prs l 0) w0 := by
  intro r J Jx W hW hJ hJx hY h0
  refine (callsIn_wide (n := 3)).1 ?_
  refine callsIn_of_wp Tryd.func79 rfl trivial ?_ rfl
  have hWb : W.cell? ⟨bx, 0, none⟩ = some v := (hW.cell (p := ⟨bx, 0, none⟩) hbl).trans hb
  have hWr : KInt.Rd W v l := hr.below hW
  obtain ⟨A, c, rfl, hc, hcell⟩ := id hWr
  have hHW := hid hWr
  have HJ := hid hJ
  have HLn := hid hlen
  clear hr hb hWr hcell hJ hlen
  simp only [Tryd.ntmps79, List.size_toArray, List.length_cons, List.length_nil, Nat.reduceAdd, Nat.reduceSub, Array.replicate_succ, Array.replicate_zero, List.push_toArray, List.append_toArray, List.nil_append, List.cons_append]
  gi_wp2
  gi_loopw [3] (fun i wr => ∃ (j : Nat) (pre : List (Int × Int)), i = .int .i64 (j : Int) ∧ Hid (1 ≤ j) ∧ Hid (prs l 0 = pre ++ prs l (j - 1)) ∧ J pre wr ∧ Kept W.heap.size W wr)
    (fun i _ => l.length + 1 - (intOf i).toNat)
  case atStart => exact ⟨1, [], rfl, hid (Nat.le_refl _), hid rfl, h0, Kept.refl _ _⟩
  case round =>
    obtain ⟨j, pre, rfl, hj1, hx, hJs, hkp⟩ := hrel
    have dbx := hkp.cell hWb
    by_cases hjl : j < l.length
    · have hji : (j : Int) < (l.length : Int) := by omega
      have h1 := hj1.out
      obtain ⟨k, hk⟩ : ∃ k, j = k + 1 := ⟨j - 1, by omega⟩
      have hkl : k < l.length := by omega
      have hki : (k : Int) < (l.length : Int) := by omega
      have zk : IntKind.i64.wrap ((j : Int) - 1) = (k : Int) := by have := HLn.out; rw [IntKind.wrap_i64]; omega
      have zj : IntKind.i64.wrap ((j : Int) + 1) = (j : Int) + 1 := by have := HLn.out; rw [IntKind.wrap_i64]; omega
      obtain ⟨b, off, c2, hv, hlt, hcs⟩ := (hHW.out.kept hkp).ats hjl
      injection hv with hv1 _ hv2
      subst hv1
      subst hv2
      have dk0 : wr.cell? ⟨b, off + k, none⟩ = some (.int .i64 l[k]) := by
        have := hcs k (by omega) 0 _ (by decide) rfl
        rwa [show k * KInt.z + 0 = k by show k * 1 + 0 = k; omega] at this
      have dj0 : wr.cell? ⟨b, off + j, none⟩ = some (.int .i64 l[j]) := by
        have := hcs j (by omega) 0 _ (by decide) rfl
        rwa [show j * KInt.z + 0 = j by show j * 1 + 0 = j; omega] at this
      have hxk : prs l 0 = pre ++ (l[k], l[j]) :: prs l j := by
        rw [hx.out, show j - 1 = k by omega, prs_cons l k (by omega)]
        subst hk
        rfl
      have hx2 : Hid (prs l 0 = (pre ++ [(l[k], l[j])]) ++ prs l ((j + 1) - 1)) := hid (by rw [hxk]; simp)
      have HY := hid (fun n => yield_any (m' := 2) (hY pre (l[k], l[j]) _ (wr.drewN n) hxk (HJ.out _ _ _ hJs (tch_drewN _ _ _))))
      have HK := hid (And.intro hjl hkp)
      have HK1 := hid hk
      clear hx hj1 hxk hcs hY hbl hJs hkp hk h1 hW
      gi_wp2
      refine wpIn_region_any (by kernel_rfl) (wpIn_region_reads (m := 10) rfl (by kernel_rfl) ?_)
      simp only [List.take_succ_cons, List.take_zero, List.drop_succ_cons, List.drop_zero]
      repeat (gi_big_quiet_step (fail))
      refine wpQuietIn_nil ?_
      rintro _ ⟨nq, rfl⟩
      obtain ⟨fn, tmps, assign, body, hy, hR⟩ := HY.out nq
      try dsimp only at hy
      unfold intV at hy
      gi_wp2
      refine hR.mono ?_
      rintro e W3 (⟨rfl, hJ3, hk3⟩ | ⟨rfl, hJx3, _⟩)
      · have HK3 := hid hk3
        clear hk3
        gi_wp2
        go_roundw
        case rel => exact ⟨j + 1, pre ++ [(l[k], l[j])], by go_num, hid (by omega), hx2, hJ3, HK.out.2.trans ((kept_drewN _ _ _).trans (HK3.out.mono (Nat.le_refl _)))⟩
        case measure => have := HK.out.1; simp [intOf]; omega
      · gi_wp2
        refine bodyPost_ret (results_none rfl _ _ _) rfl ?_
        exact ⟨⟨_, rfl⟩, .inr hJx3⟩
    · have hji : ¬ (j : Int) < (l.length : Int) := by omega
      have he := hx.out
      rw [prs_nil l (j - 1) (by omega), List.append_nil] at he
      have HE := hid he
      clear he hx hj1
      gi_wp2
      go_end0
      exact ⟨⟨_, rfl⟩, .inl (by rw [HE.out]; exact hJs)⟩
theorem pairsI_is (A : Option Addr) (n c : Nat) (w : World) : Calls Tryd.prog 63 #[.slice A n c] w fun e w' => e = .returned (.func (.func 79) #[] #[.pointer (some ⟨w.heap.size, 0, none⟩)]) ∧ w' = w.alloc (.cells #[.slice A n c] 105) := by
  go_enter Tryd.func63, Tryd.ntmps63
  go_wp2
  go_ret
  exact ⟨rfl, rfl⟩
end Go.Proofs.YtaoeabnpmpimgaaDoor
end
