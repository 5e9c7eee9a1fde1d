/-
  What the library's functions on lists of int answer at this program: sort, compact, search, grow, concat. Conditions: those that each theorem names.
-/
import Derived.Test.YtcdfjkhjdiojbaaWrite
import Derived.Test.YtcdfjkhjdiojbaaIntsGrow
import Derived.Shelf.SlGeneric
import Derived.Shelf.SlicesG.CompactI
import Derived.Shelf.SlicesG.SearchI
import Derived.Shelf.SlicesE.DeleteFunc
import Derived.Shelf.SortM.Plain
import Derived.Shelf.SortM.SortNone
import Derived.Shelf.Spec.SlicesGrow
import Derived.Ground.SlgnProg
import Derived.Ground.SlgfProg
import Derived.Ground.SlgmProg
import Derived.Ground.Names8Prog
namespace Go.Proofs
open Go.Shelf
def Try.sortI_ren : Go.Shelf.Ren := ⟨fun | 5 => 42 | 8 => 57 | 7 => 56 | 19 => 68 | 20 => 69 | 10 => 60 | 11 => 61 | 12 => 62 | 13 => 63 | 14 => 64 | 15 => 65 | 16 => 53 | 17 => 66 | 18 => 67 | 30 => 70 | 31 => 71 | 32 => 72 | 33 => 73 | 34 => 74 | 35 => 59 | 40 => 75 | n => n, fun | 23 => 22 | 25 => 3 | 3 => 3 | 32 => 78 | 22 => 22 | 0 => 0 | 44 => 96 | 46 => 82 | 4 => 4 | 36 => 90 | 35 => 89 | 41 => 62 | 5 => 5 | 9 => 9 | 53 => 98 | 57 => 102 | 63 => 104 | 64 => 105 | n => n, fun | n => n⟩
theorem Try.sortI : Go.Proofs.SlLaysM.n5 Try.prog Try.sortI_ren := {
  mixed := by kernel_rfl
  f5 := ⟨Try.f42.name, by decide, Try.func42.trans (congrArg some (by kernel_rfl))⟩
  f7 := ⟨Try.f56.name, by decide, Try.func56.trans (congrArg some (by kernel_rfl))⟩
  f8 := Try.func57.trans (congrArg some (by kernel_rfl))
  f10 := ⟨Try.f60.name, by decide, Try.func60.trans (congrArg some (by kernel_rfl))⟩
  f11 := ⟨Try.f61.name, by decide, Try.func61.trans (congrArg some (by kernel_rfl))⟩
  f12 := ⟨Try.f62.name, by decide, Try.func62.trans (congrArg some (by kernel_rfl))⟩
  f13 := ⟨Try.f63.name, by decide, Try.func63.trans (congrArg some (by kernel_rfl))⟩
  f14 := ⟨Try.f64.name, by decide, Try.func64.trans (congrArg some (by kernel_rfl))⟩
  f15 := ⟨Try.f65.name, by decide, Try.func65.trans (congrArg some (by kernel_rfl))⟩
  f16 := ⟨Try.f53.name, by decide, Try.func53.trans (congrArg some (by kernel_rfl))⟩
  f17 := ⟨Try.f66.name, by decide, Try.func66.trans (congrArg some (by kernel_rfl))⟩
  f18 := ⟨Try.f67.name, by decide, Try.func67.trans (congrArg some (by kernel_rfl))⟩
  f19 := Try.func68.trans (congrArg some (by kernel_rfl))
  f20 := Try.func69.trans (congrArg some (by kernel_rfl))
  f30 := ⟨Try.f70.name, by decide, Try.func70.trans (congrArg some (by kernel_rfl))⟩
  f31 := Try.func71.trans (congrArg some (by kernel_rfl))
  f32 := Try.func72.trans (congrArg some (by kernel_rfl))
  f33 := ⟨Try.f73.name, by decide, Try.func73.trans (congrArg some (by kernel_rfl))⟩
  f34 := ⟨Try.f74.name, by decide, Try.func74.trans (congrArg some (by kernel_rfl))⟩
  f35 := ⟨Try.f59.name, by decide, Try.func59.trans (congrArg some (by kernel_rfl))⟩
  f40 := ⟨Try.f75.name, by decide, Try.func75.trans (congrArg some (by kernel_rfl))⟩
  t0 := Try.underlying0
  a0 := Try.isAgg0
  z0 := Try.sizeOf0
  v0 := Try.zeroValue0
  t3 := Try.underlying3
  a3 := Try.isAgg3
  z3 := Try.sizeOf3
  v3 := Try.zeroValue3
  t4 := Try.underlying4
  a4 := Try.isAgg4
  z4 := Try.sizeOf4
  v4 := Try.zeroValue4
  t5 := Try.underlying5
  a5 := Try.isAgg5
  z5 := Try.sizeOf5
  v5 := Try.zeroValue5
  t9 := Try.underlying9
  a9 := Try.isAgg9
  z9 := Try.sizeOf9
  v9 := Try.zeroValue9
  t22 := Try.underlying22
  a22 := Try.isAgg22
  z22 := Try.sizeOf22
  v22 := Try.zeroValue22
  t23 := Try.underlying22
  a23 := Try.isAgg22
  z23 := Try.sizeOf22
  v23 := Try.zeroValue22
  t25 := Try.underlying3
  a25 := Try.isAgg3
  z25 := Try.sizeOf3
  v25 := Try.zeroValue3
  t32 := Try.underlying78
  a32 := Try.isAgg78
  z32 := Try.sizeOf78
  v32 := Try.zeroValue78
  t35 := Try.underlying89
  a35 := Try.isAgg89
  z35 := Try.sizeOf89
  v35 := Try.zeroValue89
  t36 := Try.underlying90
  a36 := Try.isAgg90
  z36 := Try.sizeOf90
  v36 := Try.zeroValue90
  t41 := Try.underlying62
  a41 := Try.isAgg62
  z41 := Try.sizeOf62
  v41 := Try.zeroValue62
  t44 := Try.underlying96
  a44 := Try.isAgg96
  z44 := Try.sizeOf96
  v44 := Try.zeroValue96
  t46 := Try.underlying82
  a46 := Try.isAgg82
  z46 := Try.sizeOf82
  v46 := Try.zeroValue82
  t53 := Try.underlying98
  a53 := Try.isAgg98
  z53 := Try.sizeOf98
  v53 := Try.zeroValue98
  t57 := Try.underlying102
  a57 := Try.isAgg102
  z57 := Try.sizeOf102
  v57 := Try.zeroValue102
  t63 := Try.underlying104
  a63 := Try.isAgg104
  z63 := Try.sizeOf104
  v63 := Try.zeroValue104
  t64 := Try.underlying105
  a64 := Try.isAgg105
  z64 := Try.sizeOf105
  v64 := Try.zeroValue105 }
def Try.compactI_ren : Go.Shelf.Ren := ⟨fun | 43 => 43 | n => n, fun | 22 => 22 | 23 => 3 | 3 => 3 | 4 => 4 | 0 => 0 | n => n, fun | n => n⟩
theorem Try.compactI : Go.Proofs.SlLaysN.n43 Try.prog Try.compactI_ren := {
  mixed := by kernel_rfl
  f43 := ⟨Try.f43.name, by decide, Try.func43.trans (congrArg some (by kernel_rfl))⟩
  t0 := Try.underlying0
  a0 := Try.isAgg0
  z0 := Try.sizeOf0
  v0 := Try.zeroValue0
  t3 := Try.underlying3
  a3 := Try.isAgg3
  z3 := Try.sizeOf3
  v3 := Try.zeroValue3
  t4 := Try.underlying4
  a4 := Try.isAgg4
  z4 := Try.sizeOf4
  v4 := Try.zeroValue4
  t22 := Try.underlying22
  a22 := Try.isAgg22
  z22 := Try.sizeOf22
  v22 := Try.zeroValue22
  t23 := Try.underlying3
  a23 := Try.isAgg3
  z23 := Try.sizeOf3
  v23 := Try.zeroValue3
  i23 := by kernel_rfl }
def Try.searchI_ren : Go.Shelf.Ren := ⟨fun | 49 => 40 | 59 => 53 | 60 => 54 | 68 => 59 | n => n, fun | 22 => 22 | 23 => 3 | 3 => 3 | 4 => 4 | 51 => 78 | 0 => 0 | n => n, fun | n => n⟩
theorem Try.searchI : Go.Proofs.SlLaysN.n49 Try.prog Try.searchI_ren := {
  mixed := by kernel_rfl
  f49 := ⟨Try.f40.name, by decide, Try.func40.trans (congrArg some (by kernel_rfl))⟩
  f59 := ⟨Try.f53.name, by decide, Try.func53.trans (congrArg some (by kernel_rfl))⟩
  f60 := ⟨Try.f54.name, by decide, Try.func54.trans (congrArg some (by kernel_rfl))⟩
  f68 := ⟨Try.f59.name, by decide, Try.func59.trans (congrArg some (by kernel_rfl))⟩
  t0 := Try.underlying0
  a0 := Try.isAgg0
  z0 := Try.sizeOf0
  v0 := Try.zeroValue0
  t3 := Try.underlying3
  a3 := Try.isAgg3
  z3 := Try.sizeOf3
  v3 := Try.zeroValue3
  t4 := Try.underlying4
  a4 := Try.isAgg4
  z4 := Try.sizeOf4
  v4 := Try.zeroValue4
  t22 := Try.underlying22
  a22 := Try.isAgg22
  z22 := Try.sizeOf22
  v22 := Try.zeroValue22
  t23 := Try.underlying3
  a23 := Try.isAgg3
  z23 := Try.sizeOf3
  v23 := Try.zeroValue3
  t51 := Try.underlying78
  a51 := Try.isAgg78
  z51 := Try.sizeOf78
  v51 := Try.zeroValue78 }
def Try.deleteI_ren : Go.Shelf.Ren := ⟨fun | 10 => 38 | 6 => 52 | n => n, fun | 22 => 22 | 23 => 3 | 25 => 42 | 3 => 3 | 4 => 4 | 0 => 0 | n => n, fun | n => n⟩
theorem Try.deleteI : Go.Proofs.SlLaysH.n10 Try.prog Try.deleteI_ren := {
  mixed := by kernel_rfl
  f6 := ⟨Try.f52.name, by decide, Try.func52.trans (congrArg some (by kernel_rfl))⟩
  f10 := ⟨Try.f38.name, by decide, Try.func38.trans (congrArg some (by kernel_rfl))⟩
  t0 := Try.underlying0
  a0 := Try.isAgg0
  z0 := Try.sizeOf0
  v0 := Try.zeroValue0
  t3 := Try.underlying3
  a3 := Try.isAgg3
  z3 := Try.sizeOf3
  v3 := Try.zeroValue3
  t4 := Try.underlying4
  a4 := Try.isAgg4
  z4 := Try.sizeOf4
  v4 := Try.zeroValue4
  t22 := Try.underlying22
  a22 := Try.isAgg22
  z22 := Try.sizeOf22
  v22 := Try.zeroValue22
  a23 := Try.isAgg3
  z23 := Try.sizeOf3
  t25 := Try.underlying42
  a25 := Try.isAgg42
  z25 := Try.sizeOf42
  v25 := Try.zeroValue42 }
def Try.growI_ren : Go.Shelf.Ren := ⟨fun | 4 => 55 | n => n, fun | 22 => 22 | 25 => 3 | 3 => 3 | 4 => 4 | 9 => 9 | 20 => 20 | 0 => 0 | n => n, fun | n => n⟩
theorem Try.growI : Go.Proofs.Lays8.n4 Try.prog Try.growI_ren := {
  mixed := by kernel_rfl
  f4 := ⟨Try.f55.name, by decide, Try.func55.trans (congrArg some (by kernel_rfl))⟩
  t0 := Try.underlying0
  a0 := Try.isAgg0
  z0 := Try.sizeOf0
  v0 := Try.zeroValue0
  t3 := Try.underlying3
  a3 := Try.isAgg3
  z3 := Try.sizeOf3
  v3 := Try.zeroValue3
  t4 := Try.underlying4
  a4 := Try.isAgg4
  z4 := Try.sizeOf4
  v4 := Try.zeroValue4
  t9 := Try.underlying9
  a9 := Try.isAgg9
  z9 := Try.sizeOf9
  v9 := Try.zeroValue9
  t20 := Try.underlying20
  a20 := Try.isAgg20
  z20 := Try.sizeOf20
  v20 := Try.zeroValue20
  t22 := Try.underlying22
  a22 := Try.isAgg22
  z22 := Try.sizeOf22
  v22 := Try.zeroValue22 }
end Go.Proofs
namespace Go.Proofs.Ytcdfjkhjdiojbaa
open Go.RowKit Go.Icz Go.Lib Go.Sort
theorem stdI : StdI Try.prog := ⟨Try.underlying22, by kernel_rfl⟩
theorem Sort_is {w : World} {B : Nat} {v : Value} {l : List Int} (h : OwnI w B v l) (hl : l.length < 4611686018427387904) :
    Calls Try.prog 42 #[v] w fun e w' => e = .returned (.tuple #[]) ∧ OwnI w' B v (l.mergeSort fun x y => decide (x ≤ y)) ∧ Below B w w' :=
  sort_own (f := 42) (fun blk off cap zs W h1 h2 h3 => AnyM.slices_Sort_int Try.sortI blk off cap zs W h1 h2 h3) (fun p cap W => AnyM.slices_Sort_int_none Try.sortI p cap W) h hl
theorem Compact_is {w : World} {B : Nat} {v : Value} {l : List Int} (h : OwnI w B v l) :
    Calls Try.prog 43 #[v] w fun e w' => ∃ v', e = .returned v' ∧ OwnI w' B v' (Lib.compact l) ∧ Below B w w' :=
  compact_own (f := 43) (fun blk off cap zs W h1 h2 h3 => AnyG.slices_Compact_int Try.compactI blk off cap zs W h1 h2 h3) (fun p cap W => AnyG.slices_Compact_int_empty Try.compactI p cap W) h
theorem Grow_is (n : Nat) (hn : n ≤ 17592186044416) (w : World) :
    Calls Try.prog 55 #[.slice none 0 0, .int .i64 n] w fun e w' => ∃ v, e = .returned v ∧ OwnI w' w.heap.size v [] ∧ Below w.heap.size w w' :=
  grow_own (f := 55) stdI (fun w => Any8.slices_Grow_room Try.growI none 0 0 0 w (by omega) (by omega) (by omega) (by omega))
    (fun i0 z hi hz hs n w h0 hb h63 => by
      have h := Any8.slices_Grow_grow Try.growI i0 z hi hz hs none 0 0 n [] w (by omega) (by omega) (by simpa using hb) (by omega) (by simp) (fun _ => rfl) (fun a ha => by cases ha)
      simp only [Nat.zero_add, Nat.sub_zero] at h
      exact h) n hn w
/-- A row of lists. -/
def RdSS (w : World) (v : Value) (L : List (List Int)) : Prop :=
  ∃ g, v = .slice (some ⟨g, 0, none⟩) L.length L.length ∧ g < w.heap.size ∧ ∀ j (hj : j < L.length), ∃ u, w.cell? ⟨g, j, none⟩ = some u ∧ RdI w u L[j]
theorem RdSS.one {w : World} {v : Value} {l : List Int} (h : RdI w v l) : RdSS (w.alloc (.cells #[v] 22)) (.slice (some ⟨w.heap.size, 0, none⟩) 1 1) [l] := by
  have hh := heap_alloc_new w (.cells #[v] 22)
  refine ⟨w.heap.size, rfl, by simp, fun j hj => ?_⟩
  match j, hj with
  | 0, _ => exact ⟨v, held_cell hh rfl, h.alloc _⟩
theorem RdSS.two {w : World} {v u : Value} {l m : List Int} (h : RdI w v l) (h2 : RdI w u m) : RdSS (w.alloc (.cells #[v, u] 22)) (.slice (some ⟨w.heap.size, 0, none⟩) 2 2) [l, m] := by
  have hh := heap_alloc_new w (.cells #[v, u] 22)
  refine ⟨w.heap.size, rfl, by simp, fun j hj => ?_⟩
  match j, hj with
  | 0, _ => exact ⟨v, held_cell hh rfl, h.alloc _⟩
  | 1, _ => exact ⟨u, held_cell hh rfl, h2.alloc _⟩
theorem flat_take (L : List (List Int)) (i : Nat) (hi : i < L.length) : (L.take (i + 1)).flatten = (L.take i).flatten ++ L[i] := by
  rw [List.take_succ_eq_append_getElem hi, List.flatten_append]
  simp
theorem flat_le (L : List (List Int)) (i : Nat) : (L.take i).flatten.length ≤ L.flatten.length := by
  have h := congrArg List.length (congrArg List.flatten (List.take_append_drop i L))
  rw [List.flatten_append, List.length_append] at h
  omega
set_option maxHeartbeats 2000000 in
set_option maxRecDepth 100000 in
theorem Concat_is (v : Value) (L : List (List Int)) (w : World) (hR : RdSS w v L) (hk : L.length ≤ 4611686018427387904) (hlen : L.flatten.length ≤ 17592186044416) :
    Calls Try.prog 41 #[v] w fun e w' => ∃ v', e = .returned v' ∧ OwnI w' w.heap.size v' L.flatten ∧ Below w.heap.size w w' := by
  obtain ⟨g, rfl, hg, hcell⟩ := hR
  go_enter Try.func41, Try.ntmps41
  go_wp2_with fail
  go_loopw [3, 11] (fun sv iv wr => ∃ i s : Nat, iv = .int .i64 i ∧ sv = .int .i64 s ∧ i ≤ L.length ∧ s ≤ 17592186044416 ∧ Below w.heap.size w wr ∧ Hid (s = (L.take i).flatten.length)) (fun _ iv _ => L.length - (intOf iv).toNat)
  case atStart => exact ⟨0, 0, rfl, rfl, by omega, by omega, Below.refl _ _, hid (by simp)⟩
  case round =>
    obtain ⟨i, s, rfl, rfl, hi, hs, hb0, HS⟩ := hrel
    by_cases hlt : i < L.length
    · obtain ⟨u, c0, r0⟩ := hcell i hlt
      have c0 := (hb0.cell (p := ⟨g, i, none⟩) hg).trans c0
      have hft := flat_take L i hlt
      have hfl := flat_le L (i + 1)
      have HS2 : Hid (s + L[i].length = (L.take (i + 1)).flatten.length) := hid (by rw [hft, List.length_append, HS.out])
      have hb : s + L[i].length ≤ 17592186044416 := by rw [HS2.out]; omega
      obtain ⟨A, c, rfl, hc, _⟩ := r0
      clear hft hfl HS
      have HC := hid hcell
      clear hcell
      generalize L[i] = x at *
      have hlt' : (i : Int) < (L.length : Int) := by omega
      go_wp2_with fail
      go_roundw
      case rel => exact ⟨i + 1, s + x.length, by go_num, by go_num, by omega, hb, hb0, HS2⟩
      case measure => simp [intOf]; omega
    · have hge : ¬ (i : Int) < (L.length : Int) := by omega
      obtain rfl : i = L.length := by omega
      have HG := fun w1 => Grow_is s hs w1
      have hss : s = L.flatten.length := by rw [HS.out, List.take_length]
      clear HS
      have HSS := hid hss
      clear hss
      go_wp2_with (go_at_call 55; refine (HG _).mono ?_; rintro e w1 ⟨v1, rfl, o1', b1'⟩; have o1 := o1'.mono hb0.size; have b1 := hb0.trans (b1'.mono hb0.size); clear HG o1' b1')
      go_loopw [6, 27] (fun nv iv wr => ∃ i : Nat, iv = .int .i64 i ∧ i ≤ L.length ∧ OwnI wr w.heap.size nv (L.take i).flatten ∧ Below w.heap.size w wr) (fun _ iv _ => L.length - (intOf iv).toNat)
      case atStart => exact ⟨0, rfl, by omega, by simpa using o1, b1⟩
      case round =>
        obtain ⟨i, rfl, hi, ho, hb⟩ := hrel
        by_cases hlt : i < L.length
        · obtain ⟨u, c0, r0⟩ := hcell i hlt
          have hft := flat_take L i hlt
          have hfl := flat_le L (i + 1)
          have c0 := (hb.cell (p := ⟨g, i, none⟩) hg).trans c0
          have r0 := r0.below hb
          have hsz := hb.size
          rw [hft, List.length_append] at hfl
          have HF := hid hft
          have hlt' : (i : Int) < (L.length : Int) := by omega
          clear hft hcell o1 b1 hge
          generalize (L.take i).flatten = X at *
          generalize L[i] = x at *
          have hb9 : X.length + x.length ≤ 17592186044416 := by omega
          have hu := r0
          obtain ⟨A, c, rfl, hc, _⟩ := hu
          go_wp2_with (at_builtin; refine wp_appI stdI rfl (.tmp 31) (.tmp 32) rfl w.heap.size _ _ X x rfl ho rfl r0 hb9 hsz ?_; intro v2 w2 o2 b2 _; clear ho)
          go_roundw
          case rel => exact ⟨i + 1, by go_num, by omega, by rw [HF.out]; exact o2, hb.trans b2⟩
          case measure => simp [intOf]; omega
        · have hge : ¬ (i : Int) < (L.length : Int) := by omega
          obtain rfl : i = L.length := by omega
          rw [List.take_length] at ho
          go_wp2_with fail
          go_ret
          exact ⟨_, rfl, ho, hb⟩
end Go.Proofs.Ytcdfjkhjdiojbaa
