/-
  What the library's functions on lists of int answer at this program: sort, compact, search, grow, concat. Conditions: those that each theorem names.
-/
import Derived.Test.YtnlkipgjacgddaaDoorWrite
import Derived.Test.YtnlkipgjacgddaaDoorIntsGrow
import Derived.Shelf.SlGeneric
import Derived.Shelf.SlicesG.CompactI
import Derived.Shelf.SlicesG.SearchI
import Derived.Shelf.SlicesE.DeleteFunc
import Derived.Shelf.SortM.Plain
import Derived.Shelf.SortM.SortNone
import Derived.Shelf.Spec.SlicesGrow
import Derived.Ground.SlgnProg
import Derived.Ground.SlgfProg
import Derived.Ground.SlgmProg
import Derived.Ground.Names8Prog
namespace Go.Proofs
open Go.Shelf
def Tryd.sortI_ren : Go.Shelf.Ren := ⟨fun | 5 => 43 | 8 => 58 | 7 => 57 | 19 => 74 | 20 => 75 | 10 => 66 | 11 => 67 | 12 => 68 | 13 => 69 | 14 => 70 | 15 => 71 | 16 => 60 | 17 => 72 | 18 => 73 | 30 => 86 | 31 => 87 | 32 => 88 | 33 => 89 | 34 => 90 | 35 => 76 | 40 => 95 | n => n, fun | 23 => 34 | 25 => 3 | 3 => 3 | 32 => 98 | 22 => 34 | 0 => 0 | 44 => 119 | 46 => 101 | 4 => 4 | 36 => 113 | 35 => 112 | 41 => 88 | 5 => 5 | 9 => 9 | 53 => 127 | 57 => 131 | 63 => 135 | 64 => 136 | n => n, fun | n => n⟩
theorem Tryd.sortI : Go.Proofs.SlLaysM.n5 Tryd.prog Tryd.sortI_ren := {
  mixed := by kernel_rfl
  f5 := ⟨Tryd.f43.name, by decide, Tryd.func43.trans (congrArg some (by kernel_rfl))⟩
  f7 := ⟨Tryd.f57.name, by decide, Tryd.func57.trans (congrArg some (by kernel_rfl))⟩
  f8 := Tryd.func58.trans (congrArg some (by kernel_rfl))
  f10 := ⟨Tryd.f66.name, by decide, Tryd.func66.trans (congrArg some (by kernel_rfl))⟩
  f11 := ⟨Tryd.f67.name, by decide, Tryd.func67.trans (congrArg some (by kernel_rfl))⟩
  f12 := ⟨Tryd.f68.name, by decide, Tryd.func68.trans (congrArg some (by kernel_rfl))⟩
  f13 := ⟨Tryd.f69.name, by decide, Tryd.func69.trans (congrArg some (by kernel_rfl))⟩
  f14 := ⟨Tryd.f70.name, by decide, Tryd.func70.trans (congrArg some (by kernel_rfl))⟩
  f15 := ⟨Tryd.f71.name, by decide, Tryd.func71.trans (congrArg some (by kernel_rfl))⟩
  f16 := ⟨Tryd.f60.name, by decide, Tryd.func60.trans (congrArg some (by kernel_rfl))⟩
  f17 := ⟨Tryd.f72.name, by decide, Tryd.func72.trans (congrArg some (by kernel_rfl))⟩
  f18 := ⟨Tryd.f73.name, by decide, Tryd.func73.trans (congrArg some (by kernel_rfl))⟩
  f19 := Tryd.func74.trans (congrArg some (by kernel_rfl))
  f20 := Tryd.func75.trans (congrArg some (by kernel_rfl))
  f30 := ⟨Tryd.f86.name, by decide, Tryd.func86.trans (congrArg some (by kernel_rfl))⟩
  f31 := Tryd.func87.trans (congrArg some (by kernel_rfl))
  f32 := Tryd.func88.trans (congrArg some (by kernel_rfl))
  f33 := ⟨Tryd.f89.name, by decide, Tryd.func89.trans (congrArg some (by kernel_rfl))⟩
  f34 := ⟨Tryd.f90.name, by decide, Tryd.func90.trans (congrArg some (by kernel_rfl))⟩
  f35 := ⟨Tryd.f76.name, by decide, Tryd.func76.trans (congrArg some (by kernel_rfl))⟩
  f40 := ⟨Tryd.f95.name, by decide, Tryd.func95.trans (congrArg some (by kernel_rfl))⟩
  t0 := Tryd.underlying0
  a0 := Tryd.isAgg0
  z0 := Tryd.sizeOf0
  v0 := Tryd.zeroValue0
  t3 := Tryd.underlying3
  a3 := Tryd.isAgg3
  z3 := Tryd.sizeOf3
  v3 := Tryd.zeroValue3
  t4 := Tryd.underlying4
  a4 := Tryd.isAgg4
  z4 := Tryd.sizeOf4
  v4 := Tryd.zeroValue4
  t5 := Tryd.underlying5
  a5 := Tryd.isAgg5
  z5 := Tryd.sizeOf5
  v5 := Tryd.zeroValue5
  t9 := Tryd.underlying9
  a9 := Tryd.isAgg9
  z9 := Tryd.sizeOf9
  v9 := Tryd.zeroValue9
  t22 := Tryd.underlying34
  a22 := Tryd.isAgg34
  z22 := Tryd.sizeOf34
  v22 := Tryd.zeroValue34
  t23 := Tryd.underlying34
  a23 := Tryd.isAgg34
  z23 := Tryd.sizeOf34
  v23 := Tryd.zeroValue34
  t25 := Tryd.underlying3
  a25 := Tryd.isAgg3
  z25 := Tryd.sizeOf3
  v25 := Tryd.zeroValue3
  t32 := Tryd.underlying98
  a32 := Tryd.isAgg98
  z32 := Tryd.sizeOf98
  v32 := Tryd.zeroValue98
  t35 := Tryd.underlying112
  a35 := Tryd.isAgg112
  z35 := Tryd.sizeOf112
  v35 := Tryd.zeroValue112
  t36 := Tryd.underlying113
  a36 := Tryd.isAgg113
  z36 := Tryd.sizeOf113
  v36 := Tryd.zeroValue113
  t41 := Tryd.underlying88
  a41 := Tryd.isAgg88
  z41 := Tryd.sizeOf88
  v41 := Tryd.zeroValue88
  t44 := Tryd.underlying119
  a44 := Tryd.isAgg119
  z44 := Tryd.sizeOf119
  v44 := Tryd.zeroValue119
  t46 := Tryd.underlying101
  a46 := Tryd.isAgg101
  z46 := Tryd.sizeOf101
  v46 := Tryd.zeroValue101
  t53 := Tryd.underlying127
  a53 := Tryd.isAgg127
  z53 := Tryd.sizeOf127
  v53 := Tryd.zeroValue127
  t57 := Tryd.underlying131
  a57 := Tryd.isAgg131
  z57 := Tryd.sizeOf131
  v57 := Tryd.zeroValue131
  t63 := Tryd.underlying135
  a63 := Tryd.isAgg135
  z63 := Tryd.sizeOf135
  v63 := Tryd.zeroValue135
  t64 := Tryd.underlying136
  a64 := Tryd.isAgg136
  z64 := Tryd.sizeOf136
  v64 := Tryd.zeroValue136 }
def Tryd.compactI_ren : Go.Shelf.Ren := ⟨fun | 43 => 44 | n => n, fun | 22 => 34 | 23 => 3 | 3 => 3 | 4 => 4 | 0 => 0 | n => n, fun | n => n⟩
theorem Tryd.compactI : Go.Proofs.SlLaysN.n43 Tryd.prog Tryd.compactI_ren := {
  mixed := by kernel_rfl
  f43 := ⟨Tryd.f44.name, by decide, Tryd.func44.trans (congrArg some (by kernel_rfl))⟩
  t0 := Tryd.underlying0
  a0 := Tryd.isAgg0
  z0 := Tryd.sizeOf0
  v0 := Tryd.zeroValue0
  t3 := Tryd.underlying3
  a3 := Tryd.isAgg3
  z3 := Tryd.sizeOf3
  v3 := Tryd.zeroValue3
  t4 := Tryd.underlying4
  a4 := Tryd.isAgg4
  z4 := Tryd.sizeOf4
  v4 := Tryd.zeroValue4
  t22 := Tryd.underlying34
  a22 := Tryd.isAgg34
  z22 := Tryd.sizeOf34
  v22 := Tryd.zeroValue34
  t23 := Tryd.underlying3
  a23 := Tryd.isAgg3
  z23 := Tryd.sizeOf3
  v23 := Tryd.zeroValue3
  i23 := by kernel_rfl }
def Tryd.searchI_ren : Go.Shelf.Ren := ⟨fun | 49 => 48 | 59 => 60 | 60 => 61 | 68 => 76 | n => n, fun | 22 => 34 | 23 => 3 | 3 => 3 | 4 => 4 | 51 => 98 | 0 => 0 | n => n, fun | n => n⟩
theorem Tryd.searchI : Go.Proofs.SlLaysN.n49 Tryd.prog Tryd.searchI_ren := {
  mixed := by kernel_rfl
  f49 := ⟨Tryd.f48.name, by decide, Tryd.func48.trans (congrArg some (by kernel_rfl))⟩
  f59 := ⟨Tryd.f60.name, by decide, Tryd.func60.trans (congrArg some (by kernel_rfl))⟩
  f60 := ⟨Tryd.f61.name, by decide, Tryd.func61.trans (congrArg some (by kernel_rfl))⟩
  f68 := ⟨Tryd.f76.name, by decide, Tryd.func76.trans (congrArg some (by kernel_rfl))⟩
  t0 := Tryd.underlying0
  a0 := Tryd.isAgg0
  z0 := Tryd.sizeOf0
  v0 := Tryd.zeroValue0
  t3 := Tryd.underlying3
  a3 := Tryd.isAgg3
  z3 := Tryd.sizeOf3
  v3 := Tryd.zeroValue3
  t4 := Tryd.underlying4
  a4 := Tryd.isAgg4
  z4 := Tryd.sizeOf4
  v4 := Tryd.zeroValue4
  t22 := Tryd.underlying34
  a22 := Tryd.isAgg34
  z22 := Tryd.sizeOf34
  v22 := Tryd.zeroValue34
  t23 := Tryd.underlying3
  a23 := Tryd.isAgg3
  z23 := Tryd.sizeOf3
  v23 := Tryd.zeroValue3
  t51 := Tryd.underlying98
  a51 := Tryd.isAgg98
  z51 := Tryd.sizeOf98
  v51 := Tryd.zeroValue98 }
def Tryd.deleteI_ren : Go.Shelf.Ren := ⟨fun | 10 => 46 | 6 => 59 | n => n, fun | 22 => 34 | 23 => 3 | 25 => 55 | 3 => 3 | 4 => 4 | 0 => 0 | n => n, fun | n => n⟩
theorem Tryd.deleteI : Go.Proofs.SlLaysH.n10 Tryd.prog Tryd.deleteI_ren := {
  mixed := by kernel_rfl
  f6 := ⟨Tryd.f59.name, by decide, Tryd.func59.trans (congrArg some (by kernel_rfl))⟩
  f10 := ⟨Tryd.f46.name, by decide, Tryd.func46.trans (congrArg some (by kernel_rfl))⟩
  t0 := Tryd.underlying0
  a0 := Tryd.isAgg0
  z0 := Tryd.sizeOf0
  v0 := Tryd.zeroValue0
  t3 := Tryd.underlying3
  a3 := Tryd.isAgg3
  z3 := Tryd.sizeOf3
  v3 := Tryd.zeroValue3
  t4 := Tryd.underlying4
  a4 := Tryd.isAgg4
  z4 := Tryd.sizeOf4
  v4 := Tryd.zeroValue4
  t22 := Tryd.underlying34
  a22 := Tryd.isAgg34
  z22 := Tryd.sizeOf34
  v22 := Tryd.zeroValue34
  a23 := Tryd.isAgg3
  z23 := Tryd.sizeOf3
  t25 := Tryd.underlying55
  a25 := Tryd.isAgg55
  z25 := Tryd.sizeOf55
  v25 := Tryd.zeroValue55 }
def Tryd.growI_ren : Go.Shelf.Ren := ⟨fun | 4 => 56 | n => n, fun | 22 => 34 | 25 => 3 | 3 => 3 | 4 => 4 | 9 => 9 | 20 => 20 | 0 => 0 | n => n, fun | n => n⟩
theorem Tryd.growI : Go.Proofs.Lays8.n4 Tryd.prog Tryd.growI_ren := {
  mixed := by kernel_rfl
  f4 := ⟨Tryd.f56.name, by decide, Tryd.func56.trans (congrArg some (by kernel_rfl))⟩
  t0 := Tryd.underlying0
  a0 := Tryd.isAgg0
  z0 := Tryd.sizeOf0
  v0 := Tryd.zeroValue0
  t3 := Tryd.underlying3
  a3 := Tryd.isAgg3
  z3 := Tryd.sizeOf3
  v3 := Tryd.zeroValue3
  t4 := Tryd.underlying4
  a4 := Tryd.isAgg4
  z4 := Tryd.sizeOf4
  v4 := Tryd.zeroValue4
  t9 := Tryd.underlying9
  a9 := Tryd.isAgg9
  z9 := Tryd.sizeOf9
  v9 := Tryd.zeroValue9
  t20 := Tryd.underlying20
  a20 := Tryd.isAgg20
  z20 := Tryd.sizeOf20
  v20 := Tryd.zeroValue20
  t22 := Tryd.underlying34
  a22 := Tryd.isAgg34
  z22 := Tryd.sizeOf34
  v22 := Tryd.zeroValue34 }
end Go.Proofs
namespace Go.Proofs.YtnlkipgjacgddaaDoor
open Go.RowKit Go.Icz Go.Lib Go.Sort
theorem stdI : StdI Tryd.prog := ⟨Tryd.underlying34, by kernel_rfl⟩
theorem Sort_is {w : World} {B : Nat} {v : Value} {l : List Int} (h : OwnI w B v l) (hl : l.length < 4611686018427387904) :
    Calls Tryd.prog 43 #[v] w fun e w' => e = .returned (.tuple #[]) ∧ OwnI w' B v (l.mergeSort fun x y => decide (x ≤ y)) ∧ Below B w w' :=
  sort_own (f := 43) (fun blk off cap zs W h1 h2 h3 => AnyM.slices_Sort_int Tryd.sortI blk off cap zs W h1 h2 h3) (fun p cap W => AnyM.slices_Sort_int_none Tryd.sortI p cap W) h hl
theorem Compact_is {w : World} {B : Nat} {v : Value} {l : List Int} (h : OwnI w B v l) :
    Calls Tryd.prog 44 #[v] w fun e w' => ∃ v', e = .returned v' ∧ OwnI w' B v' (Lib.compact l) ∧ Below B w w' :=
  compact_own (f := 44) (fun blk off cap zs W h1 h2 h3 => AnyG.slices_Compact_int Tryd.compactI blk off cap zs W h1 h2 h3) (fun p cap W => AnyG.slices_Compact_int_empty Tryd.compactI p cap W) h
theorem Grow_is (n : Nat) (hn : n ≤ 17592186044416) (w : World) :
    Calls Tryd.prog 56 #[.slice none 0 0, .int .i64 n] w fun e w' => ∃ v, e = .returned v ∧ OwnI w' w.heap.size v [] ∧ Below w.heap.size w w' :=
  grow_own (f := 56) stdI (fun w => Any8.slices_Grow_room Tryd.growI none 0 0 0 w (by omega) (by omega) (by omega) (by omega))
    (fun i0 z hi hz hs n w h0 hb h63 => by
      have h := Any8.slices_Grow_grow Tryd.growI i0 z hi hz hs none 0 0 n [] w (by omega) (by omega) (by simpa using hb) (by omega) (by simp) (fun _ => rfl) (fun a ha => by cases ha)
      simp only [Nat.zero_add, Nat.sub_zero] at h
      exact h) n hn w
/-- A row of lists. -/
def RdSS (w : World) (v : Value) (L : List (List Int)) : Prop :=
  ∃ g, v = .slice (some ⟨g, 0, none⟩) L.length L.length ∧ g < w.heap.size ∧ ∀ j (hj : j < L.length), ∃ u, w.cell? ⟨g, j, none⟩ = some u ∧ RdI w u L[j]
theorem RdSS.one {w : World} {v : Value} {l : List Int} (h : RdI w v l) : RdSS (w.alloc (.cells #[v] 34)) (.slice (some ⟨w.heap.size, 0, none⟩) 1 1) [l] := by
  have hh := heap_alloc_new w (.cells #[v] 34)
  refine ⟨w.heap.size, rfl, by simp, fun j hj => ?_⟩
  match j, hj with
  | 0, _ => exact ⟨v, held_cell hh rfl, h.alloc _⟩
theorem RdSS.two {w : World} {v u : Value} {l m : List Int} (h : RdI w v l) (h2 : RdI w u m) : RdSS (w.alloc (.cells #[v, u] 34)) (.slice (some ⟨w.heap.size, 0, none⟩) 2 2) [l, m] := by
  have hh := heap_alloc_new w (.cells #[v, u] 34)
  refine ⟨w.heap.size, rfl, by simp, fun j hj => ?_⟩
  match j, hj with
  | 0, _ => exact ⟨v, held_cell hh rfl, h.alloc _⟩
  | 1, _ => exact ⟨u, held_cell hh rfl, h2.alloc _⟩
theorem flat_take (L : List (List Int)) (i : Nat) (hi : i < L.length) : (L.take (i + 1)).flatten = (L.take i).flatten ++ L[i] := by
  rw [List.take_succ_eq_append_getElem hi, List.flatten_append]
  simp
theorem flat_le (L : List (List Int)) (i : Nat) : (L.take i).flatten.length ≤ L.flatten.length := by
  have h := congrArg List.length (congrArg List.flatten (List.take_append_drop i L))
  rw [List.flatten_append, List.length_append] at h
  omega
set_option maxHeartbeats 2000000 in
set_option maxRecDepth 100000 in
theorem Concat_is (v : Value) (L : List (List Int)) (w : World) (hR : RdSS w v L) (hk : L.length ≤ 4611686018427387904) (hlen : L.flatten.length ≤ 17592186044416) :
    Calls Tryd.prog 42 #[v] w fun e w' => ∃ v', e = .returned v' ∧ OwnI w' w.heap.size v' L.flatten ∧ Below w.heap.size w w' := by
  obtain ⟨g, rfl, hg, hcell⟩ := hR
  go_enter Tryd.func42, Tryd.ntmps42
  go_wp2_with fail
  go_loopw [3, 11] (fun sv iv wr => ∃ i s : Nat, iv = .int .i64 i ∧ sv = .int .i64 s ∧ i ≤ L.length ∧ s ≤ 17592186044416 ∧ Below w.heap.size w wr ∧ Hid (s = (L.take i).flatten.length)) (fun _ iv _ => L.length - (intOf iv).toNat)
  case atStart => exact ⟨0, 0, rfl, rfl, by omega, by omega, Below.refl _ _, hid (by simp)⟩
  case round =>
    obtain ⟨i, s, rfl, rfl, hi, hs, hb0, HS⟩ := hrel
    by_cases hlt : i < L.length
    · obtain ⟨u, c0, r0⟩ := hcell i hlt
      have c0 := (hb0.cell (p := ⟨g, i, none⟩) hg).trans c0
      have hft := flat_take L i hlt
      have hfl := flat_le L (i + 1)
      have HS2 : Hid (s + L[i].length = (L.take (i + 1)).flatten.length) := hid (by rw [hft, List.length_append, HS.out])
      have hb : s + L[i].length ≤ 17592186044416 := by rw [HS2.out]; omega
      obtain ⟨A, c, rfl, hc, _⟩ := r0
      clear hft hfl HS
      have HC := hid hcell
      clear hcell
      generalize L[i] = x at *
      have hlt' : (i : Int) < (L.length : Int) := by omega
      go_wp2_with fail
      go_roundw
      case rel => exact ⟨i + 1, s + x.length, by go_num, by go_num, by omega, hb, hb0, HS2⟩
      case measure => simp [intOf]; omega
    · have hge : ¬ (i : Int) < (L.length : Int) := by omega
      obtain rfl : i = L.length := by omega
      have HG := fun w1 => Grow_is s hs w1
      have hss : s = L.flatten.length := by rw [HS.out, List.take_length]
      clear HS
      have HSS := hid hss
      clear hss
      go_wp2_with (go_at_call 56; refine (HG _).mono ?_; rintro e w1 ⟨v1, rfl, o1', b1'⟩; have o1 := o1'.mono hb0.size; have b1 := hb0.trans (b1'.mono hb0.size); clear HG o1' b1')
      go_loopw [6, 27] (fun nv iv wr => ∃ i : Nat, iv = .int .i64 i ∧ i ≤ L.length ∧ OwnI wr w.heap.size nv (L.take i).flatten ∧ Below w.heap.size w wr) (fun _ iv _ => L.length - (intOf iv).toNat)
      case atStart => exact ⟨0, rfl, by omega, by simpa using o1, b1⟩
      case round =>
        obtain ⟨i, rfl, hi, ho, hb⟩ := hrel
        by_cases hlt : i < L.length
        · obtain ⟨u, c0, r0⟩ := hcell i hlt
          have hft := flat_take L i hlt
          have hfl := flat_le L (i + 1)
          have c0 := (hb.cell (p := ⟨g, i, none⟩) hg).trans c0
          have r0 := r0.below hb
          have hsz := hb.size
          rw [hft, List.length_append] at hfl
          have HF := hid hft
          have hlt' : (i : Int) < (L.length : Int) := by omega
          clear hft hcell o1 b1 hge
          generalize (L.take i).flatten = X at *
          generalize L[i] = x at *
          have hb9 : X.length + x.length ≤ 17592186044416 := by omega
          have hu := r0
          obtain ⟨A, c, rfl, hc, _⟩ := hu
          go_wp2_with (at_builtin; refine wp_appI stdI rfl (.tmp 31) (.tmp 32) rfl w.heap.size _ _ X x rfl ho rfl r0 hb9 hsz ?_; intro v2 w2 o2 b2 _; clear ho)
          go_roundw
          case rel => exact ⟨i + 1, by go_num, by omega, by rw [HF.out]; exact o2, hb.trans b2⟩
          case measure => simp [intOf]; omega
        · have hge : ¬ (i : Int) < (L.length : Int) := by omega
          obtain rfl : i = L.length := by omega
          rw [List.take_length] at ho
          go_wp2_with fail
          go_ret
          exact ⟨_, rfl, ho, hb⟩
end Go.Proofs.YtnlkipgjacgddaaDoor
