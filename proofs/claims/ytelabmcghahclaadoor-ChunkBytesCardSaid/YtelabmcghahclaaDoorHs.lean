/-
  slices.Sort of numbers, as this program has it. Conditions: those that each theorem names.
-/
import Derived.Test.YtelabmcghahclaaDoorHk
import Derived.Lib.SlKeysI
import Derived.Lib.OwnBridge
import Derived.Shelf.SlGeneric
import Derived.Shelf.SortM.Plain
import Derived.Shelf.SortM.SortNone
import Derived.Ground.SlgmProg
namespace Go.Proofs
open Go.Shelf
def Tryd.sortI_ren : Go.Shelf.Ren := ⟨fun | 5 => 82 | 8 => 104 | 7 => 103 | 19 => 125 | 20 => 126 | 10 => 116 | 11 => 117 | 12 => 118 | 13 => 119 | 14 => 120 | 15 => 121 | 16 => 122 | 17 => 123 | 18 => 124 | 30 => 131 | 31 => 132 | 32 => 133 | 33 => 134 | 34 => 135 | 35 => 115 | 40 => 137 | n => n, fun | 23 => 131 | 25 => 3 | 3 => 3 | 32 => 154 | 22 => 131 | 0 => 0 | 44 => 176 | 46 => 151 | 4 => 4 | 36 => 169 | 35 => 168 | 41 => 173 | 5 => 5 | 9 => 9 | 53 => 185 | 57 => 189 | 63 => 191 | 64 => 178 | n => n, fun | n => n⟩
theorem Tryd.sortI : Go.Proofs.SlLaysM.n5 Tryd.prog Tryd.sortI_ren := {
  mixed := by kernel_rfl
  f5 := ⟨Tryd.f82.name, by decide, Tryd.func82.trans (congrArg some (by kernel_rfl))⟩
  f7 := ⟨Tryd.f103.name, by decide, Tryd.func103.trans (congrArg some (by kernel_rfl))⟩
  f8 := Tryd.func104.trans (congrArg some (by kernel_rfl))
  f10 := ⟨Tryd.f116.name, by decide, Tryd.func116.trans (congrArg some (by kernel_rfl))⟩
  f11 := ⟨Tryd.f117.name, by decide, Tryd.func117.trans (congrArg some (by kernel_rfl))⟩
  f12 := ⟨Tryd.f118.name, by decide, Tryd.func118.trans (congrArg some (by kernel_rfl))⟩
  f13 := ⟨Tryd.f119.name, by decide, Tryd.func119.trans (congrArg some (by kernel_rfl))⟩
  f14 := ⟨Tryd.f120.name, by decide, Tryd.func120.trans (congrArg some (by kernel_rfl))⟩
  f15 := ⟨Tryd.f121.name, by decide, Tryd.func121.trans (congrArg some (by kernel_rfl))⟩
  f16 := ⟨Tryd.f122.name, by decide, Tryd.func122.trans (congrArg some (by kernel_rfl))⟩
  f17 := ⟨Tryd.f123.name, by decide, Tryd.func123.trans (congrArg some (by kernel_rfl))⟩
  f18 := ⟨Tryd.f124.name, by decide, Tryd.func124.trans (congrArg some (by kernel_rfl))⟩
  f19 := Tryd.func125.trans (congrArg some (by kernel_rfl))
  f20 := Tryd.func126.trans (congrArg some (by kernel_rfl))
  f30 := ⟨Tryd.f131.name, by decide, Tryd.func131.trans (congrArg some (by kernel_rfl))⟩
  f31 := Tryd.func132.trans (congrArg some (by kernel_rfl))
  f32 := Tryd.func133.trans (congrArg some (by kernel_rfl))
  f33 := ⟨Tryd.f134.name, by decide, Tryd.func134.trans (congrArg some (by kernel_rfl))⟩
  f34 := ⟨Tryd.f135.name, by decide, Tryd.func135.trans (congrArg some (by kernel_rfl))⟩
  f35 := ⟨Tryd.f115.name, by decide, Tryd.func115.trans (congrArg some (by kernel_rfl))⟩
  f40 := ⟨Tryd.f137.name, by decide, Tryd.func137.trans (congrArg some (by kernel_rfl))⟩
  t0 := Tryd.underlying0
  a0 := Tryd.isAgg0
  z0 := Tryd.sizeOf0
  v0 := Tryd.zeroValue0
  t3 := Tryd.underlying3
  a3 := Tryd.isAgg3
  z3 := Tryd.sizeOf3
  v3 := Tryd.zeroValue3
  t4 := Tryd.underlying4
  a4 := Tryd.isAgg4
  z4 := Tryd.sizeOf4
  v4 := Tryd.zeroValue4
  t5 := Tryd.underlying5
  a5 := Tryd.isAgg5
  z5 := Tryd.sizeOf5
  v5 := Tryd.zeroValue5
  t9 := Tryd.underlying9
  a9 := Tryd.isAgg9
  z9 := Tryd.sizeOf9
  v9 := Tryd.zeroValue9
  t22 := Tryd.underlying131
  a22 := Tryd.isAgg131
  z22 := Tryd.sizeOf131
  v22 := Tryd.zeroValue131
  t23 := Tryd.underlying131
  a23 := Tryd.isAgg131
  z23 := Tryd.sizeOf131
  v23 := Tryd.zeroValue131
  t25 := Tryd.underlying3
  a25 := Tryd.isAgg3
  z25 := Tryd.sizeOf3
  v25 := Tryd.zeroValue3
  t32 := Tryd.underlying154
  a32 := Tryd.isAgg154
  z32 := Tryd.sizeOf154
  v32 := Tryd.zeroValue154
  t35 := Tryd.underlying168
  a35 := Tryd.isAgg168
  z35 := Tryd.sizeOf168
  v35 := Tryd.zeroValue168
  t36 := Tryd.underlying169
  a36 := Tryd.isAgg169
  z36 := Tryd.sizeOf169
  v36 := Tryd.zeroValue169
  t41 := Tryd.underlying173
  a41 := Tryd.isAgg173
  z41 := Tryd.sizeOf173
  v41 := Tryd.zeroValue173
  t44 := Tryd.underlying176
  a44 := Tryd.isAgg176
  z44 := Tryd.sizeOf176
  v44 := Tryd.zeroValue176
  t46 := Tryd.underlying151
  a46 := Tryd.isAgg151
  z46 := Tryd.sizeOf151
  v46 := Tryd.zeroValue151
  t53 := Tryd.underlying185
  a53 := Tryd.isAgg185
  z53 := Tryd.sizeOf185
  v53 := Tryd.zeroValue185
  t57 := Tryd.underlying189
  a57 := Tryd.isAgg189
  z57 := Tryd.sizeOf189
  v57 := Tryd.zeroValue189
  t63 := Tryd.underlying191
  a63 := Tryd.isAgg191
  z63 := Tryd.sizeOf191
  v63 := Tryd.zeroValue191
  t64 := Tryd.underlying178
  a64 := Tryd.isAgg178
  z64 := Tryd.sizeOf178
  v64 := Tryd.zeroValue178 }
end Go.Proofs
namespace Go.Icz
open Go.RowKit Go.Lib Go.Sort Go.Proofs
def OwnI (w : World) (B : Nat) (v : Value) (l : List Int) : Prop := w.ownsRow B 3 1 v l.length (l.map (Value.int .i64))
theorem cells_int (l : List Int) : KInt.cells l = l.map (Value.int .i64) := by
  unfold Kd.cells
  induction l with
  | nil => rfl
  | cons x t ih => rw [List.flatMap_cons, List.map_cons, ih]; rfl
theorem ownI_iff {w : World} {B : Nat} {v : Value} {l : List Int} : KInt.Own w B v l ↔ OwnI w B v l := by
  unfold Kd.Own OwnI
  rw [cells_int]
  exact Iff.rfl
theorem OwnI.block {w : World} {B : Nat} {v : Value} {l : List Int} (h : OwnI w B v l) (hv : v ≠ .slice none 0 0) :
    ∃ g cap cur, v = .slice (some ⟨g, 0, none⟩) l.length cap ∧ B ≤ g ∧ g < w.heap.size ∧ w.heap[g]? = some (.cells cur 3 (0, 0)) ∧ l.length ≤ cap ∧ cap ≤ maxLen ∧ cur.size = cap * 1 ∧ Holds (Value.int .i64) w g 0 l.toArray := by
  obtain ⟨g, cap, e1, e2, e3, e4, e5, e6, e7⟩ := holds_of_ownsRow (enc := Value.int .i64) h hv
  rcases h.2 with ⟨e0, _⟩ | ⟨g', cap', cur, e0, hb, hg, hn, hm, hs, ht⟩
  · exact absurd e0 hv
  · rw [e1] at e0
    injection e0 with q1 _ q3
    injection q1 with q1
    injection q1 with q1
    subst q1 q3
    exact ⟨g, cap, cur, e1, e2, e3, hg, e4, e5, hs, e7⟩
theorem below_grow {B : Nat} {w0 w : World} (h : Below B w0 w) (os : Array Obj) (hB : B ≤ w.heap.size) : Below B w0 (grow w os) :=
  ⟨h.os, h.tape, h.output, by show w0.heap.size ≤ (w.heap ++ os).size; rw [Array.size_append]; exact Nat.le_trans h.size (Nat.le_add_right _ _), fun k hk => by
    rw [← h.block k hk]
    exact heap_grow_old w os (by omega)⟩
theorem mergeSort_len (l : List Int) : (l.mergeSort fun x y => decide (x ≤ y)).length = l.length := List.length_mergeSort _
theorem sort_own {P : Program} {f : Nat} (hS : ∀ (blk off cap : Nat) (zs : List Int) (W : World), Holds (Value.int .i64) W blk off zs.toArray → blk < W.heap.size → zs.length < 4611686018427387904 →
      Calls P f #[.slice (some ⟨blk, off, none⟩) zs.length cap] W fun e w' => e = .returned (.tuple #[]) ∧ ∃ n os, w' = grow (putRow (Value.int .i64) (Sort.ahead W n) blk off (zs.mergeSort fun x y => decide (x ≤ y)).toArray) os)
    (hN : ∀ (p : Option Addr) (cap : Nat) (W : World), Calls P f #[.slice p 0 cap] W fun e w' => e = .returned (.tuple #[]) ∧ w' = W)
    {w : World} {B : Nat} {v : Value} {l : List Int} (h : OwnI w B v l) (hl : l.length < 4611686018427387904) :
    Calls P f #[v] w fun e w' => e = .returned (.tuple #[]) ∧ OwnI w' B v (l.mergeSort fun x y => decide (x ≤ y)) ∧ Below B w w' := by
  by_cases hv : v = .slice none 0 0
  · subst hv
    have h0 : l = [] := by
      rcases h.2 with ⟨_, hn⟩ | ⟨g', cap', cur, e0, _⟩
      · exact List.eq_nil_of_length_eq_zero hn
      · cases e0
    subst h0
    refine (hN none 0 w).mono ?_
    rintro e w' ⟨rfl, rfl⟩
    exact ⟨rfl, by simpa using h, Below.refl _ _⟩
  · obtain ⟨g, cap, cur, rfl, hB, hg, hh, h1, h2, h3, hH⟩ := h.block hv
    refine (hS g 0 cap l w hH hg hl).mono ?_
    rintro e w' ⟨rfl, n, os, rfl⟩
    have o := ownsRow_sorted_i (base := B) (g := g) (n := n) (os := os) (ts := l.mergeSort fun x y => decide (x ≤ y)) (mergeSort_len l) hB hh h1 h2 h3
    refine ⟨rfl, ?_, below_grow (below_putRow (Below.refl B w) hB) os (by simp [putRow, mapBlock, Sort.ahead]; omega)⟩
    unfold OwnI
    rw [mergeSort_len]
    exact o
end Go.Icz
namespace Go.Proofs.YtelabmcghahclaaDoor
open Go.RowKit Go.Icz Go.Lib Go.Sort
theorem Sort_is {w : World} {B : Nat} {v : Value} {l : List Int} (h : KInt.Own w B v l) (hl : l.length < 4611686018427387904) :
    Calls Tryd.prog 82 #[v] w fun e w' => e = .returned (.tuple #[]) ∧ KInt.Own w' B v (l.mergeSort fun x y => decide (x ≤ y)) ∧ Below B w w' := by
  refine (sort_own (f := 82) (fun blk off cap zs W h1 h2 h3 => AnyM.slices_Sort_int Tryd.sortI blk off cap zs W h1 h2 h3) (fun p cap W => AnyM.slices_Sort_int_none Tryd.sortI p cap W) (ownI_iff.1 h) hl).mono ?_
  rintro e w' ⟨rfl, o, b⟩
  exact ⟨rfl, ownI_iff.2 o, b⟩
end Go.Proofs.YtelabmcghahclaaDoor
