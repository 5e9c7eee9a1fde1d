/-
  What the library's functions on lists of int answer at this program: sort, compact, search, grow, concat. Conditions: those that each theorem names.
-/
import Derived.Test.YtcdepphkocdlnaaDoorWrite
import Derived.Test.YtcdepphkocdlnaaDoorIntsGrow
import Derived.Shelf.SlGeneric
import Derived.Shelf.SlicesG.CompactI
import Derived.Shelf.SlicesG.SearchI
import Derived.Shelf.SlicesE.DeleteFunc
import Derived.Shelf.SortM.Plain
import Derived.Shelf.SortM.SortNone
import Derived.Shelf.Spec.SlicesGrow
import Derived.Ground.SlgnProg
import Derived.Ground.SlgfProg
import Derived.Ground.SlgmProg
import Derived.Ground.Names8Prog
namespace Go.Proofs
open Go.Shelf
shelf_lay_g SlLaysM.n5 Slgm 5 at Tryd 69 as Tryd.sortI
shelf_lay_g SlLaysN.n43 Slgn 43 at Tryd 70 as Tryd.compactI
shelf_lay_g SlLaysN.n49 Slgn 49 at Tryd 77 as Tryd.searchI
shelf_lay_g SlLaysH.n10 Slgf 10 at Tryd 75 as Tryd.deleteI
shelf_lay_g Lays8.n4 Nm8 4 at Tryd 85 as Tryd.growI
end Go.Proofs
namespace Go.Proofs.YtcdepphkocdlnaaDoor
open Go.RowKit Go.Icz Go.Lib Go.Sort
theorem stdI : StdI Tryd.prog := ⟨Tryd.underlying41, by kernel_rfl⟩
theorem Sort_is {w : World} {B : Nat} {v : Value} {l : List Int} (h : OwnI w B v l) (hl : l.length < 4611686018427387904) :
    Calls Tryd.prog 69 #[v] w fun e w' => e = .returned (.tuple #[]) ∧ OwnI w' B v (l.mergeSort fun x y => decide (x ≤ y)) ∧ Below B w w' :=
  sort_own (f := 69) (fun blk off cap zs W h1 h2 h3 => AnyM.slices_Sort_int Tryd.sortI blk off cap zs W h1 h2 h3) (fun p cap W => AnyM.slices_Sort_int_none Tryd.sortI p cap W) h hl
theorem Compact_is {w : World} {B : Nat} {v : Value} {l : List Int} (h : OwnI w B v l) :
    Calls Tryd.prog 70 #[v] w fun e w' => ∃ v', e = .returned v' ∧ OwnI w' B v' (Lib.compact l) ∧ Below B w w' :=
  compact_own (f := 70) (fun blk off cap zs W h1 h2 h3 => AnyG.slices_Compact_int Tryd.compactI blk off cap zs W h1 h2 h3) (fun p cap W => AnyG.slices_Compact_int_empty Tryd.compactI p cap W) h
theorem Grow_is (n : Nat) (hn : n ≤ 17592186044416) (w : World) :
    Calls Tryd.prog 85 #[.slice none 0 0, .int .i64 n] w fun e w' => ∃ v, e = .returned v ∧ OwnI w' w.heap.size v [] ∧ Below w.heap.size w w' :=
  grow_own (f := 85) stdI (fun w => Any8.slices_Grow_room Tryd.growI none 0 0 0 w (by omega) (by omega) (by omega) (by omega))
    (fun i0 z hi hz hs n w h0 hb h63 => by
      have h := Any8.slices_Grow_grow Tryd.growI i0 z hi hz hs none 0 0 n [] w (by omega) (by omega) (by simpa using hb) (by omega) (by simp) (fun _ => rfl) (fun a ha => by cases ha)
      simp only [Nat.zero_add, Nat.sub_zero] at h
      exact h) n hn w
/-- A row of lists. -/
def RdSS (w : World) (v : Value) (L : List (List Int)) : Prop :=
  ∃ g, v = .slice (some ⟨g, 0, none⟩) L.length L.length ∧ g < w.heap.size ∧ ∀ j (hj : j < L.length), ∃ u, w.cell? ⟨g, j, none⟩ = some u ∧ RdI w u L[j]
theorem RdSS.one {w : World} {v : Value} {l : List Int} (h : RdI w v l) : RdSS (w.alloc (.cells #[v] 41)) (.slice (some ⟨w.heap.size, 0, none⟩) 1 1) [l] := by
  have hh := heap_alloc_new w (.cells #[v] 41)
  refine ⟨w.heap.size, rfl, by simp, fun j hj => ?_⟩
  match j, hj with
  | 0, _ => exact ⟨v, held_cell hh rfl, h.alloc _⟩
theorem RdSS.two {w : World} {v u : Value} {l m : List Int} (h : RdI w v l) (h2 : RdI w u m) : RdSS (w.alloc (.cells #[v, u] 41)) (.slice (some ⟨w.heap.size, 0, none⟩) 2 2) [l, m] := by
  have hh := heap_alloc_new w (.cells #[v, u] 41)
  refine ⟨w.heap.size, rfl, by simp, fun j hj => ?_⟩
  match j, hj with
  | 0, _ => exact ⟨v, held_cell hh rfl, h.alloc _⟩
  | 1, _ => exact ⟨u, held_cell hh rfl, h2.alloc _⟩
theorem flat_take (L : List (List Int)) (i : Nat) (hi : i < L.length) : (L.take (i + 1)).flatten = (L.take i).flatten ++ L[i] := by
  rw [List.take_succ_eq_append_getElem hi, List.flatten_append]
  simp
theorem flat_le (L : List (List Int)) (i : Nat) : (L.take i).flatten.length ≤ L.flatten.length := by
  have h := congrArg List.length (congrArg List.flatten (List.take_append_drop i L))
  rw [List.flatten_append, List.length_append] at h
  omega
set_option maxHeartbeats 2000000 in
set_option maxRecDepth 100000 in
theorem Concat_is (v : Value) (L : List (List Int)) (w : World) (hR : RdSS w v L) (hk : L.length ≤ 4611686018427387904) (hlen : L.flatten.length ≤ 17592186044416) :
    Calls Tryd.prog 68 #[v] w fun e w' => ∃ v', e = .returned v' ∧ OwnI w' w.heap.size v' L.flatten ∧ Below w.heap.size w w' := by
  obtain ⟨g, rfl, hg, hcell⟩ := hR
  go_enter Tryd.func68, Tryd.ntmps68
  go_wp2_with fail
  go_loopw [3, 11] (fun sv iv wr => ∃ i s : Nat, iv = .int .i64 i ∧ sv = .int .i64 s ∧ i ≤ L.length ∧ s ≤ 17592186044416 ∧ Below w.heap.size w wr ∧ Hid (s = (L.take i).flatten.length)) (fun _ iv _ => L.length - (intOf iv).toNat)
  case atStart => exact ⟨0, 0, rfl, rfl, by omega, by omega, Below.refl _ _, hid (by simp)⟩
  case round =>
    obtain ⟨i, s, rfl, rfl, hi, hs, hb0, HS⟩ := hrel
    by_cases hlt : i < L.length
    · obtain ⟨u, c0, r0⟩ := hcell i hlt
      have c0 := (hb0.cell (p := ⟨g, i, none⟩) hg).trans c0
      have hft := flat_take L i hlt
      have hfl := flat_le L (i + 1)
      have HS2 : Hid (s + L[i].length = (L.take (i + 1)).flatten.length) := hid (by rw [hft, List.length_append, HS.out])
      have hb : s + L[i].length ≤ 17592186044416 := by rw [HS2.out]; omega
      obtain ⟨A, c, rfl, hc, _⟩ := r0
      clear hft hfl HS
      have HC := hid hcell
      clear hcell
      generalize L[i] = x at *
      have hlt' : (i : Int) < (L.length : Int) := by omega
      go_wp2_with fail
      go_roundw
      case rel => exact ⟨i + 1, s + x.length, by go_num, by go_num, by omega, hb, hb0, HS2⟩
      case measure => simp [intOf]; omega
    · have hge : ¬ (i : Int) < (L.length : Int) := by omega
      obtain rfl : i = L.length := by omega
      have HG := fun w1 => Grow_is s hs w1
      have hss : s = L.flatten.length := by rw [HS.out, List.take_length]
      clear HS
      have HSS := hid hss
      clear hss
      go_wp2_with (go_at_call 85; refine (HG _).mono ?_; rintro e w1 ⟨v1, rfl, o1', b1'⟩; have o1 := o1'.mono hb0.size; have b1 := hb0.trans (b1'.mono hb0.size); clear HG o1' b1')
      go_loopw [6, 27] (fun nv iv wr => ∃ i : Nat, iv = .int .i64 i ∧ i ≤ L.length ∧ OwnI wr w.heap.size nv (L.take i).flatten ∧ Below w.heap.size w wr) (fun _ iv _ => L.length - (intOf iv).toNat)
      case atStart => exact ⟨0, rfl, by omega, by simpa using o1, b1⟩
      case round =>
        obtain ⟨i, rfl, hi, ho, hb⟩ := hrel
        by_cases hlt : i < L.length
        · obtain ⟨u, c0, r0⟩ := hcell i hlt
          have hft := flat_take L i hlt
          have hfl := flat_le L (i + 1)
          have c0 := (hb.cell (p := ⟨g, i, none⟩) hg).trans c0
          have r0 := r0.below hb
          have hsz := hb.size
          rw [hft, List.length_append] at hfl
          have HF := hid hft
          have hlt' : (i : Int) < (L.length : Int) := by omega
          clear hft hcell o1 b1 hge
          generalize (L.take i).flatten = X at *
          generalize L[i] = x at *
          have hb9 : X.length + x.length ≤ 17592186044416 := by omega
          have hu := r0
          obtain ⟨A, c, rfl, hc, _⟩ := hu
          go_wp2_with (at_builtin; refine wp_appI stdI rfl (.tmp 31) (.tmp 32) rfl w.heap.size _ _ X x rfl ho rfl r0 hb9 hsz ?_; intro v2 w2 o2 b2 _; clear ho)
          go_roundw
          case rel => exact ⟨i + 1, by go_num, by omega, by rw [HF.out]; exact o2, hb.trans b2⟩
          case measure => simp [intOf]; omega
        · have hge : ¬ (i : Int) < (L.length : Int) := by omega
          obtain rfl : i = L.length := by omega
          rw [List.take_length] at ho
          go_wp2_with fail
          go_ret
          exact ⟨_, rfl, ho, hb⟩
end Go.Proofs.YtcdepphkocdlnaaDoor
