/-
  What record.Size, Before and the law's knows answer. Conditions: those that each theorem names.
  What the comparer of entries answers, and record.Before. Conditions: none but that the entries are entries.
  What the law's knows answers. Conditions: the tables of package utf8 are in place.
-/
import Derived.Test.YtaoeabnpmpimgaaDoorEntPut
import Derived.Deep.RegionHeld3
section
namespace Go.Proofs.YtaoeabnpmpimgaaDoor
open Go.RowKit Go.Icz
end Go.Proofs.YtaoeabnpmpimgaaDoor
end
section
namespace Go.Icz
open Go.RowKit
def icmp (a b : Int) : Int := if a < b then -1 else if b < a then 1 else 0
def or2 (x y : Int) : Int := if x ≠ 0 then x else y
def cmpE (x y : Ent) : Int := or2 (icmp x.time y.time) (icmp x.seq y.seq)
end Go.Icz
namespace Go.Proofs.YtaoeabnpmpimgaaDoor
open Go.RowKit Go.Icz
set_option maxRecDepth 100000 in
theorem Or_is (r1 r2 : Int) (b : Nat) (w : World) (h0 : w.cell? ⟨b, 0, none⟩ = some (.int .i64 r1)) (h1 : w.cell? ⟨b, 1, none⟩ = some (.int .i64 r2)) :
    Calls Tryd.prog 47 #[.slice (some ⟨b, 0, none⟩) 2 2] w fun e w' => e = .returned (.int .i64 (or2 r1 r2)) ∧ w = w' := by
  go_enter Tryd.func47, Tryd.ntmps47
  go_wp2
  go_loopw [8] (fun iv wr => wr = w ∧ ((iv = .int .i64 0) ∨ (iv = .int .i64 1 ∧ r1 = 0) ∨ (iv = .int .i64 2 ∧ r1 = 0 ∧ r2 = 0))) (fun iv _ => 2 - (intOf iv).toNat)
  case atStart => exact ⟨rfl, .inl rfl⟩
  case round =>
    obtain ⟨rfl, h | ⟨h, e1⟩ | ⟨h, e1, e2⟩⟩ := hrel
    · subst h
      by_cases hr : r1 = 0
      · subst hr
        go_wp2
        go_roundw
        case rel => simp
        case measure => simp [intOf]
      · have hb : (r1 == 0) = false := by simpa using hr
        go_wp2
        go_ret
        exact ⟨by unfold or2; rw [if_pos hr]; rfl, rfl⟩
    · subst h e1
      by_cases hr : r2 = 0
      · subst hr
        go_wp2
        go_roundw
        case rel => simp
        case measure => simp [intOf]
      · have hb : (r2 == 0) = false := by simpa using hr
        go_wp2
        go_ret
        exact ⟨by unfold or2; rw [if_neg (by simp)]; rfl, rfl⟩
    · subst h e1 e2
      go_wp2
      go_ret
      exact ⟨rfl, rfl⟩
theorem undrew' {B : Nat} {w w' : World} (h : Below B w.drew w') : Below B w w' := ⟨h.os, h.tape, h.output, h.size, h.block⟩
theorem ints_new (w : World) (r1 r2 : Int) : (w.alloc (.cells #[.int .i64 r1, .int .i64 r2] 3)).cell? ⟨w.heap.size, 0, none⟩ = some (.int .i64 r1) ∧ (w.alloc (.cells #[.int .i64 r1, .int .i64 r2] 3)).cell? ⟨w.heap.size, 1, none⟩ = some (.int .i64 r2) :=
  ⟨held_cell (heap_alloc_new w (.cells #[.int .i64 r1, .int .i64 r2] 3)) rfl, held_cell (heap_alloc_new w (.cells #[.int .i64 r1, .int .i64 r2] 3)) rfl⟩
theorem NaN_is (a : Int) (w : World) : Calls Tryd.prog 81 #[.int .i64 a] w fun e w' => e = .returned (.bool false) ∧ w = w' := by
  go_enter Tryd.func81, Tryd.ntmps81
  go_wp2
  go_ret
  exact ⟨rfl, rfl⟩
theorem Compare_is (a b : Int) (w : World) : Calls Tryd.prog 66 #[.int .i64 a, .int .i64 b] w fun e w' => e = .returned (.int .i64 (icmp a b)) ∧ w = w' := by
  by_cases h1 : a < b
  · have H : Hid (icmp a b = -1) := hid (by unfold icmp; rw [if_pos h1])
    rw [H.out]
    go_enter Tryd.func66, Tryd.ntmps66
    go_wp2_with (go_at_call 81; refine (NaN_is _ _).mono ?_; rintro e w' ⟨rfl, rfl⟩)
    go_ret
    exact ⟨rfl, rfl⟩
  · by_cases h2 : b < a
    · have H : Hid (icmp a b = 1) := hid (by unfold icmp; rw [if_neg h1, if_pos h2])
      rw [H.out]
      go_enter Tryd.func66, Tryd.ntmps66
      go_wp2_with (go_at_call 81; refine (NaN_is _ _).mono ?_; rintro e w' ⟨rfl, rfl⟩)
      go_ret
      exact ⟨rfl, rfl⟩
    · have H : Hid (icmp a b = 0) := hid (by unfold icmp; rw [if_neg h1, if_neg h2])
      rw [H.out]
      go_enter Tryd.func66, Tryd.ntmps66
      go_wp2_with (go_at_call 81; refine (NaN_is _ _).mono ?_; rintro e w' ⟨rfl, rfl⟩)
      go_ret
      exact ⟨rfl, rfl⟩
theorem three_new (W : World) (o1 o2 o3 : Obj) : ((((W.alloc o1).alloc o2).alloc o3).heap[W.heap.size + 1]? = some o2) ∧ ((((W.alloc o1).alloc o2).alloc o3).heap[W.heap.size + 1 + 1]? = some o3) ∧ Below W.heap.size W (((W.alloc o1).alloc o2).alloc o3) := by
  have h2 := heap_alloc_new (W.alloc o1) o2
  have h3 := heap_alloc_new ((W.alloc o1).alloc o2) o3
  rw [World.size_alloc] at h2
  rw [World.size_alloc, World.size_alloc] at h3
  exact ⟨(Below.heap_alloc ((W.alloc o1).alloc o2) o3 (W.heap.size + 1) (by simp)).trans h2, h3, (((Below.refl _ W).alloc (Nat.le_refl _) _).alloc (by simp) _).alloc (by simp; omega) _⟩
set_option maxHeartbeats 2000000 in
set_option maxRecDepth 100000 in
theorem compare_is (x y : Ent) (A A' : Option Addr) (c c' : Nat) (W : World) : Calls Tryd.prog 43 #[.agg #[], entV x A c, entV y A' c'] W fun e w' => e = .returned (.int .i64 (cmpE x y)) ∧ Below W.heap.size W w' := by
  have e0 : Hid (cmpE x y = or2 (icmp x.time y.time) (icmp x.seq y.seq)) := hid rfl
  have hOr : ∀ (r1 r2 : Int) (w : World), Calls Tryd.prog 47 #[.slice (some ⟨w.heap.size, 0, none⟩) 2 2] (w.drew.alloc (.cells #[.int .i64 r1, .int .i64 r2] 3)) fun e w' => e = .returned (.int .i64 (or2 r1 r2)) ∧ w.drew.alloc (.cells #[.int .i64 r1, .int .i64 r2] 3) = w' := fun r1 r2 w => Or_is r1 r2 w.heap.size _ (ints_new w.drew r1 r2).1 (ints_new w.drew r1 r2).2
  unfold entV
  go_enter Tryd.func43, Tryd.ntmps43
  go_wp2
  have k := three_new W (.cells #[] 81) (.cells #[.int .i64 x.seq, .int .i64 x.time, .slice A x.labs.length c, .string ⟨x.line.toArray⟩] 50) (.cells #[.int .i64 y.seq, .int .i64 y.time, .slice A' y.labs.length c', .string ⟨y.line.toArray⟩] 50)
  generalize ((W.alloc (.cells #[] 81)).alloc (.cells #[.int .i64 x.seq, .int .i64 x.time, .slice A x.labs.length c, .string ⟨x.line.toArray⟩] 50)).alloc (.cells #[.int .i64 y.seq, .int .i64 y.time, .slice A' y.labs.length c', .string ⟨y.line.toArray⟩] 50) = W3 at *
  obtain ⟨k1, k2, kb⟩ := k
  have mkS : ∀ w', Below W3.heap.size W3 w' → Below W3.heap.size W3 w' ∧ w'.cell? ⟨W.heap.size + 1, 0, none⟩ = some (.int .i64 x.seq) ∧ w'.cell? ⟨W.heap.size + 1, 1, none⟩ = some (.int .i64 x.time) ∧ w'.cell? ⟨W.heap.size + 1 + 1, 0, none⟩ = some (.int .i64 y.seq) ∧ w'.cell? ⟨W.heap.size + 1 + 1, 1, none⟩ = some (.int .i64 y.time) := fun w' h =>
    ⟨h, held_cell (keep4 k1 h) rfl, held_cell (keep4 k1 h) rfl, held_cell (keep4 k2 h) rfl, held_cell (keep4 k2 h) rfl⟩
  have hk := mkS W3.drew (Below.refl _ _).drew
  clear k1 k2
  go_region_held3 (fun w' => Below W3.heap.size W3 w' ∧ w'.cell? ⟨W.heap.size + 1, 0, none⟩ = some (.int .i64 x.seq) ∧ w'.cell? ⟨W.heap.size + 1, 1, none⟩ = some (.int .i64 x.time) ∧ w'.cell? ⟨W.heap.size + 1 + 1, 0, none⟩ = some (.int .i64 y.seq) ∧ w'.cell? ⟨W.heap.size + 1 + 1, 1, none⟩ = some (.int .i64 y.time)) (first | exact hk | exact mkS _ (hk.1.alloc hk.1.size _))
    (first | (go_at_call 66; refine (Compare_is _ _ _).mono ?_; rintro e w1 ⟨rfl, rfl⟩) | (go_at_call 47; refine (hOr _ _ _).mono ?_; rintro e w3 ⟨rfl, rfl⟩))
  all_goals
    go_wp2
    go_ret
    exact ⟨by rw [e0.out]; rfl, kb.trans (((hk.1.alloc hk.1.size _)).mono kb.size)⟩
set_option maxHeartbeats 1000000 in
set_option maxRecDepth 100000 in
theorem Before_is (x y : Ent) (A A' : Option Addr) (c c' : Nat) (W : World) : Calls Tryd.prog 38 #[entV x A c, entV y A' c'] W fun e w' => e = .returned (.bool (decide (cmpE x y < 0))) ∧ Below W.heap.size W w' := by
  have hC := fun w1 => compare_is x y A A' c c' w1
  generalize cmpE x y = r at *
  unfold entV at *
  go_enter Tryd.func38, Tryd.ntmps38
  go_wp2_with (go_at_call 43; refine (hC _).mono ?_; rintro e w1 ⟨rfl, b1⟩)
  go_ret
  exact ⟨rfl, (((((Below.refl _ W).alloc (Nat.le_refl _) _).alloc (by simp) _).alloc (by simp; omega) _)).trans (b1.mono (by simp; omega))⟩
end Go.Proofs.YtaoeabnpmpimgaaDoor
end
section
namespace Go.Proofs.YtaoeabnpmpimgaaDoor
open Go.RowKit Go.Icz
def kx : Ent := ⟨1, 2, [([97], [120])], []⟩
theorem kx_right : entR kx = true := by decide +kernel
theorem kx_bytes : entB kx = [1, 2, 5, 1, 1, 97, 1, 120, 0] := by
  have n1 : num 1 = [1] := num_lo (by omega)
  have n2 : num 2 = [2] := num_lo (by omega)
  have n0 : num 0 = [0] := num_lo (by omega)
  have n5 : num 5 = [5] := num_lo (by omega)
  have a1 : txt ⟨#[97]⟩ = [1, 97] := by
    show num 1 ++ nats ⟨#[97]⟩ = _
    rw [n1]; rfl
  have a2 : txt ⟨#[120]⟩ = [1, 120] := by
    show num 1 ++ nats ⟨#[120]⟩ = _
    rw [n1]; rfl
  have a3 : bytesN kx.labs = [1, 1, 97, 1, 120] := by
    show num 1 ++ ((txt ⟨#[97]⟩ ++ txt ⟨#[120]⟩) ++ []) = _
    rw [n1, a1, a2]; rfl
  have a4 : txt (str [1, 1, 97, 1, 120]) = [5, 1, 1, 97, 1, 120] := by
    show num 5 ++ nats (str [1, 1, 97, 1, 120]) = _
    rw [n5]; rfl
  have a5 : txt ⟨#[]⟩ = [0] := by
    show num 0 ++ nats ⟨#[]⟩ = _
    rw [n0]; rfl
  unfold entB
  rw [a3, a4]
  show num 1 ++ num 2 ++ [5, 1, 1, 97, 1, 120] ++ txt ⟨#[]⟩ = _
  rw [n1, n2, a5]; rfl
theorem kx_before : decide (cmpE ⟨0, 1, [], []⟩ ⟨0, 2, [], []⟩ < 0) = true := by decide +kernel
end Go.Proofs.YtaoeabnpmpimgaaDoor
end
