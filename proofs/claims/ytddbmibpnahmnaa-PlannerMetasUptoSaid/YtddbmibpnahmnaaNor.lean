/-
  The order of two Metas, as the program compares them. No condition.
-/
import Derived.Test.YtddbmibpnahmnaaNsm
namespace Go.Proofs.Ytddbmibpnahmnaa
open Go.RowKit Go.Icz
set_option maxRecDepth 100000 in
theorem Or_is (r1 r2 : Int) (b : Nat) (w : World) (h0 : w.cell? ⟨b, 0, none⟩ = some (.int .i64 r1)) (h1 : w.cell? ⟨b, 1, none⟩ = some (.int .i64 r2)) :
    Calls Try.prog 55 #[.slice (some ⟨b, 0, none⟩) 2 2] w fun e w' => e = .returned (.int .i64 (or2 r1 r2)) ∧ w = w' := by
  go_enter Try.func55, Try.ntmps55
  go_wp2
  go_loopw [8] (fun iv wr => wr = w ∧ ((iv = .int .i64 0) ∨ (iv = .int .i64 1 ∧ r1 = 0) ∨ (iv = .int .i64 2 ∧ r1 = 0 ∧ r2 = 0))) (fun iv _ => 2 - (intOf iv).toNat)
  case atStart => exact ⟨rfl, .inl rfl⟩
  case round =>
    obtain ⟨rfl, h | ⟨h, e1⟩ | ⟨h, e1, e2⟩⟩ := hrel
    · subst h
      by_cases hr : r1 = 0
      · subst hr
        go_wp2
        go_roundw
        case rel => simp
        case measure => simp [intOf]
      · have hb : (r1 == 0) = false := by simpa using hr
        go_wp2
        go_ret
        exact ⟨by unfold or2; rw [if_pos hr]; rfl, rfl⟩
    · subst h e1
      by_cases hr : r2 = 0
      · subst hr
        go_wp2
        go_roundw
        case rel => simp
        case measure => simp [intOf]
      · have hb : (r2 == 0) = false := by simpa using hr
        go_wp2
        go_ret
        exact ⟨by unfold or2; rw [if_neg (by simp)]; rfl, rfl⟩
    · subst h e1 e2
      go_wp2
      go_ret
      exact ⟨rfl, rfl⟩
theorem ints_new (w : World) (r1 r2 : Int) : (w.alloc (.cells #[.int .i64 r1, .int .i64 r2] 3)).cell? ⟨w.heap.size, 0, none⟩ = some (.int .i64 r1) ∧ (w.alloc (.cells #[.int .i64 r1, .int .i64 r2] 3)).cell? ⟨w.heap.size, 1, none⟩ = some (.int .i64 r2) :=
  ⟨held_cell (heap_alloc_new w (.cells #[.int .i64 r1, .int .i64 r2] 3)) rfl, held_cell (heap_alloc_new w (.cells #[.int .i64 r1, .int .i64 r2] 3)) rfl⟩
theorem NaN_is (a : Int) (w : World) : Calls Try.prog 67 #[.int .i64 a] w fun e w' => e = .returned (.bool false) ∧ w = w' := by
  go_enter Try.func67, Try.ntmps67
  go_wp2
  go_ret
  exact ⟨rfl, rfl⟩
theorem Compare_is (a b : Int) (w : World) : Calls Try.prog 56 #[.int .i64 a, .int .i64 b] w fun e w' => e = .returned (.int .i64 (icmp a b)) ∧ w = w' := by
  by_cases h1 : a < b
  · have H : Hid (icmp a b = -1) := hid (by unfold icmp; rw [if_pos h1])
    rw [H.out]
    go_enter Try.func56, Try.ntmps56
    go_wp2_with (go_at_call 67; refine (NaN_is _ _).mono ?_; rintro e w' ⟨rfl, rfl⟩)
    go_ret
    exact ⟨rfl, rfl⟩
  · by_cases h2 : b < a
    · have H : Hid (icmp a b = 1) := hid (by unfold icmp; rw [if_neg h1, if_pos h2])
      rw [H.out]
      go_enter Try.func56, Try.ntmps56
      go_wp2_with (go_at_call 67; refine (NaN_is _ _).mono ?_; rintro e w' ⟨rfl, rfl⟩)
      go_ret
      exact ⟨rfl, rfl⟩
    · have H : Hid (icmp a b = 0) := hid (by unfold icmp; rw [if_neg h1, if_neg h2])
      rw [H.out]
      go_enter Try.func56, Try.ntmps56
      go_wp2_with (go_at_call 67; refine (NaN_is _ _).mono ?_; rintro e w' ⟨rfl, rfl⟩)
      go_ret
      exact ⟨rfl, rfl⟩
set_option maxHeartbeats 2000000 in
set_option maxRecDepth 100000 in
theorem order_is (x y : MV) (W : World) : Calls Try.prog 50 #[metaV x, metaV y] W fun e w' => e = .returned (.int .i64 (cmpM x y)) ∧ Gw W w' := by
  have e0 : Hid (cmpM x y = or2 (icmp x.first y.first) (icmp x.id y.id)) := hid rfl
  have hOr : ∀ (r1 r2 : Int) (w : World), Calls Try.prog 55 #[.slice (some ⟨w.heap.size, 0, none⟩) 2 2] (w.drew.alloc (.cells #[.int .i64 r1, .int .i64 r2] 3)) fun e w' => e = .returned (.int .i64 (or2 r1 r2)) ∧ w.drew.alloc (.cells #[.int .i64 r1, .int .i64 r2] 3) = w' := fun r1 r2 w => Or_is r1 r2 w.heap.size _ (ints_new w.drew r1 r2).1 (ints_new w.drew r1 r2).2
  have k1 := (Mc.of_row (box_row W #[.int .i64 x.id, .int .i64 x.least, .int .i64 x.most, .int .i64 x.first, .int .i64 x.last, .int .i64 x.rows, .int .i64 x.bytes, .int .i64 x.level] 28)).below ((Below.refl _ _).alloc (Nat.le_refl _) (.cells #[.int .i64 y.id, .int .i64 y.least, .int .i64 y.most, .int .i64 y.first, .int .i64 y.last, .int .i64 y.rows, .int .i64 y.bytes, .int .i64 y.level] 28)) (by simp)
  have k2 := Mc.of_row (box_row (W.alloc (.cells #[.int .i64 x.id, .int .i64 x.least, .int .i64 x.most, .int .i64 x.first, .int .i64 x.last, .int .i64 x.rows, .int .i64 x.bytes, .int .i64 x.level] 28)) #[.int .i64 y.id, .int .i64 y.least, .int .i64 y.most, .int .i64 y.first, .int .i64 y.last, .int .i64 y.rows, .int .i64 y.bytes, .int .i64 y.level] 28)
  rw [World.size_alloc] at k2
  have g2 : Gw W ((W.alloc (.cells #[.int .i64 x.id, .int .i64 x.least, .int .i64 x.most, .int .i64 x.first, .int .i64 x.last, .int .i64 x.rows, .int .i64 x.bytes, .int .i64 x.level] 28)).alloc (.cells #[.int .i64 y.id, .int .i64 y.least, .int .i64 y.most, .int .i64 y.first, .int .i64 y.last, .int .i64 y.rows, .int .i64 y.bytes, .int .i64 y.level] 28)) := ((Gw.refl W).alloc _).alloc _
  have z2 : ((W.alloc (.cells #[.int .i64 x.id, .int .i64 x.least, .int .i64 x.most, .int .i64 x.first, .int .i64 x.last, .int .i64 x.rows, .int .i64 x.bytes, .int .i64 x.level] 28)).alloc (.cells #[.int .i64 y.id, .int .i64 y.least, .int .i64 y.most, .int .i64 y.first, .int .i64 y.last, .int .i64 y.rows, .int .i64 y.bytes, .int .i64 y.level] 28)).heap.size = W.heap.size + 1 + 1 := by simp
  unfold metaV
  go_enter Try.func50, Try.ntmps50
  go_wp2_with fail
  generalize (W.alloc (.cells #[.int .i64 x.id, .int .i64 x.least, .int .i64 x.most, .int .i64 x.first, .int .i64 x.last, .int .i64 x.rows, .int .i64 x.bytes, .int .i64 x.level] 28)).alloc (.cells #[.int .i64 y.id, .int .i64 y.least, .int .i64 y.most, .int .i64 y.first, .int .i64 y.last, .int .i64 y.rows, .int .i64 y.bytes, .int .i64 y.level] 28) = W3 at *
  have Z2 := hid z2
  clear z2
  have mkS : ∀ w', Gw W3 w' → Gw W3 w' ∧ w'.cell? ⟨W.heap.size, 0, none⟩ = some (.int .i64 x.id) ∧ w'.cell? ⟨W.heap.size, 3, none⟩ = some (.int .i64 x.first) ∧ w'.cell? ⟨W.heap.size + 1, 0, none⟩ = some (.int .i64 y.id) ∧ w'.cell? ⟨W.heap.size + 1, 3, none⟩ = some (.int .i64 y.first) := fun w' h => by
    have h1 := k1.below h.below (by have := Z2.out; omega)
    have h2 := k2.below h.below (by have := Z2.out; omega)
    exact ⟨h, by simpa using h1.c0, by simpa using h1.c3, by simpa using h2.c0, by simpa using h2.c3⟩
  have hk := mkS W3.drew (Gw.refl _).drew
  clear k1 k2
  go_region_held3 (fun w' => Gw W3 w' ∧ w'.cell? ⟨W.heap.size, 0, none⟩ = some (.int .i64 x.id) ∧ w'.cell? ⟨W.heap.size, 3, none⟩ = some (.int .i64 x.first) ∧ w'.cell? ⟨W.heap.size + 1, 0, none⟩ = some (.int .i64 y.id) ∧ w'.cell? ⟨W.heap.size + 1, 3, none⟩ = some (.int .i64 y.first)) (first | exact hk | exact mkS _ (hk.1.alloc _))
    (first | (go_at_call 56; refine (Compare_is _ _ _).mono ?_; rintro e w1 ⟨rfl, rfl⟩) | (go_at_call 55; refine (hOr _ _ _).mono ?_; rintro e w3 ⟨rfl, rfl⟩))
  all_goals
    go_wp2
    go_ret
    exact ⟨by rw [e0.out]; rfl, g2.trans (hk.1.alloc _)⟩
end Go.Proofs.Ytddbmibpnahmnaa
