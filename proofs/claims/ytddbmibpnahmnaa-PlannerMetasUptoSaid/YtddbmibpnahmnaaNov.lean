/-
  Which blocks are over; the closures that Look, Over and Pack hand on. Conditions: a block's Most is not below 0; a number is one that an int holds.
-/
import Derived.Test.YtddbmibpnahmnaaNrf
namespace Go.Proofs.Ytddbmibpnahmnaa
open Go.RowKit Go.Icz
theorem over_no1 {k n : Int} {x : MV} (h : ¬ 1 ≤ k) : overM k n x = false := decide_eq_false (fun a => h a.1)
theorem over_no2 {k n : Int} {x : MV} (h : ¬ x.most < n) : overM k n x = false := decide_eq_false (fun a => h a.2.1)
theorem over_no3 {k n : Int} {x : MV} (h : ¬ k ≤ n - x.most) : overM k n x = false := decide_eq_false (fun a => h a.2.2)
theorem over_yes {k n : Int} {x : MV} (h1 : 1 ≤ k) (h2 : x.most < n) (h3 : k ≤ n - x.most) : overM k n x = true := decide_eq_true ⟨h1, h2, h3⟩
set_option maxRecDepth 100000 in
theorem isOver_is (x : MV) (k n : Int) (w : World) (h0 : 0 ≤ x.most) (hn : n ≤ 9223372036854775807) : Calls Try.prog 46 #[metaV x, .int .i64 k, .int .i64 n] w fun e w' => e = .returned (.bool (overM k n x)) ∧ Below w.heap.size w w' := by
  unfold metaV
  have fin : ∀ o, Below w.heap.size w (w.alloc o) := fun o => (Below.refl _ w).alloc (Nat.le_refl _) _
  by_cases h1 : 1 ≤ k
  · by_cases h2 : x.most < n
    · have hw : IntKind.i64.wrap (n - x.most) = n - x.most := by rw [IntKind.wrap_i64]; omega
      by_cases h3 : k ≤ n - x.most
      · have e := hid (over_yes (x := x) h1 (show x.most < n by omega) h3)
        rw [e.out]
        go_enter Try.func46, Try.ntmps46
        go_wp2
        go_ret
        exact ⟨by simp <;> omega, fin _⟩
      · have e := hid (over_no3 (x := x) h3)
        rw [e.out]
        go_enter Try.func46, Try.ntmps46
        go_wp2
        go_ret
        exact ⟨by simp <;> omega, fin _⟩
    · have e := hid (over_no2 (k := k) (x := x) (show ¬ x.most < n by omega))
      rw [e.out]
      go_enter Try.func46, Try.ntmps46
      go_wp2
      go_ret
      exact ⟨by simp, fin _⟩
  · have e := hid (over_no1 (n := n) (x := x) h1)
    rw [e.out]
    go_enter Try.func46, Try.ntmps46
    go_wp2
    go_ret
    exact ⟨by simp, fin _⟩
set_option maxRecDepth 100000 in
theorem Over1_is (x : MV) (gk gn : Nat) (k n : Int) (w : World) (hk : w.cell? ⟨gk, 0, none⟩ = some (.int .i64 k)) (hn : w.cell? ⟨gn, 0, none⟩ = some (.int .i64 n)) (h0 : 0 ≤ x.most) (hn2 : n ≤ 9223372036854775807) :
    Calls Try.prog 45 #[metaV x, .pointer (some ⟨gk, 0, none⟩), .pointer (some ⟨gn, 0, none⟩)] w fun e w' => e = .returned (.bool (overM k n x)) ∧ Below w.heap.size w w' := by
  have hO := fun w1 => isOver_is x k n w1 h0 hn2
  generalize overM k n x = r at *
  unfold metaV at *
  have hk2 := fun o => (World.cell?_alloc_lt w o ⟨gk, 0, none⟩ (World.block_lt_of_cell? w _ hk)).trans hk
  have hn3 := fun o => (World.cell?_alloc_lt w o ⟨gn, 0, none⟩ (World.block_lt_of_cell? w _ hn)).trans hn
  have fin : ∀ o w1, Below (w.alloc o).heap.size (w.alloc o) w1 → Below w.heap.size w w1 := fun o w1 h => below_alloc (Nat.le_refl _) (h.mono (by simp))
  go_enter Try.func45, Try.ntmps45
  go_wp2_with (go_at_call 46; refine (hO _).mono ?_; rintro e w1 ⟨rfl, b1⟩)
  go_ret
  exact ⟨rfl, fin _ _ b1⟩
set_option maxRecDepth 100000 in
theorem Pack1_is (x : MV) (gk gn : Nat) (k n : Int) (w : World) (hk : w.cell? ⟨gk, 2, none⟩ = some (.int .i64 k)) (hn : w.cell? ⟨gn, 0, none⟩ = some (.int .i64 n)) (h0 : 0 ≤ x.most) (hn2 : n ≤ 9223372036854775807) :
    Calls Try.prog 48 #[metaV x, .pointer (some ⟨gk, 0, none⟩), .pointer (some ⟨gn, 0, none⟩)] w fun e w' => e = .returned (.bool (!overM k n x)) ∧ Below w.heap.size w w' := by
  have hO := fun w1 => isOver_is x k n w1 h0 hn2
  generalize overM k n x = r at *
  unfold metaV at *
  have hk2 := fun o => (World.cell?_alloc_lt w o ⟨gk, 2, none⟩ (World.block_lt_of_cell? w _ hk)).trans hk
  have hn3 := fun o => (World.cell?_alloc_lt w o ⟨gn, 0, none⟩ (World.block_lt_of_cell? w _ hn)).trans hn
  have fin : ∀ o w1, Below (w.alloc o).heap.size (w.alloc o) w1 → Below w.heap.size w w1 := fun o w1 h => below_alloc (Nat.le_refl _) (h.mono (by simp))
  go_enter Try.func48, Try.ntmps48
  go_wp2_with (go_at_call 46; refine (hO _).mono ?_; rintro e w1 ⟨rfl, b1⟩)
  go_ret
  exact ⟨rfl, fin _ _ b1⟩
/-- Rules, as a value. -/
def rulesV (f m k : Int) : Value := .agg #[.int .i64 f, .int .i64 m, .int .i64 k]
set_option maxRecDepth 100000 in
theorem packs_is (f m k : Int) (w : World) : Calls Try.prog 47 #[rulesV f m k] w fun e w' => e = .returned (.bool (packsM f m k)) ∧ Below w.heap.size w w' := by
  unfold rulesV
  have fin : ∀ o, Below w.heap.size w (w.alloc o) := fun o => (Below.refl _ w).alloc (Nat.le_refl _) _
  have NO : ∀ h : ¬ (2 ≤ f ∧ f ≤ 16 ∧ 1 ≤ m ∧ 1 ≤ k), packsM f m k = false := fun h => decide_eq_false h
  by_cases h0 : 2 ≤ f
  rotate_left
  · have e := hid (NO (by omega))
    rw [e.out]
    clear NO
    go_enter Try.func47, Try.ntmps47
    go_wp2
    go_ret
    exact ⟨by simp <;> omega, fin _⟩
  by_cases h1 : f ≤ 16
  rotate_left
  · have e := hid (NO (by omega))
    rw [e.out]
    clear NO
    go_enter Try.func47, Try.ntmps47
    go_wp2
    go_ret
    exact ⟨by simp <;> omega, fin _⟩
  by_cases h2 : 1 ≤ m
  rotate_left
  · have e := hid (NO (by omega))
    rw [e.out]
    clear NO
    go_enter Try.func47, Try.ntmps47
    go_wp2
    go_ret
    exact ⟨by simp <;> omega, fin _⟩
  by_cases h3 : 1 ≤ k
  rotate_left
  · have e := hid (NO (by omega))
    rw [e.out]
    clear NO
    go_enter Try.func47, Try.ntmps47
    go_wp2
    go_ret
    exact ⟨by simp <;> omega, fin _⟩
  have e : Hid (packsM f m k = true) := hid (decide_eq_true ⟨h0, h1, h2, h3⟩)
  rw [e.out]
  clear NO
  go_enter Try.func47, Try.ntmps47
  go_wp2
  go_ret
  exact ⟨by simp <;> omega, fin _⟩
end Go.Proofs.Ytddbmibpnahmnaa
