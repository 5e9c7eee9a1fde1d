/-
  Two blocks together: planner's both. Conditions: the sums are numbers that an int holds.
-/
import Derived.Test.YtoomhfjmcdbgkaaNso
import Derived.StillTailTactics
namespace Go.Icz
open Go.RowKit
theorem put8_row {w : World} {b : Nat} {a0 a1 a2 a3 a4 a5 a6 a7 : Value} {t : TypeId} (h : w.heap[b]? = some (.cells #[a0, a1, a2, a3, a4, a5, a6, a7] t (0, 0))) (u0 u1 u2 u3 u4 u5 u6 u7 : Value) : (((((((((w.setCell ⟨b, 0, none⟩ u0).setCell ⟨b, 1, none⟩ u1).setCell ⟨b, 2, none⟩ u2).setCell ⟨b, 3, none⟩ u3).setCell ⟨b, 4, none⟩ u4).setCell ⟨b, 5, none⟩ u5).setCell ⟨b, 6, none⟩ u6).setCell ⟨b, 7, none⟩ u7)).heap[b]? = some (.cells #[u0, u1, u2, u3, u4, u5, u6, u7] t (0, 0)) := by
  have h0 := row_set (i := 0) h u0
  have h1 := row_set (i := 1) h0 u1
  have h2 := row_set (i := 2) h1 u2
  have h3 := row_set (i := 3) h2 u3
  have h4 := row_set (i := 4) h3 u4
  have h5 := row_set (i := 5) h4 u5
  have h6 := row_set (i := 6) h5 u6
  have h7 := row_set (i := 7) h6 u7
  simpa using h7
theorem put8_far {w : World} {b c : Nat} {o : Nat} {x : MV} (h : Mc w c o x) (hne : c ≠ b) (u0 u1 u2 u3 u4 u5 u6 u7 : Value) : Mc (((((((((w.setCell ⟨b, 0, none⟩ u0).setCell ⟨b, 1, none⟩ u1).setCell ⟨b, 2, none⟩ u2).setCell ⟨b, 3, none⟩ u3).setCell ⟨b, 4, none⟩ u4).setCell ⟨b, 5, none⟩ u5).setCell ⟨b, 6, none⟩ u6).setCell ⟨b, 7, none⟩ u7)) c o x := by
  have k : ∀ (w : World) (i j : Nat) (u : Value), (w.setCell ⟨b, j, none⟩ u).cell? ⟨c, i, none⟩ = w.cell? ⟨c, i, none⟩ := fun w i j u => World.cell?_setCell_other _ _ _ _ (by simp <;> omega)
  obtain ⟨c0, c1, c2, c3, c4, c5, c6, c7⟩ := h
  constructor <;> simp only [k] <;> assumption
theorem put8_tch {w : World} {b : Nat} (u0 u1 u2 u3 u4 u5 u6 u7 : Value) : Tch (· = b) w (((((((((w.setCell ⟨b, 0, none⟩ u0).setCell ⟨b, 1, none⟩ u1).setCell ⟨b, 2, none⟩ u2).setCell ⟨b, 3, none⟩ u3).setCell ⟨b, 4, none⟩ u4).setCell ⟨b, 5, none⟩ u5).setCell ⟨b, 6, none⟩ u6).setCell ⟨b, 7, none⟩ u7)) :=
  (((((((Tch.set (· = b) w ⟨b, 0, none⟩ u0 rfl).trans (Tch.set (· = b) _ ⟨b, 1, none⟩ u1 rfl)).trans (Tch.set (· = b) _ ⟨b, 2, none⟩ u2 rfl)).trans (Tch.set (· = b) _ ⟨b, 3, none⟩ u3 rfl)).trans (Tch.set (· = b) _ ⟨b, 4, none⟩ u4 rfl)).trans (Tch.set (· = b) _ ⟨b, 5, none⟩ u5 rfl)).trans (Tch.set (· = b) _ ⟨b, 6, none⟩ u6 rfl)).trans (Tch.set (· = b) _ ⟨b, 7, none⟩ u7 rfl)
end Go.Icz
namespace Go.Proofs.Ytoomhfjmcdbgkaa
open Go.RowKit Go.Icz
theorem sum_is (a b : Int) (w : World) (h1 : 0 ≤ a) (h2 : a ≤ 1099511627776) (h3 : 0 ≤ b) (h4 : b ≤ 1099511627776) : Calls Try.prog 68 #[.int .i64 a, .int .i64 b] w fun e w' => e = .returned (.int .i64 (min (a + b) 1099511627776)) ∧ w' = w := by
  have hw : IntKind.i64.wrap (a + b) = a + b := by rw [IntKind.wrap_i64]; omega
  go_enter Try.func68, Try.ntmps68
  go_wp2
  go_ret
  exact ⟨rfl, rfl⟩
set_option maxRecDepth 100000 in
set_option maxHeartbeats 4000000 in
theorem both_is (x y : MV) (W : World) (hx : JnB x) (hy : RtM y) : Calls Try.prog 53 #[metaV x, metaV y] W fun e w' => e = .returned (metaV (bothM x y)) ∧ Below W.heap.size W w' := by
  have hs1 := fun w1 => sum_is x.rows y.rows w1 hx.ro1 hx.ro2 (by have := hy.ro1; omega) (by have := hy.ro2; omega)
  have hs2 := fun w1 => sum_is x.bytes y.bytes w1 hx.by1 hx.by2 hy.by1 (by have := hy.by2; omega)
  clear hx hy
  unfold metaV bothM
  have k1 := Mc.of_row (box_row W #[.int .i64 x.id, .int .i64 x.least, .int .i64 x.most, .int .i64 x.first, .int .i64 x.last, .int .i64 x.rows, .int .i64 x.bytes, .int .i64 x.level] 28)
  have k2 := Mc.of_row (box_row (W.alloc (.cells #[.int .i64 x.id, .int .i64 x.least, .int .i64 x.most, .int .i64 x.first, .int .i64 x.last, .int .i64 x.rows, .int .i64 x.bytes, .int .i64 x.level] 28)) #[.int .i64 y.id, .int .i64 y.least, .int .i64 y.most, .int .i64 y.first, .int .i64 y.last, .int .i64 y.rows, .int .i64 y.bytes, .int .i64 y.level] 28)
  have k3 := box_row ((W.alloc (.cells #[.int .i64 x.id, .int .i64 x.least, .int .i64 x.most, .int .i64 x.first, .int .i64 x.last, .int .i64 x.rows, .int .i64 x.bytes, .int .i64 x.level] 28)).alloc (.cells #[.int .i64 y.id, .int .i64 y.least, .int .i64 y.most, .int .i64 y.first, .int .i64 y.last, .int .i64 y.rows, .int .i64 y.bytes, .int .i64 y.level] 28)) #[.int .i64 0, .int .i64 0, .int .i64 0, .int .i64 0, .int .i64 0, .int .i64 0, .int .i64 0, .int .i64 0] 28
  rw [World.size_alloc] at k2
  rw [World.size_alloc, World.size_alloc] at k3
  have k1 := (k1.below ((Below.refl _ _).alloc (Nat.le_refl _) (.cells #[.int .i64 y.id, .int .i64 y.least, .int .i64 y.most, .int .i64 y.first, .int .i64 y.last, .int .i64 y.rows, .int .i64 y.bytes, .int .i64 y.level] 28)) (by simp)).below ((Below.refl _ _).alloc (Nat.le_refl _) (.cells #[.int .i64 0, .int .i64 0, .int .i64 0, .int .i64 0, .int .i64 0, .int .i64 0, .int .i64 0, .int .i64 0] 28)) (by simp; omega)
  have k2 := k2.below ((Below.refl _ _).alloc (Nat.le_refl _) (.cells #[.int .i64 0, .int .i64 0, .int .i64 0, .int .i64 0, .int .i64 0, .int .i64 0, .int .i64 0, .int .i64 0] 28)) (by simp)
  have g3 : Below W.heap.size W (((W.alloc (.cells #[.int .i64 x.id, .int .i64 x.least, .int .i64 x.most, .int .i64 x.first, .int .i64 x.last, .int .i64 x.rows, .int .i64 x.bytes, .int .i64 x.level] 28)).alloc (.cells #[.int .i64 y.id, .int .i64 y.least, .int .i64 y.most, .int .i64 y.first, .int .i64 y.last, .int .i64 y.rows, .int .i64 y.bytes, .int .i64 y.level] 28)).alloc (.cells #[.int .i64 0, .int .i64 0, .int .i64 0, .int .i64 0, .int .i64 0, .int .i64 0, .int .i64 0, .int .i64 0] 28)) := (((Below.refl _ W).alloc (Nat.le_refl _) _).alloc (by simp) _).alloc (by simp; omega) _
  have fr : ∀ i, (((W.alloc (.cells #[.int .i64 x.id, .int .i64 x.least, .int .i64 x.most, .int .i64 x.first, .int .i64 x.last, .int .i64 x.rows, .int .i64 x.bytes, .int .i64 x.level] 28)).alloc (.cells #[.int .i64 y.id, .int .i64 y.least, .int .i64 y.most, .int .i64 y.first, .int .i64 y.last, .int .i64 y.rows, .int .i64 y.bytes, .int .i64 y.level] 28)).alloc (.cells #[.int .i64 0, .int .i64 0, .int .i64 0, .int .i64 0, .int .i64 0, .int .i64 0, .int .i64 0, .int .i64 0] 28)).drew.frozen? ⟨W.heap.size + 1 + 1, i, none⟩ = false := fun i => held_frozen (w := (((W.alloc (.cells #[.int .i64 x.id, .int .i64 x.least, .int .i64 x.most, .int .i64 x.first, .int .i64 x.last, .int .i64 x.rows, .int .i64 x.bytes, .int .i64 x.level] 28)).alloc (.cells #[.int .i64 y.id, .int .i64 y.least, .int .i64 y.most, .int .i64 y.first, .int .i64 y.last, .int .i64 y.rows, .int .i64 y.bytes, .int .i64 y.level] 28)).alloc (.cells #[.int .i64 0, .int .i64 0, .int .i64 0, .int .i64 0, .int .i64 0, .int .i64 0, .int .i64 0, .int .i64 0] 28)).drew) k3
  go_enter Try.func53, Try.ntmps53
  go_wp2_with fail
  generalize ((W.alloc (.cells #[.int .i64 x.id, .int .i64 x.least, .int .i64 x.most, .int .i64 x.first, .int .i64 x.last, .int .i64 x.rows, .int .i64 x.bytes, .int .i64 x.level] 28)).alloc (.cells #[.int .i64 y.id, .int .i64 y.least, .int .i64 y.most, .int .i64 y.first, .int .i64 y.last, .int .i64 y.rows, .int .i64 y.bytes, .int .i64 y.level] 28)).alloc (.cells #[.int .i64 0, .int .i64 0, .int .i64 0, .int .i64 0, .int .i64 0, .int .i64 0, .int .i64 0, .int .i64 0] 28) = W3 at *
  have k3d : W3.drew.heap[W.heap.size + 1 + 1]? = some (.cells #[.int .i64 0, .int .i64 0, .int .i64 0, .int .i64 0, .int .i64 0, .int .i64 0, .int .i64 0, .int .i64 0] 28 (0, 0)) := k3
  have z0 := held_cell (i := 0) k3d rfl
  have f0 := fr 0
  have z1 := held_cell (i := 1) k3d rfl
  have f1 := fr 1
  have z2 := held_cell (i := 2) k3d rfl
  have f2 := fr 2
  have z3 := held_cell (i := 3) k3d rfl
  have f3 := fr 3
  have z4 := held_cell (i := 4) k3d rfl
  have f4 := fr 4
  have z5 := held_cell (i := 5) k3d rfl
  have f5 := fr 5
  have z6 := held_cell (i := 6) k3d rfl
  have f6 := fr 6
  have z7 := held_cell (i := 7) k3d rfl
  have f7 := fr 7
  have k1d : Mc W3.drew W.heap.size 0 x := ⟨(k1).c0, (k1).c1, (k1).c2, (k1).c3, (k1).c4, (k1).c5, (k1).c6, (k1).c7⟩
  have k2d : Mc W3.drew (W.heap.size + 1) 0 y := ⟨(k2).c0, (k2).c1, (k2).c2, (k2).c3, (k2).c4, (k2).c5, (k2).c6, (k2).c7⟩
  have mkS : ∀ w', Mc w' W.heap.size 0 x → Mc w' (W.heap.size + 1) 0 y → w'.cell? ⟨W.heap.size, 0, none⟩ = some (.int .i64 x.id) ∧ w'.cell? ⟨W.heap.size, 1, none⟩ = some (.int .i64 x.least) ∧ w'.cell? ⟨W.heap.size, 2, none⟩ = some (.int .i64 x.most) ∧ w'.cell? ⟨W.heap.size, 3, none⟩ = some (.int .i64 x.first) ∧ w'.cell? ⟨W.heap.size, 4, none⟩ = some (.int .i64 x.last) ∧ w'.cell? ⟨W.heap.size, 5, none⟩ = some (.int .i64 x.rows) ∧ w'.cell? ⟨W.heap.size, 6, none⟩ = some (.int .i64 x.bytes) ∧ w'.cell? ⟨W.heap.size, 7, none⟩ = some (.int .i64 x.level) ∧ w'.cell? ⟨W.heap.size + 1, 0, none⟩ = some (.int .i64 y.id) ∧ w'.cell? ⟨W.heap.size + 1, 1, none⟩ = some (.int .i64 y.least) ∧ w'.cell? ⟨W.heap.size + 1, 2, none⟩ = some (.int .i64 y.most) ∧ w'.cell? ⟨W.heap.size + 1, 3, none⟩ = some (.int .i64 y.first) ∧ w'.cell? ⟨W.heap.size + 1, 4, none⟩ = some (.int .i64 y.last) ∧ w'.cell? ⟨W.heap.size + 1, 5, none⟩ = some (.int .i64 y.rows) ∧ w'.cell? ⟨W.heap.size + 1, 6, none⟩ = some (.int .i64 y.bytes) ∧ w'.cell? ⟨W.heap.size + 1, 7, none⟩ = some (.int .i64 y.level) := fun w' h1 h2 => ⟨by simpa using (h1).c0, by simpa using (h1).c1, by simpa using (h1).c2, by simpa using (h1).c3, by simpa using (h1).c4, by simpa using (h1).c5, by simpa using (h1).c6, by simpa using (h1).c7, by simpa using (h2).c0, by simpa using (h2).c1, by simpa using (h2).c2, by simpa using (h2).c3, by simpa using (h2).c4, by simpa using (h2).c5, by simpa using (h2).c6, by simpa using (h2).c7⟩
  obtain ⟨p0, p1, p2, p3, p4, p5, p6, p7, p8, p9, p10, p11, p12, p13, p14, p15⟩ := mkS _ k1d k2d
  have gT := fun u0 u1 u2 u3 u4 u5 u6 u7 => g3.drew.trans (Tch.to_below (put8_tch (w := W3.drew) (b := W.heap.size + 1 + 1) u0 u1 u2 u3 u4 u5 u6 u7) (fun j (e : j = W.heap.size + 1 + 1) => (show W.heap.size ≤ j by omega)) (show W.heap.size ≤ W3.heap.size from g3.size))
  have rT := fun u0 u1 u2 u3 u4 u5 u6 u7 => put8_row k3d u0 u1 u2 u3 u4 u5 u6 u7
  clear k1 k2 k3 k1d k2d k3d fr mkS
  have hs1d := hs1 W3.drew
  have hs2d := hs2 W3.drew
  clear hs1 hs2
  refine wp_region_still_tail 38 (by kernel_rfl) (by kernel_rfl) ?_
  simp only [List.take_succ_cons, List.take_zero, List.drop_succ_cons, List.drop_zero]
  change wpStill _ _ W3.drew (fun a' => wpList _ _ _ _ a' W3.drew) _ _
  generalize W3.drew = W4 at *
  repeat (first | still_step | still_call hs1d | still_call hs2d)
  refine wpStill_nil ?_
  go_wp2
  have rr := rT (.int .i64 x.id) (.int .i64 (min x.least y.least)) (.int .i64 (max x.most y.most)) (.int .i64 (min x.first y.first)) (.int .i64 (max x.last y.last)) (.int .i64 (min (x.rows + y.rows) 1099511627776)) (.int .i64 (min (x.bytes + y.bytes) 1099511627776)) (.int .i64 (max x.level y.level))
  have c0 := held_cell (i := 0) rr rfl
  have c1 := held_cell (i := 1) rr rfl
  have c2 := held_cell (i := 2) rr rfl
  have c3 := held_cell (i := 3) rr rfl
  have c4 := held_cell (i := 4) rr rfl
  have c5 := held_cell (i := 5) rr rfl
  have c6 := held_cell (i := 6) rr rfl
  have c7 := held_cell (i := 7) rr rfl
  exact bodyPost_ret (v := metaV (bothM x y)) (by simp [results, Try.results53, go_sem, metaV, bothM, c0, c1, c2, c3, c4, c5, c6, c7]) rfl ⟨rfl, gT _ _ _ _ _ _ _ _⟩
end Go.Proofs.Ytoomhfjmcdbgkaa
