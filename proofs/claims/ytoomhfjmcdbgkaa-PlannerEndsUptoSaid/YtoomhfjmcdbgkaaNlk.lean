/-
  What the program's Look and Over answer, and that lists are as they were. Conditions: no list is longer than 2^40; a number is one that an int holds.
-/
import Derived.Test.YtoomhfjmcdbgkaaNls
namespace Go.Proofs.Ytoomhfjmcdbgkaa
open Go.RowKit Go.Icz
set_option maxRecDepth 100000 in
set_option maxHeartbeats 2000000 in
theorem Look_is (v : Value) (l : List MV) (f t : Int) (w : World) (hR : KMet.Rd w v l) (hlen : l.length ≤ 1099511627776) (hwf : ∀ x ∈ l, wfI x.id) :
    Calls Try.prog 24 #[v, .int .i64 f, .int .i64 t] w (IntsOut w (idsM (thoseM l (lookM f t)))) := by
  have e0 : thoseM l (fun x => lookM f t x) = thoseM l (lookM f t) := rfl
  have r1 := box_row w #[.int .i64 f] 3
  have r2 := box_row (w.alloc (.cells #[.int .i64 f] 3)) #[.int .i64 t] 3
  rw [World.size_alloc] at r2
  have c1 := held_cell (i := 0) (row_alloc r1 (.cells #[.int .i64 t] 3)) rfl
  have c2 := held_cell (i := 0) r2 rfl
  have b2 : Below w.heap.size w ((w.alloc (.cells #[.int .i64 f] 3)).alloc (.cells #[.int .i64 t] 3)) := ((Below.refl _ w).alloc (Nat.le_refl _) _).alloc (by simp) _
  have hT := thoseL_is v l f t (w.heap.size + 1) w.heap.size _ (hR.below b2) hlen hwf c2 c1
  rw [e0] at hT
  have hId := fun u s w3 => ids_is u s w3
  have hl2 := those_len l (lookM f t)
  obtain ⟨A, c, rfl, _⟩ := hR.form
  clear r1 r2 c1 c2 hR
  generalize thoseM l (lookM f t) = s at *
  go_enter Try.func24, Try.ntmps24
  go_wp2_with (first
    | (go_at_call 48; refine hT.mono ?_; rintro e w3 ⟨u, rfl, o3, b3⟩; have b33 := b2.trans (b3.mono b2.size); have hI3 := hId u s w3 o3.rd (by omega); clear hT hId)
    | (go_at_call 47; refine hI3.mono ?_; rintro e w4 ⟨u4, rfl, o4, b4⟩))
  go_ret
  exact ⟨_, rfl, o4.mono b33.size, b33.trans (b4.mono b33.size)⟩
set_option maxRecDepth 100000 in
set_option maxHeartbeats 2000000 in
theorem Over_is (v : Value) (l : List MV) (k n : Int) (w : World) (hR : KMet.Rd w v l) (hlen : l.length ≤ 1099511627776) (hwf : ∀ x ∈ l, wfI x.id) (hn : n ≤ 9223372036854775807) :
    Calls Try.prog 26 #[v, .int .i64 k, .int .i64 n] w (IntsOut w (idsM (thoseM l (overM k n)))) := by
  have e0 : thoseM l (fun x => overM k n x) = thoseM l (overM k n) := rfl
  have r1 := box_row w #[.int .i64 k] 3
  have r2 := box_row (w.alloc (.cells #[.int .i64 k] 3)) #[.int .i64 n] 3
  rw [World.size_alloc] at r2
  have c1 := held_cell (i := 0) (row_alloc r1 (.cells #[.int .i64 n] 3)) rfl
  have c2 := held_cell (i := 0) r2 rfl
  have b2 : Below w.heap.size w ((w.alloc (.cells #[.int .i64 k] 3)).alloc (.cells #[.int .i64 n] 3)) := ((Below.refl _ w).alloc (Nat.le_refl _) _).alloc (by simp) _
  have hT := thoseO_is v l k n w.heap.size (w.heap.size + 1) _ (hR.below b2) hlen hwf c1 c2 hn
  rw [e0] at hT
  have hId := fun u s w3 => ids_is u s w3
  have hl2 := those_len l (overM k n)
  obtain ⟨A, c, rfl, _⟩ := hR.form
  clear r1 r2 c1 c2 hR
  generalize thoseM l (overM k n) = s at *
  go_enter Try.func26, Try.ntmps26
  go_wp2_with (first
    | (go_at_call 48; refine hT.mono ?_; rintro e w3 ⟨u, rfl, o3, b3⟩; have b33 := b2.trans (b3.mono b2.size); have hI3 := hId u s w3 o3.rd (by omega); clear hT hId)
    | (go_at_call 47; refine hI3.mono ?_; rintro e w4 ⟨u4, rfl, o4, b4⟩))
  go_ret
  exact ⟨_, rfl, o4.mono b33.size, b33.trans (b4.mono b33.size)⟩
set_option maxRecDepth 100000 in
theorem neq_meta (x : MV) (w : World) : (binOp .neq 28 (metaV x) (metaV x)).run Try.prog w = .ok (.bool false) w := by
  have hu := Try.underlying28
  have hg : Try.prog.underlying 28 = some (.struct (Try.prog.fieldsOf 28)) := by unfold Program.fieldsOf; rw [hu]
  unfold metaV
  rw [run_neq_struct, run_equalIn_agg _ _ _ _ _ hg (by kernel_rfl)]
  simp only [Program.fieldsOf, hu, Op.eqFields]
  simp [go_sem]
set_option maxRecDepth 100000 in
set_option maxHeartbeats 4000000 in
theorem same_is (v u : Value) (l : List MV) (w : World) (hR : KMet.Rd w v l) (hS : KRm.Rd w u l) (hlen : l.length ≤ 1099511627776) :
    Calls Try.prog 28 #[v, u] w fun e w' => e = .returned (.bool true) ∧ Below w.heap.size w w' := by
  obtain ⟨A, c, rfl, hlc⟩ := hR.form
  obtain ⟨A2, c2, rfl, hlc2⟩ := hS.form
  have ROW := hid (met_row (K := KMet) rfl rfl hR)
  have ROW2 := hid (met_row (K := KRm) rfl rfl hS)
  clear hR hS
  go_enter Try.func28, Try.ntmps28
  go_wp2
  go_loopw [5] (fun iv wr => ∃ i : Nat, iv = .int .i64 i ∧ i ≤ l.length ∧ Below w.heap.size w wr) (fun iv _ => l.length - (intOf iv).toNat)
  case atStart => exact ⟨0, rfl, by omega, Below.refl _ _⟩
  case round =>
    obtain ⟨i, rfl, hi, hbw⟩ := hrel
    by_cases hLt : i < l.length
    · obtain ⟨b, off, hA, hb, hc⟩ := ROW.out i hLt
      obtain ⟨b2, off2, hA2, hb2, hc2⟩ := ROW2.out i hLt
      subst hA hA2
      have hil : (i : Int) < (l.length : Int) := by omega
      have hOw := Own_is l[i]
      have hq := neq_meta l[i]
      have HL := hid hLt
      clear ROW ROW2
      generalize l[i] = x at *
      unfold metaV at hOw hq
      have mkS : ∀ w', Below w.heap.size w w' → Below w.heap.size w w' ∧ w'.cell? ⟨b, off + i * 8, none⟩ = some (.int .i64 x.id) ∧ w'.cell? ⟨b, off + i * 8 + 1, none⟩ = some (.int .i64 x.least) ∧ w'.cell? ⟨b, off + i * 8 + 2, none⟩ = some (.int .i64 x.most) ∧ w'.cell? ⟨b, off + i * 8 + 3, none⟩ = some (.int .i64 x.first) ∧ w'.cell? ⟨b, off + i * 8 + 4, none⟩ = some (.int .i64 x.last) ∧ w'.cell? ⟨b, off + i * 8 + 5, none⟩ = some (.int .i64 x.rows) ∧ w'.cell? ⟨b, off + i * 8 + 6, none⟩ = some (.int .i64 x.bytes) ∧ w'.cell? ⟨b, off + i * 8 + 7, none⟩ = some (.int .i64 x.level) ∧ w'.cell? ⟨b2, off2 + i * 8, none⟩ = some (.int .i64 x.id) ∧ w'.cell? ⟨b2, off2 + i * 8 + 1, none⟩ = some (.int .i64 x.least) ∧ w'.cell? ⟨b2, off2 + i * 8 + 2, none⟩ = some (.int .i64 x.most) ∧ w'.cell? ⟨b2, off2 + i * 8 + 3, none⟩ = some (.int .i64 x.first) ∧ w'.cell? ⟨b2, off2 + i * 8 + 4, none⟩ = some (.int .i64 x.last) ∧ w'.cell? ⟨b2, off2 + i * 8 + 5, none⟩ = some (.int .i64 x.rows) ∧ w'.cell? ⟨b2, off2 + i * 8 + 6, none⟩ = some (.int .i64 x.bytes) ∧ w'.cell? ⟨b2, off2 + i * 8 + 7, none⟩ = some (.int .i64 x.level) := fun w' h => by
        have h1 := hc w' h
        have h2 := hc2 w' h
        exact ⟨h, (h1).c0, (h1).c1, (h1).c2, (h1).c3, (h1).c4, (h1).c5, (h1).c6, (h1).c7, (h2).c0, (h2).c1, (h2).c2, (h2).c3, (h2).c4, (h2).c5, (h2).c6, (h2).c7⟩
      have hk := mkS wr.drew hbw.drew
      clear hc hc2
      go_wp2_with fail
      go_region_held3 (fun w' => Below w.heap.size w w' ∧ w'.cell? ⟨b, off + i * 8, none⟩ = some (.int .i64 x.id) ∧ w'.cell? ⟨b, off + i * 8 + 1, none⟩ = some (.int .i64 x.least) ∧ w'.cell? ⟨b, off + i * 8 + 2, none⟩ = some (.int .i64 x.most) ∧ w'.cell? ⟨b, off + i * 8 + 3, none⟩ = some (.int .i64 x.first) ∧ w'.cell? ⟨b, off + i * 8 + 4, none⟩ = some (.int .i64 x.last) ∧ w'.cell? ⟨b, off + i * 8 + 5, none⟩ = some (.int .i64 x.rows) ∧ w'.cell? ⟨b, off + i * 8 + 6, none⟩ = some (.int .i64 x.bytes) ∧ w'.cell? ⟨b, off + i * 8 + 7, none⟩ = some (.int .i64 x.level) ∧ w'.cell? ⟨b2, off2 + i * 8, none⟩ = some (.int .i64 x.id) ∧ w'.cell? ⟨b2, off2 + i * 8 + 1, none⟩ = some (.int .i64 x.least) ∧ w'.cell? ⟨b2, off2 + i * 8 + 2, none⟩ = some (.int .i64 x.most) ∧ w'.cell? ⟨b2, off2 + i * 8 + 3, none⟩ = some (.int .i64 x.first) ∧ w'.cell? ⟨b2, off2 + i * 8 + 4, none⟩ = some (.int .i64 x.last) ∧ w'.cell? ⟨b2, off2 + i * 8 + 5, none⟩ = some (.int .i64 x.rows) ∧ w'.cell? ⟨b2, off2 + i * 8 + 6, none⟩ = some (.int .i64 x.bytes) ∧ w'.cell? ⟨b2, off2 + i * 8 + 7, none⟩ = some (.int .i64 x.level)) (exact hk)
        (first | (go_at_call 15; refine (hOw _).mono ?_; rintro e w2 ⟨rfl, b2⟩; have hk := mkS _ (hk.1.trans (b2.mono hk.1.size))))
      go_wp2_with fail
      go_roundw
      case rel => exact ⟨i + 1, by go_num, HL.out, hk.1⟩
      case measure => have := HL.out; simp [intOf]; omega
    · have hil : ¬ (i : Int) < (l.length : Int) := by omega
      go_wp2
      go_ret
      exact ⟨by simp, hbw⟩
end Go.Proofs.Ytoomhfjmcdbgkaa
