/-
  What the program's Look and Over answer, and that lists are as they were. Conditions: no list is longer than 2^40; a number is one that an int holds.
-/
import Derived.Test.YtddbmibpnahmnaaNls
namespace Go.Proofs.Ytddbmibpnahmnaa
open Go.RowKit Go.Icz
set_option maxRecDepth 100000 in
set_option maxHeartbeats 2000000 in
theorem Over_is (v : Value) (l : List MV) (k n : Int) (w : World) (hR : KMet.Rd w v l) (hlen : l.length ≤ 1099511627776) (hwf : ∀ x ∈ l, wfI x.id) (hn : n ≤ 9223372036854775807) :
    Calls Try.prog 32 #[v, .int .i64 k, .int .i64 n] w (IntsOut w (idsM (thoseM l (overM k n)))) := by
  have e0 : thoseM l (fun x => overM k n x) = thoseM l (overM k n) := rfl
  have r1 := box_row w #[.int .i64 k] 3
  have r2 := box_row (w.alloc (.cells #[.int .i64 k] 3)) #[.int .i64 n] 3
  rw [World.size_alloc] at r2
  have c1 := held_cell (i := 0) (row_alloc r1 (.cells #[.int .i64 n] 3)) rfl
  have c2 := held_cell (i := 0) r2 rfl
  have b2 : Below w.heap.size w ((w.alloc (.cells #[.int .i64 k] 3)).alloc (.cells #[.int .i64 n] 3)) := ((Below.refl _ w).alloc (Nat.le_refl _) _).alloc (by simp) _
  have hT := thoseO_is v l k n w.heap.size (w.heap.size + 1) _ (hR.below b2) hlen hwf c1 c2 hn
  rw [e0] at hT
  have hId := fun u s w3 => ids_is u s w3
  have hl2 := those_len l (overM k n)
  obtain ⟨A, c, rfl, _⟩ := hR.form
  clear r1 r2 c1 c2 hR
  generalize thoseM l (overM k n) = s at *
  go_enter Try.func32, Try.ntmps32
  go_wp2_with (first
    | (go_at_call 44; refine hT.mono ?_; rintro e w3 ⟨u, rfl, o3, b3⟩; have b33 := b2.trans (b3.mono b2.size); have hI3 := hId u s w3 o3.rd (by omega); clear hT hId)
    | (go_at_call 43; refine hI3.mono ?_; rintro e w4 ⟨u4, rfl, o4, b4⟩))
  go_ret
  exact ⟨_, rfl, o4.mono b33.size, b33.trans (b4.mono b33.size)⟩
set_option maxRecDepth 100000 in
theorem neq_meta (x : MV) (w : World) : (binOp .neq 28 (metaV x) (metaV x)).run Try.prog w = .ok (.bool false) w := by
  have hu := Try.underlying28
  have hg : Try.prog.underlying 28 = some (.struct (Try.prog.fieldsOf 28)) := by unfold Program.fieldsOf; rw [hu]
  unfold metaV
  rw [run_neq_struct, run_equalIn_agg _ _ _ _ _ hg (by kernel_rfl)]
  simp only [Program.fieldsOf, hu, Op.eqFields]
  simp [go_sem]
end Go.Proofs.Ytddbmibpnahmnaa
