/-
  What the program's Joined answers. Conditions: the list is no longer than 2^40; a number is one that an int holds.
-/
import Derived.Test.YtoomhfjmcdbgkaaNjn
namespace Go.Icz
open Go.RowKit
def jnM (x : MV) (t : List MV) : MV := t.foldl bothM x
theorem jnM_snoc (x : MV) (t : List MV) (y : MV) : jnM x (t ++ [y]) = bothM (jnM x t) y := by simp [jnM]
theorem jn_bound {x : MV} (hx : RtM x) : ∀ (t : List MV), (∀ y ∈ t, RtM y) → JnB (jnM x t) := by
  intro t h
  have : ∀ (t : List MV) (a : MV), JnB a → (∀ y ∈ t, RtM y) → JnB (t.foldl bothM a) := by
    intro t
    induction t with
    | nil => intro a ha _; exact ha
    | cons y t ih => intro a ha h; exact ih _ (ha.both (h y (List.mem_cons_self ..))) (fun z hz => h z (List.mem_cons_of_mem _ hz))
  exact this t x (JnB.of hx) h
theorem join_yes {l : List MV} {x : MV} {t : List MV} (hl : l = x :: t) (hf : fineM l = true) {id : Int} (hr : rightM (topM (jnM x t) id) = true) : joinM l id = (topM (jnM x t) id, true) := by
  subst hl
  show (if fineM (x :: t) = true then (if rightM (topM (jnM x t) id) = true then (topM (jnM x t) id, true) else (zeroM, false)) else (zeroM, false)) = _
  rw [if_pos hf, if_pos hr]
theorem join_no {l : List MV} {x : MV} {t : List MV} (hl : l = x :: t) (hf : fineM l = true) {id : Int} (hr : rightM (topM (jnM x t) id) = false) : joinM l id = (zeroM, false) := by
  subst hl
  show (if fineM (x :: t) = true then (if rightM (topM (jnM x t) id) = true then (topM (jnM x t) id, true) else (zeroM, false)) else (zeroM, false)) = _
  rw [if_pos hf, if_neg (by rw [hr]; decide)]
theorem join_none {l : List MV} (h : l = [] ∨ fineM l = false) {id : Int} : joinM l id = (zeroM, false) := by
  cases l with
  | nil => rfl
  | cons x t =>
    rcases h with h | h
    · cases h
    · show (if fineM (x :: t) = true then _ else (zeroM, false)) = _
      rw [if_neg (by rw [h]; decide)]
end Go.Icz
namespace Go.Proofs.Ytoomhfjmcdbgkaa
open Go.RowKit Go.Icz
/-- What Joined answers. -/
def JoinOut (w : World) (p : MV × Bool) (e : Ending) (w' : World) : Prop := e = .returned (.tuple #[metaV p.1, .bool p.2]) ∧ Below w.heap.size w w'
set_option maxRecDepth 100000 in
theorem run_fromM {A : Option Addr} {n c s : Nat} (h : s ≤ n) (wx : World) : (Instr.slice 25 (.slice A n c) (some (.int .i64 (s : Int))) none none).run Try.prog wx = .ok (sliced A s n c 8) wx := by
  have := run_slice_l (P := Try.prog) (w := wx) 25 A n c Try.underlying25 .i64 (s : Int) (by omega) (by omega)
  rw [this]
  have hz : (sizeOf (Try.prog.elem 25)).run Try.prog wx = .ok 8 wx := by go_simp
  rw [hz]
  simp [Result.andThen]
set_option maxRecDepth 100000 in
set_option maxHeartbeats 4000000 in
theorem Joined_no (v : Value) (l : List MV) (id : Int) (w : World) (hR : KMet.Rd w v l) (hlen : l.length ≤ 1099511627776) (hwf : ∀ x ∈ l, wfI x.id) (hno : l = [] ∨ fineM l = false) :
    Calls Try.prog 29 #[v, .int .i64 id] w (JoinOut w (zeroM, false)) := by
  have b1 : Below w.heap.size w (w.alloc (.cells #[.int .i64 0, .int .i64 0, .int .i64 0, .int .i64 0, .int .i64 0, .int .i64 0, .int .i64 0, .int .i64 0] 28)) := (Below.refl _ w).alloc (Nat.le_refl _) _
  have r1 := box_row w #[.int .i64 0, .int .i64 0, .int .i64 0, .int .i64 0, .int .i64 0, .int .i64 0, .int .i64 0, .int .i64 0] 28
  have hF := Fine_is v l (w.alloc (.cells #[.int .i64 0, .int .i64 0, .int .i64 0, .int .i64 0, .int .i64 0, .int .i64 0, .int .i64 0, .int .i64 0] 28)) (hR.below b1) hlen hwf
  obtain ⟨A, c, rfl, _⟩ := hR.form
  have z1 : (w.alloc (.cells #[.int .i64 0, .int .i64 0, .int .i64 0, .int .i64 0, .int .i64 0, .int .i64 0, .int .i64 0, .int .i64 0] 28)).heap.size = w.heap.size + 1 := World.size_alloc _ _
  by_cases h0 : l = []
  · subst h0
    go_enter Try.func29, Try.ntmps29
    go_wp2
    exact bodyPost_ret (v := .tuple #[metaV zeroM, .bool false]) (by simp [results, Try.results29, go_sem, metaV, zeroM]) rfl ⟨rfl, (Below.refl _ w).alloc (Nat.le_refl _) _⟩
  · have hf : fineM l = false := by
      rcases hno with h | h
      · exact absurd h h0
      · exact h
    have hl0 : ¬ l.length = 0 := fun h => h0 (List.eq_nil_of_length_eq_zero h)
    have hl1 : ((l.length : Int) == 0) = false := by simp; omega
    rw [hf] at hF
    clear hf hno h0
    go_enter Try.func29, Try.ntmps29
    go_wp2_with (go_at_call 13; go_loud (refine hF.mono ?_; rintro e w3 ⟨rfl, b3⟩; have r3 := (Tch.of_below b3 (S := fun _ => False)).row r1 (fun h => h); have pc0 := held_cell (i := 0) r3 rfl; have pf0 := held_frozen (i := 0) r3; have pc1 := held_cell (i := 1) r3 rfl; have pf1 := held_frozen (i := 1) r3; have pc2 := held_cell (i := 2) r3 rfl; have pf2 := held_frozen (i := 2) r3; have pc3 := held_cell (i := 3) r3 rfl; have pf3 := held_frozen (i := 3) r3; have pc4 := held_cell (i := 4) r3 rfl; have pf4 := held_frozen (i := 4) r3; have pc5 := held_cell (i := 5) r3 rfl; have pf5 := held_frozen (i := 5) r3; have pc6 := held_cell (i := 6) r3 rfl; have pf6 := held_frozen (i := 6) r3; have pc7 := held_cell (i := 7) r3 rfl; have pf7 := held_frozen (i := 7) r3))
    have rr := put8_row r3 (.int .i64 0) (.int .i64 0) (.int .i64 0) (.int .i64 0) (.int .i64 0) (.int .i64 0) (.int .i64 0) (.int .i64 0)
    clear r1
    clear pc0 pf0 pc1 pf1 pc2 pf2 pc3 pf3 pc4 pf4 pc5 pf5 pc6 pf6 pc7 pf7
    have ec0 := held_cell (i := 0) rr rfl
    have ef0 := held_frozen (i := 0) rr
    have ec1 := held_cell (i := 1) rr rfl
    have ef1 := held_frozen (i := 1) rr
    have ec2 := held_cell (i := 2) rr rfl
    have ef2 := held_frozen (i := 2) rr
    have ec3 := held_cell (i := 3) rr rfl
    have ef3 := held_frozen (i := 3) rr
    have ec4 := held_cell (i := 4) rr rfl
    have ef4 := held_frozen (i := 4) rr
    have ec5 := held_cell (i := 5) rr rfl
    have ef5 := held_frozen (i := 5) rr
    have ec6 := held_cell (i := 6) rr rfl
    have ef6 := held_frozen (i := 6) rr
    have ec7 := held_cell (i := 7) rr rfl
    have ef7 := held_frozen (i := 7) rr
    exact bodyPost_ret (v := .tuple #[metaV zeroM, .bool false]) (by simp [results, Try.results29, go_sem, metaV, zeroM, ec0, ec1, ec2, ec3, ec4, ec5, ec6, ec7]) rfl ⟨rfl, (b1.trans (b3.mono b1.size)).trans (Tch.to_below (put8_tch (b := w.heap.size) _ _ _ _ _ _ _ _) (fun j (e : j = w.heap.size) => (show w.heap.size ≤ j by omega)) (b1.trans (b3.mono b1.size)).size)⟩
end Go.Proofs.Ytoomhfjmcdbgkaa
