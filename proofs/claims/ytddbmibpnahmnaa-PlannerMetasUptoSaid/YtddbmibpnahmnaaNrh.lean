/-
  What the reference's Get of a Meta answers. Condition: the bytes are bytes.
-/
import Derived.Test.YtddbmibpnahmnaaNrg
import Derived.Test.YtddbmibpnahmnaaNfr
namespace Go.Proofs.Ytddbmibpnahmnaa
open Go.RowKit Go.Icz
set_option maxRecDepth 100000
set_option maxHeartbeats 8000000
theorem RGet_is (v : Value) (l : List Nat) (w : World) (hv : Rd w v l) (hl : ∀ c ∈ l, c < 256) (hlen : l.length ≤ 140737488351232) : Calls Try.prog 7 #[v] w fun e w' => e = .returned (.tuple #[metaV (getPM l).1, .int .i64 (getPM l).2]) ∧ Below w.heap.size w w' := by
  have k0 := box_row w #[.int .i64 0, .int .i64 0, .int .i64 0, .int .i64 0, .int .i64 0, .int .i64 0, .int .i64 0, .int .i64 0] 32
  have b0 : Below w.heap.size w (w.alloc (.cells #[.int .i64 0, .int .i64 0, .int .i64 0, .int .i64 0, .int .i64 0, .int .i64 0, .int .i64 0, .int .i64 0] 32)) := (Below.refl _ w).alloc (Nat.le_refl _) _
  have s0 : (w.alloc (.cells #[.int .i64 0, .int .i64 0, .int .i64 0, .int .i64 0, .int .i64 0, .int .i64 0, .int .i64 0, .int .i64 0] 32)).heap.size = w.heap.size + 1 := World.size_alloc _ _
  have RV := hv.below b0
  obtain ⟨A0, c0, rfl, _, _⟩ := id hv
  have HN := RNew_any _ l _ RV (by omega)
  have HF := fun B g w1 (d : RDec w1 B g l 0 0) (hB : B ≤ w1.heap.size) => RFrom_is B g 0 0 l w1 d hB hl (by omega)
  rw [List.drop_zero] at HF
  have DN := fun B g a e w1 (d : RDec w1 B g l a e) => RDone_dec B g e a l w1 d (by omega)
  obtain ⟨M, hM⟩ : ∃ M : MV, M = ofN (takeN 8 l 0).1 := ⟨_, rfl⟩
  have HG : Hid (getPM l = if doneD (takeN 8 l 0).2.1 (takeN 8 l 0).2.2 = 0 ∧ rightM M = true then (M, 0) else (zeroM, 21)) := hid (by rw [hM]; rfl)
  rw [← hM] at HF
  have HR := fun w1 => RRight_is M w1
  have HTR : Hid (metaV M = .agg #[.int .i64 M.id, .int .i64 M.least, .int .i64 M.most, .int .i64 M.first, .int .i64 M.last, .int .i64 M.rows, .int .i64 M.bytes, .int .i64 M.level]) := hid rfl
  unfold metaV at HF HR
  generalize (takeN 8 l 0).2 = tk at *
  clear hM hv hl hlen
  go_enter Try.func7, Try.ntmps7
  go_upto_region 3 with (first
    | (go_at_call 21; refine HN.mono ?_; rintro e w1 ⟨g, rfl, hg, d1, b1⟩; rw [s0] at hg; have k1 := (Tch.of_below b1 (S := fun _ => False)).row k0 (fun h => h); have b01 := b0.trans (b1.mono b0.size); have hgr : w.heap.size ≠ g := (by omega); have HF1 := HF _ _ _ d1 (Nat.le_refl _); have hgl : w.heap.size ≤ g := (by omega); clear HN HF)
    | (go_at_call 22; refine HF1.mono ?_; rintro e w2 ⟨rfl, a8, e8, htk, d2, t2⟩; subst htk; have k2 := t2.row k1 (fun e => hgr (by omega)); have b02 := b01.trans (t2.to_below (fun j hj => (by omega)) b01.size); have hm := b02.size; have km2 := heap_alloc_new w2 (.cells #[.int .i64 M.id, .int .i64 M.least, .int .i64 M.most, .int .i64 M.first, .int .i64 M.last, .int .i64 M.rows, .int .i64 M.bytes, .int .i64 M.level] 32); have kr2 := row_alloc k2 (.cells #[.int .i64 M.id, .int .i64 M.least, .int .i64 M.most, .int .i64 M.first, .int .i64 M.last, .int .i64 M.rows, .int .i64 M.bytes, .int .i64 M.level] 32); have d3 := d2.below ((Below.refl _ w2).alloc (Nat.le_trans (Nat.le_refl _) t2.size) (.cells #[.int .i64 M.id, .int .i64 M.least, .int .i64 M.most, .int .i64 M.first, .int .i64 M.last, .int .i64 M.rows, .int .i64 M.bytes, .int .i64 M.level] 32)); have b03 := b02.alloc b02.size (.cells #[.int .i64 M.id, .int .i64 M.least, .int .i64 M.most, .int .i64 M.first, .int .i64 M.last, .int .i64 M.rows, .int .i64 M.bytes, .int .i64 M.level] 32); have hD := DN _ _ _ _ _ d3; simp only at HG; clear HF1 DN))
  generalize doneD (l.drop a8) e8 = dn at *
  by_cases hdn : dn = 0
  · subst hdn
    cases hr : rightM M
    · have HQ : Hid (Ending.returned (.tuple #[.agg #[.int .i64 0, .int .i64 0, .int .i64 0, .int .i64 0, .int .i64 0, .int .i64 0, .int .i64 0, .int .i64 0], .int .i64 21]) = .returned (.tuple #[metaV (getPM l).1, .int .i64 (getPM l).2])) := hid (by rw [getPM_no HG.out (.inr hr)]; rfl)
      rw [hr] at HR
      clear HG hr
      go_wp2_with (first
        | (go_at_call 23; refine hD.mono ?_; rintro e w3 ⟨rfl, nq, rfl⟩; have km3 := (Tch.of_below (bdN (Below.refl _ _) nq) (S := fun _ => False)).row km2 (fun h => h); have kr3 := (Tch.of_below (bdN (Below.refl _ _) nq) (S := fun _ => False)).row kr2 (fun h => h); have b04 := bdN b03 nq; have mc0 := held_cell (i := 0) km3 rfl; have mf0 := held_frozen (i := 0) km3; have mc1 := held_cell (i := 1) km3 rfl; have mf1 := held_frozen (i := 1) km3; have mc2 := held_cell (i := 2) km3 rfl; have mf2 := held_frozen (i := 2) km3; have mc3 := held_cell (i := 3) km3 rfl; have mf3 := held_frozen (i := 3) km3; have mc4 := held_cell (i := 4) km3 rfl; have mf4 := held_frozen (i := 4) km3; have mc5 := held_cell (i := 5) km3 rfl; have mf5 := held_frozen (i := 5) km3; have mc6 := held_cell (i := 6) km3 rfl; have mf6 := held_frozen (i := 6) km3; have mc7 := held_cell (i := 7) km3 rfl; have mf7 := held_frozen (i := 7) km3; have pc0 := held_cell (i := 0) kr3 rfl; have pf0 := held_frozen (i := 0) kr3; have pc1 := held_cell (i := 1) kr3 rfl; have pf1 := held_frozen (i := 1) kr3; have pc2 := held_cell (i := 2) kr3 rfl; have pf2 := held_frozen (i := 2) kr3; have pc3 := held_cell (i := 3) kr3 rfl; have pf3 := held_frozen (i := 3) kr3; have pc4 := held_cell (i := 4) kr3 rfl; have pf4 := held_frozen (i := 4) kr3; have pc5 := held_cell (i := 5) kr3 rfl; have pf5 := held_frozen (i := 5) kr3; have pc6 := held_cell (i := 6) kr3 rfl; have pf6 := held_frozen (i := 6) kr3; have pc7 := held_cell (i := 7) kr3 rfl; have pf7 := held_frozen (i := 7) kr3; clear hD)
        | (go_at_call 16; refine (HR _).mono ?_; rintro e z2 ⟨rfl, b9⟩; have km9 := (Tch.of_below b9 (S := fun _ => False)).row km3 (fun h => h); have kr9 := (Tch.of_below b9 (S := fun _ => False)).row kr3 (fun h => h); clear mc0 mf0 mc1 mf1 mc2 mf2 mc3 mf3 mc4 mf4 mc5 mf5 mc6 mf6 mc7 mf7; clear pc0 pf0 pc1 pf1 pc2 pf2 pc3 pf3 pc4 pf4 pc5 pf5 pc6 pf6 pc7 pf7; have mc0 := held_cell (i := 0) km9 rfl; have mf0 := held_frozen (i := 0) km9; have mc1 := held_cell (i := 1) km9 rfl; have mf1 := held_frozen (i := 1) km9; have mc2 := held_cell (i := 2) km9 rfl; have mf2 := held_frozen (i := 2) km9; have mc3 := held_cell (i := 3) km9 rfl; have mf3 := held_frozen (i := 3) km9; have mc4 := held_cell (i := 4) km9 rfl; have mf4 := held_frozen (i := 4) km9; have mc5 := held_cell (i := 5) km9 rfl; have mf5 := held_frozen (i := 5) km9; have mc6 := held_cell (i := 6) km9 rfl; have mf6 := held_frozen (i := 6) km9; have mc7 := held_cell (i := 7) km9 rfl; have mf7 := held_frozen (i := 7) km9; have pc0 := held_cell (i := 0) kr9 rfl; have pf0 := held_frozen (i := 0) kr9; have pc1 := held_cell (i := 1) kr9 rfl; have pf1 := held_frozen (i := 1) kr9; have pc2 := held_cell (i := 2) kr9 rfl; have pf2 := held_frozen (i := 2) kr9; have pc3 := held_cell (i := 3) kr9 rfl; have pf3 := held_frozen (i := 3) kr9; have pc4 := held_cell (i := 4) kr9 rfl; have pf4 := held_frozen (i := 4) kr9; have pc5 := held_cell (i := 5) kr9 rfl; have pf5 := held_frozen (i := 5) kr9; have pc6 := held_cell (i := 6) kr9 rfl; have pf6 := held_frozen (i := 6) kr9; have pc7 := held_cell (i := 7) kr9 rfl; have pf7 := held_frozen (i := 7) kr9; clear HR))
      have rr := put8_row kr9 (.int .i64 0) (.int .i64 0) (.int .i64 0) (.int .i64 0) (.int .i64 0) (.int .i64 0) (.int .i64 0) (.int .i64 0)
      clear pc0 pf0 pc1 pf1 pc2 pf2 pc3 pf3 pc4 pf4 pc5 pf5 pc6 pf6 pc7 pf7
      clear mc0 mf0 mc1 mf1 mc2 mf2 mc3 mf3 mc4 mf4 mc5 mf5 mc6 mf6 mc7 mf7
      have ec0 := held_cell (i := 0) rr rfl
      have ef0 := held_frozen (i := 0) rr
      have ec1 := held_cell (i := 1) rr rfl
      have ef1 := held_frozen (i := 1) rr
      have ec2 := held_cell (i := 2) rr rfl
      have ef2 := held_frozen (i := 2) rr
      have ec3 := held_cell (i := 3) rr rfl
      have ef3 := held_frozen (i := 3) rr
      have ec4 := held_cell (i := 4) rr rfl
      have ef4 := held_frozen (i := 4) rr
      have ec5 := held_cell (i := 5) rr rfl
      have ef5 := held_frozen (i := 5) rr
      have ec6 := held_cell (i := 6) rr rfl
      have ef6 := held_frozen (i := 6) rr
      have ec7 := held_cell (i := 7) rr rfl
      have ef7 := held_frozen (i := 7) rr
      have HBB := b04.trans (b9.mono b04.size)
      exact bodyPost_ret (v := .tuple #[.agg #[.int .i64 0, .int .i64 0, .int .i64 0, .int .i64 0, .int .i64 0, .int .i64 0, .int .i64 0, .int .i64 0], .int .i64 21]) (by simp [results, Try.results7, go_sem, ec0, ec1, ec2, ec3, ec4, ec5, ec6, ec7]) rfl ⟨HQ.out, HBB.trans (Tch.to_below (put8_tch (b := w.heap.size) _ _ _ _ _ _ _ _) (fun j (e : j = w.heap.size) => (show w.heap.size ≤ j by omega)) HBB.size)⟩
    · have HQ : Hid (Ending.returned (.tuple #[.agg #[.int .i64 M.id, .int .i64 M.least, .int .i64 M.most, .int .i64 M.first, .int .i64 M.last, .int .i64 M.rows, .int .i64 M.bytes, .int .i64 M.level], .int .i64 0]) = .returned (.tuple #[metaV (getPM l).1, .int .i64 (getPM l).2])) := hid (by rw [getPM_yes HG.out rfl hr]; rw [HTR.out])
      rw [hr] at HR
      clear HG hr
      go_wp2_with (first
        | (go_at_call 23; refine hD.mono ?_; rintro e w3 ⟨rfl, nq, rfl⟩; have km3 := (Tch.of_below (bdN (Below.refl _ _) nq) (S := fun _ => False)).row km2 (fun h => h); have kr3 := (Tch.of_below (bdN (Below.refl _ _) nq) (S := fun _ => False)).row kr2 (fun h => h); have b04 := bdN b03 nq; have mc0 := held_cell (i := 0) km3 rfl; have mf0 := held_frozen (i := 0) km3; have mc1 := held_cell (i := 1) km3 rfl; have mf1 := held_frozen (i := 1) km3; have mc2 := held_cell (i := 2) km3 rfl; have mf2 := held_frozen (i := 2) km3; have mc3 := held_cell (i := 3) km3 rfl; have mf3 := held_frozen (i := 3) km3; have mc4 := held_cell (i := 4) km3 rfl; have mf4 := held_frozen (i := 4) km3; have mc5 := held_cell (i := 5) km3 rfl; have mf5 := held_frozen (i := 5) km3; have mc6 := held_cell (i := 6) km3 rfl; have mf6 := held_frozen (i := 6) km3; have mc7 := held_cell (i := 7) km3 rfl; have mf7 := held_frozen (i := 7) km3; have pc0 := held_cell (i := 0) kr3 rfl; have pf0 := held_frozen (i := 0) kr3; have pc1 := held_cell (i := 1) kr3 rfl; have pf1 := held_frozen (i := 1) kr3; have pc2 := held_cell (i := 2) kr3 rfl; have pf2 := held_frozen (i := 2) kr3; have pc3 := held_cell (i := 3) kr3 rfl; have pf3 := held_frozen (i := 3) kr3; have pc4 := held_cell (i := 4) kr3 rfl; have pf4 := held_frozen (i := 4) kr3; have pc5 := held_cell (i := 5) kr3 rfl; have pf5 := held_frozen (i := 5) kr3; have pc6 := held_cell (i := 6) kr3 rfl; have pf6 := held_frozen (i := 6) kr3; have pc7 := held_cell (i := 7) kr3 rfl; have pf7 := held_frozen (i := 7) kr3; clear hD)
        | (go_at_call 16; refine (HR _).mono ?_; rintro e z2 ⟨rfl, b9⟩; have km9 := (Tch.of_below b9 (S := fun _ => False)).row km3 (fun h => h); have kr9 := (Tch.of_below b9 (S := fun _ => False)).row kr3 (fun h => h); clear mc0 mf0 mc1 mf1 mc2 mf2 mc3 mf3 mc4 mf4 mc5 mf5 mc6 mf6 mc7 mf7; clear pc0 pf0 pc1 pf1 pc2 pf2 pc3 pf3 pc4 pf4 pc5 pf5 pc6 pf6 pc7 pf7; have mc0 := held_cell (i := 0) km9 rfl; have mf0 := held_frozen (i := 0) km9; have mc1 := held_cell (i := 1) km9 rfl; have mf1 := held_frozen (i := 1) km9; have mc2 := held_cell (i := 2) km9 rfl; have mf2 := held_frozen (i := 2) km9; have mc3 := held_cell (i := 3) km9 rfl; have mf3 := held_frozen (i := 3) km9; have mc4 := held_cell (i := 4) km9 rfl; have mf4 := held_frozen (i := 4) km9; have mc5 := held_cell (i := 5) km9 rfl; have mf5 := held_frozen (i := 5) km9; have mc6 := held_cell (i := 6) km9 rfl; have mf6 := held_frozen (i := 6) km9; have mc7 := held_cell (i := 7) km9 rfl; have mf7 := held_frozen (i := 7) km9; have pc0 := held_cell (i := 0) kr9 rfl; have pf0 := held_frozen (i := 0) kr9; have pc1 := held_cell (i := 1) kr9 rfl; have pf1 := held_frozen (i := 1) kr9; have pc2 := held_cell (i := 2) kr9 rfl; have pf2 := held_frozen (i := 2) kr9; have pc3 := held_cell (i := 3) kr9 rfl; have pf3 := held_frozen (i := 3) kr9; have pc4 := held_cell (i := 4) kr9 rfl; have pf4 := held_frozen (i := 4) kr9; have pc5 := held_cell (i := 5) kr9 rfl; have pf5 := held_frozen (i := 5) kr9; have pc6 := held_cell (i := 6) kr9 rfl; have pf6 := held_frozen (i := 6) kr9; have pc7 := held_cell (i := 7) kr9 rfl; have pf7 := held_frozen (i := 7) kr9; clear HR))
      have rr := put8_row kr9 (.int .i64 M.id) (.int .i64 M.least) (.int .i64 M.most) (.int .i64 M.first) (.int .i64 M.last) (.int .i64 M.rows) (.int .i64 M.bytes) (.int .i64 M.level)
      clear pc0 pf0 pc1 pf1 pc2 pf2 pc3 pf3 pc4 pf4 pc5 pf5 pc6 pf6 pc7 pf7
      clear mc0 mf0 mc1 mf1 mc2 mf2 mc3 mf3 mc4 mf4 mc5 mf5 mc6 mf6 mc7 mf7
      have ec0 := held_cell (i := 0) rr rfl
      have ef0 := held_frozen (i := 0) rr
      have ec1 := held_cell (i := 1) rr rfl
      have ef1 := held_frozen (i := 1) rr
      have ec2 := held_cell (i := 2) rr rfl
      have ef2 := held_frozen (i := 2) rr
      have ec3 := held_cell (i := 3) rr rfl
      have ef3 := held_frozen (i := 3) rr
      have ec4 := held_cell (i := 4) rr rfl
      have ef4 := held_frozen (i := 4) rr
      have ec5 := held_cell (i := 5) rr rfl
      have ef5 := held_frozen (i := 5) rr
      have ec6 := held_cell (i := 6) rr rfl
      have ef6 := held_frozen (i := 6) rr
      have ec7 := held_cell (i := 7) rr rfl
      have ef7 := held_frozen (i := 7) rr
      have HBB := b04.trans (b9.mono b04.size)
      exact bodyPost_ret (v := .tuple #[.agg #[.int .i64 M.id, .int .i64 M.least, .int .i64 M.most, .int .i64 M.first, .int .i64 M.last, .int .i64 M.rows, .int .i64 M.bytes, .int .i64 M.level], .int .i64 0]) (by simp [results, Try.results7, go_sem, ec0, ec1, ec2, ec3, ec4, ec5, ec6, ec7]) rfl ⟨HQ.out, HBB.trans (Tch.to_below (put8_tch (b := w.heap.size) _ _ _ _ _ _ _ _) (fun j (e : j = w.heap.size) => (show w.heap.size ≤ j by omega)) HBB.size)⟩
  · have HQ : Hid (Ending.returned (.tuple #[.agg #[.int .i64 0, .int .i64 0, .int .i64 0, .int .i64 0, .int .i64 0, .int .i64 0, .int .i64 0, .int .i64 0], .int .i64 21]) = .returned (.tuple #[metaV (getPM l).1, .int .i64 (getPM l).2])) := hid (by rw [getPM_no HG.out (.inl hdn)]; rfl)
    have hne : ((dn : Int) == 0) = false := by simp; omega
    have hne2 : ((dn : Int) != 0) = true := by rw [bne, hne]; rfl
    clear HG hdn HR
    go_wp2_with (first
      | (go_at_call 23; refine hD.mono ?_; rintro e w3 ⟨rfl, nq, rfl⟩; have km3 := (Tch.of_below (bdN (Below.refl _ _) nq) (S := fun _ => False)).row km2 (fun h => h); have kr3 := (Tch.of_below (bdN (Below.refl _ _) nq) (S := fun _ => False)).row kr2 (fun h => h); have b04 := bdN b03 nq; have mc0 := held_cell (i := 0) km3 rfl; have mf0 := held_frozen (i := 0) km3; have mc1 := held_cell (i := 1) km3 rfl; have mf1 := held_frozen (i := 1) km3; have mc2 := held_cell (i := 2) km3 rfl; have mf2 := held_frozen (i := 2) km3; have mc3 := held_cell (i := 3) km3 rfl; have mf3 := held_frozen (i := 3) km3; have mc4 := held_cell (i := 4) km3 rfl; have mf4 := held_frozen (i := 4) km3; have mc5 := held_cell (i := 5) km3 rfl; have mf5 := held_frozen (i := 5) km3; have mc6 := held_cell (i := 6) km3 rfl; have mf6 := held_frozen (i := 6) km3; have mc7 := held_cell (i := 7) km3 rfl; have mf7 := held_frozen (i := 7) km3; have pc0 := held_cell (i := 0) kr3 rfl; have pf0 := held_frozen (i := 0) kr3; have pc1 := held_cell (i := 1) kr3 rfl; have pf1 := held_frozen (i := 1) kr3; have pc2 := held_cell (i := 2) kr3 rfl; have pf2 := held_frozen (i := 2) kr3; have pc3 := held_cell (i := 3) kr3 rfl; have pf3 := held_frozen (i := 3) kr3; have pc4 := held_cell (i := 4) kr3 rfl; have pf4 := held_frozen (i := 4) kr3; have pc5 := held_cell (i := 5) kr3 rfl; have pf5 := held_frozen (i := 5) kr3; have pc6 := held_cell (i := 6) kr3 rfl; have pf6 := held_frozen (i := 6) kr3; have pc7 := held_cell (i := 7) kr3 rfl; have pf7 := held_frozen (i := 7) kr3; clear hD))
    have rr := put8_row kr3 (.int .i64 0) (.int .i64 0) (.int .i64 0) (.int .i64 0) (.int .i64 0) (.int .i64 0) (.int .i64 0) (.int .i64 0)
    clear pc0 pf0 pc1 pf1 pc2 pf2 pc3 pf3 pc4 pf4 pc5 pf5 pc6 pf6 pc7 pf7
    clear mc0 mf0 mc1 mf1 mc2 mf2 mc3 mf3 mc4 mf4 mc5 mf5 mc6 mf6 mc7 mf7
    have ec0 := held_cell (i := 0) rr rfl
    have ef0 := held_frozen (i := 0) rr
    have ec1 := held_cell (i := 1) rr rfl
    have ef1 := held_frozen (i := 1) rr
    have ec2 := held_cell (i := 2) rr rfl
    have ef2 := held_frozen (i := 2) rr
    have ec3 := held_cell (i := 3) rr rfl
    have ef3 := held_frozen (i := 3) rr
    have ec4 := held_cell (i := 4) rr rfl
    have ef4 := held_frozen (i := 4) rr
    have ec5 := held_cell (i := 5) rr rfl
    have ef5 := held_frozen (i := 5) rr
    have ec6 := held_cell (i := 6) rr rfl
    have ef6 := held_frozen (i := 6) rr
    have ec7 := held_cell (i := 7) rr rfl
    have ef7 := held_frozen (i := 7) rr
    have HBB := b04
    exact bodyPost_ret (v := .tuple #[.agg #[.int .i64 0, .int .i64 0, .int .i64 0, .int .i64 0, .int .i64 0, .int .i64 0, .int .i64 0, .int .i64 0], .int .i64 21]) (by simp [results, Try.results7, go_sem, ec0, ec1, ec2, ec3, ec4, ec5, ec6, ec7]) rfl ⟨HQ.out, HBB.trans (Tch.to_below (put8_tch (b := w.heap.size) _ _ _ _ _ _ _ _) (fun j (e : j = w.heap.size) => (show w.heap.size ≤ j by omega)) HBB.size)⟩
end Go.Proofs.Ytddbmibpnahmnaa
