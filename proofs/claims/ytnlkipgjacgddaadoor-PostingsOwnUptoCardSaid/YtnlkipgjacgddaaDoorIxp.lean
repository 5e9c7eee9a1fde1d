/-
  A list of operations on an index that came in, opened. Conditions: those that each theorem names.
-/
import Derived.Test.YtnlkipgjacgddaaDoorTabI
import Derived.Test.YtnlkipgjacgddaaDoorIxl
import Derived.Lib.SmallJoins
namespace Go.Proofs.YtnlkipgjacgddaaDoor
open Go.ChangeMaps Go.ChangeShapes Go.WideShapes Go.ChangeAt Go.RowKit Go.Icz
theorem bulk_pos {H : Type} : ∀ d : DataW H, 1 ≤ Rows.uptoBulk d
  | .lit (.string s) => by simp only [Rows.uptoBulk]; omega
  | .lit (.bool _) => Nat.le_refl _
  | .lit (.int _ _) => Nat.le_refl _
  | .lit l => by cases l <;> simp only [Rows.uptoBulk] <;> omega
  | .nil => Nat.le_refl _
  | .ptr _ => by simp only [Rows.uptoBulk]; omega
  | .slice _ _ => by simp only [Rows.uptoBulk]; omega
  | .agg _ => by simp only [Rows.uptoBulk]; omega
  | .iface _ _ => by simp only [Rows.uptoBulk]; omega
  | .map _ => by simp only [Rows.uptoBulk]; omega
  | .held _ => Nat.le_refl _
theorem bulk_len {H : Type} : ∀ ds : List (DataW H), ds.length ≤ Rows.uptoBulkAll ds
  | [] => by simp
  | d :: ds => by
    have := bulk_len ds
    have := bulk_pos d
    simp only [Rows.uptoBulkAll, List.length_cons]
    omega
theorem cOpx : Tryd.prog.cellsOf 28 = 5 := by kernel_rfl
set_option maxRecDepth 100000 in
open Go.Joins Go.Deep in
theorem open_opx {H : Type} {enc : TypeId × Value → H} {W : World} {n : Nat} {cs : List Value} {D : DataW H} {Pl : List MemPlace} (h : DataW.trod enc Tryd.prog W 0 (fun _ => true) true n 28 cs = some (D, Pl)) :
    ∃ (o : OpP) (x y : Value), cs = [.int .i64 o.kd, .int .i64 o.id, .slice o.A o.l.length o.c, x, y] ∧ RdL W (.slice o.A o.l.length o.c) o.l ∧ (∀ z ∈ o.l, z.1.length ≤ 9223372036854775807 ∧ z.2.length ≤ 9223372036854775807) ∧ (Lit.int .i64 o.id).wf = true := by
  obtain ⟨xs, k, hk, hxy, hcl, hxl, hf⟩ := DataW.trod_struct Tryd.underlying28 h
  rw [cOpx] at hcl
  match cs, hcl, xs, hxl with
  | [v0, v1, v2, v3, v4], _, [y0, y1, y2, y3, y4], _ =>
    have g0 := hf 0 _ rfl
    have g1 := hf 1 _ rfl
    have g2 := hf 2 _ rfl
    have g3 := hf 3 _ rfl
    have g4 := hf 4 _ rfl
    simp [cellsInt, cellsLabs, cellsStr] at g0 g1 g2 g3 g4
    obtain ⟨z0, e0, f0, _⟩ := DataW.trod_int Tryd.underlying3 g0
    obtain ⟨z1, e1, f1, w1⟩ := DataW.trod_int Tryd.underlying3 g1
    obtain ⟨A, m, c, e2⟩ := slice_form Tryd.underlying26 g2
    simp only [List.cons.injEq, and_true] at e0 e1 e2
    subst e0 e1 e2
    obtain ⟨l, hl, hr, hb, hd⟩ := open_labs (W := W) (a := A) (len := m) (cap := c) (d := y2.1) (p := y2.2) ⟨k, by simpa [Value.cells] using g2⟩
    subst hl
    exact ⟨⟨z0, z1, A, c, l⟩, v3, v4, rfl, hr, hb, w1⟩
set_option maxRecDepth 100000 in
open Go.Joins Go.Deep in
theorem open_opxs {H : Type} {enc : TypeId × Value → H} {W : World} {a : Option Addr} {len cap : Nat} {d : DataW H} {p : List MemPlace} (h : DataW.Trod enc Tryd.prog W 0 (fun _ => true) true 22 (.slice a len cap) d p) (hb : Rows.uptoBulk d ≤ 1048576) :
    ∃ l : List OpP, l.length = len ∧ RdOps W (.slice a len cap) l ∧ l.length ≤ 1048576 := by
  obtain ⟨fuel, hf⟩ := h
  rcases Go.Deep.open_slice Tryd.underlying22 hf with ⟨hcs, hx⟩ | ⟨x, ln, cp, m, n, D, Pl, hcs, _, hl, hm, hmm, hx, hall⟩
  · simp [Value.cells] at hcs
    obtain ⟨rfl, rfl, rfl⟩ := hcs
    exact ⟨[], rfl, ⟨none, 0, rfl, fun h => absurd h (by simp)⟩, by simp⟩
  · simp [Value.cells] at hcs
    obtain ⟨rfl, rfl, rfl⟩ := hcs
    simp only [if_true] at hmm
    subst hmm
    simp only [Prod.mk.injEq] at hx
    obtain ⟨hd, _⟩ := hx
    rw [hd] at hb
    simp only [Rows.uptoBulk] at hb
    have hbl := bulk_len ((List.range len).map D)
    simp only [List.length_map, List.length_range] at hbl
    have each : ∀ i, i < len → ∃ y : OpP, W.cell? (x.add (i * 5)) = some (.int .i64 y.kd) ∧ W.cell? (x.add (i * 5 + 1)) = some (.int .i64 y.id) ∧ W.cell? (x.add (i * 5 + 2)) = some (.slice y.A y.l.length y.c) ∧ RdL W (.slice y.A y.l.length y.c) y.l ∧ (∀ z ∈ y.l, z.1.length ≤ 9223372036854775807 ∧ z.2.length ≤ 9223372036854775807) ∧ (Lit.int .i64 y.id).wf = true := by
      intro i hi
      obtain ⟨cs', h1, h2⟩ := hall i (by omega)
      rw [cOpx] at h1
      obtain ⟨_, hlen, hcell⟩ := World.cells?_some h1
      obtain ⟨y, s, t, hcs, hr, b1, b2⟩ := open_opx h2
      subst hcs
      have c0 := hcell 0 (by omega)
      have c1 := hcell 1 (by omega)
      have c2 := hcell 2 (by omega)
      rw [Go.Deep.add_add] at c0 c1 c2
      exact ⟨y, by simpa using c0, by simpa using c1, by simpa using c2, hr, b1, b2⟩
    haveI : Inhabited OpP := ⟨⟨0, 0, none, 0, []⟩⟩
    obtain ⟨Y, hY⟩ := Go.Deep.choose_lt each
    have hlen : ((List.range len).map Y).length = len := by simp
    refine ⟨(List.range len).map Y, hlen, ⟨some x, m, by rw [hlen], fun h0 => ?_⟩, by rw [hlen]; omega⟩
    rw [hlen] at h0
    obtain ⟨b, off, spot⟩ := x
    have hc0 := (hY 0 (by omega)).1
    have hspot : spot = none := by simpa [Addr.add] using World.cell?_spot hc0
    subst hspot
    refine ⟨b, off, rfl, World.block_lt_of_cell? W _ (by simpa [Addr.add] using hc0), fun j hj => ?_⟩
    rw [hlen] at hj
    obtain ⟨k0, k1, k2, k3⟩ := hY j hj
    rw [add_flat] at k0 k1 k2
    simp only [List.getElem_map, List.getElem_range]
    exact ⟨k0, by rw [Nat.add_assoc]; exact k1, by rw [Nat.add_assoc]; exact k2, k3⟩
end Go.Proofs.YtnlkipgjacgddaaDoor
