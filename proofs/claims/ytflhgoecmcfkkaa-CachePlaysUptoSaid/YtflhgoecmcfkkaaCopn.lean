/-
  Calls of a cache that came in as a list, opened; their sizes by bulk. Conditions: those that each theorem names.
-/
import Derived.Test.YtflhgoecmcfkkaaCkno
import Derived.Deep.DeepHandedRow
import Derived.Deep.SlicePairs
import Derived.Deep.Slices
import Derived.Lib.LaidTab
import Derived.Lib.LaidU8T
import Derived.Lay
import Derived.Lib.SmallJoins
namespace Go.Icz
open Go.RowKit
/-- A call: its kind, key and value. -/
structure OpE where
  kd : Int
  key : ByteArray
  A : Option Addr
  c : Nat
  bs : List Nat
def OpE.v (o : OpE) : Value := .slice o.A o.bs.length o.c
/-- The slice v holds the calls l. -/
def RdO (w : World) (v : Value) (l : List OpE) : Prop :=
  ∃ A c, v = .slice A l.length c ∧ l.length ≤ 1048576 ∧ (0 < l.length → ∃ b off, A = some ⟨b, off, none⟩ ∧ b < w.heap.size ∧ ∀ j (hj : j < l.length),
    w.cell? ⟨b, off + j * 3, none⟩ = some (.int .i64 l[j].kd) ∧ w.cell? ⟨b, off + (j * 3 + 1), none⟩ = some (.string l[j].key) ∧ w.cell? ⟨b, off + (j * 3 + 2), none⟩ = some l[j].v ∧ Rd w l[j].v l[j].bs ∧ l[j].key.size ≤ 1048576 ∧ l[j].bs.length ≤ 1048576 ∧ (∀ x ∈ l[j].bs, x < 256))
theorem Rd.lt {w : World} {v : Value} {l : List Nat} (h : Rd w v l) (h0 : 0 < l.length) : ∀ b, v.ownBlock = some b → b < w.heap.size := by
  obtain ⟨A, c, rfl, _, hr⟩ := h
  obtain ⟨b, off, rfl, hlt, _⟩ := hr h0
  intro b' hb
  injection hb with hb
  subst hb
  exact hlt
end Go.Icz
namespace Go.Proofs.Ytflhgoecmcfkkaa
open Go.ChangeMaps Go.ChangeShapes Go.WideShapes Go.ChangeAt Go.RowKit Go.Icz
theorem bulk_pos {H : Type} : ∀ d : DataW H, 1 ≤ Rows.uptoBulk d
  | .lit (.string s) => by simp only [Rows.uptoBulk]; omega
  | .lit (.bool _) => Nat.le_refl _
  | .lit (.int _ _) => Nat.le_refl _
  | .lit l => by cases l <;> simp only [Rows.uptoBulk] <;> omega
  | .nil => Nat.le_refl _
  | .ptr _ => by simp only [Rows.uptoBulk]; omega
  | .slice _ _ => by simp only [Rows.uptoBulk]; omega
  | .agg _ => by simp only [Rows.uptoBulk]; omega
  | .iface _ _ => by simp only [Rows.uptoBulk]; omega
  | .map _ => by simp only [Rows.uptoBulk]; omega
  | .held _ => Nat.le_refl _
theorem bulk_len {H : Type} : ∀ ds : List (DataW H), ds.length ≤ Rows.uptoBulkAll ds
  | [] => by simp
  | d :: ds => by
    have := bulk_len ds
    have := bulk_pos d
    simp only [Rows.uptoBulkAll, List.length_cons]
    omega
theorem bulk_all {H : Type} {d : DataW H} : ∀ {ds : List (DataW H)}, d ∈ ds → Rows.uptoBulk d ≤ Rows.uptoBulkAll ds
  | [], h => by simp at h
  | e :: ds, h => by
    rcases List.mem_cons.1 h with rfl | h
    · simp only [Rows.uptoBulkAll]; omega
    · have := bulk_all h
      simp only [Rows.uptoBulkAll]; omega
theorem cI : Try.prog.cellsOf 3 = 1 := by kernel_rfl
theorem cB : Try.prog.cellsOf 32 = 1 := by kernel_rfl
theorem cS : Try.prog.cellsOf 9 = 1 := by kernel_rfl
theorem c8 : Try.prog.cellsOf 5 = 1 := by kernel_rfl
theorem cO : Try.prog.cellsOf 34 = 3 := by kernel_rfl
set_option maxRecDepth 100000 in
open Go.Joins Go.Deep in
theorem open_cop {H : Type} {enc : TypeId × Value → H} {W : World} {n : Nat} {cs : List Value} {D : DataW H} {Pl : List MemPlace} (h : DataW.trod enc Try.prog W 0 (fun _ => true) true n 34 cs = some (D, Pl)) (hb : Rows.uptoBulk D ≤ 1048576) :
    ∃ o : OpE, cs = [.int .i64 o.kd, .string o.key, o.v] ∧ Rd W o.v o.bs ∧ o.key.size ≤ 1048576 ∧ o.bs.length ≤ 1048576 ∧ ∀ x ∈ o.bs, x < 256 := by
  obtain ⟨xs, k, hk, hxy, hcl, hxl, hf⟩ := DataW.trod_struct Try.underlying34 h
  rw [cO] at hcl
  match cs, hcl, xs, hxl with
  | [v0, v1, v2], _, [y0, y1, y2], _ =>
    have g0 := hf 0 _ rfl
    have g1 := hf 1 _ rfl
    have g2 := hf 2 _ rfl
    simp [cI, cS, cB] at g0 g1 g2
    obtain ⟨z0, e0, f0⟩ := DataW.trod_int Try.underlying3 g0
    obtain ⟨s1, e1, f1, b1⟩ := DataW.trod_string Try.underlying9 g1
    obtain ⟨A, m, c, e2⟩ := slice_form Try.underlying32 g2
    simp only [List.cons.injEq, and_true] at e0 e1 e2
    subst e0 e1 e2
    obtain ⟨l, hl, hr, hlt, hd⟩ := open_rd std c8 (W := W) (held := true) (a := A) (len := m) (cap := c) (d := y2.1) (p := y2.2) ⟨k, by simpa [Value.cells] using g2⟩
    subst hl
    simp only [Prod.mk.injEq] at hxy
    obtain ⟨hD, _⟩ := hxy
    have e1 : y1.1 = .lit (.string s1.data.toList) := by rw [f1]
    rw [hD] at hb
    simp only [List.map_cons, List.map_nil, Rows.uptoBulk, Rows.uptoBulkAll, e1] at hb
    refine ⟨⟨z0, s1, A, c, l⟩, rfl, hr, ?_, ?_, hlt⟩
    · rw [Array.length_toList] at hb
      have : s1.size = s1.data.size := rfl
      simp only
      omega
    · rcases hd with ⟨_, h0⟩ | ⟨el, sp, h0, h3, h4⟩
      · simp only; rw [h0]; simp
      · rw [h0] at hb
        simp only [Rows.uptoBulk] at hb
        have := bulk_len el
        have := bulk_len sp
        simp only
        omega
set_option maxRecDepth 100000 in
open Go.Joins Go.Deep in
theorem open_cops {H : Type} {enc : TypeId × Value → H} {W : World} {a : Option Addr} {len cap : Nat} {d : DataW H} {p : List MemPlace} (h : DataW.Trod enc Try.prog W 0 (fun _ => true) true 22 (.slice a len cap) d p) (hb : Rows.uptoBulk d ≤ 1048576) :
    ∃ l : List OpE, l.length = len ∧ RdO W (.slice a len cap) l := by
  obtain ⟨fuel, hf⟩ := h
  rcases Go.Deep.open_slice Try.underlying22 hf with ⟨hcs, hx⟩ | ⟨x, ln, cp, m, n, D, Pl, hcs, _, hl, hm, hmm, hx, hall⟩
  · simp [Value.cells] at hcs
    obtain ⟨rfl, rfl, rfl⟩ := hcs
    exact ⟨[], rfl, none, 0, rfl, by simp, fun h => absurd h (by simp)⟩
  · simp [Value.cells] at hcs
    obtain ⟨rfl, rfl, rfl⟩ := hcs
    simp only [if_true] at hmm
    subst hmm
    simp only [Prod.mk.injEq] at hx
    obtain ⟨hd, _⟩ := hx
    rw [hd] at hb
    simp only [Rows.uptoBulk] at hb
    have hbl := bulk_len ((List.range len).map D)
    simp only [List.length_map, List.length_range] at hbl
    have each : ∀ i, i < len → ∃ y : OpE, W.cell? (x.add (i * 3)) = some (.int .i64 y.kd) ∧ W.cell? (x.add (i * 3 + 1)) = some (.string y.key) ∧ W.cell? (x.add (i * 3 + 2)) = some y.v ∧ Rd W y.v y.bs ∧ y.key.size ≤ 1048576 ∧ y.bs.length ≤ 1048576 ∧ ∀ x ∈ y.bs, x < 256 := by
      intro i hi
      obtain ⟨cs', h1, h2⟩ := hall i (by omega)
      rw [cO] at h1
      obtain ⟨_, hlen, hcell⟩ := World.cells?_some h1
      have hDi : Rows.uptoBulk (D i) ≤ Rows.uptoBulkAll ((List.range len).map D) := bulk_all (List.mem_map.2 ⟨i, List.mem_range.2 hi, rfl⟩)
      obtain ⟨y, hcs, hr, b1, b2, b3⟩ := open_cop h2 (by omega)
      subst hcs
      have c0 := hcell 0 (by omega)
      have c1 := hcell 1 (by omega)
      have c2 := hcell 2 (by omega)
      rw [Go.Deep.add_add] at c0 c1 c2
      exact ⟨y, by simpa using c0, by simpa using c1, by simpa using c2, hr, b1, b2, b3⟩
    haveI : Inhabited OpE := ⟨⟨0, ⟨#[]⟩, none, 0, []⟩⟩
    obtain ⟨Y, hY⟩ := Go.Deep.choose_lt each
    have hlen : ((List.range len).map Y).length = len := by simp
    refine ⟨(List.range len).map Y, hlen, some x, m, by rw [hlen], by rw [hlen]; omega, fun h0 => ?_⟩
    rw [hlen] at h0
    obtain ⟨b, off, spot⟩ := x
    have hc0 := (hY 0 (by omega)).1
    have hspot : spot = none := by simpa [Addr.add] using World.cell?_spot hc0
    subst hspot
    refine ⟨b, off, rfl, World.block_lt_of_cell? W _ (by simpa [Addr.add] using hc0), fun j hj => ?_⟩
    rw [hlen] at hj
    obtain ⟨k0, k1, k2, k3⟩ := hY j hj
    rw [add_flat] at k0 k1 k2
    simp only [List.getElem_map, List.getElem_range]
    exact ⟨k0, k1, k2, k3⟩
end Go.Proofs.Ytflhgoecmcfkkaa
