/-
  What comes in, opened: bytes, operations; their sizes by bulk. Conditions: those that each theorem names.
-/
import Derived.Test.YtcohpgahffbnlaaOmg
import Derived.Deep.DeepHandedRow
import Derived.Deep.SlicePairs
import Derived.Deep.Slices
import Derived.Lib.LaidTab
import Derived.Lib.LaidU8T
import Derived.Lay
import Derived.Lib.SmallJoins
namespace Go.Icz
open Go.RowKit
/-- An operation of the law's. -/
structure OpD where
  kd : Int
  nm : ByteArray
  A : Option Addr
  C : Nat
  bs : List Nat
  n : Int
  y : Bool
def OpD.cells (o : OpD) : Array Value := #[.int .i64 o.kd, .string o.nm, .slice o.A o.bs.length o.C, .int .i64 o.n, .bool o.y]
structure OpOk (w : World) (B : Nat) (o : OpD) : Prop where
  nm : o.nm.size ≤ maxLen
  bs : o.bs.length ≤ 1048576
  n : -9223372036854775808 ≤ o.n ∧ o.n ≤ 9223372036854775807
  rd : KB.Rd w (.slice o.A o.bs.length o.C) o.bs
  far : 0 < o.bs.length → ∀ b, (Value.slice o.A o.bs.length o.C).ownBlock = some b → b < B
/-- The slice v holds the operations l, and what they point at lies below B. -/
def RdO (w : World) (B : Nat) (v : Value) (l : List OpD) : Prop :=
  ∃ A c, v = .slice A l.length c ∧ l.length ≤ 1048576 ∧ (0 < l.length → ∃ b off, A = some ⟨b, off, none⟩ ∧ b < B ∧ b < w.heap.size ∧ ∀ j (hj : j < l.length),
    (∀ i u, i < 5 → l[j].cells[i]? = some u → w.cell? ⟨b, off + (j * 5 + i), none⟩ = some u) ∧ OpOk w B l[j])
end Go.Icz
namespace Go.Proofs.Ytcohpgahffbnlaa
open Go.ChangeMaps Go.ChangeShapes Go.WideShapes Go.ChangeAt Go.RowKit Go.Icz
theorem bulk_pos {H : Type} : ∀ d : DataW H, 1 ≤ Rows.uptoBulk d
  | .lit (.string s) => by simp only [Rows.uptoBulk]; omega
  | .lit (.bool _) => Nat.le_refl _
  | .lit (.int _ _) => Nat.le_refl _
  | .lit l => by cases l <;> simp only [Rows.uptoBulk] <;> omega
  | .nil => Nat.le_refl _
  | .ptr _ => by simp only [Rows.uptoBulk]; omega
  | .slice _ _ => by simp only [Rows.uptoBulk]; omega
  | .agg _ => by simp only [Rows.uptoBulk]; omega
  | .iface _ _ => by simp only [Rows.uptoBulk]; omega
  | .map _ => by simp only [Rows.uptoBulk]; omega
  | .held _ => Nat.le_refl _
theorem bulk_len {H : Type} : ∀ ds : List (DataW H), ds.length ≤ Rows.uptoBulkAll ds
  | [] => by simp
  | d :: ds => by
    have := bulk_len ds
    have := bulk_pos d
    simp only [Rows.uptoBulkAll, List.length_cons]
    omega
theorem bulk_all {H : Type} {d : DataW H} : ∀ {ds : List (DataW H)}, d ∈ ds → Rows.uptoBulk d ≤ Rows.uptoBulkAll ds
  | [], h => by simp at h
  | e :: ds, h => by
    rcases List.mem_cons.1 h with rfl | h
    · simp only [Rows.uptoBulkAll]; omega
    · have := bulk_all h
      simp only [Rows.uptoBulkAll]; omega
theorem cI : Try.prog.cellsOf 3 = 1 := by kernel_rfl
theorem cB : Try.prog.cellsOf 32 = 1 := by kernel_rfl
theorem cS : Try.prog.cellsOf 9 = 1 := by kernel_rfl
theorem c8 : Try.prog.cellsOf 5 = 1 := by kernel_rfl
theorem cO : Try.prog.cellsOf 4 = 1 := by kernel_rfl
theorem cD : Try.prog.cellsOf 34 = 5 := by kernel_rfl
set_option maxRecDepth 100000 in
open Go.Joins Go.Deep in
theorem open_bytes {H : Type} {enc : TypeId × Value → H} {W : World} {fuel : Nat} {a : Option Addr} {len cap : Nat} {d : DataW H} {p : List MemPlace} (hf : DataW.trod enc Try.prog W 0 (fun _ => true) true fuel 32 [.slice a len cap] = some (d, p)) (hb : Rows.uptoBulk d ≤ 1048576) :
    ∃ l : List Nat, l.length = len ∧ KB.Rd W (.slice a len cap) l ∧ l.length ≤ 1048576 := by
  rcases Go.Deep.open_slice Try.underlying32 hf with ⟨hcs, hx⟩ | ⟨x, ln, cp, m, n, D, Pl, hcs, hle, hl, hm, hmm, hx, hall⟩
  · simp at hcs
    obtain ⟨rfl, rfl, rfl⟩ := hcs
    exact ⟨[], rfl, Kd.Rd.nil _, by simp⟩
  · simp at hcs
    obtain ⟨rfl, rfl, rfl⟩ := hcs
    simp only [if_true] at hmm
    subst hmm
    simp only [Prod.mk.injEq] at hx
    obtain ⟨hd, _⟩ := hx
    rw [hd] at hb
    simp only [Rows.uptoBulk] at hb
    have hbl := bulk_len ((List.range len).map D)
    simp only [List.length_map, List.length_range] at hbl
    have each : ∀ i, i < len → ∃ y : Nat, W.cell? (x.add (i * 1)) = some (.int .u8 (y : Int)) := by
      intro i hi
      obtain ⟨cs', h1, h2⟩ := hall i (by omega)
      rw [c8] at h1
      obtain ⟨_, hlen, hcell⟩ := World.cells?_some h1
      obtain ⟨z, e0, _, wz⟩ := DataW.trod_int Try.underlying5 h2
      subst e0
      have c0 := hcell 0 (by omega)
      rw [Go.Deep.add_add] at c0
      have hz : 0 ≤ z := by
        simp [Lit.wf, IntKind.min, IntKind.max, IntKind.signed, IntKind.bits] at wz
        omega
      exact ⟨z.toNat, by rw [Int.toNat_of_nonneg hz]; simpa using c0⟩
    obtain ⟨Y, hY⟩ := Go.Deep.choose_lt each
    have hlen : ((List.range len).map Y).length = len := by simp
    refine ⟨(List.range len).map Y, hlen, ⟨some x, m, by rw [hlen], by rw [hlen]; omega, fun h0 => ?_⟩, by rw [hlen]; omega⟩
    rw [hlen] at h0
    obtain ⟨b, off, spot⟩ := x
    have hc0 := hY 0 (by omega)
    have hspot : spot = none := by simpa [Addr.add] using World.cell?_spot hc0
    subst hspot
    refine ⟨b, off, rfl, World.block_lt_of_cell? W _ (by simpa [Addr.add] using hc0), fun j u hj => ?_⟩
    rw [KB_cells] at hj
    have hjl : j < len := by
      have := (List.getElem?_eq_some_iff.1 hj).1
      simpa using this
    have hk := hY j hjl
    rw [add_flat, Nat.mul_one] at hk
    rw [hk]
    simp [List.getElem?_map, List.getElem?_range hjl] at hj
    rw [← hj]
set_option maxRecDepth 100000 in
open Go.Joins Go.Deep in
theorem open_dop {H : Type} {enc : TypeId × Value → H} {W : World} {n : Nat} {cs : List Value} {D : DataW H} {Pl : List MemPlace} (h : DataW.trod enc Try.prog W 0 (fun _ => true) true n 34 cs = some (D, Pl)) (hb : Rows.uptoBulk D ≤ 1048576) :
    ∃ o : OpD, cs = o.cells.toList ∧ OpOk W W.heap.size o := by
  obtain ⟨xs, k, hk, hxy, hcl, hxl, hf⟩ := DataW.trod_struct Try.underlying34 h
  rw [cD] at hcl
  match cs, hcl, xs, hxl with
  | [v0, v1, v2, v3, v4], _, [y0, y1, y2, y3, y4], _ =>
    have g0 := hf 0 _ rfl
    have g1 := hf 1 _ rfl
    have g2 := hf 2 _ rfl
    have g3 := hf 3 _ rfl
    have g4 := hf 4 _ rfl
    simp [cI, cS, cB, cO] at g0 g1 g2 g3 g4
    obtain ⟨z0, e0, _, _⟩ := DataW.trod_int Try.underlying3 g0
    obtain ⟨s1, e1, _, b1⟩ := DataW.trod_string Try.underlying9 g1
    obtain ⟨A, m, c, e2⟩ := slice_form Try.underlying32 g2
    obtain ⟨z3, e3, _, w3⟩ := DataW.trod_int Try.underlying3 g3
    obtain ⟨z4, e4, _⟩ := DataW.trod_bool Try.underlying4 g4
    simp only [List.cons.injEq, and_true] at e0 e1 e2 e3 e4
    subst e0 e1 e2 e3 e4
    simp only [Prod.mk.injEq] at hxy
    obtain ⟨hD, _⟩ := hxy
    rw [hD] at hb
    simp only [List.map_cons, List.map_nil, Rows.uptoBulk, Rows.uptoBulkAll] at hb
    obtain ⟨l2, hl2, r2, z2⟩ := open_bytes (d := y2.1) (p := y2.2) g2 (by omega)
    subst hl2
    have hn : -9223372036854775808 ≤ z3 ∧ z3 ≤ 9223372036854775807 := by
      simp [Lit.wf, IntKind.min, IntKind.max, IntKind.signed, IntKind.bits] at w3
      omega
    have far : ∀ {α : Type} {K : Kd α} {v : Value} {l : List α}, K.Rd W v l → 0 < l.length → ∀ b, v.ownBlock = some b → b < W.heap.size := by
      intro α K v l hr h0 b hb
      obtain ⟨A, c, rfl, _, hr⟩ := hr
      obtain ⟨b', off, rfl, hlt, _⟩ := hr h0
      injection hb with hb
      have hb : b' = b := hb
      rw [← hb]
      exact hlt
    exact ⟨⟨z0, s1, A, c, l2, z3, z4⟩, rfl, ⟨b1, z2, hn, r2, far r2⟩⟩
set_option maxRecDepth 100000 in
open Go.Joins Go.Deep in
theorem open_dops {H : Type} {enc : TypeId × Value → H} {W : World} {a : Option Addr} {len cap : Nat} {d : DataW H} {p : List MemPlace} (h : DataW.Trod enc Try.prog W 0 (fun _ => true) true 22 (.slice a len cap) d p) (hb : Rows.uptoBulk d ≤ 1048576) :
    ∃ l : List OpD, l.length = len ∧ RdO W W.heap.size (.slice a len cap) l := by
  obtain ⟨fuel, hf⟩ := h
  rcases Go.Deep.open_slice Try.underlying22 hf with ⟨hcs, hx⟩ | ⟨x, ln, cp, m, n, D, Pl, hcs, _, hl, hm, hmm, hx, hall⟩
  · simp [Value.cells] at hcs
    obtain ⟨rfl, rfl, rfl⟩ := hcs
    exact ⟨[], rfl, none, 0, rfl, by simp, fun h => absurd h (by simp)⟩
  · simp [Value.cells] at hcs
    obtain ⟨rfl, rfl, rfl⟩ := hcs
    simp only [if_true] at hmm
    subst hmm
    simp only [Prod.mk.injEq] at hx
    obtain ⟨hd, _⟩ := hx
    rw [hd] at hb
    simp only [Rows.uptoBulk] at hb
    have hbl := bulk_len ((List.range len).map D)
    simp only [List.length_map, List.length_range] at hbl
    have each : ∀ i, i < len → ∃ y : OpD, (∀ k u, k < 5 → y.cells[k]? = some u → W.cell? (x.add (i * 5 + k)) = some u) ∧ OpOk W W.heap.size y := by
      intro i hi
      obtain ⟨cs', h1, h2⟩ := hall i (by omega)
      rw [cD] at h1
      obtain ⟨_, hlen, hcell⟩ := World.cells?_some h1
      have hDi : Rows.uptoBulk (D i) ≤ Rows.uptoBulkAll ((List.range len).map D) := bulk_all (List.mem_map.2 ⟨i, List.mem_range.2 hi, rfl⟩)
      obtain ⟨y, hcs, hok⟩ := open_dop h2 (by omega)
      refine ⟨y, fun k u hk hu => ?_, hok⟩
      have ck := hcell k hk
      rw [Go.Deep.add_add] at ck
      rw [ck, hcs, Array.getElem?_toList]
      exact hu
    haveI : Inhabited OpD := ⟨⟨0, ⟨#[]⟩, none, 0, [], 0, false⟩⟩
    obtain ⟨Y, hY⟩ := Go.Deep.choose_lt each
    have hlen : ((List.range len).map Y).length = len := by simp
    refine ⟨(List.range len).map Y, hlen, some x, m, by rw [hlen], by rw [hlen]; omega, fun h0 => ?_⟩
    rw [hlen] at h0
    obtain ⟨b, off, spot⟩ := x
    have hc0 := (hY 0 (by omega)).1 0 (.int .i64 (Y 0).kd) (by decide) rfl
    have hspot : spot = none := by simpa [Addr.add] using World.cell?_spot hc0
    subst hspot
    have hbl : b < W.heap.size := World.block_lt_of_cell? W _ (by simpa [Addr.add] using hc0)
    refine ⟨b, off, rfl, hbl, hbl, fun j hj => ?_⟩
    rw [hlen] at hj
    obtain ⟨k0, k1⟩ := hY j hj
    simp only [List.getElem_map, List.getElem_range]
    refine ⟨fun k u hk hu => ?_, k1⟩
    have := k0 k u hk hu
    rwa [add_flat] at this
set_option maxRecDepth 100000
theorem rd_far {α : Type} {K : Kd α} {W : World} {v : Value} {l : List α} (hr : K.Rd W v l) : 0 < l.length → ∀ b, v.ownBlock = some b → b < W.heap.size := by
  intro h0 b hb
  obtain ⟨A, c, rfl, _, hr⟩ := hr
  obtain ⟨b', off, rfl, hlt, _⟩ := hr h0
  injection hb with hb
  have hb : b' = b := hb
  rw [← hb]
  exact hlt
open Go.Joins Go.Deep in
theorem open_one {H : Type} {enc : TypeId × Value → H} {W : World} {r : Reach} {b0 : Nat} {v : Value} {d : DataW H} {p : List MemPlace} (hv : Value.okWide Try.prog W r b0 34 v) (h : DataW.Trod enc Try.prog W 0 (fun _ => true) true 34 v d p) (hb : Rows.uptoBulk d ≤ 1048576) :
    ∃ o : OpD, v = .agg o.cells ∧ OpOk W W.heap.size o := by
  obtain ⟨cs, rfl, hsz⟩ := okWide_struct Try.underlying34 hv
  obtain ⟨fuel, hf⟩ := h
  obtain ⟨o, ho, ok⟩ := open_dop (by simpa [Value.cells] using hf) hb
  refine ⟨o, ?_, ok⟩
  have : cs = o.cells := by
    apply Array.ext'
    exact ho
  rw [this]
theorem open_bool {H : Type} {enc : TypeId × Value → H} {W : World} {t : TypeId} (hu : Try.prog.underlying t = some .bool) {r : Reach} {b0 : Nat} {v : Value} {d : DataW H} {p : List MemPlace} {held : _} {spare : Bool} (hv : Value.okWide Try.prog W r b0 t v) (h : DataW.Trod enc Try.prog W 0 held spare t v d p) : ∃ b, v = .bool b ∧ d = .lit (.bool b) ∧ p = [] := by
  obtain ⟨b', rfl⟩ := okWide_bool hu hv
  obtain ⟨m, hm⟩ := h
  obtain ⟨b, e0, e1⟩ := DataW.trod_bool hu hm
  simp [Value.cells] at e0
  subst e0
  simp only [Prod.mk.injEq] at e1
  exact ⟨b', rfl, e1.1, e1.2⟩
end Go.Proofs.Ytcohpgahffbnlaa
