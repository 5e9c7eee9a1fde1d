/-
  Lists of Metas, rules, bytes that came in, opened; their sizes by bulk. Conditions: those that each theorem names.
-/
import Derived.Test.YtddbmibpnahmnaaNrt
import Derived.Deep.DeepHandedRow
import Derived.Deep.SlicePairs
import Derived.Deep.Slices
import Derived.Lib.LaidTab
import Derived.Lib.LaidU8T
import Derived.Lay
import Derived.Lib.SmallJoins
namespace Go.Proofs.Ytddbmibpnahmnaa
open Go.ChangeMaps Go.ChangeShapes Go.WideShapes Go.ChangeAt Go.RowKit Go.Icz
theorem bulk_pos {H : Type} : ∀ d : DataW H, 1 ≤ Rows.uptoBulk d
  | .lit (.string s) => by simp only [Rows.uptoBulk]; omega
  | .lit (.bool _) => Nat.le_refl _
  | .lit (.int _ _) => Nat.le_refl _
  | .lit l => by cases l <;> simp only [Rows.uptoBulk] <;> omega
  | .nil => Nat.le_refl _
  | .ptr _ => by simp only [Rows.uptoBulk]; omega
  | .slice _ _ => by simp only [Rows.uptoBulk]; omega
  | .agg _ => by simp only [Rows.uptoBulk]; omega
  | .iface _ _ => by simp only [Rows.uptoBulk]; omega
  | .map _ => by simp only [Rows.uptoBulk]; omega
  | .held _ => Nat.le_refl _
theorem bulk_len {H : Type} : ∀ ds : List (DataW H), ds.length ≤ Rows.uptoBulkAll ds
  | [] => by simp
  | d :: ds => by
    have := bulk_len ds
    have := bulk_pos d
    simp only [Rows.uptoBulkAll, List.length_cons]
    omega
theorem bulk_all {H : Type} {d : DataW H} : ∀ {ds : List (DataW H)}, d ∈ ds → Rows.uptoBulk d ≤ Rows.uptoBulkAll ds
  | [], h => by simp at h
  | e :: ds, h => by
    rcases List.mem_cons.1 h with rfl | h
    · simp only [Rows.uptoBulkAll]; omega
    · have := bulk_all h
      simp only [Rows.uptoBulkAll]; omega
theorem cI : Try.prog.cellsOf 3 = 1 := by kernel_rfl
theorem cRm : Try.prog.cellsOf 32 = 8 := by kernel_rfl
set_option maxRecDepth 100000 in
open Go.Joins Go.Deep in
theorem open_kd {α : Type} [Inhabited α] (K : Kd α) {H : Type} {enc : TypeId × Value → H} {W : World} {t : TypeId} (ht : Try.prog.underlying t = some (.slice K.e)) (hc : Try.prog.cellsOf K.e = K.z) (Q : α → Prop)
    (each : ∀ n cs D Pl, DataW.trod enc Try.prog W 0 (fun _ => true) true n K.e cs = some (D, Pl) → Rows.uptoBulk D ≤ 1048576 → ∃ x, cs = K.enc x ∧ Q x)
    {fuel : Nat} {a : Option Addr} {len cap : Nat} {d : DataW H} {p : List MemPlace} (hf : DataW.trod enc Try.prog W 0 (fun _ => true) true fuel t [.slice a len cap] = some (d, p)) (hb : Rows.uptoBulk d ≤ 1048576) :
    ∃ l : List α, l.length = len ∧ l.length ≤ 1048576 ∧ K.Rd W (.slice a len cap) l ∧ ∀ x ∈ l, Q x := by
  rcases Go.Deep.open_slice ht hf with ⟨hcs, hx⟩ | ⟨x, ln, cp, m, n, D, Pl, hcs, _, hl, hm, hmm, hx, hall⟩
  · simp only [List.cons.injEq, Value.slice.injEq, and_true] at hcs
    obtain ⟨rfl, rfl, rfl⟩ := hcs
    exact ⟨[], rfl, by simp, Kd.Rd.nil W, by simp⟩
  · simp only [List.cons.injEq, Value.slice.injEq, and_true] at hcs
    obtain ⟨rfl, rfl, rfl⟩ := hcs
    simp only [if_true] at hmm
    subst hmm
    simp only [Prod.mk.injEq] at hx
    obtain ⟨hd, _⟩ := hx
    rw [hd] at hb
    simp only [Rows.uptoBulk] at hb
    have hbl := bulk_len ((List.range len).map D)
    simp only [List.length_map, List.length_range] at hbl
    have each2 : ∀ i, i < len → ∃ y : α, (∀ j u, j < K.z → (K.enc y)[j]? = some u → W.cell? (x.add (i * K.z + j)) = some u) ∧ Q y := by
      intro i hi
      obtain ⟨cs', h1, h2⟩ := hall i (by omega)
      rw [hc] at h1
      obtain ⟨_, hlen, hcell⟩ := World.cells?_some h1
      have hDi : Rows.uptoBulk (D i) ≤ Rows.uptoBulkAll ((List.range len).map D) := bulk_all (List.mem_map.2 ⟨i, List.mem_range.2 hi, rfl⟩)
      obtain ⟨y, hcs, hq⟩ := each _ _ _ _ h2 (by omega)
      refine ⟨y, fun j u hj hu => ?_, hq⟩
      have := hcell j (by omega)
      rw [Go.Deep.add_add] at this
      rw [this, hcs, hu]
    obtain ⟨Y, hY⟩ := Go.Deep.choose_lt each2
    have hlen : ((List.range len).map Y).length = len := by simp
    refine ⟨(List.range len).map Y, hlen, by rw [hlen]; omega, ⟨some x, _, by rw [hlen], by rw [hlen]; omega, fun h0 => ?_⟩, ?_⟩
    · rw [hlen] at h0
      obtain ⟨b, off, spot⟩ := x
      obtain ⟨u0, hu0⟩ : ∃ u, (K.enc (Y 0))[0]? = some u := by
        have h1 : 0 < (K.enc (Y 0)).length := by rw [K.len]; exact K.pos
        exact ⟨_, List.getElem?_eq_getElem h1⟩
      have hc0 := (hY 0 (by omega)).1 0 u0 K.pos hu0
      have hspot : spot = none := by simpa [Addr.add] using World.cell?_spot hc0
      subst hspot
      refine ⟨b, off, rfl, World.block_lt_of_cell? W _ (by simpa [Addr.add] using hc0), fun j u hj => ?_⟩
      have hjl := (List.getElem?_eq_some_iff.1 hj).1
      rw [K.cells_len, hlen] at hjl
      have hq : j / K.z < len := by rw [Nat.div_lt_iff_lt_mul K.pos]; exact hjl
      have hr : j % K.z < K.z := Nat.mod_lt _ K.pos
      have hj2 : j = j / K.z * K.z + j % K.z := by rw [Nat.mul_comm]; exact (Nat.div_add_mod j K.z).symm
      have hg := K.cells_get ((List.range len).map Y) (j / K.z) (by rw [hlen]; exact hq) (j % K.z) hr
      rw [← hj2, hj] at hg
      have hg2 : (K.enc (Y (j / K.z)))[j % K.z]? = some u := by
        rw [hg]
        simp
      have := (hY (j / K.z) hq).1 (j % K.z) u hr hg2
      rw [add_flat, ← hj2] at this
      exact this
    · intro y hy
      obtain ⟨i, hi, rfl⟩ := List.mem_map.1 hy
      exact (hY i (List.mem_range.1 hi)).2
/-- Whether each number is one that an int holds. -/
structure WfM (x : MV) : Prop where
  w0 : (Lit.int .i64 x.id).wf = true
  w1 : (Lit.int .i64 x.least).wf = true
  w2 : (Lit.int .i64 x.most).wf = true
  w3 : (Lit.int .i64 x.first).wf = true
  w4 : (Lit.int .i64 x.last).wf = true
  w5 : (Lit.int .i64 x.rows).wf = true
  w6 : (Lit.int .i64 x.bytes).wf = true
  w7 : (Lit.int .i64 x.level).wf = true
set_option maxRecDepth 100000 in
open Go.Joins Go.Deep in
theorem open_metac {H : Type} {enc : TypeId × Value → H} {W : World} {n : Nat} {cs : List Value} {D : DataW H} {Pl : List MemPlace} (h : DataW.trod enc Try.prog W 0 (fun _ => true) true n 32 cs = some (D, Pl)) : ∃ x : MV, cs = KRm.enc x ∧ WfM x := by
  obtain ⟨xs, k, hk, hxy, hcl, hxl, hf⟩ := DataW.trod_struct Try.underlying32 h
  rw [cRm] at hcl
  match cs, hcl, xs, hxl with
  | [v0, v1, v2, v3, v4, v5, v6, v7], _, [y0, y1, y2, y3, y4, y5, y6, y7], _ =>
    have g0 := hf 0 _ rfl
    have g1 := hf 1 _ rfl
    have g2 := hf 2 _ rfl
    have g3 := hf 3 _ rfl
    have g4 := hf 4 _ rfl
    have g5 := hf 5 _ rfl
    have g6 := hf 6 _ rfl
    have g7 := hf 7 _ rfl
    simp [cI] at g0 g1 g2 g3 g4 g5 g6 g7
    obtain ⟨z0, e0, _, w0⟩ := DataW.trod_int Try.underlying3 g0
    obtain ⟨z1, e1, _, w1⟩ := DataW.trod_int Try.underlying3 g1
    obtain ⟨z2, e2, _, w2⟩ := DataW.trod_int Try.underlying3 g2
    obtain ⟨z3, e3, _, w3⟩ := DataW.trod_int Try.underlying3 g3
    obtain ⟨z4, e4, _, w4⟩ := DataW.trod_int Try.underlying3 g4
    obtain ⟨z5, e5, _, w5⟩ := DataW.trod_int Try.underlying3 g5
    obtain ⟨z6, e6, _, w6⟩ := DataW.trod_int Try.underlying3 g6
    obtain ⟨z7, e7, _, w7⟩ := DataW.trod_int Try.underlying3 g7
    simp only [List.cons.injEq, and_true] at e0 e1 e2 e3 e4 e5 e6 e7
    subst e0 e1 e2 e3 e4 e5 e6 e7
    exact ⟨⟨z0, z1, z2, z3, z4, z5, z6, z7⟩, rfl, ⟨w0, w1, w2, w3, w4, w5, w6, w7⟩⟩
theorem open_metas {H : Type} {enc : TypeId × Value → H} {W : World} {a : Option Addr} {len cap : Nat} {d : DataW H} {p : List MemPlace} (h : DataW.Trod enc Try.prog W 0 (fun _ => true) true 22 (.slice a len cap) d p) (hb : Rows.uptoBulk d ≤ 1048576) :
    ∃ l : List MV, l.length = len ∧ KRm.Rd W (.slice a len cap) l ∧ (∀ x ∈ l, WfM x) ∧ l.length ≤ 1048576 := by
  obtain ⟨fuel, hf⟩ := h
  obtain ⟨l, h1, h2, h3, h4⟩ := open_kd KRm (t := 22) Try.underlying22 cRm WfM (fun _ _ _ _ h _ => open_metac h) (a := a) (len := len) (cap := cap) (by simpa [Value.cells] using hf) hb
  exact ⟨l, h1, h3, h4, h2⟩
end Go.Proofs.Ytddbmibpnahmnaa
