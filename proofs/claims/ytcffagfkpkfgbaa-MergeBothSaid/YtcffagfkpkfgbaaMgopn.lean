/-
  Rows of entries that came in, opened; their sizes by bulk. Conditions: those that each theorem names.
-/
import Derived.Test.YtcffagfkpkfgbaaMroW
import Derived.Deep.DeepHandedRow
import Derived.Deep.SlicePairs
import Derived.Deep.Slices
import Derived.Lib.LaidTab
import Derived.Lib.LaidU8T
import Derived.Lay
import Derived.Lib.SmallJoins
namespace Go.Proofs.Ytcffagfkpkfgbaa
open Go.ChangeMaps Go.ChangeShapes Go.WideShapes Go.ChangeAt Go.RowKit Go.Icz
theorem bulk_pos {H : Type} : ∀ d : DataW H, 1 ≤ Rows.uptoBulk d
  | .lit (.string s) => by simp only [Rows.uptoBulk]; omega
  | .lit (.bool _) => Nat.le_refl _
  | .lit (.int _ _) => Nat.le_refl _
  | .lit l => by cases l <;> simp only [Rows.uptoBulk] <;> omega
  | .nil => Nat.le_refl _
  | .ptr _ => by simp only [Rows.uptoBulk]; omega
  | .slice _ _ => by simp only [Rows.uptoBulk]; omega
  | .agg _ => by simp only [Rows.uptoBulk]; omega
  | .iface _ _ => by simp only [Rows.uptoBulk]; omega
  | .map _ => by simp only [Rows.uptoBulk]; omega
  | .held _ => Nat.le_refl _
theorem bulk_len {H : Type} : ∀ ds : List (DataW H), ds.length ≤ Rows.uptoBulkAll ds
  | [] => by simp
  | d :: ds => by
    have := bulk_len ds
    have := bulk_pos d
    simp only [Rows.uptoBulkAll, List.length_cons]
    omega
theorem bulk_all {H : Type} {d : DataW H} : ∀ {ds : List (DataW H)}, d ∈ ds → Rows.uptoBulk d ≤ Rows.uptoBulkAll ds
  | [], h => by simp at h
  | e :: ds, h => by
    rcases List.mem_cons.1 h with rfl | h
    · simp only [Rows.uptoBulkAll]; omega
    · have := bulk_all h
      simp only [Rows.uptoBulkAll]; omega
theorem cI : Try.prog.cellsOf 3 = 1 := by kernel_rfl
theorem cS : Try.prog.cellsOf 9 = 1 := by kernel_rfl
theorem cLs : Try.prog.cellsOf 32 = 1 := by kernel_rfl
theorem cLb : Try.prog.cellsOf 65 = 2 := by kernel_rfl
theorem cEn : Try.prog.cellsOf 34 = 4 := by kernel_rfl
theorem cEs : Try.prog.cellsOf 22 = 1 := by kernel_rfl
set_option maxRecDepth 100000 in
open Go.Joins Go.Deep in
theorem open_kd {α : Type} [Inhabited α] (K : Kd α) {H : Type} {enc : TypeId × Value → H} {W : World} {t : TypeId} (ht : Try.prog.underlying t = some (.slice K.e)) (hc : Try.prog.cellsOf K.e = K.z) (Q : α → Prop)
    (each : ∀ n cs D Pl, DataW.trod enc Try.prog W 0 (fun _ => true) true n K.e cs = some (D, Pl) → Rows.uptoBulk D ≤ 1048576 → ∃ x, cs = K.enc x ∧ Q x)
    {fuel : Nat} {a : Option Addr} {len cap : Nat} {d : DataW H} {p : List MemPlace} (hf : DataW.trod enc Try.prog W 0 (fun _ => true) true fuel t [.slice a len cap] = some (d, p)) (hb : Rows.uptoBulk d ≤ 1048576) :
    ∃ l : List α, l.length = len ∧ l.length ≤ 1048576 ∧ K.Rd W (.slice a len cap) l ∧ ∀ x ∈ l, Q x := by
  rcases Go.Deep.open_slice ht hf with ⟨hcs, hx⟩ | ⟨x, ln, cp, m, n, D, Pl, hcs, _, hl, hm, hmm, hx, hall⟩
  · simp only [List.cons.injEq, Value.slice.injEq, and_true] at hcs
    obtain ⟨rfl, rfl, rfl⟩ := hcs
    exact ⟨[], rfl, by simp, Kd.Rd.nil W, by simp⟩
  · simp only [List.cons.injEq, Value.slice.injEq, and_true] at hcs
    obtain ⟨rfl, rfl, rfl⟩ := hcs
    simp only [if_true] at hmm
    subst hmm
    simp only [Prod.mk.injEq] at hx
    obtain ⟨hd, _⟩ := hx
    rw [hd] at hb
    simp only [Rows.uptoBulk] at hb
    have hbl := bulk_len ((List.range len).map D)
    simp only [List.length_map, List.length_range] at hbl
    have each2 : ∀ i, i < len → ∃ y : α, (∀ j u, j < K.z → (K.enc y)[j]? = some u → W.cell? (x.add (i * K.z + j)) = some u) ∧ Q y := by
      intro i hi
      obtain ⟨cs', h1, h2⟩ := hall i (by omega)
      rw [hc] at h1
      obtain ⟨_, hlen, hcell⟩ := World.cells?_some h1
      have hDi : Rows.uptoBulk (D i) ≤ Rows.uptoBulkAll ((List.range len).map D) := bulk_all (List.mem_map.2 ⟨i, List.mem_range.2 hi, rfl⟩)
      obtain ⟨y, hcs, hq⟩ := each _ _ _ _ h2 (by omega)
      refine ⟨y, fun j u hj hu => ?_, hq⟩
      have := hcell j (by omega)
      rw [Go.Deep.add_add] at this
      rw [this, hcs, hu]
    obtain ⟨Y, hY⟩ := Go.Deep.choose_lt each2
    have hlen : ((List.range len).map Y).length = len := by simp
    refine ⟨(List.range len).map Y, hlen, by rw [hlen]; omega, ⟨some x, _, by rw [hlen], by rw [hlen]; omega, fun h0 => ?_⟩, ?_⟩
    · rw [hlen] at h0
      obtain ⟨b, off, spot⟩ := x
      obtain ⟨u0, hu0⟩ : ∃ u, (K.enc (Y 0))[0]? = some u := by
        have h1 : 0 < (K.enc (Y 0)).length := by rw [K.len]; exact K.pos
        exact ⟨_, List.getElem?_eq_getElem h1⟩
      have hc0 := (hY 0 (by omega)).1 0 u0 K.pos hu0
      have hspot : spot = none := by simpa [Addr.add] using World.cell?_spot hc0
      subst hspot
      refine ⟨b, off, rfl, World.block_lt_of_cell? W _ (by simpa [Addr.add] using hc0), fun j u hj => ?_⟩
      have hjl := (List.getElem?_eq_some_iff.1 hj).1
      rw [K.cells_len, hlen] at hjl
      have hq : j / K.z < len := by rw [Nat.div_lt_iff_lt_mul K.pos]; exact hjl
      have hr : j % K.z < K.z := Nat.mod_lt _ K.pos
      have hj2 : j = j / K.z * K.z + j % K.z := by rw [Nat.mul_comm]; exact (Nat.div_add_mod j K.z).symm
      have hg := K.cells_get ((List.range len).map Y) (j / K.z) (by rw [hlen]; exact hq) (j % K.z) hr
      rw [← hj2, hj] at hg
      have hg2 : (K.enc (Y (j / K.z)))[j % K.z]? = some u := by
        rw [hg]
        simp
      have := (hY (j / K.z) hq).1 (j % K.z) u hr hg2
      rw [add_flat, ← hj2] at this
      exact this
    · intro y hy
      obtain ⟨i, hi, rfl⟩ := List.mem_map.1 hy
      exact (hY i (List.mem_range.1 hi)).2
theorem open_lab {H : Type} {enc : TypeId × Value → H} {W : World} {n : Nat} {cs : List Value} {D : DataW H} {Pl : List MemPlace} (h : DataW.trod enc Try.prog W 0 (fun _ => true) true n 65 cs = some (D, Pl)) : ∃ x : Lab, cs = KLab.enc x := by
  obtain ⟨xs, k, hk, hxy, hcl, hxl, hf⟩ := DataW.trod_struct Try.underlying65 h
  rw [cLb] at hcl
  match cs, hcl, xs, hxl with
  | [v0, v1], _, [y0, y1], _ =>
    have g0 := hf 0 _ rfl
    have g1 := hf 1 _ rfl
    simp [cS] at g0 g1
    obtain ⟨s0, e0, _, _⟩ := DataW.trod_string Try.underlying9 g0
    obtain ⟨s1, e1, _, _⟩ := DataW.trod_string Try.underlying9 g1
    simp only [List.cons.injEq, and_true] at e0 e1
    subst e0 e1
    exact ⟨(s0.data.toList, s1.data.toList), rfl⟩
open Go.Joins Go.Deep in
theorem open_entc {H : Type} {enc : TypeId × Value → H} {W : World} {n : Nat} {cs : List Value} {D : DataW H} {Pl : List MemPlace} (h : DataW.trod enc Try.prog W 0 (fun _ => true) true n 34 cs = some (D, Pl)) (hb : Rows.uptoBulk D ≤ 1048576) : ∃ x : EV, cs = KEnt.enc x ∧ GoodE W x := by
  obtain ⟨xs, k, hk, hxy, hcl, hxl, hf⟩ := DataW.trod_struct Try.underlying34 h
  rw [cEn] at hcl
  match cs, hcl, xs, hxl with
  | [v0, v1, v2, v3], _, [y0, y1, y2, y3], _ =>
    have g0 := hf 0 _ rfl
    have g1 := hf 1 _ rfl
    have g2 := hf 2 _ rfl
    have g3 := hf 3 _ rfl
    simp [cI, cLs, cS] at g0 g1 g2 g3
    obtain ⟨z0, e0, _, w0⟩ := DataW.trod_int Try.underlying3 g0
    obtain ⟨z1, e1, _, _⟩ := DataW.trod_int Try.underlying3 g1
    obtain ⟨A, m, c, e2⟩ := slice_form Try.underlying32 g2
    obtain ⟨s3, e3, _, _⟩ := DataW.trod_string Try.underlying9 g3
    simp only [List.cons.injEq, and_true] at e0 e1 e2 e3
    subst e0 e1 e2 e3
    simp only [Prod.mk.injEq] at hxy
    obtain ⟨hD, _⟩ := hxy
    rw [hD] at hb
    simp only [List.map_cons, List.map_nil, Rows.uptoBulk, Rows.uptoBulkAll] at hb
    obtain ⟨l, hl, hl2, hr, _⟩ := open_kd KLab (t := 32) Try.underlying32 cLb (fun _ => True) (fun _ _ _ _ h _ => by obtain ⟨x, hx⟩ := open_lab h; exact ⟨x, hx, trivial⟩) (d := y2.1) (p := y2.2) g2 (by omega)
    subst hl
    exact ⟨(⟨z0, z1, l, s3.data.toList⟩, A, c), rfl, hr, w0, by show l.length ≤ _; omega⟩
instance : Inhabited EV := ⟨ev0⟩
instance : Inhabited SR := ⟨⟨none, 0, []⟩⟩
theorem open_ents {H : Type} {enc : TypeId × Value → H} {W : World} {fuel : Nat} {a : Option Addr} {len cap : Nat} {d : DataW H} {p : List MemPlace} (hf : DataW.trod enc Try.prog W 0 (fun _ => true) true fuel 22 [.slice a len cap] = some (d, p)) (hb : Rows.uptoBulk d ≤ 1048576) :
    ∃ l : List EV, l.length = len ∧ l.length ≤ 1048576 ∧ KEnt.Rd W (.slice a len cap) l ∧ ∀ x ∈ l, GoodE W x :=
  open_kd KEnt Try.underlying22 cEn (GoodE W) (fun _ _ _ _ h hb => open_entc h hb) hf hb
open Go.Joins Go.Deep in
theorem open_rowc {H : Type} {enc : TypeId × Value → H} {W : World} {n : Nat} {cs : List Value} {D : DataW H} {Pl : List MemPlace} (h : DataW.trod enc Try.prog W 0 (fun _ => true) true n 22 cs = some (D, Pl)) (hb : Rows.uptoBulk D ≤ 1048576) : ∃ r : SR, cs = KSl.enc r ∧ (KEnt.Rd W (.slice r.A r.l.length r.c) r.l ∧ ∀ x ∈ r.l, GoodE W x) ∧ r.l.length ≤ 1048576 := by
  obtain ⟨A, m, c, e⟩ := slice_form Try.underlying22 h
  subst e
  obtain ⟨l, rfl, hl2, hr, hg⟩ := open_ents h hb
  exact ⟨⟨A, c, l⟩, rfl, ⟨hr, hg⟩, hl2⟩
theorem tot_le {α : Type} (n : Nat) : ∀ R : List (List α), (∀ l ∈ R, l.length ≤ n) → totR R ≤ R.length * n
  | [], _ => by simp [totR]
  | r :: R, h => by
    have e : totR (r :: R) = r.length + totR R := by simp [totR]
    have h1 := tot_le n R (fun l hl => h l (List.mem_cons_of_mem _ hl))
    have h2 := h r (List.mem_cons_self ..)
    rw [e, List.length_cons, Nat.add_mul, Nat.one_mul]
    omega
theorem open_rows {H : Type} {enc : TypeId × Value → H} {W : World} {a : Option Addr} {len cap : Nat} {d : DataW H} {p : List MemPlace} (h : DataW.Trod enc Try.prog W 0 (fun _ => true) true 27 (.slice a len cap) d p) (hb : Rows.uptoBulk d ≤ 1048576) :
    ∃ R : List SR, R.length = len ∧ RdR W (.slice a len cap) R ∧ SzR R := by
  obtain ⟨fuel, hf⟩ := h
  obtain ⟨R, h1, h2, h3, h4⟩ := open_kd KSl (t := 27) Try.underlying27 cEs (fun r => (KEnt.Rd W (.slice r.A r.l.length r.c) r.l ∧ ∀ x ∈ r.l, GoodE W x) ∧ r.l.length ≤ 1048576) (fun _ _ _ _ h hb => open_rowc h hb) (a := a) (len := len) (cap := cap) (by simpa [Value.cells] using hf) hb
  refine ⟨R, h1, ⟨h3, fun r hr => (h4 r hr).1⟩, by omega, ?_⟩
  have := tot_le 1048576 (R.map (·.l)) (fun l hl => by obtain ⟨r, hr, rfl⟩ := List.mem_map.1 hl; exact (h4 r hr).2)
  rw [List.length_map] at this
  have h5 : R.length * 1048576 ≤ 1048576 * 1048576 := Nat.mul_le_mul_right _ h2
  omega
theorem open_list {H : Type} {enc : TypeId × Value → H} {W : World} {a : Option Addr} {len cap : Nat} {d : DataW H} {p : List MemPlace} (h : DataW.Trod enc Try.prog W 0 (fun _ => true) true 22 (.slice a len cap) d p) (hb : Rows.uptoBulk d ≤ 1048576) :
    ∃ l : List EV, l.length = len ∧ KEnt.Rd W (.slice a len cap) l ∧ (∀ x ∈ l, GoodE W x) ∧ l.length ≤ 1048576 := by
  obtain ⟨fuel, hf⟩ := h
  obtain ⟨l, h1, h2, h3, h4⟩ := open_ents (a := a) (len := len) (cap := cap) (by simpa [Value.cells] using hf) hb
  exact ⟨l, h1, h3, h4, h2⟩
end Go.Proofs.Ytcffagfkpkfgbaa
