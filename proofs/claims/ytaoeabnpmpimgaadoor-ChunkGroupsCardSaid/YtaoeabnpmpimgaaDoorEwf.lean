/-
  The numbers of entries that came in are numbers of the type. No condition.
-/
import Derived.Test.YtaoeabnpmpimgaaDoorTable
import Derived.Test.YtaoeabnpmpimgaaDoorHrr
namespace Go.Proofs.YtaoeabnpmpimgaaDoor
open Go.ChangeShapes Go.WideShapes Go.ChangeAt Go.RowKit Go.Icz
set_option maxRecDepth 100000 in
theorem ent_wf {H : Type} {enc : TypeId × Value → H} {W : World} {n : Nat} {cs : List Value} {D : DataW H} {Pl : List MemPlace} (h : DataW.trod enc Tryd.prog W 0 (fun _ => true) true n 50 cs = some (D, Pl)) : ∃ z t, cs = .int .i64 z :: t ∧ wfI z := by
  obtain ⟨xs, k, hk, hxy, hcl, hxl, hf⟩ := DataW.trod_struct Tryd.underlying50 h
  rw [cellsEnt] at hcl
  match cs, hcl, xs, hxl with
  | [v0, v1, v2, v3], _, [y0, y1, y2, y3], _ =>
    have g0 := hf 0 _ rfl
    simp [cellsInt] at g0
    obtain ⟨z0, e0, f0, w0⟩ := DataW.trod_int Tryd.underlying3 g0
    injection e0 with e0 _
    exact ⟨z0, _, by rw [e0], w0⟩
theorem ents_wf {H : Type} {enc : TypeId × Value → H} {W : World} {a : Option Addr} {len cap : Nat} {d : DataW H} {p : List MemPlace} (h : DataW.Trod enc Tryd.prog W 0 (fun _ => true) true 22 (.slice a len cap) d p) {l : List Ent} (hl : l.length = len) (hr : RdE W (.slice a len cap) l) : ∀ x ∈ l, wfI x.seq := by
  obtain ⟨fuel, hf⟩ := h
  obtain ⟨A, c, hv, hc, hcell⟩ := hr
  injection hv with e1 e2 e3
  rcases Go.Deep.open_slice Tryd.underlying22 hf with ⟨hcs, hx⟩ | ⟨x, ln, cp, m, n, D, Pl, hcs, _, hl2, hm, hmm, hx, hall⟩
  · simp [Value.cells] at hcs
    obtain ⟨rfl, rfl, rfl⟩ := hcs
    obtain rfl := List.eq_nil_of_length_eq_zero hl
    simp
  · simp [Value.cells] at hcs
    obtain ⟨rfl, rfl, rfl⟩ := hcs
    simp only [if_true] at hmm
    subst hmm
    intro y hy
    obtain ⟨i, hi, rfl⟩ := List.mem_iff_getElem.1 hy
    obtain ⟨b, off, hA, hb, hce⟩ := hcell (by omega)
    rw [← e1] at hA
    injection hA with hA
    subst hA
    obtain ⟨cs', h1, h2⟩ := hall i (by omega)
    rw [cellsEnt] at h1
    obtain ⟨_, hlen, hcs⟩ := World.cells?_some h1
    obtain ⟨z, t, rfl, wz⟩ := ent_wf h2
    have c0 := hcs 0 (by omega)
    rw [Go.Deep.add_add] at c0
    obtain ⟨A1, c1, k0, _⟩ := hce i hi
    have c0' : W.cell? ⟨b, off + i * 4, none⟩ = some (.int .i64 z) := by
      rw [add_flat, Nat.add_zero] at c0
      exact c0
    rw [k0] at c0'
    injection c0' with c0'
    injection c0' with _ c0'
    rw [c0']
    exact wz
end Go.Proofs.YtaoeabnpmpimgaaDoor
