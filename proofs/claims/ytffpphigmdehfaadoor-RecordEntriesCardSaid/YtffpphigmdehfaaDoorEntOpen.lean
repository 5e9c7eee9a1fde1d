/-
  An entry that came in by value, opened. No condition.
-/
import Derived.Test.YtffpphigmdehfaaDoorTable
import Derived.Lib.SmallJoins
namespace Go.Proofs.YtffpphigmdehfaaDoor
open Go.ChangeShapes Go.WideShapes Go.ChangeAt Go.RowKit Go.Icz
set_option maxRecDepth 100000 in
theorem open_entA {H : Type} {enc : TypeId × Value → H} {W : World} {r : Reach} {b0 : Nat} {v : Value} {d : DataW H} {p : List MemPlace} (hv : Value.okWide Tryd.prog W r b0 24 v) (h : DataW.Trod enc Tryd.prog W 0 (fun _ => true) true 24 v d p)
    (hsz : ∀ n ∈ d.weights Tryd.prog 24, n ≤ reachBytes) :
    ∃ (x : Ent) (A : Option Addr) (c : Nat), v = entV x A c ∧ RdL W (.slice A x.labs.length c) x.labs ∧ entZ x := by
  obtain ⟨cs, rfl, hcs⟩ := okWide_struct Tryd.underlying24 hv
  obtain ⟨c0, c1, c2, c3, rfl⟩ := Go.Joins.array4 (hcs.trans cellsEnt)
  obtain ⟨fuel, hf⟩ := h
  obtain ⟨y, A, c, dl, hcs2, hr, b1, b2, hD, hdl⟩ := open_ent (cs := [c0, c1, c2, c3]) (by simpa [Value.cells] using hf)
  simp only [List.cons.injEq, and_true] at hcs2
  obtain ⟨rfl, rfl, rfl, rfl⟩ := hcs2
  refine ⟨y, A, c, rfl, hr, ?_, by unfold maxLen at b1; omega, fun z hz => by have := b2 z hz; unfold maxLen at this; omega⟩
  rcases hdl with ⟨_, h0⟩ | ⟨el, sp, h0, h3⟩
  · rw [h0]; simp
  · have hw : (el.length + sp.length) * 32 ≤ reachBytes := by
      apply hsz
      rw [hD, h0]
      unfold DataW.weights
      rw [Tryd.underlying24]
      refine DataW.weights_mem_each (j := 2) (t := 22) (d := .slice el sp) rfl rfl _ ?_
      unfold DataW.weights
      rw [Tryd.underlying22, ← bytesLab]
      exact List.mem_cons_self ..
    rw [h3, List.length_map] at hw
    simp only [reachBytes] at hw
    omega
end Go.Proofs.YtffpphigmdehfaaDoor
