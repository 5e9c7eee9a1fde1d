/-
  What a row that lists the tables gives: the tables of package utf8 are in place; lists of labels that came in, opened. No condition.
-/
import Derived.Test.YtnlkipgjacgddaaDoorCards
import Derived.Test.YtnlkipgjacgddaaDoorTie
import Derived.Test.YtnlkipgjacgddaaDoorRight
import Derived.Deep.DeepHandedRow
import Derived.Deep.SlicePairs
import Derived.Deep.Slices
import Derived.Lib.LaidTab
import Derived.Lib.LaidU8T
import Derived.Lay
import Derived.SevenTiedAt
namespace Go.Proofs.YtnlkipgjacgddaaDoor
open Go.ChangeShapes Go.WideShapes Go.ChangeAt Go.RowKit Go.Icz
theorem own : ownKnob Tryd.prog.godebug = none := by kernel_rfl
theorem laidOut : laidOutB Tryd.prog = true := by kernel_rfl
theorem cellsLab : Tryd.prog.cellsOf 39 = 2 := by kernel_rfl
theorem cellsStr : Tryd.prog.cellsOf 9 = 1 := by kernel_rfl
theorem cellsInt : Tryd.prog.cellsOf 3 = 1 := by kernel_rfl
theorem cellsLabs : Tryd.prog.cellsOf 26 = 1 := by kernel_rfl
theorem cells5 : Tryd.prog.cellsOf 5 = 1 := by kernel_rfl
theorem bytesLab : Tryd.prog.bytesOf 39 = 32 := by kernel_rfl
theorem first_eq : Rows.laid_unicode_utf8_first = Go.Lib.firstData := by kernel_rfl
theorem accept_eq : Rows.laid_unicode_utf8_acceptRanges (H := Unit) = Go.Lib.acceptData := by kernel_rfl
theorem x8 : Go.Proofs.U8Extra Tryd.prog Tryd.lays196_ren := by constructor <;> kernel_rfl
theorem tabs_of {laid : List (String × DataW Unit)} {W : World} (h : laidMet Tryd.prog laid W) (h1 : ("unicode/utf8.first", Rows.laid_unicode_utf8_first) ∈ laid) (h2 : ("unicode/utf8.acceptRanges", Rows.laid_unicode_utf8_acceptRanges) ∈ laid) : Tabs W :=
  ⟨Go.Proofs.utf8Tabs_of_readsT (Go.Proofs.U8Types.of196 Tryd.lays196) x8 (first_eq ▸ Lib.laidMet.reads h h1) (accept_eq ▸ Lib.laidMet.reads h h2)⟩
/-- A list of labels that came in, opened. -/
theorem open_labs {H : Type} {enc : TypeId × Value → H} {W : World} {a : Option Addr} {len cap : Nat} {d : DataW H} {p : List MemPlace} (h : DataW.Trod enc Tryd.prog W 0 (fun _ => true) true 26 (.slice a len cap) d p) :
    ∃ l : List Lab, l.length = len ∧ RdL W (.slice a len cap) l ∧ (∀ x ∈ l, x.1.length ≤ maxLen ∧ x.2.length ≤ maxLen) ∧ ((d = .nil ∧ l = []) ∨ ∃ el sp, d = .slice el sp ∧ el = l.map (fun x => .agg [.lit (.string x.1), .lit (.string x.2)]) ∧ el.length + sp.length = cap ∧ len ≤ cap) := by
  obtain ⟨fuel, hf⟩ := h
  rcases Go.Deep.open_slice_pairs Tryd.underlying26 Tryd.underlying39 cellsLab rfl rfl cellsStr cellsStr hf with ⟨hcs, hx⟩ | ⟨x, l, c, m, n, V0, V1, D0, D1, P0, P1, hcs, _, hl, hm, hmm, hx, hall⟩
  · simp [Value.cells] at hcs
    obtain ⟨rfl, rfl, rfl⟩ := hcs
    simp only [Prod.mk.injEq] at hx
    exact ⟨[], rfl, RdL.nil W, by simp, .inl ⟨hx.1, rfl⟩⟩
  · simp [Value.cells] at hcs
    obtain ⟨rfl, rfl, rfl⟩ := hcs
    simp only [if_true] at hmm
    subst hmm
    have each : ∀ i, i < m → ∃ s : B8 × B8, V0 i = .string ⟨s.1.toArray⟩ ∧ V1 i = .string ⟨s.2.toArray⟩ ∧ D0 i = .lit (.string s.1) ∧ D1 i = .lit (.string s.2) ∧ s.1.length ≤ maxLen ∧ s.2.length ≤ maxLen := by
      intro i hi
      obtain ⟨_, _, h0, h1⟩ := hall i hi
      obtain ⟨s0, e0, f0, g0⟩ := DataW.trod_string Tryd.underlying9 h0
      obtain ⟨s1, e1, f1, g1⟩ := DataW.trod_string Tryd.underlying9 h1
      simp only [List.cons.injEq, and_true] at e0 e1
      simp only [Prod.mk.injEq] at f0 f1
      refine ⟨(s0.data.toList, s1.data.toList), by rw [e0], by rw [e1], f0.1, f1.1, ?_, ?_⟩
      · rw [Array.length_toList]; exact g0
      · rw [Array.length_toList]; exact g1
    obtain ⟨S, hS⟩ := Go.Deep.choose_lt each
    have hlen : ((List.range len).map S).length = len := by simp
    refine ⟨(List.range len).map S, hlen, ?_, ?_, .inr ⟨_, _, (Prod.mk.inj hx).1, ?_, ?_, hl⟩⟩
    · refine ⟨some x, m, by rw [hlen], by rw [hlen]; exact hl, fun h0 => ?_⟩
      rw [hlen] at h0
      obtain ⟨b, off, spot⟩ := x
      have hc0 := (hall 0 (by omega)).1
      have hspot : spot = none := by simpa [Addr.add] using World.cell?_spot hc0
      subst hspot
      refine ⟨b, off, rfl, World.block_lt_of_cell? W _ (by simpa [Addr.add] using hc0), fun j hj => ?_⟩
      rw [hlen] at hj
      obtain ⟨k0, k1, _, _⟩ := hall j (by omega)
      rw [add_flat] at k0 k1
      have hs := hS j (by omega)
      rw [hs.1] at k0
      rw [hs.2.1] at k1
      simp only [List.getElem_map, List.getElem_range]
      exact ⟨k0, by rw [Nat.add_assoc]; exact k1⟩
    · intro y hy
      obtain ⟨i, hi, rfl⟩ := List.mem_map.1 hy
      have := List.mem_range.1 hi
      exact (hS i (by omega)).2.2.2.2
    · rw [List.map_map]
      apply List.map_congr_left
      intro i hi
      have := List.mem_range.1 hi
      simp only [Function.comp]
      rw [(hS i (by omega)).2.2.1, (hS i (by omega)).2.2.2.1]
    · simp
      omega
end Go.Proofs.YtnlkipgjacgddaaDoor
