/-
  What a row that lists the tables gives: the tables of package utf8 and one cell of math/bits' are in place; and a world in which they are. No condition.
-/
import Derived.Test.YtlhodanpfpfodaaGreatDoorCards
import Derived.Test.YtlhodanpfpfodaaGreatDoorTie
import Derived.Test.YtlhodanpfpfodaaGreatDoorQuote
import Derived.Deep.DeepHandedRow
import Derived.Deep.SlicePairs
import Derived.Lib.LaidTab
import Derived.Lib.LaidU8T
import Derived.Lay
import Derived.LaidLaws
import Derived.SevenTiedAt
namespace Go.Proofs.YtlhodanpfpfodaaGreatDoor
open Go.ChangeShapes Go.WideShapes Go.ChangeAt Go.RowKit Go.Icz
theorem own : ownKnob Tryz.prog.godebug = none := by kernel_rfl
theorem laidOut : laidOutB Tryz.prog = true := by kernel_rfl
theorem cellsLab : Tryz.prog.cellsOf 53 = 2 := by kernel_rfl
theorem cells9 : Tryz.prog.cellsOf 9 = 1 := by kernel_rfl
theorem cells5 : Tryz.prog.cellsOf 5 = 1 := by kernel_rfl
theorem bytesLab : Tryz.prog.bytesOf 53 = 32 := by kernel_rfl
theorem bytes5 : Tryz.prog.bytesOf 5 = 1 := by kernel_rfl
theorem gDeb : Tryz.prog.globalNamed "math/bits.deBruijn64tab" = some 8 := by kernel_rfl
theorem first_eq : Rows.laid_unicode_utf8_first = Go.Lib.firstData := by kernel_rfl
theorem accept_eq : Rows.laid_unicode_utf8_acceptRanges (H := Unit) = Go.Lib.acceptData := by kernel_rfl
theorem x8 : Go.Proofs.U8Extra Tryz.prog Tryz.lays196_ren := by constructor <;> kernel_rfl
def debZ : List Int := [0, 1, 56, 2, 57, 49, 28, 3, 61, 58, 42, 50, 38, 29, 17, 4, 62, 47, 59, 36, 45, 43, 51, 22, 53, 39, 33, 30, 24, 18, 12, 5, 63, 55, 48, 27, 60, 41, 37, 16, 46, 35, 44, 21, 52, 32, 23, 11, 54, 26, 40, 15, 34, 20, 31, 10, 25, 14, 19, 9, 13, 8, 7, 6]
theorem deb_eq : Rows.laid_math_bits_deBruijn64tab (H := Unit) = Lib.tabData .u8 debZ := by kernel_rfl
theorem gDebT : (Tryz.prog.globals[8]?).map (·.type) = some 231 := by kernel_rfl
theorem cells195 : Tryz.prog.cellsOf 231 = 64 := by kernel_rfl
theorem gSyn : Tryz.prog.globalNamed "strconv.ErrSyntax" = some 5 := by kernel_rfl
theorem gRng : Tryz.prog.globalNamed "strconv.ErrRange" = some 6 := by kernel_rfl
theorem gSynT : (Tryz.prog.globals[5]?).map (·.type) = some 83 := by kernel_rfl
theorem gRngT : (Tryz.prog.globals[6]?).map (·.type) = some 83 := by kernel_rfl
theorem errs_of {laid : List (String × DataW Unit)} {W : World} (h : laidMet Tryz.prog laid W) (h4 : ("strconv.ErrRange", Rows.laid_strconv_ErrRange) ∈ laid) (h5 : ("strconv.ErrSyntax", Rows.laid_strconv_ErrSyntax) ∈ laid) : Errs W := by
  constructor
  · obtain ⟨g, t, cs, fuel, p, hg, hty, hvar, hd⟩ := Lib.laidMet.reads h h5
    obtain rfl := Option.some.inj (gSyn.symm.trans hg)
    obtain rfl := Option.some.inj (gSynT.symm.trans hty)
    obtain ⟨_, u, v, hcs, _⟩ := iface_of_trod Tryz.underlying83 hd
    refine ⟨_, ?_, .inr ⟨u, v, rfl⟩⟩
    have := World.var?_cell gSyn hvar 0
    rw [this, ← Array.getElem?_toList, hcs]
    rfl
  · obtain ⟨g, t, cs, fuel, p, hg, hty, hvar, hd⟩ := Lib.laidMet.reads h h4
    obtain rfl := Option.some.inj (gRng.symm.trans hg)
    obtain rfl := Option.some.inj (gRngT.symm.trans hty)
    obtain ⟨_, u, v, hcs, _⟩ := iface_of_trod Tryz.underlying83 hd
    refine ⟨_, ?_, .inr ⟨u, v, rfl⟩⟩
    have := World.var?_cell gRng hvar 0
    rw [this, ← Array.getElem?_toList, hcs]
    rfl
theorem tabs_of {laid : List (String × DataW Unit)} {W : World} (h : laidMet Tryz.prog laid W) (h1 : ("unicode/utf8.first", Rows.laid_unicode_utf8_first) ∈ laid) (h2 : ("unicode/utf8.acceptRanges", Rows.laid_unicode_utf8_acceptRanges) ∈ laid)
    (h3 : ("math/bits.deBruijn64tab", Rows.laid_math_bits_deBruijn64tab) ∈ laid) (h4 : ("strconv.ErrRange", Rows.laid_strconv_ErrRange) ∈ laid) (h5 : ("strconv.ErrSyntax", Rows.laid_strconv_ErrSyntax) ∈ laid) : Tabs W := by
  refine ⟨Go.Proofs.utf8Tabs_of_readsT (Go.Proofs.U8Types.of196 Tryz.lays196) x8 (first_eq ▸ Lib.laidMet.reads h h1) (accept_eq ▸ Lib.laidMet.reads h h2), ?_, errs_of h h4 h5⟩
  obtain ⟨g, t, cs, fuel, p, hg, hty, hvar, hd⟩ := Lib.laidMet.reads h h3
  obtain rfl := Option.some.inj (gDeb.symm.trans hg)
  obtain rfl := Option.some.inj (gDebT.symm.trans hty)
  rw [deb_eq] at hd
  have hcs := Lib.cells_of_tab Tryz.underlying231 Tryz.underlying5 cells5 cells195 hd
  have := World.var?_cell gDeb hvar 15
  rw [this, ← Array.getElem?_toList, hcs]
  rfl
/-- A list of labels that came in, opened. -/
theorem open_labs {H : Type} {enc : TypeId × Value → H} {W : World} {a : Option Addr} {len cap : Nat} {d : DataW H} {p : List MemPlace} (h : DataW.Trod enc Tryz.prog W 0 (fun _ => true) true 22 (.slice a len cap) d p) :
    ∃ l : List Lab, l.length = len ∧ RdL W (.slice a len cap) l ∧ (∀ x ∈ l, x.1.length ≤ maxLen ∧ x.2.length ≤ maxLen) ∧ ((d = .nil ∧ l = []) ∨ ∃ el sp, d = .slice el sp ∧ el = l.map (fun x => .agg [.lit (.string x.1), .lit (.string x.2)]) ∧ el.length + sp.length = cap ∧ len ≤ cap) := by
  obtain ⟨fuel, hf⟩ := h
  rcases Go.Deep.open_slice_pairs Tryz.underlying22 Tryz.underlying53 cellsLab rfl rfl cells9 cells9 hf with ⟨hcs, hx⟩ | ⟨x, l, c, m, n, V0, V1, D0, D1, P0, P1, hcs, _, hl, hm, hmm, hx, hall⟩
  · simp [Value.cells] at hcs
    obtain ⟨rfl, rfl, rfl⟩ := hcs
    simp only [Prod.mk.injEq] at hx
    exact ⟨[], rfl, RdL.nil W, by simp, .inl ⟨hx.1, rfl⟩⟩
  · simp [Value.cells] at hcs
    obtain ⟨rfl, rfl, rfl⟩ := hcs
    simp only [if_true] at hmm
    subst hmm
    have each : ∀ i, i < m → ∃ s : B8 × B8, V0 i = .string ⟨s.1.toArray⟩ ∧ V1 i = .string ⟨s.2.toArray⟩ ∧ D0 i = .lit (.string s.1) ∧ D1 i = .lit (.string s.2) ∧ s.1.length ≤ maxLen ∧ s.2.length ≤ maxLen := by
      intro i hi
      obtain ⟨_, _, h0, h1⟩ := hall i hi
      obtain ⟨s0, e0, f0, g0⟩ := DataW.trod_string Tryz.underlying9 h0
      obtain ⟨s1, e1, f1, g1⟩ := DataW.trod_string Tryz.underlying9 h1
      simp only [List.cons.injEq, and_true] at e0 e1
      simp only [Prod.mk.injEq] at f0 f1
      refine ⟨(s0.data.toList, s1.data.toList), by rw [e0], by rw [e1], f0.1, f1.1, ?_, ?_⟩
      · rw [Array.length_toList]; exact g0
      · rw [Array.length_toList]; exact g1
    obtain ⟨S, hS⟩ := Go.Deep.choose_lt each
    have hlen : ((List.range len).map S).length = len := by simp
    refine ⟨(List.range len).map S, hlen, ?_, ?_, .inr ⟨_, _, (Prod.mk.inj hx).1, ?_, ?_, hl⟩⟩
    · refine ⟨some x, m, by rw [hlen], by rw [hlen]; exact hl, fun h0 => ?_⟩
      rw [hlen] at h0
      obtain ⟨b, off, spot⟩ := x
      have hc0 := (hall 0 (by omega)).1
      have hspot : spot = none := by simpa [Addr.add] using World.cell?_spot hc0
      subst hspot
      refine ⟨b, off, rfl, World.block_lt_of_cell? W _ (by simpa [Addr.add] using hc0), fun j hj => ?_⟩
      rw [hlen] at hj
      obtain ⟨k0, k1, _, _⟩ := hall j (by omega)
      rw [add_flat] at k0 k1
      have hs := hS j (by omega)
      rw [hs.1] at k0
      rw [hs.2.1] at k1
      simp only [List.getElem_map, List.getElem_range]
      exact ⟨k0, by rw [Nat.add_assoc]; exact k1⟩
    · intro y hy
      obtain ⟨i, hi, rfl⟩ := List.mem_map.1 hy
      have := List.mem_range.1 hi
      exact (hS i (by omega)).2.2.2.2
    · rw [List.map_map]
      apply List.map_congr_left
      intro i hi
      have := List.mem_range.1 hi
      simp only [Function.comp]
      rw [(hS i (by omega)).2.2.1, (hS i (by omega)).2.2.2.1]
    · simp
      omega
end Go.Proofs.YtlhodanpfpfodaaGreatDoor
