/-
  What a row that lists the program's tables gives: the tables that package matcher reads are in place. No condition.
-/
import Derived.Test.YtlhodanpfpfodaaGreatDoorTable
import Derived.Test.YtlhodanpfpfodaaGreatDoorNum
import Derived.Lib.LaidTab
namespace Go.Proofs.YtlhodanpfpfodaaGreatDoor
open Go.ChangeShapes Go.WideShapes Go.ChangeAt Go.RowKit Go.Icz
def sigData {H : Type} (ss : List B8) : DataW H := .agg (ss.map fun s => .lit (.string s))
theorem cells_of_strs {H : Type} {enc : TypeId × Value → H} {P : Program} {w : World} {base : Nat} {sp : Nat → Bool} {held : Bool} {fuel : Nat} {t e : TypeId} {n : Nat} {cs : List Value} {ss : List B8} {p : List MemPlace}
    (ht : P.underlying t = some (.array n e)) (he : P.underlying e = some .string) (hce : P.cellsOf e = 1) (hct : P.cellsOf t = n)
    (h : DataW.trod enc P w base sp held fuel t cs = some (sigData ss, p)) : cs = ss.map fun s => Value.string ⟨s.toArray⟩ := by
  cases fuel with
  | zero => simp [DataW.trod] at h
  | succ fuel =>
    simp only [DataW.trod, ht, hce, hct, Nat.mul_one] at h
    split at h
    · rename_i hl
      obtain ⟨xs, hm, hx⟩ := Option.map_eq_some_iff.1 h
      have hxs : xs.map (·.1) = ss.map fun s => (DataW.lit (.string s) : DataW H) := by
        have := congrArg Prod.fst hx
        simpa [sigData] using this
      have hxl : xs.length = n := by simpa using Lib.mapM_length hm
      have hzl : ss.length = n := by
        have := congrArg List.length hxs
        simp at this
        omega
      apply List.ext_getElem?
      intro i
      by_cases hi : i < n
      · obtain ⟨b, hb, hf⟩ := Lib.mapM_at hm i i (by simp [hi])
        obtain ⟨z, hc, rfl, _⟩ := DataW.trod_string he hf
        have h1 : cs[i]? = some (.string z) := by
          have := congrArg (·[0]?) hc
          simpa [List.getElem?_take, List.getElem?_drop] using this
        have h2 : (xs.map (·.1))[i]? = some (DataW.lit (.string z.data.toList) : DataW H) := by simp [hb]
        rw [hxs] at h2
        simp only [List.getElem?_map, Option.map_eq_some_iff, DataW.lit.injEq, Lit.string.injEq] at h2
        obtain ⟨z', hz', e2⟩ := h2
        rw [h1, List.getElem?_map, hz', e2]
        rfl
      · rw [List.getElem?_eq_none (by omega), List.getElem?_eq_none (by simp; omega)]
    · cases h
theorem pow_eq : Rows.laid_internal_strconv_uint64pow10 (H := Unit) = Lib.tabData .u64 Lib.pow10Tab := by kernel_rfl
theorem powT : (Tryz.prog.globals[4]?).map (·.type) = some 216 := by kernel_rfl
theorem cellsPow : Tryz.prog.cellsOf 216 = 20 := by kernel_rfl
theorem cellsU64 : Tryz.prog.cellsOf 180 = 1 := by kernel_rfl
theorem sigG : Tryz.prog.globalNamed "icehouse/matcher.signs" = some 0 := by kernel_rfl
theorem sigT : (Tryz.prog.globals[0]?).map (·.type) = some 112 := by kernel_rfl
theorem cellsSig : Tryz.prog.cellsOf 112 = 5 := by kernel_rfl
theorem sig_eq : Rows.laid_icehouse_matcher_signs (H := Unit) = sigData [[], [61], [33, 61], [61, 126], [33, 126]] := by kernel_rfl
theorem tabsM_of {laid : List (String × DataW Unit)} {W : World} (h : laidMet Tryz.prog laid W) (h1 : ("unicode/utf8.first", Rows.laid_unicode_utf8_first) ∈ laid) (h2 : ("unicode/utf8.acceptRanges", Rows.laid_unicode_utf8_acceptRanges) ∈ laid)
    (h3 : ("math/bits.deBruijn64tab", Rows.laid_math_bits_deBruijn64tab) ∈ laid) (h4 : ("strconv.ErrRange", Rows.laid_strconv_ErrRange) ∈ laid) (h5 : ("strconv.ErrSyntax", Rows.laid_strconv_ErrSyntax) ∈ laid)
    (h6 : ("icehouse/matcher.signs", Rows.laid_icehouse_matcher_signs) ∈ laid) (h7 : ("internal/strconv.uint64pow10", Rows.laid_internal_strconv_uint64pow10) ∈ laid) : TabsM W ∧ 9 ≤ W.heap.size := by
  have hT := tabs_of h h1 h2 h3 h4 h5
  refine ⟨⟨hT, ?_, ?_⟩, ?_⟩
  · obtain ⟨g, t, cs, fuel, p, hg, hty, hvar, hd⟩ := Lib.laidMet.reads h h7
    obtain rfl := Option.some.inj (powG.symm.trans hg)
    obtain rfl := Option.some.inj (powT.symm.trans hty)
    rw [pow_eq] at hd
    have hcs := Lib.cells_of_tab Tryz.underlying216 Tryz.underlying180 cellsU64 cellsPow hd
    unfold Lib.TabIs
    rw [hvar, ← hcs]
  · obtain ⟨g, t, cs, fuel, p, hg, hty, hvar, hd⟩ := Lib.laidMet.reads h h6
    obtain rfl := Option.some.inj (sigG.symm.trans hg)
    obtain rfl := Option.some.inj (sigT.symm.trans hty)
    rw [sig_eq] at hd
    have hcs := cells_of_strs Tryz.underlying112 Tryz.underlying9 cells9 cellsSig hd
    intro k hk
    have := World.var?_cell sigG hvar k
    rw [this, ← Array.getElem?_toList, hcs]
    rcases (by omega : k = 0 ∨ k = 1 ∨ k = 2 ∨ k = 3 ∨ k = 4) with rfl | rfl | rfl | rfl | rfl <;> rfl
  · obtain ⟨_, hd, _⟩ := hT
    exact World.block_lt_of_cell? W _ hd
end Go.Proofs.YtlhodanpfpfodaaGreatDoor
