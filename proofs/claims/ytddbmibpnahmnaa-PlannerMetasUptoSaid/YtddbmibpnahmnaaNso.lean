/-
  Metas sorted by First, then by ID. Conditions: the list is no longer than 2^40.
-/
import Derived.Test.YtddbmibpnahmnaaNor
namespace Go.Proofs.Ytddbmibpnahmnaa
open Go.RowKit Go.Icz Go.Lib Go.Sort
theorem orderLays (blk off size : Nat) (w : World) : CmpLays Try.prog 50 #[] encM 8 cmpM blk off size w := fun _ _ _ _ x y => (order_is x y _).mono (fun e w' h => ⟨h.1, h.2.ex⟩)
set_option maxRecDepth 100000 in
theorem Sort_is {w : World} {B : Nat} {v : Value} {l : List MV} (h : KMet.Own w B v l) (hl : l.length ≤ 1099511627776) (hB : B ≤ w.heap.size) :
    Calls Try.prog 49 #[v, .func (.func 50) #[] #[]] w fun e w' => e = .returned (.tuple #[]) ∧ ∃ d : List MV, d.Perm l ∧ d.Pairwise (fun x y => ¬ ltM y x) ∧ KMet.Rd w' v d ∧ RowKit.Below B w w' := by
  by_cases hv : v = .slice none 0 0
  · subst hv
    have hl0 : l = [] := by
      obtain ⟨A, c, e, _⟩ := h.rd.form
      injection e with _ e _
      exact List.eq_nil_of_length_eq_zero e.symm
    subst hl0
    have hn : Calls Try.prog 49 #[.slice none 0 0, .func (.func 50) #[] #[]] w fun e w' => e = .returned (.tuple #[]) ∧ w' = w := AnyF.slices_SortFunc_none Try.sortM none 0 _ w
    refine hn.mono ?_
    rintro e w' ⟨rfl, rfl⟩
    exact ⟨rfl, [], List.Perm.refl _, List.Pairwise.nil, Kd.Rd.nil _, Below.refl _ _⟩
  · obtain ⟨g, cap, rfl, hg, hgl, hc, hH⟩ := own_holdsM h hv
    have eg : ∀ args w, (callFunc 50 args).run Try.prog w = .ok (.enter 50 args) w := enters_of Try.func50 (by kernel_rfl) rfl
    have hs := AnyQ.slices_SortFunc Try.sortM 8 Try.isAgg28 Try.sizeOf28 encM (fun _ => rfl) (fun x u hu => encM_one x u hu) cmpM swoM 50 #[] g 0 cap l.toArray w eg (orderLays g 0 l.toArray.size w) hH hgl (by simp; omega)
    refine Calls.mono hs ?_
    rintro e w' ⟨rfl, d, n, os, hp, hsd, rfl⟩
    obtain ⟨p1, p2, p3⟩ := sortsM_of hp hsd
    exact ⟨rfl, d.toList, p1, p2, sorted_rdM hH hgl p3 hc, sorted_belowM hg hB⟩
end Go.Proofs.Ytddbmibpnahmnaa
