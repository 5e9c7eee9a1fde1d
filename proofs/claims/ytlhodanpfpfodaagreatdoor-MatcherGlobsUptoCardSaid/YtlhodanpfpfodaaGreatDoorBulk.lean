/-
  Sizes by bulk. No condition.
-/
import Derived.Test.YtlhodanpfpfodaaGreatDoorTable
namespace Go.Proofs.YtlhodanpfpfodaaGreatDoor
open Go.ChangeMaps Go.ChangeShapes Go.WideShapes Go.ChangeAt Go.RowKit Go.Icz
theorem bulk_all {H : Type} {d : DataW H} : ∀ {ds : List (DataW H)}, d ∈ ds → Rows.uptoBulk d ≤ Rows.uptoBulkAll ds
  | [], h => by simp at h
  | e :: ds, h => by
    rcases List.mem_cons.1 h with rfl | h
    · simp only [Rows.uptoBulkAll]; omega
    · have := bulk_all h
      simp only [Rows.uptoBulkAll]; omega
theorem bulk_small {H : Type} {ds : List (DataW H)} (h : Rows.uptoSmall H ds = true) {d : DataW H} (hm : d ∈ ds) : Rows.uptoBulk d ≤ 1048576 := by
  have h1 : Rows.uptoBulkAll ds ≤ 1048576 := of_decide_eq_true h
  exact Nat.le_trans (bulk_all hm) h1
theorem bulk_string {H : Type} (s : List UInt8) : Rows.uptoBulk (.lit (.string s) : DataW H) = s.length + 1 := by simp [Rows.uptoBulk]
theorem bulk_labs {H : Type} {l : List Lab} {sp : List (DataW H)} (h : Rows.uptoBulk (.slice (l.map fun x => .agg [.lit (.string x.1), .lit (.string x.2)]) sp) ≤ 1048576) : l.length ≤ 1048576 ∧ ∀ x ∈ l, x.1.length ≤ 1048576 ∧ x.2.length ≤ 1048576 := by
  have hb : ∀ m : List Lab, m.length ≤ Rows.uptoBulkAll (m.map fun x => (.agg [.lit (.string x.1), .lit (.string x.2)] : DataW H)) := fun m => by
    induction m with
    | nil => simp
    | cons x t ih => simp only [List.map_cons, Rows.uptoBulkAll, Rows.uptoBulk, List.length_cons]; omega
  have h1 := hb l
  simp only [Rows.uptoBulk] at h
  refine ⟨by omega, fun x hx => ?_⟩
  have h2 := bulk_all (ds := l.map fun x => (.agg [.lit (.string x.1), .lit (.string x.2)] : DataW H)) (List.mem_map.2 ⟨x, hx, rfl⟩)
  simp only [Rows.uptoBulk, Rows.uptoBulkAll] at h2
  omega
end Go.Proofs.YtlhodanpfpfodaaGreatDoor
