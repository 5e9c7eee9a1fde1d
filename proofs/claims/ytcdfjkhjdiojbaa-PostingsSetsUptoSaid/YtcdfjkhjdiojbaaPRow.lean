/-
  What the rows of the plain seat share: sizes by bulk. No condition.
-/
import Derived.Test.YtcdfjkhjdiojbaaRows
import Derived.Test.YtcdfjkhjdiojbaaWrite
import Derived.JoinedCond
namespace Go.Proofs.Ytcdfjkhjdiojbaa
open Go.ChangeMaps Go.ChangeShapes Go.WideShapes Go.ChangeAt Go.RowKit Go.Icz
theorem bulk_pos {H : Type} (d : DataW H) : 1 ≤ Rows.uptoBulk d := by
  cases d with
  | lit q => cases q <;> simp [Rows.uptoBulk]
  | _ => simp [Rows.uptoBulk]
theorem bulk_len {H : Type} : ∀ ds : List (DataW H), ds.length ≤ Rows.uptoBulkAll ds
  | [] => by simp [Rows.uptoBulkAll]
  | d :: ds => by
    have h1 := bulk_pos d
    have h2 := bulk_len ds
    simp only [Rows.uptoBulkAll, List.length_cons]
    omega
theorem bulk_slice {H : Type} (el sp : List (DataW H)) : el.length ≤ Rows.uptoBulk (.slice el sp) := by
  have h := bulk_len el
  simp only [Rows.uptoBulk]
  omega
theorem bulk_slice2 {H : Type} (el sp : List (DataW H)) : el.length + sp.length ≤ Rows.uptoBulk (.slice el sp) := by
  have h := bulk_len el
  have h2 := bulk_len sp
  simp only [Rows.uptoBulk]
  omega
theorem own : ownKnob Try.prog.godebug = none := by kernel_rfl
theorem laidOut : laidOutB Try.prog = true := by kernel_rfl
theorem cells3 : Try.prog.cellsOf 3 = 1 := by kernel_rfl
theorem cells5 : Try.prog.cellsOf 5 = 1 := by kernel_rfl
end Go.Proofs.Ytcdfjkhjdiojbaa
