/-
  What codec.Number, codec.Text and label.Bytes answer: bytes in new memory. Conditions: those that each theorem names.
-/
import Derived.Test.YthgmmloocdfphaaGreatDoorPrint
namespace Go.Proofs.YthgmmloocdfphaaGreatDoor
open Go.RowKit Go.Icz
/-- It answers a slice of its own with the bytes l, and no error. -/
def Made (w : World) (l : List Nat) (e : Ending) (w' : World) : Prop :=
  ∃ v, e = .returned (.tuple #[v, .int .i64 0]) ∧ Own w' w.heap.size v l ∧ Below w.heap.size w w'
/-- Text: the length as a number, and the bytes. -/
def txt (s : ByteArray) : List Nat := num s.size ++ nats s
def bytesL : List Lab → List Nat
  | [] => []
  | x :: t => (txt ⟨x.1.toArray⟩ ++ txt ⟨x.2.toArray⟩) ++ bytesL t
/-- The bytes of labels. -/
def bytesN (l : List Lab) : List Nat := num l.length ++ bytesL l
theorem txt_len (s : ByteArray) (h : s.size ≤ 128) : (txt s).length ≤ 136 := by
  unfold txt
  have := num_len8 (n := s.size) (by omega)
  rw [List.length_append, nats_len]
  omega
def part (x : Lab) : Nat → List Nat
  | 0 => []
  | 1 => txt ⟨x.1.toArray⟩
  | _ => txt ⟨x.1.toArray⟩ ++ txt ⟨x.2.toArray⟩
theorem cells89 : Tryz.prog.cellsOf 9 = 1 := by kernel_rfl
end Go.Proofs.YthgmmloocdfphaaGreatDoor
