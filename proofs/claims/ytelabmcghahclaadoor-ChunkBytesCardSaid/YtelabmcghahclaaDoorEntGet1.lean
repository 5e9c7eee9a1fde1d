/-
  What record.Get answers, of any bytes: what entGetS says. Conditions: the slice reads as bytes.
  What the closure in record.Get answers, of any bytes. Conditions: the captured variable holds a slice that reads as the bytes.
-/
import Derived.Test.YtelabmcghahclaaDoorEntSize
import Derived.Test.YtelabmcghahclaaDoorRRead
import Derived.Lib.ConvBytes
import Derived.Lib.AtoiErrMem
section
namespace Go.Icz
open Go.RowKit
/-- What a decoder of an entry's bytes finds: the entry's parts, and what Done says. -/
def entParts (l : List Nat) : Nat × Nat × List Nat × List Nat × Nat :=
  let n1 := numD l 0
  let n2 := numD n1.2.1 n1.2.2
  let t1 := txtD n2.2.1 n2.2.2
  let t2 := txtD t1.2.1 t1.2.2
  (n1.1, n2.1, t1.1, t2.1, doneD t2.2.1 t2.2.2)
def entOf (l : List Nat) : Ent := ⟨((entParts l).1 : Int), ((entParts l).2.1 : Int), (readS (entParts l).2.2.1).1, bt (entParts l).2.2.2.1⟩
/-- Are the bytes those of an entry that may be? -/
def entOk (l : List Nat) : Bool := decide ((entParts l).2.2.2.2 = 0 ∧ (readS (entParts l).2.2.1).2 = 0) && entR (entOf l)
end Go.Icz
namespace Go.Proofs.YtelabmcghahclaaDoor
open Go.RowKit Go.Icz
theorem set_row {w : World} {b i : Nat} {u : Value} {cs : Array Value} {t : TypeId} (h : w.heap[b]? = some (.cells cs t (0, 0))) : (w.setCell ⟨b, i, none⟩ u).heap[b]? = some (.cells (cs.setIfInBounds i u) t (0, 0)) := by
  simp [World.setCell, Array.getElem?_modify, h]
/-- '[]byte(s)': a slice that reads as the bytes, in new memory. -/
theorem conv_sb (s : ByteArray) (w : World) : ∃ c, (convert 9 26 (.string s)).run Tryd.prog w = .ok (.slice (some ⟨w.heap.size, 0, none⟩) s.size c) (Lib.bytesWorld w 5 s) ∧ Rd (Lib.bytesWorld w 5 s) (.slice (some ⟨w.heap.size, 0, none⟩) s.size c) (nats s) ∧ Below w.heap.size w (Lib.bytesWorld w 5 s) := by
  refine ⟨_, Lib.run_convert_string_bytes w 9 26 5 s Tryd.underlying9 Tryd.underlying26 Tryd.underlying5, ?_, Lib.bytesWorld_below _ _ _⟩
  refine ⟨some ⟨w.heap.size, 0, none⟩, _, by rw [nats_len], ?_, fun _ => ⟨w.heap.size, 0, rfl, by rw [Lib.bytesWorld_size]; omega, fun j hj => ?_⟩⟩
  · rw [nats_len]
    exact grownCap_ge _ _ _ _
  · rw [nats_len] at hj
    rw [Nat.zero_add, Lib.bytesWorld_cell w 5 s j hj]
    have hj' : j < s.data.toList.length := by simpa using hj
    simp [nats, List.getD, List.getElem?_eq_getElem hj']
theorem rdt_mem (l : List Nat) : ∀ c ∈ (rdt l).1, c ∈ l := by
  unfold rdt
  intro c
  split
  · simp
  · split
    · simp
    · split
      · simp
      · exact fun h => List.mem_of_mem_drop (List.mem_of_mem_take h)
theorem txtD_mem (l : List Nat) (er : Nat) : ∀ c ∈ (txtD l er).1, c ∈ l := by
  unfold txtD
  intro c
  split
  · simp
  · split
    · simp
    · exact rdt_mem l c
theorem readS_sub (l : List Nat) : (readS l).1.length ≤ 16 ∧ ∀ x ∈ (readS l).1, x.1.length ≤ l.length ∧ x.2.length ≤ l.length := by
  have hn := numD_sub l 0
  have hs := labsD_sub (numD l 0).2.1 (numD l 0).2.2 (numD l 0).1
  unfold readS
  split
  · simp
  · split
    · rename_i h
      have h3 := h.2
      simp only [rightS, Bool.and_eq_true, decide_eq_true_eq] at h3
      exact ⟨h3.1.2, fun x hx => by have := hs.2.2 x hx; omega⟩
    · simp
/-- What the closure in Get answers: an entry and an error. -/
def G1Out (l : List Nat) (w : World) (e : Ending) (w' : World) : Prop :=
  ∃ (y : Ent) (A : Option Addr) (c er : Nat), e = .returned (.tuple #[entV y A c, .int .i64 (er : Int)]) ∧ OwnL w' w.heap.size (.slice A y.labs.length c) y.labs ∧ ((entOk l = true ∧ er = 0 ∧ y = entOf l) ∨ (entOk l = false ∧ er ≠ 0)) ∧ Below w.heap.size w w'
end Go.Proofs.YtelabmcghahclaaDoor
end
section
namespace Go.Proofs.YtelabmcghahclaaDoor
open Go.RowKit Go.Icz
theorem conv_sb2 (s : ByteArray) (w : World) (n : Nat) (hn : w.heap.size = n) : ∃ c, (convert 9 26 (.string s)).run Tryd.prog w = .ok (.slice (some ⟨n, 0, none⟩) s.size c) (Lib.bytesWorld w 5 s) ∧ Rd (Lib.bytesWorld w 5 s) (.slice (some ⟨n, 0, none⟩) s.size c) (nats s) ∧ Below w.heap.size w (Lib.bytesWorld w 5 s) := by
  subst hn
  exact conv_sb s w
/-- An entry stored into a box. -/
theorem put4_row {w : World} {k : Nat} {a0 b0 c0 d0 : Value} {t : TypeId} (h : w.heap[k]? = some (.cells #[a0, b0, c0, d0] t (0, 0))) (a b c d : Value) : ((((w.setCell ⟨k, 0, none⟩ a).setCell ⟨k, 1, none⟩ b).setCell ⟨k, 2, none⟩ c).setCell ⟨k, 3, none⟩ d).heap[k]? = some (.cells #[a, b, c, d] t (0, 0)) :=
  set_row (i := 3) (u := d) (set_row (i := 2) (u := c) (set_row (i := 1) (u := b) (set_row (i := 0) (u := a) h)))
theorem put4_below {B : Nat} {w0 w : World} (h : Below B w0 w) {k : Nat} (hk : B ≤ k) (a b c d : Value) : Below B w0 ((((w.setCell ⟨k, 0, none⟩ a).setCell ⟨k, 1, none⟩ b).setCell ⟨k, 2, none⟩ c).setCell ⟨k, 3, none⟩ d) :=
  (((h.setCell (p := ⟨k, 0, none⟩) hk a).setCell (p := ⟨k, 1, none⟩) hk b).setCell (p := ⟨k, 2, none⟩) hk c).setCell (p := ⟨k, 3, none⟩) hk d
/-- Labels do not lie in an entry's box. -/
theorem OwnL.put4 {w : World} {B : Nat} {v : Value} {l : List Lab} (h : OwnL w B v l) {k : Nat} (hk : k < B) (a b c d : Value) : OwnL ((((w.setCell ⟨k, 0, none⟩ a).setCell ⟨k, 1, none⟩ b).setCell ⟨k, 2, none⟩ c).setCell ⟨k, 3, none⟩ d) B v l :=
  OwnL.grown (OwnL.grown (OwnL.grown (OwnL.grown h (grown_set _ k 0 a) hk) (grown_set _ k 1 b) hk) (grown_set _ k 2 c) hk) (grown_set _ k 3 d) hk
end Go.Proofs.YtelabmcghahclaaDoor
end
