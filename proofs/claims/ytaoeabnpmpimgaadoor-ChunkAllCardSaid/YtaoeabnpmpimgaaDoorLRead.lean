/-
  What label.Read and the reference's Read answer, of any bytes: what readS says. Conditions: the slice reads as bytes.
-/
import Derived.Test.YtaoeabnpmpimgaaDoorRefDec
import Derived.Test.YtaoeabnpmpimgaaDoorRefRight
namespace Go.Icz
open Go.RowKit
def bt (l : List Nat) : B8 := l.map fun n : Nat => UInt8.ofNat n
theorem str_bt (l : List Nat) : str l = ⟨(bt l).toArray⟩ := rfl
/-- One label more, of a decoder. -/
def stepD (s : List Lab × List Nat × Nat) : List Lab × List Nat × Nat :=
  (s.1 ++ [(bt (txtD s.2.1 s.2.2).1, bt (txtD (txtD s.2.1 s.2.2).2.1 (txtD s.2.1 s.2.2).2.2).1)], (txtD (txtD s.2.1 s.2.2).2.1 (txtD s.2.1 s.2.2).2.2).2)
def labsD (l : List Nat) (er : Nat) : Nat → List Lab × List Nat × Nat
  | 0 => ([], l, er)
  | k + 1 => stepD (labsD l er k)
/-- The labels that bytes say, and the error. -/
def readS (l : List Nat) : List Lab × Nat :=
  if 16 < (numD l 0).1 then ([], 21) else
  if doneD (labsD (numD l 0).2.1 (numD l 0).2.2 (numD l 0).1).2.1 (labsD (numD l 0).2.1 (numD l 0).2.2 (numD l 0).1).2.2 = 0 ∧ rightS (labsD (numD l 0).2.1 (numD l 0).2.2 (numD l 0).1).1 = true
  then ((labsD (numD l 0).2.1 (numD l 0).2.2 (numD l 0).1).1, 0) else ([], 21)
theorem rdt_len (l : List Nat) : (rdt l).1.length ≤ l.length := by
  unfold rdt
  split
  · simp
  · split
    · simp
    · split
      · simp
      · simp only [List.length_take, List.length_drop]; omega
theorem numD_sub (l : List Nat) (er : Nat) : (∀ c ∈ (numD l er).2.1, c ∈ l) ∧ (numD l er).2.1.length ≤ l.length := by
  unfold numD
  split
  · exact ⟨fun _ h => h, Nat.le_refl _⟩
  · split
    · exact ⟨fun _ h => h, Nat.le_refl _⟩
    · exact ⟨fun _ h => List.mem_of_mem_drop h, by simp only [List.length_drop]; omega⟩
theorem txtD_sub (l : List Nat) (er : Nat) : (∀ c ∈ (txtD l er).2.1, c ∈ l) ∧ (txtD l er).2.1.length ≤ l.length ∧ (txtD l er).1.length ≤ l.length := by
  unfold txtD
  split
  · exact ⟨fun _ h => h, Nat.le_refl _, by simp⟩
  · split
    · exact ⟨fun _ h => h, Nat.le_refl _, by simp⟩
    · exact ⟨fun _ h => List.mem_of_mem_drop h, by simp only [List.length_drop]; omega, rdt_len l⟩
theorem labsD_len (l : List Nat) (er : Nat) : ∀ k, (labsD l er k).1.length = k
  | 0 => rfl
  | k + 1 => by unfold labsD stepD; simp [labsD_len l er k]
theorem labsD_sub (l : List Nat) (er : Nat) : ∀ k, (∀ c ∈ (labsD l er k).2.1, c ∈ l) ∧ (labsD l er k).2.1.length ≤ l.length ∧ (∀ x ∈ (labsD l er k).1, x.1.length ≤ l.length ∧ x.2.length ≤ l.length)
  | 0 => ⟨fun _ h => h, Nat.le_refl _, by simp [labsD]⟩
  | k + 1 => by
    obtain ⟨h1, h2, h3⟩ := labsD_sub l er k
    unfold labsD stepD
    obtain ⟨a1, a2, a3⟩ := txtD_sub (labsD l er k).2.1 (labsD l er k).2.2
    obtain ⟨b1, b2, b3⟩ := txtD_sub (txtD (labsD l er k).2.1 (labsD l er k).2.2).2.1 (txtD (labsD l er k).2.1 (labsD l er k).2.2).2.2
    refine ⟨fun c h => h1 c (a1 c (b1 c h)), by simp only; omega, fun x hx => ?_⟩
    rcases List.mem_append.1 hx with hx | hx
    · exact h3 x hx
    · obtain rfl := List.mem_singleton.1 hx
      simp only [bt, List.length_map]
      omega
theorem OwnL.grown {w w' : World} {B g : Nat} {v : Value} {l : List Lab} (h : OwnL w B v l) (hg : w.grownBy w' (some g)) (hB : g < B) : OwnL w' B v l := by
  refine World.ownsRow.kept h hg ?_
  rcases h.2 with ⟨rfl, _⟩ | ⟨k, cap, cur, rfl, hk, _⟩
  · exact .inl rfl
  · exact .inr (by simp [Value.ownBlock]; omega)
end Go.Icz
namespace Go.Proofs.YtaoeabnpmpimgaaDoor
open Go.RowKit Go.Icz
/-- It answers labels in new memory, and an error. -/
def ReadOwn (l : List Nat) (w : World) (e : Ending) (w' : World) : Prop :=
  ∃ u, e = .returned (.tuple #[u, .int .i64 ((readS l).2 : Int)]) ∧ OwnL w' w.heap.size u (readS l).1 ∧ Below w.heap.size w w'
/-- It answers labels that can be read, and an error. -/
def ReadOut (l : List Nat) (w : World) (e : Ending) (w' : World) : Prop :=
  ∃ u, e = .returned (.tuple #[u, .int .i64 ((readS l).2 : Int)]) ∧ RdL w' u (readS l).1 ∧ Below w.heap.size w w'
theorem ownL1 (w : World) {B : Nat} (x : Lab) (hB : B ≤ w.heap.size) : OwnL (w.alloc (.cells #[.string ⟨x.1.toArray⟩, .string ⟨x.2.toArray⟩] 65)) B (.slice (some ⟨w.heap.size, 0, none⟩) 1 1) [x] :=
  World.ownsRow_lit w #[.string ⟨x.1.toArray⟩, .string ⟨x.2.toArray⟩] 1 hB (by decide) rfl
end Go.Proofs.YtaoeabnpmpimgaaDoor
