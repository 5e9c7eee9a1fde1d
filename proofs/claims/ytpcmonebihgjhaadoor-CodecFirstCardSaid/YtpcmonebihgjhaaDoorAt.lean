/-
  Small facts that CodecFirst and CodecRot share: cells of a row of one's own, a store into it, a place reckoned by two remainders. Conditions: those that each theorem names.
-/
import Derived.Test.YtpcmonebihgjhaaDoorUfGen
namespace Go.Icy
open Go.RowKit
section
variable {w : World} {B g n cap j : Nat} {l : List Nat}
theorem Own.at_ (h : Own w B (.slice (some ⟨g, 0, none⟩) n cap) l) (hj : j < l.length) : w.cell? ⟨g, j, none⟩ = some (.int .u8 (l[j] : Int)) := by
  have e := add_flat g 0 j
  rw [Nat.zero_add] at e
  rw [← e]
  refine World.ownsRow.cells h (g := g) rfl j _ ?_
  simp [cellsB, hj]
theorem Own.free (h : Own w B (.slice (some ⟨g, 0, none⟩) n cap) l) : w.frozen? ⟨g, j, none⟩ = false := by
  rcases h.2 with ⟨hv, _⟩ | ⟨g', cap', cur, hv, _, hh, _⟩
  · cases hv
  · injection hv with hv
    injection hv with hv
    injection hv with hv
    subst hv
    simp [World.frozen?, hh]
theorem Own.set_ (h : Own w B (.slice (some ⟨g, 0, none⟩) n cap) l) (y : Nat) : Own (w.setCell ⟨g, j, none⟩ (.int .u8 (y : Int))) B (.slice (some ⟨g, 0, none⟩) n cap) (l.set j y) := by
  have hn : n = l.length := by
    rcases h.2 with ⟨hv, _⟩ | ⟨g', cap', cur, hv, _⟩
    · cases hv
    · injection hv
  subst hn
  have h1 := World.ownsRow.stored h j (.int .u8 (y : Int))
  unfold Own
  rw [List.length_set]
  have e : cellsB (l.set j y) = (cellsB l).set j (.int .u8 (y : Int)) := by simp [cellsB, List.map_set]
  rw [e]
  exact h1.1
end
end Go.Icy
namespace Go.Proofs.YtpcmonebihgjhaaDoor
open Go.RowKit Go.Icy
theorem rot_index (i : Int) {L : Nat} (hL : 0 < L) (hmax : L ≤ 4611686018427387904) : ∃ j : Nat, j < L ∧ (wrap64 (i.tmod L + L)).tmod L = (j : Int) := by
  have h0 : 0 < (L : Int) := by omega
  have h1 := Int.tmod_lt_of_pos i h0
  have h2 : -(L : Int) < i.tmod L := Int.lt_tmod_of_pos i h0
  have e : wrap64 (i.tmod L + L) = i.tmod L + L := IntWalk.wrap64_in _ ⟨by omega, by omega⟩
  rw [e]
  have h3 := Int.tmod_lt_of_pos (i.tmod L + L) h0
  have h4 : 0 ≤ (i.tmod L + L).tmod L := Int.tmod_nonneg _ (by omega)
  exact ⟨((i.tmod L + L).tmod L).toNat, by omega, by omega⟩
theorem xor8 {a x : Nat} (ha : a < 256) (hx : x < 256) (h0 : x ≠ 0) : ∃ y : Nat, bits .xor .u8 (a : Int) (x : Int) = (y : Int) ∧ y < 256 ∧ y ≠ a := by
  refine ⟨a ^^^ x, u8_xor_nat a x ha hx, Nat.xor_lt_two_pow (n := 8) ha hx, fun e => h0 ?_⟩
  have := congrArg (fun z => a ^^^ z) e
  simp only [← Nat.xor_assoc, Nat.xor_self, Nat.zero_xor] at this
  exact this
/-- What was made, its place and its cells told. -/
def MadeAt (w : World) (l : List Nat) (L : Nat) (e : Ending) (w' : World) : Prop :=
  ∃ g cap, e = .returned (.tuple #[.slice (some ⟨g, 0, none⟩) L cap, .int .i64 0]) ∧ Own w' w.heap.size (.slice (some ⟨g, 0, none⟩) L cap) l ∧ w.heap.size ≤ g ∧ g < w'.heap.size ∧ L ≤ cap ∧ Below w.heap.size w w'
theorem Made.at_ {w : World} {l : List Nat} {e : Ending} {w' : World} (h : Made w l e w') {L : Nat} (hL : l.length = L) (h0 : 0 < L) : MadeAt w l L e w' := by
  obtain ⟨v, rfl, ho, hb⟩ := h
  subst hL
  obtain ⟨g, cap, rfl, hg, hg2, hcap, hcell⟩ := ho.form h0
  exact ⟨g, cap, rfl, ho, hg, hg2, hcap, hb⟩

end Go.Proofs.YtpcmonebihgjhaaDoor
