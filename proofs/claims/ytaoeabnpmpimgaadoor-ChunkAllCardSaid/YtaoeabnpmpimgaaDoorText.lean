/-
  Plain facts on bytes and labels: which names, values and lists may be, quoted texts, labels as a text, as Lean functions of lists of bytes. Conditions: those that each theorem names.
-/
import Derived.Test.YtaoeabnpmpimgaaDoorTx0
import Derived.Handy
import Derived.Below
import Derived.ProofKit
import Derived.OpenShut
import Derived.SizedLaws
import Derived.ChangeSame
import Derived.WalkLawsBesides
import Derived.WalkSpells
import Derived.OwnWalk
import Derived.Lib.Bytealg
import Derived.Lib.TrimByte
import Derived.Lib.ValidU
import Derived.Lib.RuneBytes
namespace Go.Icz
open Go.RowKit



def letter (b : Nat) : Bool := decide (97 ≤ b ∧ b ≤ 122) || decide (65 ≤ b ∧ b ≤ 90) || decide (b = 95)
def digit (b : Nat) : Bool := decide (48 ≤ b ∧ b ≤ 57)
def nameTail : Nat → B8 → Bool
  | _, [] => true
  | i, c :: t => (letter c.toNat || (digit c.toNat && decide (i ≠ 0))) && nameTail (i + 1) t
def nameS (s : B8) : Bool := decide (1 ≤ s.length ∧ s.length ≤ 64) && nameTail 0 s
def valueS (s : B8) : Bool := decide (1 ≤ s.length ∧ s.length ≤ 128) && Lib.validD s
def cmpN (x y : Lab) : Int := Lib.compareBytes x.1 y.1
/-- The names rise from p on. -/
def chain : Option B8 → List Lab → Bool
  | _, [] => true
  | p, x :: t => nameS x.1 && valueS x.2 && (match p with | none => true | some q => Op.bytesLess q x.1) && chain (some x.1) t
def rightS (l : List Lab) : Bool := decide (1 ≤ l.length ∧ l.length ≤ 16) && chain none l

/-- A list of labels as memory's cells. -/
def cellsL (l : List Lab) : List Value := l.flatMap fun x => [.string ⟨x.1.toArray⟩, .string ⟨x.2.toArray⟩]
theorem cellsL_len (l : List Lab) : (cellsL l).length = l.length * 2 := by
  induction l with
  | nil => rfl
  | cons x t ih => simp [cellsL] at ih ⊢; omega
theorem cellsL_app (l m : List Lab) : cellsL (l ++ m) = cellsL l ++ cellsL m := by simp [cellsL]
theorem cellsL_one (l : List Lab) : ∀ u ∈ cellsL l, u.oneCell' = true := by
  intro u hu
  simp only [cellsL, List.mem_flatMap] at hu
  obtain ⟨x, _, hx⟩ := hu
  simp at hx
  rcases hx with rfl | rfl <;> rfl
theorem cellsL_get : ∀ (l : List Lab) (i : Nat) (h : i < l.length), (cellsL l)[i * 2]? = some (.string ⟨(l[i]).1.toArray⟩) ∧ (cellsL l)[i * 2 + 1]? = some (.string ⟨(l[i]).2.toArray⟩)
  | [], i, h => by simp at h
  | x :: t, 0, _ => by simp [cellsL]
  | x :: t, i + 1, h => by
    have := cellsL_get t i (by simpa using h)
    have e : cellsL (x :: t) = .string ⟨x.1.toArray⟩ :: .string ⟨x.2.toArray⟩ :: cellsL t := rfl
    rw [e, show (i + 1) * 2 = i * 2 + 2 by omega, show i * 2 + 2 + 1 = (i * 2 + 1) + 2 by omega]
    simpa using this

/-- The slice v, made by the call itself in a block from B on, holds just the labels l. -/
def OwnL (w : World) (B : Nat) (v : Value) (l : List Lab) : Prop := w.ownsRow B 65 2 v l.length (cellsL l)
theorem OwnL.nil (w : World) (B : Nat) : OwnL w B (.slice none 0 0) [] := World.ownsRow_nil w B 65 2
theorem OwnL.alloc {w : World} {B : Nat} {v : Value} {l : List Lab} (h : OwnL w B v l) (o : Obj) : OwnL (w.alloc o) B v l := World.ownsRow.alloc h o
theorem OwnL.below {w w' : World} {B : Nat} {v : Value} {l : List Lab} (h : OwnL w B v l) (hb : Below w.heap.size w w') : OwnL w' B v l := by
  refine World.ownsRow.kept (row := none) h ⟨hb.os, hb.tape, hb.output, hb.size, fun k hk _ => hb.block k hk⟩ ?_
  cases hv : v.ownBlock <;> simp
theorem OwnL.mono {w : World} {B B' : Nat} {v : Value} {l : List Lab} (h : OwnL w B v l) (hB : B' ≤ B) : OwnL w B' v l := by
  refine ⟨h.1, ?_⟩
  rcases h.2 with h | ⟨g, cap, cur, hv, hg, r⟩
  · exact .inl h
  · exact .inr ⟨g, cap, cur, hv, Nat.le_trans hB hg, r⟩
/-- The slice v reads as the labels l. -/
def RdL (w : World) (v : Value) (l : List Lab) : Prop :=
  ∃ A c, v = .slice A l.length c ∧ l.length ≤ c ∧ (0 < l.length → ∃ b off, A = some ⟨b, off, none⟩ ∧ b < w.heap.size ∧
    ∀ j (hj : j < l.length), w.cell? ⟨b, off + j * 2, none⟩ = some (.string ⟨(l[j]).1.toArray⟩) ∧ w.cell? ⟨b, off + j * 2 + 1, none⟩ = some (.string ⟨(l[j]).2.toArray⟩))
theorem RdL.nil (w : World) : RdL w (.slice none 0 0) [] := ⟨none, 0, rfl, by simp, fun h => absurd h (by simp)⟩
theorem RdL.below {w w' : World} {v : Value} {l : List Lab} (h : RdL w v l) (hb : Below w.heap.size w w') : RdL w' v l := by
  obtain ⟨A, c, hv, hc, hr⟩ := h
  refine ⟨A, c, hv, hc, fun h0 => ?_⟩
  obtain ⟨b, off, hA, hlt, hcell⟩ := hr h0
  exact ⟨b, off, hA, Nat.lt_of_lt_of_le hlt hb.size, fun j hj => ⟨(hb.cell (p := ⟨b, off + j * 2, none⟩) hlt).trans (hcell j hj).1, (hb.cell (p := ⟨b, off + j * 2 + 1, none⟩) hlt).trans (hcell j hj).2⟩⟩
theorem OwnL.rd {w : World} {B : Nat} {v : Value} {l : List Lab} (h : OwnL w B v l) : RdL w v l := by
  rcases h.2 with ⟨hv, hn⟩ | ⟨g, cap, cur, hv, hg, hh, hnc, r⟩
  · exact ⟨none, 0, by rw [hv, hn], by omega, fun h0 => absurd hn (by omega)⟩
  · refine ⟨_, cap, hv, hnc, fun _ => ⟨g, 0, rfl, (Array.getElem?_eq_some_iff.1 hh).1, fun j hj => ?_⟩⟩
    have hg := cellsL_get l j hj
    refine ⟨?_, ?_⟩
    · rw [← add_flat]
      exact World.ownsRow.cells h (g := g) (by rw [hv]; rfl) _ _ hg.1
    · rw [Nat.add_assoc, ← add_flat]
      exact World.ownsRow.cells h (g := g) (by rw [hv]; rfl) _ _ hg.2
theorem RdL.alloc {w : World} {v : Value} {l : List Lab} (h : RdL w v l) (o : Obj) : RdL (w.alloc o) v l := h.below ((Below.refl _ _).alloc (Nat.le_refl _) _)
theorem below_allocT {w w' : World} {o : Obj} {B : Nat} (hB : B ≤ w.heap.size) (h : Below B (w.alloc o) w') : Below B w w' := ((Below.refl B w).alloc hB o).trans h
end Go.Icz
