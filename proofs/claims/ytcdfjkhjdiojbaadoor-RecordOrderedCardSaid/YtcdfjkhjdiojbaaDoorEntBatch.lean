/-
  Lists of entries in memory; which may be a batch: what record.rightBatch answers. Conditions: those that each theorem names.
-/
import Derived.Test.YtcdfjkhjdiojbaaDoorEntKnow
namespace Go.Icz
open Go.RowKit
/-- The slice v reads as the entries l. -/
def RdE (w : World) (v : Value) (l : List Ent) : Prop :=
  ∃ A c, v = .slice A l.length c ∧ l.length ≤ c ∧ (0 < l.length → ∃ b off, A = some ⟨b, off, none⟩ ∧ b < w.heap.size ∧
    ∀ j (hj : j < l.length), ∃ A' c', w.cell? ⟨b, off + j * 4, none⟩ = some (.int .i64 (l[j]).seq) ∧ w.cell? ⟨b, off + j * 4 + 1, none⟩ = some (.int .i64 (l[j]).time) ∧ w.cell? ⟨b, off + j * 4 + 2, none⟩ = some (.slice A' (l[j]).labs.length c') ∧ w.cell? ⟨b, off + j * 4 + 3, none⟩ = some (.string ⟨(l[j]).line.toArray⟩) ∧ RdL w (.slice A' (l[j]).labs.length c') (l[j]).labs)
theorem RdE.below {w w' : World} {v : Value} {l : List Ent} (h : RdE w v l) (hb : Below w.heap.size w w') : RdE w' v l := by
  obtain ⟨A, c, hv, hc, hr⟩ := h
  refine ⟨A, c, hv, hc, fun h0 => ?_⟩
  obtain ⟨b, off, hA, hlt, hcell⟩ := hr h0
  refine ⟨b, off, hA, Nat.lt_of_lt_of_le hlt hb.size, fun j hj => ?_⟩
  obtain ⟨A', c', h0, h1, h2, h3, h4⟩ := hcell j hj
  exact ⟨A', c', (hb.cell (p := ⟨b, off + j * 4, none⟩) hlt).trans h0, (hb.cell (p := ⟨b, off + j * 4 + 1, none⟩) hlt).trans h1, (hb.cell (p := ⟨b, off + j * 4 + 2, none⟩) hlt).trans h2, (hb.cell (p := ⟨b, off + j * 4 + 3, none⟩) hlt).trans h3, h4.below hb⟩
def batC (p : Option Int) : List Ent → Bool
  | [] => true
  | x :: t => entR x && (match p with | none => true | some s => decide (x.seq = s + 1)) && batC (some x.seq) t
def prevS (l : List Ent) (k : Nat) : Option Int := if k = 0 then none else some (l.getD (k - 1) ⟨0, 0, [], []⟩).seq
/-- May the entries be a batch? -/
def batR (l : List Ent) : Bool := decide (1 ≤ l.length ∧ l.length ≤ 16) && batC none l
end Go.Icz
namespace Go.Proofs.YtcdfjkhjdiojbaaDoor
open Go.RowKit Go.Icz
end Go.Proofs.YtcdfjkhjdiojbaaDoor
