/-
  A chunk's entries; entry; cells of a chunk. Conditions: those that each theorem names.
-/
import Derived.Test.YtaoeabnpmpimgaaDoorHpi
import Derived.Test.YtaoeabnpmpimgaaDoorHlp
import Derived.Test.YtaoeabnpmpimgaaDoorEntKnow
namespace Go.Icz
open Go.RowKit
/-- The row, an entry with these labels. -/
def entC (labs : List Lab) (x : CRow) : Ent := ⟨x.seq, x.time, labs, x.line⟩
def rowsR (labs : List Lab) (rows : List CRow) : Bool := rows.all fun x => entR (entC labs x)
def rowsB (labs : List Lab) (rows : List CRow) : Bool := (prs rows 0).all fun p => decide (cmpE (entC labs p.1) (entC labs p.2) < 0)
def onceB (ns : List Int) : Bool := decide ns.Nodup
/-- Whether the chunk may be. -/
def chR (labs : List Lab) (rows : List CRow) : Bool := decide (1 ≤ rows.length) && decide (rows.length ≤ 1000) && rowsR labs rows && rowsB labs rows && onceB (rows.map (·.seq))
end Go.Icz
namespace Go.Proofs.YtaoeabnpmpimgaaDoor
open Go.RowKit Go.Icz
set_option maxRecDepth 100000
set_option maxHeartbeats 4000000
theorem entry_is (labs : List Lab) (A : Option Addr) (n c : Nat) (x : CRow) (w : World) (hn : n = labs.length) : Calls Tryd.prog 36 #[.slice A n c, rowV x] w fun e w' => e = .returned (entV (entC labs x) A c) ∧ Below w.heap.size w w' := by
  subst hn
  unfold rowV entV entC
  obtain ⟨seq, time, line⟩ := x
  simp only
  go_enter Tryd.func36, Tryd.ntmps36
  go_wp2
  have hn := heap_alloc_new (w.alloc (.cells #[.int .i64 seq, .int .i64 time, .string ⟨line.toArray⟩] 45)) (.cells #[.int .i64 seq, .int .i64 time, .slice A labs.length c, .string ⟨line.toArray⟩] 50)
  rw [World.size_alloc] at hn
  refine bodyPost_ret (results_cell_row rfl _ _ (w.heap.size + 1) 50 #[.int .i64 seq, .int .i64 time, .slice A labs.length c, .string ⟨line.toArray⟩] (0, 0) _ rfl hn Tryd.underlying50 rfl (by kernel_rfl)) rfl ?_
  exact ⟨rfl, ((Below.refl _ w).alloc (Nat.le_refl _) _).alloc (by rw [World.size_alloc]; omega) _⟩
end Go.Proofs.YtaoeabnpmpimgaaDoor
