/-
  DERIVED. GIVEN WITH THE SEED: THE CARDS: each row of YtnlkipgjacgddaaDoorRows.lean that lists a variable, with what it lists TIED to the program's text (the seventh form; the later family's looks); each row that meets fmt, with fmt's text TOLD by the authors' own Lean function (tested against real Go, not proved from fmt's source: count such statements apart). THE CARD IS WHAT COUNTS. Prove the row's statement (the work); the ties are given (YtnlkipgjacgddaaDoorTie.lean); close each card by the builder's one call (the guide's Derived/Test/ToyasCard.lean, 'card_holds'). Laid BY PROGRAM, IN A SANDBOX (cutbox-door.mjs). By AI agents, Wed Nov 11 2026. No macro, syntax, notation, axiom, sorry.
-/
import Derived.Test.YtnlkipgjacgddaaDoorRows
import GoSem.ClaimSeven
namespace Go.Proofs.YtnlkipgjacgddaaDoor
namespace Rows

/-- THE TIED CARD OF 'icehouselaw05.PostingsOwn'. -/
def postingsOwnCard : Claim7 := { stood := { row := postingsOwnRow, standIns := [], harness := (true, "1f014566500384a0db432f522bc29a2676ae8236ec10900434db759d565136ca"), looks := false }, kinds := [], alts := [], laidByText := true, laidKinds := [.data, .pinned], laidTests := true, laidLooks := .later }
def PostingsOwnCardSaid : Prop := Claim7.holds Tryd.pinned (.plain (OpenSpec.ofChange postingsOwnSpec)) postingsOwnCard

/-- THE SECOND FORM's CARD OF 'icehouselaw05.PostingsOwn'. -/
def postingsOwnUptoCard : Claim7 := { stood := { row := postingsOwnUptoRow, standIns := [], harness := (true, "1f014566500384a0db432f522bc29a2676ae8236ec10900434db759d565136ca"), looks := false }, kinds := [], alts := [], laidByText := true, laidKinds := [.data, .pinned], laidTests := true, laidLooks := .later }
def PostingsOwnUptoCardSaid : Prop := Claim7.holds Tryd.pinned (.plain (OpenSpec.upto postingsOwnSpec)) postingsOwnUptoCard
end Rows
end Go.Proofs.YtnlkipgjacgddaaDoor
