/-
  DERIVED. GIVEN WITH THE SEED: THE CARDS: each row of YtcdfjkhjdiojbaaDoorRows.lean that lists a variable, with what it lists TIED to the program's text (the seventh form; the later family's looks); each row that meets fmt, with fmt's text TOLD by the authors' own Lean function (tested against real Go, not proved from fmt's source: count such statements apart). THE CARD IS WHAT COUNTS. Prove the row's statement (the work); the ties are given (YtcdfjkhjdiojbaaDoorTie.lean); close each card by the builder's one call (the guide's Derived/Test/ToyasCard.lean, 'card_holds'). Laid BY PROGRAM, IN A SANDBOX (cutbox-door.mjs). By AI agents, Wed Nov 11 2026. No macro, syntax, notation, axiom, sorry.
-/
import Derived.Test.YtcdfjkhjdiojbaaDoorRows
import GoSem.ClaimSeven
namespace Go.Proofs.YtcdfjkhjdiojbaaDoor
namespace Rows

/-- THE TIED CARD OF 'icehouselaw03.RecordSorts'. -/
def recordSortsCard : Claim7 := { stood := { row := recordSortsRow, standIns := [], harness := (true, "739f5a66c78aabeb7c3841942131b6da9d42f251b36e1df26fa355cabbd3db21"), looks := false }, kinds := [], alts := [], laidByText := true, laidKinds := [.data, .pinned], laidTests := true, laidLooks := .later }
def RecordSortsCardSaid : Prop := Claim7.holds Tryd.pinned (.plain (OpenSpec.ofChange recordSortsSpec)) recordSortsCard

/-- THE TIED CARD OF 'icehouselaw03.RecordOrdered'. -/
def recordOrderedCard : Claim7 := { stood := { row := recordOrderedRow, standIns := [], harness := (true, "739f5a66c78aabeb7c3841942131b6da9d42f251b36e1df26fa355cabbd3db21"), looks := false }, kinds := [], alts := [], laidByText := true, laidKinds := [.data, .pinned], laidTests := true, laidLooks := .later }
def RecordOrderedCardSaid : Prop := Claim7.holds Tryd.pinned (.plain (OpenSpec.ofChange recordOrderedSpec)) recordOrderedCard

/-- THE TIED CARD OF 'icehouselaw05.PostingsNil'. -/
def postingsNilCard : Claim7 := { stood := { row := postingsNilRow, standIns := [], harness := (true, "739f5a66c78aabeb7c3841942131b6da9d42f251b36e1df26fa355cabbd3db21"), looks := false }, kinds := [], alts := [], laidByText := true, laidKinds := [.data, .pinned], laidTests := true, laidLooks := .later }
def PostingsNilCardSaid : Prop := Claim7.holds Tryd.pinned (.plain (OpenSpec.ofChange postingsNilSpec)) postingsNilCard

/-- THE SECOND FORM's CARD OF 'icehouselaw03.RecordSorts'. -/
def recordSortsUptoCard : Claim7 := { stood := { row := recordSortsUptoRow, standIns := [], harness := (true, "739f5a66c78aabeb7c3841942131b6da9d42f251b36e1df26fa355cabbd3db21"), looks := false }, kinds := [], alts := [], laidByText := true, laidKinds := [.data, .pinned], laidTests := true, laidLooks := .later }
def RecordSortsUptoCardSaid : Prop := Claim7.holds Tryd.pinned (.plain (OpenSpec.upto recordSortsSpec)) recordSortsUptoCard

/-- THE SECOND FORM's CARD OF 'icehouselaw03.RecordOrdered'. -/
def recordOrderedUptoCard : Claim7 := { stood := { row := recordOrderedUptoRow, standIns := [], harness := (true, "739f5a66c78aabeb7c3841942131b6da9d42f251b36e1df26fa355cabbd3db21"), looks := false }, kinds := [], alts := [], laidByText := true, laidKinds := [.data, .pinned], laidTests := true, laidLooks := .later }
def RecordOrderedUptoCardSaid : Prop := Claim7.holds Tryd.pinned (.plain (OpenSpec.upto recordOrderedSpec)) recordOrderedUptoCard

/-- THE SECOND FORM's CARD OF 'icehouselaw05.PostingsNil'. -/
def postingsNilUptoCard : Claim7 := { stood := { row := postingsNilUptoRow, standIns := [], harness := (true, "739f5a66c78aabeb7c3841942131b6da9d42f251b36e1df26fa355cabbd3db21"), looks := false }, kinds := [], alts := [], laidByText := true, laidKinds := [.data, .pinned], laidTests := true, laidLooks := .later }
def PostingsNilUptoCardSaid : Prop := Claim7.holds Tryd.pinned (.plain (OpenSpec.upto postingsNilSpec)) postingsNilUptoCard
end Rows
end Go.Proofs.YtcdfjkhjdiojbaaDoor
