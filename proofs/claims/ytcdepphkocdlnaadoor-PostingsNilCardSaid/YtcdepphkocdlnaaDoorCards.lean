/-
  DERIVED. GIVEN WITH THE SEED: THE CARDS: each row of YtcdepphkocdlnaaDoorRows.lean that lists a variable, with what it lists TIED to the program's text (the seventh form; the later family's looks); each row that meets fmt, with fmt's text TOLD by the authors' own Lean function (tested against real Go, not proved from fmt's source: count such statements apart). THE CARD IS WHAT COUNTS. Prove the row's statement (the work); the ties are given (YtcdepphkocdlnaaDoorTie.lean); close each card by the builder's one call (the guide's Derived/Test/ToyasCard.lean, 'card_holds'). Laid BY PROGRAM, IN A SANDBOX (cutbox-door.mjs). By AI agents, Wed Nov 11 2026. No macro, syntax, notation, axiom, sorry.
-/
import Derived.Test.YtcdepphkocdlnaaDoorRows
import GoSem.ClaimSeven
namespace Go.Proofs.YtcdepphkocdlnaaDoor
namespace Rows

/-- THE TIED CARD OF 'icehouselaw03.RecordSorts'. -/
def recordSortsCard : Claim7 := { stood := { row := recordSortsRow, standIns := [], harness := (true, "8d9040d563423102e46230f359b858a2d5cfc32da14140ccd7e1bf3922fd7cb7"), looks := false }, kinds := [], alts := [], laidByText := true, laidKinds := [.data, .pinned], laidTests := true, laidLooks := .later }
def RecordSortsCardSaid : Prop := Claim7.holds Tryd.pinned (.plain (OpenSpec.ofChange recordSortsSpec)) recordSortsCard

/-- THE TIED CARD OF 'icehouselaw03.RecordOrdered'. -/
def recordOrderedCard : Claim7 := { stood := { row := recordOrderedRow, standIns := [], harness := (true, "8d9040d563423102e46230f359b858a2d5cfc32da14140ccd7e1bf3922fd7cb7"), looks := false }, kinds := [], alts := [], laidByText := true, laidKinds := [.data, .pinned], laidTests := true, laidLooks := .later }
def RecordOrderedCardSaid : Prop := Claim7.holds Tryd.pinned (.plain (OpenSpec.ofChange recordOrderedSpec)) recordOrderedCard

/-- THE TIED CARD OF 'icehouselaw05.PostingsNil'. -/
def postingsNilCard : Claim7 := { stood := { row := postingsNilRow, standIns := [], harness := (true, "8d9040d563423102e46230f359b858a2d5cfc32da14140ccd7e1bf3922fd7cb7"), looks := false }, kinds := [], alts := [], laidByText := true, laidKinds := [.data, .pinned], laidTests := true, laidLooks := .later }
def PostingsNilCardSaid : Prop := Claim7.holds Tryd.pinned (.plain (OpenSpec.ofChange postingsNilSpec)) postingsNilCard

/-- THE TIED CARD OF 'icehouselaw05.PostingsOwn'. -/
def postingsOwnCard : Claim7 := { stood := { row := postingsOwnRow, standIns := [], harness := (true, "8d9040d563423102e46230f359b858a2d5cfc32da14140ccd7e1bf3922fd7cb7"), looks := false }, kinds := [], alts := [], laidByText := true, laidKinds := [.data, .pinned], laidTests := true, laidLooks := .later }
def PostingsOwnCardSaid : Prop := Claim7.holds Tryd.pinned (.plain (OpenSpec.ofChange postingsOwnSpec)) postingsOwnCard

/-- THE SECOND FORM's CARD OF 'icehouselaw03.RecordSorts'. -/
def recordSortsUptoCard : Claim7 := { stood := { row := recordSortsUptoRow, standIns := [], harness := (true, "8d9040d563423102e46230f359b858a2d5cfc32da14140ccd7e1bf3922fd7cb7"), looks := false }, kinds := [], alts := [], laidByText := true, laidKinds := [.data, .pinned], laidTests := true, laidLooks := .later }
def RecordSortsUptoCardSaid : Prop := Claim7.holds Tryd.pinned (.plain (OpenSpec.upto recordSortsSpec)) recordSortsUptoCard

/-- THE SECOND FORM's CARD OF 'icehouselaw03.RecordOrdered'. -/
def recordOrderedUptoCard : Claim7 := { stood := { row := recordOrderedUptoRow, standIns := [], harness := (true, "8d9040d563423102e46230f359b858a2d5cfc32da14140ccd7e1bf3922fd7cb7"), looks := false }, kinds := [], alts := [], laidByText := true, laidKinds := [.data, .pinned], laidTests := true, laidLooks := .later }
def RecordOrderedUptoCardSaid : Prop := Claim7.holds Tryd.pinned (.plain (OpenSpec.upto recordOrderedSpec)) recordOrderedUptoCard

/-- THE SECOND FORM's CARD OF 'icehouselaw05.PostingsNil'. -/
def postingsNilUptoCard : Claim7 := { stood := { row := postingsNilUptoRow, standIns := [], harness := (true, "8d9040d563423102e46230f359b858a2d5cfc32da14140ccd7e1bf3922fd7cb7"), looks := false }, kinds := [], alts := [], laidByText := true, laidKinds := [.data, .pinned], laidTests := true, laidLooks := .later }
def PostingsNilUptoCardSaid : Prop := Claim7.holds Tryd.pinned (.plain (OpenSpec.upto postingsNilSpec)) postingsNilUptoCard

/-- THE SECOND FORM's CARD OF 'icehouselaw05.PostingsOwn'. -/
def postingsOwnUptoCard : Claim7 := { stood := { row := postingsOwnUptoRow, standIns := [], harness := (true, "8d9040d563423102e46230f359b858a2d5cfc32da14140ccd7e1bf3922fd7cb7"), looks := false }, kinds := [], alts := [], laidByText := true, laidKinds := [.data, .pinned], laidTests := true, laidLooks := .later }
def PostingsOwnUptoCardSaid : Prop := Claim7.holds Tryd.pinned (.plain (OpenSpec.upto postingsOwnSpec)) postingsOwnUptoCard
end Rows
end Go.Proofs.YtcdepphkocdlnaaDoor
