/-
  DERIVED. GIVEN WITH THE SEED: THE CARDS: each row of YtogahjeeglnogaaDoorRows.lean that lists a variable, with what it lists TIED to the program's text (the seventh form; the later family's looks); each row that meets fmt, with fmt's text TOLD by the authors' own Lean function (tested against real Go, not proved from fmt's source: count such statements apart). THE CARD IS WHAT COUNTS. Prove the row's statement (the work); the ties are given (YtogahjeeglnogaaDoorTie.lean); close each card by the builder's one call (the guide's Derived/Test/ToyasCard.lean, 'card_holds'). Laid BY PROGRAM, IN A SANDBOX (cutbox-door.mjs). By AI agents, Wed Nov 11 2026. No macro, syntax, notation, axiom, sorry.
-/
import Derived.Test.YtogahjeeglnogaaDoorRows
import GoSem.ClaimSeven
namespace Go.Proofs.YtogahjeeglnogaaDoor
namespace Rows

/-- THE TIED CARD OF 'icehouselaw04.ChunkLooks'. -/
def chunkLooksCard : Claim7 := { stood := { row := chunkLooksRow, standIns := [], harness := (true, "6a6db7fbd0e866ef8e4e91db846d805cda55ee6d46943b3fb926f5dd758c41b8"), looks := false }, kinds := [], alts := [], laidByText := true, laidKinds := [.data, .pinned], laidTests := true, laidLooks := .later }
def ChunkLooksCardSaid : Prop := Claim7.holds Tryd.pinned (.plain (OpenSpec.ofChange chunkLooksSpec)) chunkLooksCard

/-- THE TIED CARD OF 'icehouselaw04.ChunkSplits'. -/
def chunkSplitsCard : Claim7 := { stood := { row := chunkSplitsRow, standIns := [], harness := (true, "6a6db7fbd0e866ef8e4e91db846d805cda55ee6d46943b3fb926f5dd758c41b8"), looks := false }, kinds := [], alts := [], laidByText := true, laidKinds := [.data, .pinned], laidTests := true, laidLooks := .later }
def ChunkSplitsCardSaid : Prop := Claim7.holds Tryd.pinned (.plain (OpenSpec.ofChange chunkSplitsSpec)) chunkSplitsCard

/-- THE TIED CARD OF 'icehouselaw04.ChunkTimes'. -/
def chunkTimesCard : Claim7 := { stood := { row := chunkTimesRow, standIns := [], harness := (true, "6a6db7fbd0e866ef8e4e91db846d805cda55ee6d46943b3fb926f5dd758c41b8"), looks := false }, kinds := [], alts := [], laidByText := true, laidKinds := [.data, .pinned], laidTests := true, laidLooks := .later }
def ChunkTimesCardSaid : Prop := Claim7.holds Tryd.pinned (.plain (OpenSpec.ofChange chunkTimesSpec)) chunkTimesCard

/-- THE SECOND FORM's CARD OF 'icehouselaw04.ChunkLooks'. -/
def chunkLooksUptoCard : Claim7 := { stood := { row := chunkLooksUptoRow, standIns := [], harness := (true, "6a6db7fbd0e866ef8e4e91db846d805cda55ee6d46943b3fb926f5dd758c41b8"), looks := false }, kinds := [], alts := [], laidByText := true, laidKinds := [.data, .pinned], laidTests := true, laidLooks := .later }
def ChunkLooksUptoCardSaid : Prop := Claim7.holds Tryd.pinned (.plain (OpenSpec.upto chunkLooksSpec)) chunkLooksUptoCard

/-- THE SECOND FORM's CARD OF 'icehouselaw04.ChunkSplits'. -/
def chunkSplitsUptoCard : Claim7 := { stood := { row := chunkSplitsUptoRow, standIns := [], harness := (true, "6a6db7fbd0e866ef8e4e91db846d805cda55ee6d46943b3fb926f5dd758c41b8"), looks := false }, kinds := [], alts := [], laidByText := true, laidKinds := [.data, .pinned], laidTests := true, laidLooks := .later }
def ChunkSplitsUptoCardSaid : Prop := Claim7.holds Tryd.pinned (.plain (OpenSpec.upto chunkSplitsSpec)) chunkSplitsUptoCard

/-- THE SECOND FORM's CARD OF 'icehouselaw04.ChunkTimes'. -/
def chunkTimesUptoCard : Claim7 := { stood := { row := chunkTimesUptoRow, standIns := [], harness := (true, "6a6db7fbd0e866ef8e4e91db846d805cda55ee6d46943b3fb926f5dd758c41b8"), looks := false }, kinds := [], alts := [], laidByText := true, laidKinds := [.data, .pinned], laidTests := true, laidLooks := .later }
def ChunkTimesUptoCardSaid : Prop := Claim7.holds Tryd.pinned (.plain (OpenSpec.upto chunkTimesSpec)) chunkTimesUptoCard
end Rows
end Go.Proofs.YtogahjeeglnogaaDoor
