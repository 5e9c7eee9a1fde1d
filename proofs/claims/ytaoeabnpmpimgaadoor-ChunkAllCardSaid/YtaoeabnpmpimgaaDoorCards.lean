/-
  DERIVED. GIVEN WITH THE SEED: THE CARDS: each row of YtaoeabnpmpimgaaDoorRows.lean that lists a variable, with what it lists TIED to the program's text (the seventh form; the later family's looks); each row that meets fmt, with fmt's text TOLD by the authors' own Lean function (tested against real Go, not proved from fmt's source: count such statements apart). THE CARD IS WHAT COUNTS. Prove the row's statement (the work); the ties are given (YtaoeabnpmpimgaaDoorTie.lean); close each card by the builder's one call (the guide's Derived/Test/ToyasCard.lean, 'card_holds'). Laid BY PROGRAM, IN A SANDBOX (cutbox-door.mjs). By AI agents, Wed Nov 11 2026. No macro, syntax, notation, axiom, sorry.
-/
import Derived.Test.YtaoeabnpmpimgaaDoorRows
import GoSem.ClaimSeven
namespace Go.Proofs.YtaoeabnpmpimgaaDoor
namespace Rows

/-- THE TIED CARD OF 'icehouselaw04.ChunkGroups'. -/
def chunkGroupsCard : Claim7 := { stood := { row := chunkGroupsRow, standIns := [], harness := (true, "5a5f71b01c72119a31c72ffd5609878bae288a7e66011ddb4f96d935d8367483"), looks := false }, kinds := [], alts := [], laidByText := true, laidKinds := [.data, .pinned], laidTests := true, laidLooks := .later }
def ChunkGroupsCardSaid : Prop := Claim7.holds Tryd.pinned (.plain (OpenSpec.ofChange chunkGroupsSpec)) chunkGroupsCard

/-- THE TIED CARD OF 'icehouselaw04.ChunkAll'. -/
def chunkAllCard : Claim7 := { stood := { row := chunkAllRow, standIns := [], harness := (true, "5a5f71b01c72119a31c72ffd5609878bae288a7e66011ddb4f96d935d8367483"), looks := false }, kinds := [], alts := [], laidByText := true, laidKinds := [.data, .pinned], laidTests := true, laidLooks := .later }
def ChunkAllCardSaid : Prop := Claim7.holds Tryd.pinned (.plain (OpenSpec.ofChange chunkAllSpec)) chunkAllCard

/-- THE SECOND FORM's CARD OF 'icehouselaw04.ChunkGroups'. -/
def chunkGroupsUptoCard : Claim7 := { stood := { row := chunkGroupsUptoRow, standIns := [], harness := (true, "5a5f71b01c72119a31c72ffd5609878bae288a7e66011ddb4f96d935d8367483"), looks := false }, kinds := [], alts := [], laidByText := true, laidKinds := [.data, .pinned], laidTests := true, laidLooks := .later }
def ChunkGroupsUptoCardSaid : Prop := Claim7.holds Tryd.pinned (.plain (OpenSpec.upto chunkGroupsSpec)) chunkGroupsUptoCard

/-- THE SECOND FORM's CARD OF 'icehouselaw04.ChunkAll'. -/
def chunkAllUptoCard : Claim7 := { stood := { row := chunkAllUptoRow, standIns := [], harness := (true, "5a5f71b01c72119a31c72ffd5609878bae288a7e66011ddb4f96d935d8367483"), looks := false }, kinds := [], alts := [], laidByText := true, laidKinds := [.data, .pinned], laidTests := true, laidLooks := .later }
def ChunkAllUptoCardSaid : Prop := Claim7.holds Tryd.pinned (.plain (OpenSpec.upto chunkAllSpec)) chunkAllUptoCard
end Rows
end Go.Proofs.YtaoeabnpmpimgaaDoor
