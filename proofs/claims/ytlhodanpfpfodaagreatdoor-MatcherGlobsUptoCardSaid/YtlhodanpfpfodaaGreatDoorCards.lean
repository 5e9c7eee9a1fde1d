/-
  DERIVED. GIVEN WITH THE SEED: THE CARDS: each row of YtlhodanpfpfodaaGreatDoorRows.lean that lists a variable, with what it lists TIED to the program's text (the seventh form; the later family's looks); each row that meets fmt, with fmt's text TOLD by the authors' own Lean function (tested against real Go, not proved from fmt's source: count such statements apart). THE CARD IS WHAT COUNTS. Prove the row's statement (the work); the ties are given (YtlhodanpfpfodaaGreatDoorTie.lean); close each card by the builder's one call (the guide's Derived/Test/ToyasCard.lean, 'card_holds'). Laid BY PROGRAM, IN A SANDBOX (cutbox-door.mjs). By AI agents, Wed Nov 11 2026. No macro, syntax, notation, axiom, sorry.
-/
import Derived.Test.YtlhodanpfpfodaaGreatDoorRows
import GoSem.ClaimSeven
namespace Go.Proofs.YtlhodanpfpfodaaGreatDoor
namespace Rows

/-- THE TIED CARD OF 'icehouselaw02.LabelTexts'. -/
def labelTextsCard : Claim7 := { stood := { row := labelTextsRow, standIns := [], harness := (true, "ffbe751ea1b880dd79706dd525d09a73ed097f4dff1695b4910b52dc857d73be"), looks := true }, kinds := [], alts := [], laidByText := true, laidKinds := [.data, .data, .data, .data, .sentinel, .sentinel, .pinned], laidTests := true, laidLooks := .later }
def LabelTextsCardSaid : Prop := Claim7.holds Tryz.pinned (.plain (OpenSpec.ofChange labelTextsSpec)) labelTextsCard

/-- THE TIED CARD OF 'icehouselaw06.MatcherGlobs'. -/
def matcherGlobsCard : Claim7 := { stood := { row := matcherGlobsRow, standIns := [], harness := (true, "ffbe751ea1b880dd79706dd525d09a73ed097f4dff1695b4910b52dc857d73be"), looks := true }, kinds := [], alts := [], laidByText := true, laidKinds := [.data, .data, .data, .data, .sentinel, .sentinel, .data, .pinned], laidTests := true, laidLooks := .later }
def MatcherGlobsCardSaid : Prop := Claim7.holds Tryz.pinned (.plain (OpenSpec.ofChange matcherGlobsSpec)) matcherGlobsCard

/-- THE TIED CARD OF 'icehouselaw06.MatcherTexts'. -/
def matcherTextsCard : Claim7 := { stood := { row := matcherTextsRow, standIns := [], harness := (true, "ffbe751ea1b880dd79706dd525d09a73ed097f4dff1695b4910b52dc857d73be"), looks := true }, kinds := [], alts := [], laidByText := true, laidKinds := [.data, .data, .data, .data, .sentinel, .sentinel, .data, .pinned], laidTests := true, laidLooks := .later }
def MatcherTextsCardSaid : Prop := Claim7.holds Tryz.pinned (.plain (OpenSpec.ofChange matcherTextsSpec)) matcherTextsCard

/-- THE TIED CARD OF 'icehouselaw06.MatcherBack'. -/
def matcherBackCard : Claim7 := { stood := { row := matcherBackRow, standIns := [], harness := (true, "ffbe751ea1b880dd79706dd525d09a73ed097f4dff1695b4910b52dc857d73be"), looks := true }, kinds := [], alts := [], laidByText := true, laidKinds := [.data, .data, .data, .data, .sentinel, .sentinel, .data, .pinned], laidTests := true, laidLooks := .later }
def MatcherBackCardSaid : Prop := Claim7.holds Tryz.pinned (.plain (OpenSpec.ofChange matcherBackSpec)) matcherBackCard

/-- THE TIED CARD OF 'icehouselaw06.MatcherTwo'. -/
def matcherTwoCard : Claim7 := { stood := { row := matcherTwoRow, standIns := [], harness := (true, "ffbe751ea1b880dd79706dd525d09a73ed097f4dff1695b4910b52dc857d73be"), looks := true }, kinds := [], alts := [], laidByText := true, laidKinds := [.data, .data, .data, .data, .sentinel, .sentinel, .data, .pinned], laidTests := true, laidLooks := .later }
def MatcherTwoCardSaid : Prop := Claim7.holds Tryz.pinned (.plain (OpenSpec.ofChange matcherTwoSpec)) matcherTwoCard

/-- THE TIED CARD OF 'icehouselaw06.MatcherStars'. -/
def matcherStarsCard : Claim7 := { stood := { row := matcherStarsRow, standIns := [], harness := (true, "ffbe751ea1b880dd79706dd525d09a73ed097f4dff1695b4910b52dc857d73be"), looks := true }, kinds := [], alts := [], laidByText := true, laidKinds := [.data, .data, .data, .data, .sentinel, .sentinel, .data, .pinned], laidTests := true, laidLooks := .later }
def MatcherStarsCardSaid : Prop := Claim7.holds Tryz.pinned (.plain (OpenSpec.ofChange matcherStarsSpec)) matcherStarsCard

/-- THE TIED CARD OF 'icehouselaw06.MatcherTimes'. -/
def matcherTimesCard : Claim7 := { stood := { row := matcherTimesRow, standIns := [], harness := (true, "ffbe751ea1b880dd79706dd525d09a73ed097f4dff1695b4910b52dc857d73be"), looks := true }, kinds := [], alts := [], laidByText := true, laidKinds := [.data, .data, .data, .data, .sentinel, .sentinel, .data, .pinned], laidTests := true, laidLooks := .later }
def MatcherTimesCardSaid : Prop := Claim7.holds Tryz.pinned (.plain (OpenSpec.ofChange matcherTimesSpec)) matcherTimesCard

/-- THE SECOND FORM's CARD OF 'icehouselaw02.LabelTexts'. -/
def labelTextsUptoCard : Claim7 := { stood := { row := labelTextsUptoRow, standIns := [], harness := (true, "ffbe751ea1b880dd79706dd525d09a73ed097f4dff1695b4910b52dc857d73be"), looks := true }, kinds := [], alts := [], laidByText := true, laidKinds := [.data, .data, .data, .data, .sentinel, .sentinel, .pinned], laidTests := true, laidLooks := .later }
def LabelTextsUptoCardSaid : Prop := Claim7.holds Tryz.pinned (.plain (OpenSpec.upto labelTextsSpec)) labelTextsUptoCard

/-- THE SECOND FORM's CARD OF 'icehouselaw06.MatcherGlobs'. -/
def matcherGlobsUptoCard : Claim7 := { stood := { row := matcherGlobsUptoRow, standIns := [], harness := (true, "ffbe751ea1b880dd79706dd525d09a73ed097f4dff1695b4910b52dc857d73be"), looks := true }, kinds := [], alts := [], laidByText := true, laidKinds := [.data, .data, .data, .data, .sentinel, .sentinel, .data, .pinned], laidTests := true, laidLooks := .later }
def MatcherGlobsUptoCardSaid : Prop := Claim7.holds Tryz.pinned (.plain (OpenSpec.upto matcherGlobsSpec)) matcherGlobsUptoCard

/-- THE SECOND FORM's CARD OF 'icehouselaw06.MatcherTexts'. -/
def matcherTextsUptoCard : Claim7 := { stood := { row := matcherTextsUptoRow, standIns := [], harness := (true, "ffbe751ea1b880dd79706dd525d09a73ed097f4dff1695b4910b52dc857d73be"), looks := true }, kinds := [], alts := [], laidByText := true, laidKinds := [.data, .data, .data, .data, .sentinel, .sentinel, .data, .pinned], laidTests := true, laidLooks := .later }
def MatcherTextsUptoCardSaid : Prop := Claim7.holds Tryz.pinned (.plain (OpenSpec.upto matcherTextsSpec)) matcherTextsUptoCard

/-- THE SECOND FORM's CARD OF 'icehouselaw06.MatcherBack'. -/
def matcherBackUptoCard : Claim7 := { stood := { row := matcherBackUptoRow, standIns := [], harness := (true, "ffbe751ea1b880dd79706dd525d09a73ed097f4dff1695b4910b52dc857d73be"), looks := true }, kinds := [], alts := [], laidByText := true, laidKinds := [.data, .data, .data, .data, .sentinel, .sentinel, .data, .pinned], laidTests := true, laidLooks := .later }
def MatcherBackUptoCardSaid : Prop := Claim7.holds Tryz.pinned (.plain (OpenSpec.upto matcherBackSpec)) matcherBackUptoCard

/-- THE SECOND FORM's CARD OF 'icehouselaw06.MatcherTwo'. -/
def matcherTwoUptoCard : Claim7 := { stood := { row := matcherTwoUptoRow, standIns := [], harness := (true, "ffbe751ea1b880dd79706dd525d09a73ed097f4dff1695b4910b52dc857d73be"), looks := true }, kinds := [], alts := [], laidByText := true, laidKinds := [.data, .data, .data, .data, .sentinel, .sentinel, .data, .pinned], laidTests := true, laidLooks := .later }
def MatcherTwoUptoCardSaid : Prop := Claim7.holds Tryz.pinned (.plain (OpenSpec.upto matcherTwoSpec)) matcherTwoUptoCard

/-- THE SECOND FORM's CARD OF 'icehouselaw06.MatcherStars'. -/
def matcherStarsUptoCard : Claim7 := { stood := { row := matcherStarsUptoRow, standIns := [], harness := (true, "ffbe751ea1b880dd79706dd525d09a73ed097f4dff1695b4910b52dc857d73be"), looks := true }, kinds := [], alts := [], laidByText := true, laidKinds := [.data, .data, .data, .data, .sentinel, .sentinel, .data, .pinned], laidTests := true, laidLooks := .later }
def MatcherStarsUptoCardSaid : Prop := Claim7.holds Tryz.pinned (.plain (OpenSpec.upto matcherStarsSpec)) matcherStarsUptoCard

/-- THE SECOND FORM's CARD OF 'icehouselaw06.MatcherTimes'. -/
def matcherTimesUptoCard : Claim7 := { stood := { row := matcherTimesUptoRow, standIns := [], harness := (true, "ffbe751ea1b880dd79706dd525d09a73ed097f4dff1695b4910b52dc857d73be"), looks := true }, kinds := [], alts := [], laidByText := true, laidKinds := [.data, .data, .data, .data, .sentinel, .sentinel, .data, .pinned], laidTests := true, laidLooks := .later }
def MatcherTimesUptoCardSaid : Prop := Claim7.holds Tryz.pinned (.plain (OpenSpec.upto matcherTimesSpec)) matcherTimesUptoCard
end Rows
end Go.Proofs.YtlhodanpfpfodaaGreatDoor
