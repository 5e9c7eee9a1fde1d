/-
  DERIVED. GIVEN WITH THE SEED: THE CARDS: each row of YtgealkjkmeiibaaGreatDoorRows.lean that lists a variable, with what it lists TIED to the program's text (the seventh form; the later family's looks); each row that meets fmt, with fmt's text TOLD by the authors' own Lean function (tested against real Go, not proved from fmt's source: count such statements apart). THE CARD IS WHAT COUNTS. Prove the row's statement (the work); the ties are given (YtgealkjkmeiibaaGreatDoorTie.lean); close each card by the builder's one call (the guide's Derived/Test/ToyasCard.lean, 'card_holds'). Laid BY PROGRAM, IN A SANDBOX (cutbox-door.mjs). By AI agents, Wed Nov 11 2026. No macro, syntax, notation, axiom, sorry.
-/
import Derived.Test.YtgealkjkmeiibaaGreatDoorRows
import GoSem.ClaimSeven
namespace Go.Proofs.YtgealkjkmeiibaaGreatDoor
namespace Rows

/-- THE TIED CARD OF 'icehouselaw02.LabelQuotes'. -/
def labelQuotesCard : Claim7 := { stood := { row := labelQuotesRow, standIns := [], harness := (true, "839644bfe6ee4556d660709b688b2bb18ebbf336de51ef129047bee0086476d0"), looks := true }, kinds := [], alts := [], laidByText := true, laidKinds := [.data, .data, .data, .data, .sentinel, .sentinel, .pinned], laidTests := true, laidLooks := .later }
def LabelQuotesCardSaid : Prop := Claim7.holds Tryz.pinned (.plain (OpenSpec.ofChange labelQuotesSpec)) labelQuotesCard

/-- THE TIED CARD OF 'icehouselaw02.LabelTexts'. -/
def labelTextsCard : Claim7 := { stood := { row := labelTextsRow, standIns := [], harness := (true, "839644bfe6ee4556d660709b688b2bb18ebbf336de51ef129047bee0086476d0"), looks := true }, kinds := [], alts := [], laidByText := true, laidKinds := [.data, .data, .data, .data, .sentinel, .sentinel, .pinned], laidTests := true, laidLooks := .later }
def LabelTextsCardSaid : Prop := Claim7.holds Tryz.pinned (.plain (OpenSpec.ofChange labelTextsSpec)) labelTextsCard

/-- THE TIED CARD OF 'icehouselaw02.LabelBack'. -/
def labelBackCard : Claim7 := { stood := { row := labelBackRow, standIns := [], harness := (true, "839644bfe6ee4556d660709b688b2bb18ebbf336de51ef129047bee0086476d0"), looks := true }, kinds := [], alts := [], laidByText := true, laidKinds := [.data, .data, .data, .data, .sentinel, .sentinel, .pinned], laidTests := true, laidLooks := .later }
def LabelBackCardSaid : Prop := Claim7.holds Tryz.pinned (.plain (OpenSpec.ofChange labelBackSpec)) labelBackCard

/-- THE TIED CARD OF 'icehouselaw05.PostingsPlays'. -/
def postingsPlaysCard : Claim7 := { stood := { row := postingsPlaysRow, standIns := [], harness := (true, "839644bfe6ee4556d660709b688b2bb18ebbf336de51ef129047bee0086476d0"), looks := true }, kinds := [], alts := [], laidByText := true, laidKinds := [.data, .pinned], laidTests := true, laidLooks := .later }
def PostingsPlaysCardSaid : Prop := Claim7.holds Tryz.pinned (.plain (OpenSpec.ofChange postingsPlaysSpec)) postingsPlaysCard

/-- THE TIED CARD OF 'icehouselaw06.MatcherGlobs'. -/
def matcherGlobsCard : Claim7 := { stood := { row := matcherGlobsRow, standIns := [], harness := (true, "839644bfe6ee4556d660709b688b2bb18ebbf336de51ef129047bee0086476d0"), looks := true }, kinds := [], alts := [], laidByText := true, laidKinds := [.data, .data, .data, .data, .sentinel, .sentinel, .data, .pinned], laidTests := true, laidLooks := .later }
def MatcherGlobsCardSaid : Prop := Claim7.holds Tryz.pinned (.plain (OpenSpec.ofChange matcherGlobsSpec)) matcherGlobsCard

/-- THE TIED CARD OF 'icehouselaw06.MatcherTexts'. -/
def matcherTextsCard : Claim7 := { stood := { row := matcherTextsRow, standIns := [], harness := (true, "839644bfe6ee4556d660709b688b2bb18ebbf336de51ef129047bee0086476d0"), looks := true }, kinds := [], alts := [], laidByText := true, laidKinds := [.data, .data, .data, .data, .sentinel, .sentinel, .data, .pinned], laidTests := true, laidLooks := .later }
def MatcherTextsCardSaid : Prop := Claim7.holds Tryz.pinned (.plain (OpenSpec.ofChange matcherTextsSpec)) matcherTextsCard

/-- THE TIED CARD OF 'icehouselaw06.MatcherSelects'. -/
def matcherSelectsCard : Claim7 := { stood := { row := matcherSelectsRow, standIns := [], harness := (true, "839644bfe6ee4556d660709b688b2bb18ebbf336de51ef129047bee0086476d0"), looks := true }, kinds := [], alts := [], laidByText := true, laidKinds := [.data, .data, .data, .data, .sentinel, .sentinel, .data, .pinned], laidTests := true, laidLooks := .later }
def MatcherSelectsCardSaid : Prop := Claim7.holds Tryz.pinned (.plain (OpenSpec.ofChange matcherSelectsSpec)) matcherSelectsCard

/-- THE TIED CARD OF 'icehouselaw06.MatcherBack'. -/
def matcherBackCard : Claim7 := { stood := { row := matcherBackRow, standIns := [], harness := (true, "839644bfe6ee4556d660709b688b2bb18ebbf336de51ef129047bee0086476d0"), looks := true }, kinds := [], alts := [], laidByText := true, laidKinds := [.data, .data, .data, .data, .sentinel, .sentinel, .data, .pinned], laidTests := true, laidLooks := .later }
def MatcherBackCardSaid : Prop := Claim7.holds Tryz.pinned (.plain (OpenSpec.ofChange matcherBackSpec)) matcherBackCard

/-- THE TIED CARD OF 'icehouselaw06.MatcherTwo'. -/
def matcherTwoCard : Claim7 := { stood := { row := matcherTwoRow, standIns := [], harness := (true, "839644bfe6ee4556d660709b688b2bb18ebbf336de51ef129047bee0086476d0"), looks := true }, kinds := [], alts := [], laidByText := true, laidKinds := [.data, .data, .data, .data, .sentinel, .sentinel, .data, .pinned], laidTests := true, laidLooks := .later }
def MatcherTwoCardSaid : Prop := Claim7.holds Tryz.pinned (.plain (OpenSpec.ofChange matcherTwoSpec)) matcherTwoCard

/-- THE TIED CARD OF 'icehouselaw06.MatcherBoth'. -/
def matcherBothCard : Claim7 := { stood := { row := matcherBothRow, standIns := [], harness := (true, "839644bfe6ee4556d660709b688b2bb18ebbf336de51ef129047bee0086476d0"), looks := true }, kinds := [], alts := [], laidByText := true, laidKinds := [.data, .data, .data, .data, .sentinel, .sentinel, .data, .pinned], laidTests := true, laidLooks := .later }
def MatcherBothCardSaid : Prop := Claim7.holds Tryz.pinned (.plain (OpenSpec.ofChange matcherBothSpec)) matcherBothCard

/-- THE TIED CARD OF 'icehouselaw06.MatcherStars'. -/
def matcherStarsCard : Claim7 := { stood := { row := matcherStarsRow, standIns := [], harness := (true, "839644bfe6ee4556d660709b688b2bb18ebbf336de51ef129047bee0086476d0"), looks := true }, kinds := [], alts := [], laidByText := true, laidKinds := [.data, .data, .data, .data, .sentinel, .sentinel, .data, .pinned], laidTests := true, laidLooks := .later }
def MatcherStarsCardSaid : Prop := Claim7.holds Tryz.pinned (.plain (OpenSpec.ofChange matcherStarsSpec)) matcherStarsCard

/-- THE SECOND FORM's CARD OF 'icehouselaw02.LabelQuotes'. -/
def labelQuotesUptoCard : Claim7 := { stood := { row := labelQuotesUptoRow, standIns := [], harness := (true, "839644bfe6ee4556d660709b688b2bb18ebbf336de51ef129047bee0086476d0"), looks := true }, kinds := [], alts := [], laidByText := true, laidKinds := [.data, .data, .data, .data, .sentinel, .sentinel, .pinned], laidTests := true, laidLooks := .later }
def LabelQuotesUptoCardSaid : Prop := Claim7.holds Tryz.pinned (.plain (OpenSpec.upto labelQuotesSpec)) labelQuotesUptoCard

/-- THE SECOND FORM's CARD OF 'icehouselaw02.LabelTexts'. -/
def labelTextsUptoCard : Claim7 := { stood := { row := labelTextsUptoRow, standIns := [], harness := (true, "839644bfe6ee4556d660709b688b2bb18ebbf336de51ef129047bee0086476d0"), looks := true }, kinds := [], alts := [], laidByText := true, laidKinds := [.data, .data, .data, .data, .sentinel, .sentinel, .pinned], laidTests := true, laidLooks := .later }
def LabelTextsUptoCardSaid : Prop := Claim7.holds Tryz.pinned (.plain (OpenSpec.upto labelTextsSpec)) labelTextsUptoCard

/-- THE SECOND FORM's CARD OF 'icehouselaw02.LabelBack'. -/
def labelBackUptoCard : Claim7 := { stood := { row := labelBackUptoRow, standIns := [], harness := (true, "839644bfe6ee4556d660709b688b2bb18ebbf336de51ef129047bee0086476d0"), looks := true }, kinds := [], alts := [], laidByText := true, laidKinds := [.data, .data, .data, .data, .sentinel, .sentinel, .pinned], laidTests := true, laidLooks := .later }
def LabelBackUptoCardSaid : Prop := Claim7.holds Tryz.pinned (.plain (OpenSpec.upto labelBackSpec)) labelBackUptoCard

/-- THE SECOND FORM's CARD OF 'icehouselaw05.PostingsPlays'. -/
def postingsPlaysUptoCard : Claim7 := { stood := { row := postingsPlaysUptoRow, standIns := [], harness := (true, "839644bfe6ee4556d660709b688b2bb18ebbf336de51ef129047bee0086476d0"), looks := true }, kinds := [], alts := [], laidByText := true, laidKinds := [.data, .pinned], laidTests := true, laidLooks := .later }
def PostingsPlaysUptoCardSaid : Prop := Claim7.holds Tryz.pinned (.plain (OpenSpec.upto postingsPlaysSpec)) postingsPlaysUptoCard

/-- THE SECOND FORM's CARD OF 'icehouselaw06.MatcherGlobs'. -/
def matcherGlobsUptoCard : Claim7 := { stood := { row := matcherGlobsUptoRow, standIns := [], harness := (true, "839644bfe6ee4556d660709b688b2bb18ebbf336de51ef129047bee0086476d0"), looks := true }, kinds := [], alts := [], laidByText := true, laidKinds := [.data, .data, .data, .data, .sentinel, .sentinel, .data, .pinned], laidTests := true, laidLooks := .later }
def MatcherGlobsUptoCardSaid : Prop := Claim7.holds Tryz.pinned (.plain (OpenSpec.upto matcherGlobsSpec)) matcherGlobsUptoCard

/-- THE SECOND FORM's CARD OF 'icehouselaw06.MatcherTexts'. -/
def matcherTextsUptoCard : Claim7 := { stood := { row := matcherTextsUptoRow, standIns := [], harness := (true, "839644bfe6ee4556d660709b688b2bb18ebbf336de51ef129047bee0086476d0"), looks := true }, kinds := [], alts := [], laidByText := true, laidKinds := [.data, .data, .data, .data, .sentinel, .sentinel, .data, .pinned], laidTests := true, laidLooks := .later }
def MatcherTextsUptoCardSaid : Prop := Claim7.holds Tryz.pinned (.plain (OpenSpec.upto matcherTextsSpec)) matcherTextsUptoCard

/-- THE SECOND FORM's CARD OF 'icehouselaw06.MatcherSelects'. -/
def matcherSelectsUptoCard : Claim7 := { stood := { row := matcherSelectsUptoRow, standIns := [], harness := (true, "839644bfe6ee4556d660709b688b2bb18ebbf336de51ef129047bee0086476d0"), looks := true }, kinds := [], alts := [], laidByText := true, laidKinds := [.data, .data, .data, .data, .sentinel, .sentinel, .data, .pinned], laidTests := true, laidLooks := .later }
def MatcherSelectsUptoCardSaid : Prop := Claim7.holds Tryz.pinned (.plain (OpenSpec.upto matcherSelectsSpec)) matcherSelectsUptoCard

/-- THE SECOND FORM's CARD OF 'icehouselaw06.MatcherBack'. -/
def matcherBackUptoCard : Claim7 := { stood := { row := matcherBackUptoRow, standIns := [], harness := (true, "839644bfe6ee4556d660709b688b2bb18ebbf336de51ef129047bee0086476d0"), looks := true }, kinds := [], alts := [], laidByText := true, laidKinds := [.data, .data, .data, .data, .sentinel, .sentinel, .data, .pinned], laidTests := true, laidLooks := .later }
def MatcherBackUptoCardSaid : Prop := Claim7.holds Tryz.pinned (.plain (OpenSpec.upto matcherBackSpec)) matcherBackUptoCard

/-- THE SECOND FORM's CARD OF 'icehouselaw06.MatcherTwo'. -/
def matcherTwoUptoCard : Claim7 := { stood := { row := matcherTwoUptoRow, standIns := [], harness := (true, "839644bfe6ee4556d660709b688b2bb18ebbf336de51ef129047bee0086476d0"), looks := true }, kinds := [], alts := [], laidByText := true, laidKinds := [.data, .data, .data, .data, .sentinel, .sentinel, .data, .pinned], laidTests := true, laidLooks := .later }
def MatcherTwoUptoCardSaid : Prop := Claim7.holds Tryz.pinned (.plain (OpenSpec.upto matcherTwoSpec)) matcherTwoUptoCard

/-- THE SECOND FORM's CARD OF 'icehouselaw06.MatcherBoth'. -/
def matcherBothUptoCard : Claim7 := { stood := { row := matcherBothUptoRow, standIns := [], harness := (true, "839644bfe6ee4556d660709b688b2bb18ebbf336de51ef129047bee0086476d0"), looks := true }, kinds := [], alts := [], laidByText := true, laidKinds := [.data, .data, .data, .data, .sentinel, .sentinel, .data, .pinned], laidTests := true, laidLooks := .later }
def MatcherBothUptoCardSaid : Prop := Claim7.holds Tryz.pinned (.plain (OpenSpec.upto matcherBothSpec)) matcherBothUptoCard

/-- THE SECOND FORM's CARD OF 'icehouselaw06.MatcherStars'. -/
def matcherStarsUptoCard : Claim7 := { stood := { row := matcherStarsUptoRow, standIns := [], harness := (true, "839644bfe6ee4556d660709b688b2bb18ebbf336de51ef129047bee0086476d0"), looks := true }, kinds := [], alts := [], laidByText := true, laidKinds := [.data, .data, .data, .data, .sentinel, .sentinel, .data, .pinned], laidTests := true, laidLooks := .later }
def MatcherStarsUptoCardSaid : Prop := Claim7.holds Tryz.pinned (.plain (OpenSpec.upto matcherStarsSpec)) matcherStarsUptoCard
end Rows
end Go.Proofs.YtgealkjkmeiibaaGreatDoor
