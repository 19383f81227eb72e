/-
  DERIVED. GIVEN WITH THE SEED: THE CARDS: each row of YtedncnaeojomcaaDoorRows.lean that lists a variable, with what it lists TIED to the program's text (the seventh form; the later family's looks); each row that meets fmt, with fmt's text TOLD by the authors' own Lean function (tested against real Go, not proved from fmt's source: count such statements apart). THE CARD IS WHAT COUNTS. Prove the row's statement (the work); the ties are given (YtedncnaeojomcaaDoorTie.lean); close each card by the builder's one call (the guide's Derived/Test/ToyasCard.lean, 'card_holds'). Laid BY PROGRAM, IN A SANDBOX (cutbox-door.mjs). By AI agents, Wed Nov 11 2026. No macro, syntax, notation, axiom, sorry.
-/
import Derived.Test.YtedncnaeojomcaaDoorRows
import GoSem.ClaimSeven
namespace Go.Proofs.YtedncnaeojomcaaDoor
namespace Rows

/-- THE TIED CARD OF 'burnishlaw08.MatchLongest'. -/
def matchLongestCard : Claim7 := { stood := { row := matchLongestRow, standIns := [], harness := (true, "9c3b2abeee23651ab0fc64ad9913698d22e09bcf74f6584c2c8b2754bc07b9cc"), looks := true }, kinds := [], alts := [], laidByText := true, laidKinds := [.data], laidTests := true, laidLooks := .later }
def MatchLongestCardSaid : Prop := Claim7.holds Tryd.pinned (.plain (OpenSpec.ofChange matchLongestSpec)) matchLongestCard

/-- THE TIED CARD OF 'burnishlaw08.MatchNearest'. -/
def matchNearestCard : Claim7 := { stood := { row := matchNearestRow, standIns := [], harness := (true, "9c3b2abeee23651ab0fc64ad9913698d22e09bcf74f6584c2c8b2754bc07b9cc"), looks := true }, kinds := [], alts := [], laidByText := true, laidKinds := [.data], laidTests := true, laidLooks := .later }
def MatchNearestCardSaid : Prop := Claim7.holds Tryd.pinned (.plain (OpenSpec.ofChange matchNearestSpec)) matchNearestCard

/-- THE TIED CARD OF 'burnishlaw08.MatchFound'. -/
def matchFoundCard : Claim7 := { stood := { row := matchFoundRow, standIns := [], harness := (true, "9c3b2abeee23651ab0fc64ad9913698d22e09bcf74f6584c2c8b2754bc07b9cc"), looks := true }, kinds := [], alts := [], laidByText := true, laidKinds := [.data], laidTests := true, laidLooks := .later }
def MatchFoundCardSaid : Prop := Claim7.holds Tryd.pinned (.plain (OpenSpec.ofChange matchFoundSpec)) matchFoundCard

/-- THE TIED CARD OF 'burnishlaw08.MatchLimits'. -/
def matchLimitsCard : Claim7 := { stood := { row := matchLimitsRow, standIns := [], harness := (true, "9c3b2abeee23651ab0fc64ad9913698d22e09bcf74f6584c2c8b2754bc07b9cc"), looks := true }, kinds := [], alts := [], laidByText := true, laidKinds := [.data], laidTests := true, laidLooks := .later }
def MatchLimitsCardSaid : Prop := Claim7.holds Tryd.pinned (.plain (OpenSpec.ofChange matchLimitsSpec)) matchLimitsCard

/-- THE TIED CARD OF 'burnishlaw09.ParseGreedy'. -/
def parseGreedyCard : Claim7 := { stood := { row := parseGreedyRow, standIns := [], harness := (true, "9c3b2abeee23651ab0fc64ad9913698d22e09bcf74f6584c2c8b2754bc07b9cc"), looks := true }, kinds := [], alts := [], laidByText := true, laidKinds := [.data], laidTests := true, laidLooks := .later }
def ParseGreedyCardSaid : Prop := Claim7.holds Tryd.pinned (.plain (OpenSpec.ofChange parseGreedySpec)) parseGreedyCard

/-- THE TIED CARD OF 'burnishlaw09.ParseCheapest'. -/
def parseCheapestCard : Claim7 := { stood := { row := parseCheapestRow, standIns := [], harness := (true, "9c3b2abeee23651ab0fc64ad9913698d22e09bcf74f6584c2c8b2754bc07b9cc"), looks := true }, kinds := [], alts := [], laidByText := true, laidKinds := [.data], laidTests := true, laidLooks := .later }
def ParseCheapestCardSaid : Prop := Claim7.holds Tryd.pinned (.plain (OpenSpec.ofChange parseCheapestSpec)) parseCheapestCard

/-- THE TIED CARD OF 'burnishlaw09.ParseLess'. -/
def parseLessCard : Claim7 := { stood := { row := parseLessRow, standIns := [], harness := (true, "9c3b2abeee23651ab0fc64ad9913698d22e09bcf74f6584c2c8b2754bc07b9cc"), looks := true }, kinds := [], alts := [], laidByText := true, laidKinds := [.data], laidTests := true, laidLooks := .later }
def ParseLessCardSaid : Prop := Claim7.holds Tryd.pinned (.plain (OpenSpec.ofChange parseLessSpec)) parseLessCard

/-- THE SECOND FORM's CARD OF 'burnishlaw08.MatchLongest'. -/
def matchLongestUptoCard : Claim7 := { stood := { row := matchLongestUptoRow, standIns := [], harness := (true, "9c3b2abeee23651ab0fc64ad9913698d22e09bcf74f6584c2c8b2754bc07b9cc"), looks := true }, kinds := [], alts := [], laidByText := true, laidKinds := [.data], laidTests := true, laidLooks := .later }
def MatchLongestUptoCardSaid : Prop := Claim7.holds Tryd.pinned (.plain (OpenSpec.upto matchLongestSpec)) matchLongestUptoCard

/-- THE SECOND FORM's CARD OF 'burnishlaw08.MatchNearest'. -/
def matchNearestUptoCard : Claim7 := { stood := { row := matchNearestUptoRow, standIns := [], harness := (true, "9c3b2abeee23651ab0fc64ad9913698d22e09bcf74f6584c2c8b2754bc07b9cc"), looks := true }, kinds := [], alts := [], laidByText := true, laidKinds := [.data], laidTests := true, laidLooks := .later }
def MatchNearestUptoCardSaid : Prop := Claim7.holds Tryd.pinned (.plain (OpenSpec.upto matchNearestSpec)) matchNearestUptoCard

/-- THE SECOND FORM's CARD OF 'burnishlaw08.MatchFound'. -/
def matchFoundUptoCard : Claim7 := { stood := { row := matchFoundUptoRow, standIns := [], harness := (true, "9c3b2abeee23651ab0fc64ad9913698d22e09bcf74f6584c2c8b2754bc07b9cc"), looks := true }, kinds := [], alts := [], laidByText := true, laidKinds := [.data], laidTests := true, laidLooks := .later }
def MatchFoundUptoCardSaid : Prop := Claim7.holds Tryd.pinned (.plain (OpenSpec.upto matchFoundSpec)) matchFoundUptoCard

/-- THE SECOND FORM's CARD OF 'burnishlaw08.MatchLimits'. -/
def matchLimitsUptoCard : Claim7 := { stood := { row := matchLimitsUptoRow, standIns := [], harness := (true, "9c3b2abeee23651ab0fc64ad9913698d22e09bcf74f6584c2c8b2754bc07b9cc"), looks := true }, kinds := [], alts := [], laidByText := true, laidKinds := [.data], laidTests := true, laidLooks := .later }
def MatchLimitsUptoCardSaid : Prop := Claim7.holds Tryd.pinned (.plain (OpenSpec.upto matchLimitsSpec)) matchLimitsUptoCard

/-- THE SECOND FORM's CARD OF 'burnishlaw09.ParseGreedy'. -/
def parseGreedyUptoCard : Claim7 := { stood := { row := parseGreedyUptoRow, standIns := [], harness := (true, "9c3b2abeee23651ab0fc64ad9913698d22e09bcf74f6584c2c8b2754bc07b9cc"), looks := true }, kinds := [], alts := [], laidByText := true, laidKinds := [.data], laidTests := true, laidLooks := .later }
def ParseGreedyUptoCardSaid : Prop := Claim7.holds Tryd.pinned (.plain (OpenSpec.upto parseGreedySpec)) parseGreedyUptoCard

/-- THE SECOND FORM's CARD OF 'burnishlaw09.ParseCheapest'. -/
def parseCheapestUptoCard : Claim7 := { stood := { row := parseCheapestUptoRow, standIns := [], harness := (true, "9c3b2abeee23651ab0fc64ad9913698d22e09bcf74f6584c2c8b2754bc07b9cc"), looks := true }, kinds := [], alts := [], laidByText := true, laidKinds := [.data], laidTests := true, laidLooks := .later }
def ParseCheapestUptoCardSaid : Prop := Claim7.holds Tryd.pinned (.plain (OpenSpec.upto parseCheapestSpec)) parseCheapestUptoCard

/-- THE SECOND FORM's CARD OF 'burnishlaw09.ParseLess'. -/
def parseLessUptoCard : Claim7 := { stood := { row := parseLessUptoRow, standIns := [], harness := (true, "9c3b2abeee23651ab0fc64ad9913698d22e09bcf74f6584c2c8b2754bc07b9cc"), looks := true }, kinds := [], alts := [], laidByText := true, laidKinds := [.data], laidTests := true, laidLooks := .later }
def ParseLessUptoCardSaid : Prop := Claim7.holds Tryd.pinned (.plain (OpenSpec.upto parseLessSpec)) parseLessUptoCard
end Rows
end Go.Proofs.YtedncnaeojomcaaDoor
