/-
  DERIVED. GIVEN WITH THE SEED: THE CARDS: each row of YtdojhglpiejfjaaDoorRows.lean that lists a variable, with what it lists TIED to the program's text (the seventh form; the later family's looks); each row that meets fmt, with fmt's text TOLD by the authors' own Lean function (tested against real Go, not proved from fmt's source: count such statements apart). THE CARD IS WHAT COUNTS. Prove the row's statement (the work); the ties are given (YtdojhglpiejfjaaDoorTie.lean); close each card by the builder's one call (the guide's Derived/Test/ToyasCard.lean, 'card_holds'). Laid BY PROGRAM, IN A SANDBOX (cutbox-door.mjs). By AI agents, Wed Nov 11 2026. No macro, syntax, notation, axiom, sorry.
-/
import Derived.Test.YtdojhglpiejfjaaDoorRows
import GoSem.ClaimSeven
namespace Go.Proofs.YtdojhglpiejfjaaDoor
namespace Rows

/-- THE TIED CARD OF 'burnishlaw09.ParseGreedy'. -/
def parseGreedyCard : Claim7 := { stood := { row := parseGreedyRow, standIns := [], harness := (true, "b60a876480dfcbdad663fbe850670d4a1a6d5e66d8b82965952b64b2b6ab7e45"), looks := true }, kinds := [], alts := [], laidByText := true, laidKinds := [.data], laidTests := true, laidLooks := .later }
def ParseGreedyCardSaid : Prop := Claim7.holds Tryd.pinned (.plain (OpenSpec.ofChange parseGreedySpec)) parseGreedyCard

/-- THE TIED CARD OF 'burnishlaw09.ParseCheapest'. -/
def parseCheapestCard : Claim7 := { stood := { row := parseCheapestRow, standIns := [], harness := (true, "b60a876480dfcbdad663fbe850670d4a1a6d5e66d8b82965952b64b2b6ab7e45"), looks := true }, kinds := [], alts := [], laidByText := true, laidKinds := [.data], laidTests := true, laidLooks := .later }
def ParseCheapestCardSaid : Prop := Claim7.holds Tryd.pinned (.plain (OpenSpec.ofChange parseCheapestSpec)) parseCheapestCard

/-- THE TIED CARD OF 'burnishlaw09.ParseLess'. -/
def parseLessCard : Claim7 := { stood := { row := parseLessRow, standIns := [], harness := (true, "b60a876480dfcbdad663fbe850670d4a1a6d5e66d8b82965952b64b2b6ab7e45"), looks := true }, kinds := [], alts := [], laidByText := true, laidKinds := [.data], laidTests := true, laidLooks := .later }
def ParseLessCardSaid : Prop := Claim7.holds Tryd.pinned (.plain (OpenSpec.ofChange parseLessSpec)) parseLessCard

/-- THE SECOND FORM's CARD OF 'burnishlaw09.ParseGreedy'. -/
def parseGreedyUptoCard : Claim7 := { stood := { row := parseGreedyUptoRow, standIns := [], harness := (true, "b60a876480dfcbdad663fbe850670d4a1a6d5e66d8b82965952b64b2b6ab7e45"), looks := true }, kinds := [], alts := [], laidByText := true, laidKinds := [.data], laidTests := true, laidLooks := .later }
def ParseGreedyUptoCardSaid : Prop := Claim7.holds Tryd.pinned (.plain (OpenSpec.upto parseGreedySpec)) parseGreedyUptoCard

/-- THE SECOND FORM's CARD OF 'burnishlaw09.ParseCheapest'. -/
def parseCheapestUptoCard : Claim7 := { stood := { row := parseCheapestUptoRow, standIns := [], harness := (true, "b60a876480dfcbdad663fbe850670d4a1a6d5e66d8b82965952b64b2b6ab7e45"), looks := true }, kinds := [], alts := [], laidByText := true, laidKinds := [.data], laidTests := true, laidLooks := .later }
def ParseCheapestUptoCardSaid : Prop := Claim7.holds Tryd.pinned (.plain (OpenSpec.upto parseCheapestSpec)) parseCheapestUptoCard

/-- THE SECOND FORM's CARD OF 'burnishlaw09.ParseLess'. -/
def parseLessUptoCard : Claim7 := { stood := { row := parseLessUptoRow, standIns := [], harness := (true, "b60a876480dfcbdad663fbe850670d4a1a6d5e66d8b82965952b64b2b6ab7e45"), looks := true }, kinds := [], alts := [], laidByText := true, laidKinds := [.data], laidTests := true, laidLooks := .later }
def ParseLessUptoCardSaid : Prop := Claim7.holds Tryd.pinned (.plain (OpenSpec.upto parseLessSpec)) parseLessUptoCard
end Rows
end Go.Proofs.YtdojhglpiejfjaaDoor
