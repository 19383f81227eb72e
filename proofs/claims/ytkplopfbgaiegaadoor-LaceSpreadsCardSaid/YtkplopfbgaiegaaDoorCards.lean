/-
  DERIVED. GIVEN WITH THE SEED: THE CARDS: each row of YtkplopfbgaiegaaDoorRows.lean that lists a variable, with what it lists TIED to the program's text (the seventh form; the later family's looks); each row that meets fmt, with fmt's text TOLD by the authors' own Lean function (tested against real Go, not proved from fmt's source: count such statements apart). THE CARD IS WHAT COUNTS. Prove the row's statement (the work); the ties are given (YtkplopfbgaiegaaDoorTie.lean); close each card by the builder's one call (the guide's Derived/Test/ToyasCard.lean, 'card_holds'). Laid BY PROGRAM, IN A SANDBOX (cutbox-door.mjs). By AI agents, Wed Nov 11 2026. No macro, syntax, notation, axiom, sorry.
-/
import Derived.Test.YtkplopfbgaiegaaDoorRows
import GoSem.ClaimSeven
namespace Go.Proofs.YtkplopfbgaiegaaDoor
namespace Rows

/-- THE TIED CARD OF 'burnishlaw15.LaceSizes'. -/
def laceSizesCard : Claim7 := { stood := { row := laceSizesRow, standIns := [], harness := (true, "d289062f036057e2d8458251c4b1c413202f3667d8f9587d942d68f48c50c390"), looks := true }, kinds := [], alts := [], laidByText := true, laidKinds := [.wider], laidTests := true, laidLooks := .later }
def LaceSizesCardSaid : Prop := Claim7.holds Tryd.pinned (.plain (OpenSpec.ofChange laceSizesSpec)) laceSizesCard

/-- THE TIED CARD OF 'burnishlaw15.LaceAll'. -/
def laceAllCard : Claim7 := { stood := { row := laceAllRow, standIns := [], harness := (true, "d289062f036057e2d8458251c4b1c413202f3667d8f9587d942d68f48c50c390"), looks := true }, kinds := [], alts := [], laidByText := true, laidKinds := [.wider], laidTests := true, laidLooks := .later }
def LaceAllCardSaid : Prop := Claim7.holds Tryd.pinned (.plain (OpenSpec.ofChange laceAllSpec)) laceAllCard

/-- THE TIED CARD OF 'burnishlaw15.LacePlaces'. -/
def lacePlacesCard : Claim7 := { stood := { row := lacePlacesRow, standIns := [], harness := (true, "d289062f036057e2d8458251c4b1c413202f3667d8f9587d942d68f48c50c390"), looks := true }, kinds := [], alts := [], laidByText := true, laidKinds := [.wider], laidTests := true, laidLooks := .later }
def LacePlacesCardSaid : Prop := Claim7.holds Tryd.pinned (.plain (OpenSpec.ofChange lacePlacesSpec)) lacePlacesCard

/-- THE TIED CARD OF 'burnishlaw15.LaceSpreads'. -/
def laceSpreadsCard : Claim7 := { stood := { row := laceSpreadsRow, standIns := [], harness := (true, "d289062f036057e2d8458251c4b1c413202f3667d8f9587d942d68f48c50c390"), looks := true }, kinds := [], alts := [], laidByText := true, laidKinds := [.wider], laidTests := true, laidLooks := .later }
def LaceSpreadsCardSaid : Prop := Claim7.holds Tryd.pinned (.plain (OpenSpec.ofChange laceSpreadsSpec)) laceSpreadsCard

/-- THE TIED CARD OF 'burnishlaw15.LaceOnce'. -/
def laceOnceCard : Claim7 := { stood := { row := laceOnceRow, standIns := [], harness := (true, "d289062f036057e2d8458251c4b1c413202f3667d8f9587d942d68f48c50c390"), looks := true }, kinds := [], alts := [], laidByText := true, laidKinds := [.wider], laidTests := true, laidLooks := .later }
def LaceOnceCardSaid : Prop := Claim7.holds Tryd.pinned (.plain (OpenSpec.ofChange laceOnceSpec)) laceOnceCard

/-- THE TIED CARD OF 'burnishlaw15.LaceData'. -/
def laceDataCard : Claim7 := { stood := { row := laceDataRow, standIns := [], harness := (true, "d289062f036057e2d8458251c4b1c413202f3667d8f9587d942d68f48c50c390"), looks := true }, kinds := [], alts := [], laidByText := true, laidKinds := [.wider], laidTests := true, laidLooks := .later }
def LaceDataCardSaid : Prop := Claim7.holds Tryd.pinned (.plain (OpenSpec.ofChange laceDataSpec)) laceDataCard

/-- THE SECOND FORM's CARD OF 'burnishlaw15.LaceSizes'. -/
def laceSizesUptoCard : Claim7 := { stood := { row := laceSizesUptoRow, standIns := [], harness := (true, "d289062f036057e2d8458251c4b1c413202f3667d8f9587d942d68f48c50c390"), looks := true }, kinds := [], alts := [], laidByText := true, laidKinds := [.wider], laidTests := true, laidLooks := .later }
def LaceSizesUptoCardSaid : Prop := Claim7.holds Tryd.pinned (.plain (OpenSpec.upto laceSizesSpec)) laceSizesUptoCard

/-- THE SECOND FORM's CARD OF 'burnishlaw15.LaceAll'. -/
def laceAllUptoCard : Claim7 := { stood := { row := laceAllUptoRow, standIns := [], harness := (true, "d289062f036057e2d8458251c4b1c413202f3667d8f9587d942d68f48c50c390"), looks := true }, kinds := [], alts := [], laidByText := true, laidKinds := [.wider], laidTests := true, laidLooks := .later }
def LaceAllUptoCardSaid : Prop := Claim7.holds Tryd.pinned (.plain (OpenSpec.upto laceAllSpec)) laceAllUptoCard

/-- THE SECOND FORM's CARD OF 'burnishlaw15.LacePlaces'. -/
def lacePlacesUptoCard : Claim7 := { stood := { row := lacePlacesUptoRow, standIns := [], harness := (true, "d289062f036057e2d8458251c4b1c413202f3667d8f9587d942d68f48c50c390"), looks := true }, kinds := [], alts := [], laidByText := true, laidKinds := [.wider], laidTests := true, laidLooks := .later }
def LacePlacesUptoCardSaid : Prop := Claim7.holds Tryd.pinned (.plain (OpenSpec.upto lacePlacesSpec)) lacePlacesUptoCard

/-- THE SECOND FORM's CARD OF 'burnishlaw15.LaceSpreads'. -/
def laceSpreadsUptoCard : Claim7 := { stood := { row := laceSpreadsUptoRow, standIns := [], harness := (true, "d289062f036057e2d8458251c4b1c413202f3667d8f9587d942d68f48c50c390"), looks := true }, kinds := [], alts := [], laidByText := true, laidKinds := [.wider], laidTests := true, laidLooks := .later }
def LaceSpreadsUptoCardSaid : Prop := Claim7.holds Tryd.pinned (.plain (OpenSpec.upto laceSpreadsSpec)) laceSpreadsUptoCard

/-- THE SECOND FORM's CARD OF 'burnishlaw15.LaceOnce'. -/
def laceOnceUptoCard : Claim7 := { stood := { row := laceOnceUptoRow, standIns := [], harness := (true, "d289062f036057e2d8458251c4b1c413202f3667d8f9587d942d68f48c50c390"), looks := true }, kinds := [], alts := [], laidByText := true, laidKinds := [.wider], laidTests := true, laidLooks := .later }
def LaceOnceUptoCardSaid : Prop := Claim7.holds Tryd.pinned (.plain (OpenSpec.upto laceOnceSpec)) laceOnceUptoCard

/-- THE SECOND FORM's CARD OF 'burnishlaw15.LaceData'. -/
def laceDataUptoCard : Claim7 := { stood := { row := laceDataUptoRow, standIns := [], harness := (true, "d289062f036057e2d8458251c4b1c413202f3667d8f9587d942d68f48c50c390"), looks := true }, kinds := [], alts := [], laidByText := true, laidKinds := [.wider], laidTests := true, laidLooks := .later }
def LaceDataUptoCardSaid : Prop := Claim7.holds Tryd.pinned (.plain (OpenSpec.upto laceDataSpec)) laceDataUptoCard
end Rows
end Go.Proofs.YtkplopfbgaiegaaDoor
