/-
  DERIVED. GIVEN WITH THE SEED: THE CARDS: each row of YtfdnjblbhbkndaaDoorRows.lean that lists a variable, with what it lists TIED to the program's text (the seventh form; the later family's looks); each row that meets fmt, with fmt's text TOLD by the authors' own Lean function (tested against real Go, not proved from fmt's source: count such statements apart). THE CARD IS WHAT COUNTS. Prove the row's statement (the work); the ties are given (YtfdnjblbhbkndaaDoorTie.lean); close each card by the builder's one call (the guide's Derived/Test/ToyasCard.lean, 'card_holds'). Laid BY PROGRAM, IN A SANDBOX (cutbox-door.mjs). By AI agents, Wed Nov 11 2026. No macro, syntax, notation, axiom, sorry.
-/
import Derived.Test.YtfdnjblbhbkndaaDoorRows
import GoSem.ClaimSeven
namespace Go.Proofs.YtfdnjblbhbkndaaDoor
namespace Rows

/-- THE TIED CARD OF 'burnishlaw15.LaceAll'. -/
def laceAllCard : Claim7 := { stood := { row := laceAllRow, standIns := [], harness := (true, "5fde3767179e7d8d86c343be7aac6114e37d5beef1e4c6a2db0c5d3b431eb79c"), looks := true }, kinds := [], alts := [], laidByText := true, laidKinds := [.wider], laidTests := true, laidLooks := .later }
def LaceAllCardSaid : Prop := Claim7.holds Tryd.pinned (.plain (OpenSpec.ofChange laceAllSpec)) laceAllCard

/-- THE TIED CARD OF 'burnishlaw15.LaceSpreads'. -/
def laceSpreadsCard : Claim7 := { stood := { row := laceSpreadsRow, standIns := [], harness := (true, "5fde3767179e7d8d86c343be7aac6114e37d5beef1e4c6a2db0c5d3b431eb79c"), looks := true }, kinds := [], alts := [], laidByText := true, laidKinds := [.wider], laidTests := true, laidLooks := .later }
def LaceSpreadsCardSaid : Prop := Claim7.holds Tryd.pinned (.plain (OpenSpec.ofChange laceSpreadsSpec)) laceSpreadsCard

/-- THE TIED CARD OF 'burnishlaw15.LaceOnce'. -/
def laceOnceCard : Claim7 := { stood := { row := laceOnceRow, standIns := [], harness := (true, "5fde3767179e7d8d86c343be7aac6114e37d5beef1e4c6a2db0c5d3b431eb79c"), looks := true }, kinds := [], alts := [], laidByText := true, laidKinds := [.wider], laidTests := true, laidLooks := .later }
def LaceOnceCardSaid : Prop := Claim7.holds Tryd.pinned (.plain (OpenSpec.ofChange laceOnceSpec)) laceOnceCard

/-- THE SECOND FORM's CARD OF 'burnishlaw15.LaceAll'. -/
def laceAllUptoCard : Claim7 := { stood := { row := laceAllUptoRow, standIns := [], harness := (true, "5fde3767179e7d8d86c343be7aac6114e37d5beef1e4c6a2db0c5d3b431eb79c"), looks := true }, kinds := [], alts := [], laidByText := true, laidKinds := [.wider], laidTests := true, laidLooks := .later }
def LaceAllUptoCardSaid : Prop := Claim7.holds Tryd.pinned (.plain (OpenSpec.upto laceAllSpec)) laceAllUptoCard

/-- THE SECOND FORM's CARD OF 'burnishlaw15.LaceSpreads'. -/
def laceSpreadsUptoCard : Claim7 := { stood := { row := laceSpreadsUptoRow, standIns := [], harness := (true, "5fde3767179e7d8d86c343be7aac6114e37d5beef1e4c6a2db0c5d3b431eb79c"), looks := true }, kinds := [], alts := [], laidByText := true, laidKinds := [.wider], laidTests := true, laidLooks := .later }
def LaceSpreadsUptoCardSaid : Prop := Claim7.holds Tryd.pinned (.plain (OpenSpec.upto laceSpreadsSpec)) laceSpreadsUptoCard

/-- THE SECOND FORM's CARD OF 'burnishlaw15.LaceOnce'. -/
def laceOnceUptoCard : Claim7 := { stood := { row := laceOnceUptoRow, standIns := [], harness := (true, "5fde3767179e7d8d86c343be7aac6114e37d5beef1e4c6a2db0c5d3b431eb79c"), looks := true }, kinds := [], alts := [], laidByText := true, laidKinds := [.wider], laidTests := true, laidLooks := .later }
def LaceOnceUptoCardSaid : Prop := Claim7.holds Tryd.pinned (.plain (OpenSpec.upto laceOnceSpec)) laceOnceUptoCard
end Rows
end Go.Proofs.YtfdnjblbhbkndaaDoor
