/-
  DERIVED. GIVEN WITH THE SEED: THE CARDS: each row of YtbohhdakbgnaeaaDoorRows.lean that lists a variable, with what it lists TIED to the program's text (the seventh form; the later family's looks); each row that meets fmt, with fmt's text TOLD by the authors' own Lean function (tested against real Go, not proved from fmt's source: count such statements apart). THE CARD IS WHAT COUNTS. Prove the row's statement (the work); the ties are given (YtbohhdakbgnaeaaDoorTie.lean); close each card by the builder's one call (the guide's Derived/Test/ToyasCard.lean, 'card_holds'). Laid BY PROGRAM, IN A SANDBOX (cutbox-door.mjs). By AI agents, Wed Nov 11 2026. No macro, syntax, notation, axiom, sorry.
-/
import Derived.Test.YtbohhdakbgnaeaaDoorRows
import GoSem.ClaimSeven
namespace Go.Proofs.YtbohhdakbgnaeaaDoor
namespace Rows

/-- THE TIED CARD OF 'burnishlaw06.InflateBehind'. -/
def inflateBehindCard : Claim7 := { stood := { row := inflateBehindRow, standIns := [], harness := (true, "323f4d27744a4d86804b10305e3aa92a8683e815e80cdf6a4a576ba4e3bafd76"), looks := true }, kinds := [], alts := [], laidByText := true, laidKinds := [.data], laidTests := true, laidLooks := .later }
def InflateBehindCardSaid : Prop := Claim7.holds Tryd.pinned (.plain (OpenSpec.ofChange inflateBehindSpec)) inflateBehindCard

/-- THE TIED CARD OF 'burnishlaw06.InflateStored'. -/
def inflateStoredCard : Claim7 := { stood := { row := inflateStoredRow, standIns := [], harness := (true, "323f4d27744a4d86804b10305e3aa92a8683e815e80cdf6a4a576ba4e3bafd76"), looks := true }, kinds := [], alts := [], laidByText := true, laidKinds := [.data], laidTests := true, laidLooks := .later }
def InflateStoredCardSaid : Prop := Claim7.holds Tryd.pinned (.plain (OpenSpec.ofChange inflateStoredSpec)) inflateStoredCard

/-- THE TIED CARD OF 'burnishlaw07.ZlibUnwraps'. -/
def zlibUnwrapsCard : Claim7 := { stood := { row := zlibUnwrapsRow, standIns := [], harness := (true, "323f4d27744a4d86804b10305e3aa92a8683e815e80cdf6a4a576ba4e3bafd76"), looks := true }, kinds := [], alts := [], laidByText := true, laidKinds := [.data], laidTests := true, laidLooks := .later }
def ZlibUnwrapsCardSaid : Prop := Claim7.holds Tryd.pinned (.plain (OpenSpec.ofChange zlibUnwrapsSpec)) zlibUnwrapsCard

/-- THE TIED CARD OF 'burnishlaw07.ZlibBack'. -/
def zlibBackCard : Claim7 := { stood := { row := zlibBackRow, standIns := [], harness := (true, "323f4d27744a4d86804b10305e3aa92a8683e815e80cdf6a4a576ba4e3bafd76"), looks := true }, kinds := [], alts := [], laidByText := true, laidKinds := [.data], laidTests := true, laidLooks := .later }
def ZlibBackCardSaid : Prop := Claim7.holds Tryd.pinned (.plain (OpenSpec.ofChange zlibBackSpec)) zlibBackCard

/-- THE SECOND FORM's CARD OF 'burnishlaw06.InflateBehind'. -/
def inflateBehindUptoCard : Claim7 := { stood := { row := inflateBehindUptoRow, standIns := [], harness := (true, "323f4d27744a4d86804b10305e3aa92a8683e815e80cdf6a4a576ba4e3bafd76"), looks := true }, kinds := [], alts := [], laidByText := true, laidKinds := [.data], laidTests := true, laidLooks := .later }
def InflateBehindUptoCardSaid : Prop := Claim7.holds Tryd.pinned (.plain (OpenSpec.upto inflateBehindSpec)) inflateBehindUptoCard

/-- THE SECOND FORM's CARD OF 'burnishlaw06.InflateStored'. -/
def inflateStoredUptoCard : Claim7 := { stood := { row := inflateStoredUptoRow, standIns := [], harness := (true, "323f4d27744a4d86804b10305e3aa92a8683e815e80cdf6a4a576ba4e3bafd76"), looks := true }, kinds := [], alts := [], laidByText := true, laidKinds := [.data], laidTests := true, laidLooks := .later }
def InflateStoredUptoCardSaid : Prop := Claim7.holds Tryd.pinned (.plain (OpenSpec.upto inflateStoredSpec)) inflateStoredUptoCard

/-- THE SECOND FORM's CARD OF 'burnishlaw07.ZlibUnwraps'. -/
def zlibUnwrapsUptoCard : Claim7 := { stood := { row := zlibUnwrapsUptoRow, standIns := [], harness := (true, "323f4d27744a4d86804b10305e3aa92a8683e815e80cdf6a4a576ba4e3bafd76"), looks := true }, kinds := [], alts := [], laidByText := true, laidKinds := [.data], laidTests := true, laidLooks := .later }
def ZlibUnwrapsUptoCardSaid : Prop := Claim7.holds Tryd.pinned (.plain (OpenSpec.upto zlibUnwrapsSpec)) zlibUnwrapsUptoCard

/-- THE SECOND FORM's CARD OF 'burnishlaw07.ZlibBack'. -/
def zlibBackUptoCard : Claim7 := { stood := { row := zlibBackUptoRow, standIns := [], harness := (true, "323f4d27744a4d86804b10305e3aa92a8683e815e80cdf6a4a576ba4e3bafd76"), looks := true }, kinds := [], alts := [], laidByText := true, laidKinds := [.data], laidTests := true, laidLooks := .later }
def ZlibBackUptoCardSaid : Prop := Claim7.holds Tryd.pinned (.plain (OpenSpec.upto zlibBackSpec)) zlibBackUptoCard
end Rows
end Go.Proofs.YtbohhdakbgnaeaaDoor
