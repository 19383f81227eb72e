/-
  DERIVED. GIVEN WITH THE SEED: THE CARDS: each row of YtjjbgdmalefdlaaGreatDoorRows.lean that lists a variable, with what it lists TIED to the program's text (the seventh form; the later family's looks); each row that meets fmt, with fmt's text TOLD by the authors' own Lean function (tested against real Go, not proved from fmt's source: count such statements apart). THE CARD IS WHAT COUNTS. Prove the row's statement (the work); the ties are given (YtjjbgdmalefdlaaGreatDoorTie.lean); close each card by the builder's one call (the guide's Derived/Test/ToyasCard.lean, 'card_holds'). Laid BY PROGRAM, IN A SANDBOX (cutbox-door.mjs). By AI agents, Wed Nov 11 2026. No macro, syntax, notation, axiom, sorry.
-/
import Derived.Test.YtjjbgdmalefdlaaGreatDoorRows
import GoSem.ClaimSeven
namespace Go.Proofs.YtjjbgdmalefdlaaGreatDoor
namespace Rows

/-- THE TIED CARD OF 'burnishlaw10.BlockWrites'. -/
def blockWritesCard : Claim7 := { stood := { row := blockWritesRow, standIns := [], harness := (true, "65bad6b21cccdc52d41acf115da777dcdd277440d6b12d91fd4e78b772aaaea0"), looks := true }, kinds := [], alts := [], laidByText := true, laidKinds := [.data], laidTests := true, laidLooks := .later }
def BlockWritesCardSaid : Prop := Claim7.holds Tryz.pinned (.plain (OpenSpec.ofChange blockWritesSpec)) blockWritesCard

/-- THE TIED CARD OF 'burnishlaw10.BlockForms'. -/
def blockFormsCard : Claim7 := { stood := { row := blockFormsRow, standIns := [], harness := (true, "65bad6b21cccdc52d41acf115da777dcdd277440d6b12d91fd4e78b772aaaea0"), looks := true }, kinds := [], alts := [], laidByText := true, laidKinds := [.data], laidTests := true, laidLooks := .later }
def BlockFormsCardSaid : Prop := Claim7.holds Tryz.pinned (.plain (OpenSpec.ofChange blockFormsSpec)) blockFormsCard

/-- THE TIED CARD OF 'burnishlaw10.BlockBest'. -/
def blockBestCard : Claim7 := { stood := { row := blockBestRow, standIns := [], harness := (true, "65bad6b21cccdc52d41acf115da777dcdd277440d6b12d91fd4e78b772aaaea0"), looks := true }, kinds := [], alts := [], laidByText := true, laidKinds := [.data], laidTests := true, laidLooks := .later }
def BlockBestCardSaid : Prop := Claim7.holds Tryz.pinned (.plain (OpenSpec.ofChange blockBestSpec)) blockBestCard

/-- THE TIED CARD OF 'burnishlaw10.BlockPrices'. -/
def blockPricesCard : Claim7 := { stood := { row := blockPricesRow, standIns := [], harness := (true, "65bad6b21cccdc52d41acf115da777dcdd277440d6b12d91fd4e78b772aaaea0"), looks := true }, kinds := [], alts := [], laidByText := true, laidKinds := [.data], laidTests := true, laidLooks := .later }
def BlockPricesCardSaid : Prop := Claim7.holds Tryz.pinned (.plain (OpenSpec.ofChange blockPricesSpec)) blockPricesCard

/-- THE SECOND FORM's CARD OF 'burnishlaw10.BlockWrites'. -/
def blockWritesUptoCard : Claim7 := { stood := { row := blockWritesUptoRow, standIns := [], harness := (true, "65bad6b21cccdc52d41acf115da777dcdd277440d6b12d91fd4e78b772aaaea0"), looks := true }, kinds := [], alts := [], laidByText := true, laidKinds := [.data], laidTests := true, laidLooks := .later }
def BlockWritesUptoCardSaid : Prop := Claim7.holds Tryz.pinned (.plain (OpenSpec.upto blockWritesSpec)) blockWritesUptoCard

/-- THE SECOND FORM's CARD OF 'burnishlaw10.BlockForms'. -/
def blockFormsUptoCard : Claim7 := { stood := { row := blockFormsUptoRow, standIns := [], harness := (true, "65bad6b21cccdc52d41acf115da777dcdd277440d6b12d91fd4e78b772aaaea0"), looks := true }, kinds := [], alts := [], laidByText := true, laidKinds := [.data], laidTests := true, laidLooks := .later }
def BlockFormsUptoCardSaid : Prop := Claim7.holds Tryz.pinned (.plain (OpenSpec.upto blockFormsSpec)) blockFormsUptoCard

/-- THE SECOND FORM's CARD OF 'burnishlaw10.BlockBest'. -/
def blockBestUptoCard : Claim7 := { stood := { row := blockBestUptoRow, standIns := [], harness := (true, "65bad6b21cccdc52d41acf115da777dcdd277440d6b12d91fd4e78b772aaaea0"), looks := true }, kinds := [], alts := [], laidByText := true, laidKinds := [.data], laidTests := true, laidLooks := .later }
def BlockBestUptoCardSaid : Prop := Claim7.holds Tryz.pinned (.plain (OpenSpec.upto blockBestSpec)) blockBestUptoCard

/-- THE SECOND FORM's CARD OF 'burnishlaw10.BlockPrices'. -/
def blockPricesUptoCard : Claim7 := { stood := { row := blockPricesUptoRow, standIns := [], harness := (true, "65bad6b21cccdc52d41acf115da777dcdd277440d6b12d91fd4e78b772aaaea0"), looks := true }, kinds := [], alts := [], laidByText := true, laidKinds := [.data], laidTests := true, laidLooks := .later }
def BlockPricesUptoCardSaid : Prop := Claim7.holds Tryz.pinned (.plain (OpenSpec.upto blockPricesSpec)) blockPricesUptoCard
end Rows
end Go.Proofs.YtjjbgdmalefdlaaGreatDoor
