/-
  DERIVED. GIVEN WITH THE SEED: THE CARDS: each row of YtfgpmccmalddjaaDoorRows.lean that lists a variable, with what it lists TIED to the program's text (the seventh form; the later family's looks); each row that meets fmt, with fmt's text TOLD by the authors' own Lean function (tested against real Go, not proved from fmt's source: count such statements apart). THE CARD IS WHAT COUNTS. Prove the row's statement (the work); the ties are given (YtfgpmccmalddjaaDoorTie.lean); close each card by the builder's one call (the guide's Derived/Test/ToyasCard.lean, 'card_holds'). Laid BY PROGRAM, IN A SANDBOX (cutbox-door.mjs). By AI agents, Wed Nov 11 2026. No macro, syntax, notation, axiom, sorry.
-/
import Derived.Test.YtfgpmccmalddjaaDoorRows
import GoSem.ClaimSeven
namespace Go.Proofs.YtfgpmccmalddjaaDoor
namespace Rows

/-- THE TIED CARD OF 'burnishlaw07.ZlibBack'. -/
def zlibBackCard : Claim7 := { stood := { row := zlibBackRow, standIns := [], harness := (true, "1e34e93364b57536727b0940d9aaaca810b18f7ceca76cbea995e08c9f2bf502"), looks := true }, kinds := [], alts := [], laidByText := true, laidKinds := [.data], laidTests := true, laidLooks := .later }
def ZlibBackCardSaid : Prop := Claim7.holds Tryd.pinned (.plain (OpenSpec.ofChange zlibBackSpec)) zlibBackCard

/-- THE TIED CARD OF 'burnishlaw08.MatchLongest'. -/
def matchLongestCard : Claim7 := { stood := { row := matchLongestRow, standIns := [], harness := (true, "1e34e93364b57536727b0940d9aaaca810b18f7ceca76cbea995e08c9f2bf502"), looks := true }, kinds := [], alts := [], laidByText := true, laidKinds := [.data], laidTests := true, laidLooks := .later }
def MatchLongestCardSaid : Prop := Claim7.holds Tryd.pinned (.plain (OpenSpec.ofChange matchLongestSpec)) matchLongestCard

/-- THE TIED CARD OF 'burnishlaw08.MatchNearest'. -/
def matchNearestCard : Claim7 := { stood := { row := matchNearestRow, standIns := [], harness := (true, "1e34e93364b57536727b0940d9aaaca810b18f7ceca76cbea995e08c9f2bf502"), looks := true }, kinds := [], alts := [], laidByText := true, laidKinds := [.data], laidTests := true, laidLooks := .later }
def MatchNearestCardSaid : Prop := Claim7.holds Tryd.pinned (.plain (OpenSpec.ofChange matchNearestSpec)) matchNearestCard

/-- THE TIED CARD OF 'burnishlaw08.MatchFound'. -/
def matchFoundCard : Claim7 := { stood := { row := matchFoundRow, standIns := [], harness := (true, "1e34e93364b57536727b0940d9aaaca810b18f7ceca76cbea995e08c9f2bf502"), looks := true }, kinds := [], alts := [], laidByText := true, laidKinds := [.data], laidTests := true, laidLooks := .later }
def MatchFoundCardSaid : Prop := Claim7.holds Tryd.pinned (.plain (OpenSpec.ofChange matchFoundSpec)) matchFoundCard

/-- THE TIED CARD OF 'burnishlaw08.MatchLimits'. -/
def matchLimitsCard : Claim7 := { stood := { row := matchLimitsRow, standIns := [], harness := (true, "1e34e93364b57536727b0940d9aaaca810b18f7ceca76cbea995e08c9f2bf502"), looks := true }, kinds := [], alts := [], laidByText := true, laidKinds := [.data], laidTests := true, laidLooks := .later }
def MatchLimitsCardSaid : Prop := Claim7.holds Tryd.pinned (.plain (OpenSpec.ofChange matchLimitsSpec)) matchLimitsCard

/-- THE SECOND FORM's CARD OF 'burnishlaw07.ZlibBack'. -/
def zlibBackUptoCard : Claim7 := { stood := { row := zlibBackUptoRow, standIns := [], harness := (true, "1e34e93364b57536727b0940d9aaaca810b18f7ceca76cbea995e08c9f2bf502"), looks := true }, kinds := [], alts := [], laidByText := true, laidKinds := [.data], laidTests := true, laidLooks := .later }
def ZlibBackUptoCardSaid : Prop := Claim7.holds Tryd.pinned (.plain (OpenSpec.upto zlibBackSpec)) zlibBackUptoCard

/-- THE SECOND FORM's CARD OF 'burnishlaw08.MatchLongest'. -/
def matchLongestUptoCard : Claim7 := { stood := { row := matchLongestUptoRow, standIns := [], harness := (true, "1e34e93364b57536727b0940d9aaaca810b18f7ceca76cbea995e08c9f2bf502"), looks := true }, kinds := [], alts := [], laidByText := true, laidKinds := [.data], laidTests := true, laidLooks := .later }
def MatchLongestUptoCardSaid : Prop := Claim7.holds Tryd.pinned (.plain (OpenSpec.upto matchLongestSpec)) matchLongestUptoCard

/-- THE SECOND FORM's CARD OF 'burnishlaw08.MatchNearest'. -/
def matchNearestUptoCard : Claim7 := { stood := { row := matchNearestUptoRow, standIns := [], harness := (true, "1e34e93364b57536727b0940d9aaaca810b18f7ceca76cbea995e08c9f2bf502"), looks := true }, kinds := [], alts := [], laidByText := true, laidKinds := [.data], laidTests := true, laidLooks := .later }
def MatchNearestUptoCardSaid : Prop := Claim7.holds Tryd.pinned (.plain (OpenSpec.upto matchNearestSpec)) matchNearestUptoCard

/-- THE SECOND FORM's CARD OF 'burnishlaw08.MatchFound'. -/
def matchFoundUptoCard : Claim7 := { stood := { row := matchFoundUptoRow, standIns := [], harness := (true, "1e34e93364b57536727b0940d9aaaca810b18f7ceca76cbea995e08c9f2bf502"), looks := true }, kinds := [], alts := [], laidByText := true, laidKinds := [.data], laidTests := true, laidLooks := .later }
def MatchFoundUptoCardSaid : Prop := Claim7.holds Tryd.pinned (.plain (OpenSpec.upto matchFoundSpec)) matchFoundUptoCard

/-- THE SECOND FORM's CARD OF 'burnishlaw08.MatchLimits'. -/
def matchLimitsUptoCard : Claim7 := { stood := { row := matchLimitsUptoRow, standIns := [], harness := (true, "1e34e93364b57536727b0940d9aaaca810b18f7ceca76cbea995e08c9f2bf502"), looks := true }, kinds := [], alts := [], laidByText := true, laidKinds := [.data], laidTests := true, laidLooks := .later }
def MatchLimitsUptoCardSaid : Prop := Claim7.holds Tryd.pinned (.plain (OpenSpec.upto matchLimitsSpec)) matchLimitsUptoCard
end Rows
end Go.Proofs.YtfgpmccmalddjaaDoor
