/-
  No cell of these rows narrows 'for every input' (looked for: loops, veiled, ifaces, maps, wideKeys, modest, calm, conditions, laid).
  DERIVED. THE GIVEN ROWS OF THIS SEAT. 7 by the template 'for every input the law returns true; each argument reads behind the call as it read before'; 0 by the template 'total and deterministic' (their statements: YtnlbomijnldlmaaTotals.lean).
  GIVEN WITH THE SEED: the statements are not yours to turn. If you find one false, say at which input.
  Laid BY PROGRAM, IN A SANDBOX (cutbox-rows.mjs): the forced cells as the released guide's own fill.sh prints them over the translation 5c9529282031a8aa… (all of the seat's roots in one cut). By AI agents, Wed Nov 11 2026. No macro, syntax, notation, axiom, sorry.
-/
import Derived.Test.YtnlbomijnldlmaaChecked
import GoSem.Claim
import GoSem.ClaimJoined
import GoSem.ClaimMapViews
import Derived.JoinedTies
import Derived.KernelRfl
namespace Go.Proofs.Ytnlbomijnldlmaa
/- THE CELL 'sum', in the pinned program and in every row, IS THE sha256 OF THE DUMP (.gsa) THAT YtnlbomijnldlmaaProg.lean LOADS. Nothing in Lean hashes anything: it is a label: what it is worth is what the hold of that sum in a sandbox is worth. -/
noncomputable def Try.pinned : Pinned := { name := "ytnlbomijnldlmaa", sum := "5c9529282031a8aa2934ac28e94b13e4a142764805f0d3b2025df55067f9428b", checked := Try.checked }
namespace Rows
def none {H : Type} : Left H := { results := [], args := [] }

/-- 'burnishlaw04.CanonCodes': WHATEVER THE INPUT: true; the input reads as it did. -/
def canonCodesSpec : ChangeSpec := { name := "canonCodes", fn := fun _ => fun
  | [d] => { results := [.lit (.bool true)], args := [d] }
  | _ => none }
def canonCodesRow : OpenClaim := { program := "ytnlbomijnldlmaa", sum := "5c9529282031a8aa2934ac28e94b13e4a142764805f0d3b2025df55067f9428b", func := "burnish/burnishlaw04.CanonCodes", spec := "canonCodes", unfollowed := true, recurses := true, apart := false }
def CanonCodesSaid : Prop := canonCodesRow.holds Try.pinned (OpenSpec.ofChange canonCodesSpec)

/-- ITS FALSE NEIGHBOUR: 'it returns false'. Refute it at one input. -/
def canonCodesWrong : ChangeSpec := { name := "canonCodes", fn := fun _ => fun
  | [d] => { results := [.lit (.bool false)], args := [d] }
  | _ => none }
def CanonCodesWrongFalsely : Prop := canonCodesRow.holds Try.pinned (OpenSpec.ofChange canonCodesWrong)

/-- 'burnishlaw04.CanonBits': WHATEVER THE INPUT: true; the input reads as it did. -/
def canonBitsSpec : ChangeSpec := { name := "canonBits", fn := fun _ => fun
  | [d] => { results := [.lit (.bool true)], args := [d] }
  | _ => none }
def canonBitsRow : OpenClaim := { program := "ytnlbomijnldlmaa", sum := "5c9529282031a8aa2934ac28e94b13e4a142764805f0d3b2025df55067f9428b", func := "burnish/burnishlaw04.CanonBits", spec := "canonBits", unfollowed := true, recurses := true, apart := false }
def CanonBitsSaid : Prop := canonBitsRow.holds Try.pinned (OpenSpec.ofChange canonBitsSpec)

/-- ITS FALSE NEIGHBOUR: 'it returns false'. Refute it at one input. -/
def canonBitsWrong : ChangeSpec := { name := "canonBits", fn := fun _ => fun
  | [d] => { results := [.lit (.bool false)], args := [d] }
  | _ => none }
def CanonBitsWrongFalsely : Prop := canonBitsRow.holds Try.pinned (OpenSpec.ofChange canonBitsWrong)

/-- 'burnishlaw04.CanonTables': WHATEVER THE INPUT: true; the input reads as it did. -/
def canonTablesSpec : ChangeSpec := { name := "canonTables", fn := fun _ => fun
  | [d1, d2, d3] => { results := [.lit (.bool true)], args := [d1, d2, d3] }
  | _ => none }
def canonTablesRow : OpenClaim := { program := "ytnlbomijnldlmaa", sum := "5c9529282031a8aa2934ac28e94b13e4a142764805f0d3b2025df55067f9428b", func := "burnish/burnishlaw04.CanonTables", spec := "canonTables", unfollowed := true, recurses := true, apart := false }
def CanonTablesSaid : Prop := canonTablesRow.holds Try.pinned (OpenSpec.ofChange canonTablesSpec)

/-- ITS FALSE NEIGHBOUR: 'it returns false'. Refute it at one input. -/
def canonTablesWrong : ChangeSpec := { name := "canonTables", fn := fun _ => fun
  | [d1, d2, d3] => { results := [.lit (.bool false)], args := [d1, d2, d3] }
  | _ => none }
def CanonTablesWrongFalsely : Prop := canonTablesRow.holds Try.pinned (OpenSpec.ofChange canonTablesWrong)

/-- 'burnishlaw04.CanonBack': WHATEVER THE INPUT: true; the input reads as it did. -/
def canonBackSpec : ChangeSpec := { name := "canonBack", fn := fun _ => fun
  | [d1, d2, d3] => { results := [.lit (.bool true)], args := [d1, d2, d3] }
  | _ => none }
def canonBackRow : OpenClaim := { program := "ytnlbomijnldlmaa", sum := "5c9529282031a8aa2934ac28e94b13e4a142764805f0d3b2025df55067f9428b", func := "burnish/burnishlaw04.CanonBack", spec := "canonBack", unfollowed := true, recurses := true, apart := false }
def CanonBackSaid : Prop := canonBackRow.holds Try.pinned (OpenSpec.ofChange canonBackSpec)

/-- ITS FALSE NEIGHBOUR: 'it returns false'. Refute it at one input. -/
def canonBackWrong : ChangeSpec := { name := "canonBack", fn := fun _ => fun
  | [d1, d2, d3] => { results := [.lit (.bool false)], args := [d1, d2, d3] }
  | _ => none }
def CanonBackWrongFalsely : Prop := canonBackRow.holds Try.pinned (OpenSpec.ofChange canonBackWrong)

/-- 'burnishlaw04.CanonPrefix': WHATEVER THE INPUT: true; the input reads as it did. -/
def canonPrefixSpec : ChangeSpec := { name := "canonPrefix", fn := fun _ => fun
  | [d] => { results := [.lit (.bool true)], args := [d] }
  | _ => none }
def canonPrefixRow : OpenClaim := { program := "ytnlbomijnldlmaa", sum := "5c9529282031a8aa2934ac28e94b13e4a142764805f0d3b2025df55067f9428b", func := "burnish/burnishlaw04.CanonPrefix", spec := "canonPrefix", unfollowed := true, recurses := true, apart := false }
def CanonPrefixSaid : Prop := canonPrefixRow.holds Try.pinned (OpenSpec.ofChange canonPrefixSpec)

/-- ITS FALSE NEIGHBOUR: 'it returns false'. Refute it at one input. -/
def canonPrefixWrong : ChangeSpec := { name := "canonPrefix", fn := fun _ => fun
  | [d] => { results := [.lit (.bool false)], args := [d] }
  | _ => none }
def CanonPrefixWrongFalsely : Prop := canonPrefixRow.holds Try.pinned (OpenSpec.ofChange canonPrefixWrong)

/-- 'burnishlaw04.CanonAll': WHATEVER THE INPUT: true; the input reads as it did. -/
def canonAllSpec : ChangeSpec := { name := "canonAll", fn := fun _ => fun
  | [d1, d2] => { results := [.lit (.bool true)], args := [d1, d2] }
  | _ => none }
def canonAllRow : OpenClaim := { program := "ytnlbomijnldlmaa", sum := "5c9529282031a8aa2934ac28e94b13e4a142764805f0d3b2025df55067f9428b", func := "burnish/burnishlaw04.CanonAll", spec := "canonAll", unfollowed := true, recurses := true, apart := false }
def CanonAllSaid : Prop := canonAllRow.holds Try.pinned (OpenSpec.ofChange canonAllSpec)

/-- ITS FALSE NEIGHBOUR: 'it returns false'. Refute it at one input. -/
def canonAllWrong : ChangeSpec := { name := "canonAll", fn := fun _ => fun
  | [d1, d2] => { results := [.lit (.bool false)], args := [d1, d2] }
  | _ => none }
def CanonAllWrongFalsely : Prop := canonAllRow.holds Try.pinned (OpenSpec.ofChange canonAllWrong)

/-- 'burnishlaw04.CanonNone': WHATEVER THE INPUT: true; the input reads as it did. -/
def canonNoneSpec : ChangeSpec := { name := "canonNone", fn := fun _ => fun
  | [d1, d2] => { results := [.lit (.bool true)], args := [d1, d2] }
  | _ => none }
def canonNoneRow : OpenClaim := { program := "ytnlbomijnldlmaa", sum := "5c9529282031a8aa2934ac28e94b13e4a142764805f0d3b2025df55067f9428b", func := "burnish/burnishlaw04.CanonNone", spec := "canonNone", unfollowed := true, recurses := true, apart := false }
def CanonNoneSaid : Prop := canonNoneRow.holds Try.pinned (OpenSpec.ofChange canonNoneSpec)

/-- ITS FALSE NEIGHBOUR: 'it returns false'. Refute it at one input. -/
def canonNoneWrong : ChangeSpec := { name := "canonNone", fn := fun _ => fun
  | [d1, d2] => { results := [.lit (.bool false)], args := [d1, d2] }
  | _ => none }
def CanonNoneWrongFalsely : Prop := canonNoneRow.holds Try.pinned (OpenSpec.ofChange canonNoneWrong)

/- THE SECOND FORM. 'bulk': how many values and letters a reading holds, each counted each time it is reached (what is shared counts as often as it is met; a slice's spare places count too). A statement '..UptoSaid' is the law's where the arguments, and the package variables that the reading takes, are together of bulk at most 1048576: NARROWER than '..Said'. Prove '..Said' where nothing that the law and all that it calls make is longer than what came in: it says more and counts as full. Else prove '..UptoSaid'. A law counts once. -/
mutual
def uptoBulk {H : Type} : DataW H → Nat
  | .lit (.string bytes) => bytes.length + 1
  | .lit _ => 1
  | .nil => 1
  | .ptr d => uptoBulk d + 1
  | .slice elems spare => uptoBulkAll elems + uptoBulkAll spare + 1
  | .agg parts => uptoBulkAll parts + 1
  | .iface _ d => uptoBulk d + 1
  | .map entries => uptoBulkEntries entries + 1
  | .held _ => 1
def uptoBulkAll {H : Type} : List (DataW H) → Nat
  | [] => 0
  | d :: r => uptoBulk d + uptoBulkAll r
def uptoBulkEntries {H : Type} : List (Lit × DataW H) → Nat
  | [] => 0
  | x :: r => uptoBulkEntry x + uptoBulkEntries r
def uptoBulkEntry {H : Type} : Lit × DataW H → Nat
  | (.string bytes, d) => bytes.length + uptoBulk d + 1
  | (_, d) => uptoBulk d + 1
 end
def uptoSmall : (H : Type) → List (DataW H) → Bool := fun _ ds => decide (uptoBulkAll ds ≤ 1048576)
def OpenSpec.upto (s : _root_.Go.ChangeSpec) : _root_.Go.OpenSpec := { _root_.Go.OpenSpec.ofChange s with cond := some uptoSmall }

/-- 'burnishlaw04.CanonCodes', WHERE WHAT IT READS IS OF BULK AT MOST 1048576: true; the input reads as it did. -/
def canonCodesUptoRow : OpenClaim := { program := "ytnlbomijnldlmaa", sum := "5c9529282031a8aa2934ac28e94b13e4a142764805f0d3b2025df55067f9428b", func := "burnish/burnishlaw04.CanonCodes", spec := "canonCodes", unfollowed := true, recurses := true, apart := false, narrowed := true }
def CanonCodesUptoSaid : Prop := canonCodesUptoRow.holds Try.pinned (OpenSpec.upto canonCodesSpec)

/-- 'burnishlaw04.CanonBits', WHERE WHAT IT READS IS OF BULK AT MOST 1048576: true; the input reads as it did. -/
def canonBitsUptoRow : OpenClaim := { program := "ytnlbomijnldlmaa", sum := "5c9529282031a8aa2934ac28e94b13e4a142764805f0d3b2025df55067f9428b", func := "burnish/burnishlaw04.CanonBits", spec := "canonBits", unfollowed := true, recurses := true, apart := false, narrowed := true }
def CanonBitsUptoSaid : Prop := canonBitsUptoRow.holds Try.pinned (OpenSpec.upto canonBitsSpec)

/-- 'burnishlaw04.CanonTables', WHERE WHAT IT READS IS OF BULK AT MOST 1048576: true; the input reads as it did. -/
def canonTablesUptoRow : OpenClaim := { program := "ytnlbomijnldlmaa", sum := "5c9529282031a8aa2934ac28e94b13e4a142764805f0d3b2025df55067f9428b", func := "burnish/burnishlaw04.CanonTables", spec := "canonTables", unfollowed := true, recurses := true, apart := false, narrowed := true }
def CanonTablesUptoSaid : Prop := canonTablesUptoRow.holds Try.pinned (OpenSpec.upto canonTablesSpec)

/-- 'burnishlaw04.CanonBack', WHERE WHAT IT READS IS OF BULK AT MOST 1048576: true; the input reads as it did. -/
def canonBackUptoRow : OpenClaim := { program := "ytnlbomijnldlmaa", sum := "5c9529282031a8aa2934ac28e94b13e4a142764805f0d3b2025df55067f9428b", func := "burnish/burnishlaw04.CanonBack", spec := "canonBack", unfollowed := true, recurses := true, apart := false, narrowed := true }
def CanonBackUptoSaid : Prop := canonBackUptoRow.holds Try.pinned (OpenSpec.upto canonBackSpec)

/-- 'burnishlaw04.CanonPrefix', WHERE WHAT IT READS IS OF BULK AT MOST 1048576: true; the input reads as it did. -/
def canonPrefixUptoRow : OpenClaim := { program := "ytnlbomijnldlmaa", sum := "5c9529282031a8aa2934ac28e94b13e4a142764805f0d3b2025df55067f9428b", func := "burnish/burnishlaw04.CanonPrefix", spec := "canonPrefix", unfollowed := true, recurses := true, apart := false, narrowed := true }
def CanonPrefixUptoSaid : Prop := canonPrefixUptoRow.holds Try.pinned (OpenSpec.upto canonPrefixSpec)

/-- 'burnishlaw04.CanonAll', WHERE WHAT IT READS IS OF BULK AT MOST 1048576: true; the input reads as it did. -/
def canonAllUptoRow : OpenClaim := { program := "ytnlbomijnldlmaa", sum := "5c9529282031a8aa2934ac28e94b13e4a142764805f0d3b2025df55067f9428b", func := "burnish/burnishlaw04.CanonAll", spec := "canonAll", unfollowed := true, recurses := true, apart := false, narrowed := true }
def CanonAllUptoSaid : Prop := canonAllUptoRow.holds Try.pinned (OpenSpec.upto canonAllSpec)

/-- 'burnishlaw04.CanonNone', WHERE WHAT IT READS IS OF BULK AT MOST 1048576: true; the input reads as it did. -/
def canonNoneUptoRow : OpenClaim := { program := "ytnlbomijnldlmaa", sum := "5c9529282031a8aa2934ac28e94b13e4a142764805f0d3b2025df55067f9428b", func := "burnish/burnishlaw04.CanonNone", spec := "canonNone", unfollowed := true, recurses := true, apart := false, narrowed := true }
def CanonNoneUptoSaid : Prop := canonNoneUptoRow.holds Try.pinned (OpenSpec.upto canonNoneSpec)

end Rows
end Go.Proofs.Ytnlbomijnldlmaa
