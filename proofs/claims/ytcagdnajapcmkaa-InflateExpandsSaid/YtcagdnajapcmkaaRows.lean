/-
  No cell of these rows narrows 'for every input' (looked for: loops, veiled, ifaces, maps, wideKeys, modest, calm, conditions, laid).
  DERIVED. THE GIVEN ROWS OF THIS SEAT. 3 by the template 'for every input the law returns true; each argument reads behind the call as it read before'; 0 by the template 'total and deterministic' (their statements: YtcagdnajapcmkaaTotals.lean).
  GIVEN WITH THE SEED: the statements are not yours to turn. If you find one false, say at which input.
  Laid BY PROGRAM, IN A SANDBOX (cutbox-rows.mjs): the forced cells as the released guide's own fill.sh prints them over the translation 7ff6780b6963a775… (all of the seat's roots in one cut). By AI agents, Wed Nov 11 2026. No macro, syntax, notation, axiom, sorry.
-/
import Derived.Test.YtcagdnajapcmkaaChecked
import GoSem.Claim
import GoSem.ClaimJoined
import GoSem.ClaimMapViews
import Derived.JoinedTies
import Derived.KernelRfl
namespace Go.Proofs.Ytcagdnajapcmkaa
/- THE CELL 'sum', in the pinned program and in every row, IS THE sha256 OF THE DUMP (.gsa) THAT YtcagdnajapcmkaaProg.lean LOADS. Nothing in Lean hashes anything: it is a label: what it is worth is what the hold of that sum in a sandbox is worth. -/
noncomputable def Try.pinned : Pinned := { name := "ytcagdnajapcmkaa", sum := "7ff6780b6963a7751dac1b2a7ab43ed75f5a86e4cd04d18214ea73a10996f759", checked := Try.checked }
namespace Rows
def none {H : Type} : Left H := { results := [], args := [] }

/-- 'burnishlaw05.MergeTables': WHATEVER THE INPUT: true; the input reads as it did. -/
def mergeTablesSpec : ChangeSpec := { name := "mergeTables", fn := fun _ => fun
  | [d] => { results := [.lit (.bool true)], args := [d] }
  | _ => none }
def mergeTablesRow : OpenClaim := { program := "ytcagdnajapcmkaa", sum := "7ff6780b6963a7751dac1b2a7ab43ed75f5a86e4cd04d18214ea73a10996f759", func := "burnish/burnishlaw05.MergeTables", spec := "mergeTables", unfollowed := true, recurses := true, apart := false }
def MergeTablesSaid : Prop := mergeTablesRow.holds Try.pinned (OpenSpec.ofChange mergeTablesSpec)

/-- ITS FALSE NEIGHBOUR: 'it returns false'. Refute it at one input. -/
def mergeTablesWrong : ChangeSpec := { name := "mergeTables", fn := fun _ => fun
  | [d] => { results := [.lit (.bool false)], args := [d] }
  | _ => none }
def MergeTablesWrongFalsely : Prop := mergeTablesRow.holds Try.pinned (OpenSpec.ofChange mergeTablesWrong)

/-- 'burnishlaw06.InflateExpands': WHATEVER THE INPUT: true; the input reads as it did. -/
def inflateExpandsSpec : ChangeSpec := { name := "inflateExpands", fn := fun _ => fun
  | [d1, d2] => { results := [.lit (.bool true)], args := [d1, d2] }
  | _ => none }
def inflateExpandsRow : OpenClaim := { program := "ytcagdnajapcmkaa", sum := "7ff6780b6963a7751dac1b2a7ab43ed75f5a86e4cd04d18214ea73a10996f759", func := "burnish/burnishlaw06.InflateExpands", spec := "inflateExpands", apart := false }
def InflateExpandsSaid : Prop := inflateExpandsRow.holds Try.pinned (OpenSpec.ofChange inflateExpandsSpec)

/-- ITS FALSE NEIGHBOUR: 'it returns false'. Refute it at one input. -/
def inflateExpandsWrong : ChangeSpec := { name := "inflateExpands", fn := fun _ => fun
  | [d1, d2] => { results := [.lit (.bool false)], args := [d1, d2] }
  | _ => none }
def InflateExpandsWrongFalsely : Prop := inflateExpandsRow.holds Try.pinned (OpenSpec.ofChange inflateExpandsWrong)

/-- 'burnishlaw06.InflateBases': WHATEVER THE INPUT: true; the input reads as it did. -/
def inflateBasesSpec : ChangeSpec := { name := "inflateBases", fn := fun _ => fun
  | [d1, d2] => { results := [.lit (.bool true)], args := [d1, d2] }
  | _ => none }
def inflateBasesRow : OpenClaim := { program := "ytcagdnajapcmkaa", sum := "7ff6780b6963a7751dac1b2a7ab43ed75f5a86e4cd04d18214ea73a10996f759", func := "burnish/burnishlaw06.InflateBases", spec := "inflateBases", apart := false }
def InflateBasesSaid : Prop := inflateBasesRow.holds Try.pinned (OpenSpec.ofChange inflateBasesSpec)

/-- ITS FALSE NEIGHBOUR: 'it returns false'. Refute it at one input. -/
def inflateBasesWrong : ChangeSpec := { name := "inflateBases", fn := fun _ => fun
  | [d1, d2] => { results := [.lit (.bool false)], args := [d1, d2] }
  | _ => none }
def InflateBasesWrongFalsely : Prop := inflateBasesRow.holds Try.pinned (OpenSpec.ofChange inflateBasesWrong)

/- THE SECOND FORM. 'bulk': how many values and letters a reading holds, each counted each time it is reached (what is shared counts as often as it is met; a slice's spare places count too). A statement '..UptoSaid' is the law's where the arguments, and the package variables that the reading takes, are together of bulk at most 1048576: NARROWER than '..Said'. Prove '..Said' where nothing that the law and all that it calls make is longer than what came in: it says more and counts as full. Else prove '..UptoSaid'. A law counts once. -/
mutual
def uptoBulk {H : Type} : DataW H → Nat
  | .lit (.string bytes) => bytes.length + 1
  | .lit _ => 1
  | .nil => 1
  | .ptr d => uptoBulk d + 1
  | .slice elems spare => uptoBulkAll elems + uptoBulkAll spare + 1
  | .agg parts => uptoBulkAll parts + 1
  | .iface _ d => uptoBulk d + 1
  | .map entries => uptoBulkEntries entries + 1
  | .held _ => 1
def uptoBulkAll {H : Type} : List (DataW H) → Nat
  | [] => 0
  | d :: r => uptoBulk d + uptoBulkAll r
def uptoBulkEntries {H : Type} : List (Lit × DataW H) → Nat
  | [] => 0
  | x :: r => uptoBulkEntry x + uptoBulkEntries r
def uptoBulkEntry {H : Type} : Lit × DataW H → Nat
  | (.string bytes, d) => bytes.length + uptoBulk d + 1
  | (_, d) => uptoBulk d + 1
 end
def uptoSmall : (H : Type) → List (DataW H) → Bool := fun _ ds => decide (uptoBulkAll ds ≤ 1048576)
def OpenSpec.upto (s : _root_.Go.ChangeSpec) : _root_.Go.OpenSpec := { _root_.Go.OpenSpec.ofChange s with cond := some uptoSmall }

/-- 'burnishlaw05.MergeTables', WHERE WHAT IT READS IS OF BULK AT MOST 1048576: true; the input reads as it did. -/
def mergeTablesUptoRow : OpenClaim := { program := "ytcagdnajapcmkaa", sum := "7ff6780b6963a7751dac1b2a7ab43ed75f5a86e4cd04d18214ea73a10996f759", func := "burnish/burnishlaw05.MergeTables", spec := "mergeTables", unfollowed := true, recurses := true, apart := false, narrowed := true }
def MergeTablesUptoSaid : Prop := mergeTablesUptoRow.holds Try.pinned (OpenSpec.upto mergeTablesSpec)

/-- 'burnishlaw06.InflateExpands', WHERE WHAT IT READS IS OF BULK AT MOST 1048576: true; the input reads as it did. -/
def inflateExpandsUptoRow : OpenClaim := { program := "ytcagdnajapcmkaa", sum := "7ff6780b6963a7751dac1b2a7ab43ed75f5a86e4cd04d18214ea73a10996f759", func := "burnish/burnishlaw06.InflateExpands", spec := "inflateExpands", apart := false, narrowed := true }
def InflateExpandsUptoSaid : Prop := inflateExpandsUptoRow.holds Try.pinned (OpenSpec.upto inflateExpandsSpec)

/-- 'burnishlaw06.InflateBases', WHERE WHAT IT READS IS OF BULK AT MOST 1048576: true; the input reads as it did. -/
def inflateBasesUptoRow : OpenClaim := { program := "ytcagdnajapcmkaa", sum := "7ff6780b6963a7751dac1b2a7ab43ed75f5a86e4cd04d18214ea73a10996f759", func := "burnish/burnishlaw06.InflateBases", spec := "inflateBases", apart := false, narrowed := true }
def InflateBasesUptoSaid : Prop := inflateBasesUptoRow.holds Try.pinned (OpenSpec.upto inflateBasesSpec)

end Rows
end Go.Proofs.Ytcagdnajapcmkaa
