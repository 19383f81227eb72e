/-
  No cell of these rows narrows 'for every input' (looked for: loops, veiled, ifaces, maps, wideKeys, modest, calm, conditions, laid).
  DERIVED. THE GIVEN ROWS OF THIS SEAT. 6 by the template 'for every input the law returns true; each argument reads behind the call as it read before'; 0 by the template 'total and deterministic' (their statements: YtobmghppnlgjlaaTotals.lean).
  GIVEN WITH THE SEED: the statements are not yours to turn. If you find one false, say at which input.
  Laid BY PROGRAM, IN A SANDBOX (cutbox-rows.mjs): the forced cells as the released guide's own fill.sh prints them over the translation facab6b1784313f6… (all of the seat's roots in one cut). By AI agents, Wed Nov 11 2026. No macro, syntax, notation, axiom, sorry.
-/
import Derived.Test.YtobmghppnlgjlaaChecked
import GoSem.Claim
import GoSem.ClaimJoined
import GoSem.ClaimMapViews
import Derived.JoinedTies
import Derived.KernelRfl
namespace Go.Proofs.Ytobmghppnlgjlaa
/- THE CELL 'sum', in the pinned program and in every row, IS THE sha256 OF THE DUMP (.gsa) THAT YtobmghppnlgjlaaProg.lean LOADS. Nothing in Lean hashes anything: it is a label: what it is worth is what the hold of that sum in a sandbox is worth. -/
noncomputable def Try.pinned : Pinned := { name := "ytobmghppnlgjlaa", sum := "facab6b1784313f62cf2a086dfbace72db1718de7693bd7da8f09bf89bcaa35b", checked := Try.checked }
namespace Rows
def none {H : Type} : Left H := { results := [], args := [] }

/-- 'burnishlaw05.MergeBest': WHATEVER THE INPUT: true; the input reads as it did. -/
def mergeBestSpec : ChangeSpec := { name := "mergeBest", fn := fun _ => fun
  | [d1, d2] => { results := [.lit (.bool true)], args := [d1, d2] }
  | _ => none }
def mergeBestRow : OpenClaim := { program := "ytobmghppnlgjlaa", sum := "facab6b1784313f62cf2a086dfbace72db1718de7693bd7da8f09bf89bcaa35b", func := "burnish/burnishlaw05.MergeBest", spec := "mergeBest", unfollowed := true, recurses := true, apart := false }
def MergeBestSaid : Prop := mergeBestRow.holds Try.pinned (OpenSpec.ofChange mergeBestSpec)

/-- ITS FALSE NEIGHBOUR: 'it returns false'. Refute it at one input. -/
def mergeBestWrong : ChangeSpec := { name := "mergeBest", fn := fun _ => fun
  | [d1, d2] => { results := [.lit (.bool false)], args := [d1, d2] }
  | _ => none }
def MergeBestWrongFalsely : Prop := mergeBestRow.holds Try.pinned (OpenSpec.ofChange mergeBestWrong)

/-- 'burnishlaw05.MergeForm': WHATEVER THE INPUT: true; the input reads as it did. -/
def mergeFormSpec : ChangeSpec := { name := "mergeForm", fn := fun _ => fun
  | [d1, d2] => { results := [.lit (.bool true)], args := [d1, d2] }
  | _ => none }
def mergeFormRow : OpenClaim := { program := "ytobmghppnlgjlaa", sum := "facab6b1784313f62cf2a086dfbace72db1718de7693bd7da8f09bf89bcaa35b", func := "burnish/burnishlaw05.MergeForm", spec := "mergeForm", unfollowed := true, recurses := true, apart := false }
def MergeFormSaid : Prop := mergeFormRow.holds Try.pinned (OpenSpec.ofChange mergeFormSpec)

/-- ITS FALSE NEIGHBOUR: 'it returns false'. Refute it at one input. -/
def mergeFormWrong : ChangeSpec := { name := "mergeForm", fn := fun _ => fun
  | [d1, d2] => { results := [.lit (.bool false)], args := [d1, d2] }
  | _ => none }
def MergeFormWrongFalsely : Prop := mergeFormRow.holds Try.pinned (OpenSpec.ofChange mergeFormWrong)

/-- 'burnishlaw05.MergeOrder': WHATEVER THE INPUT: true; the input reads as it did. -/
def mergeOrderSpec : ChangeSpec := { name := "mergeOrder", fn := fun _ => fun
  | [d1, d2] => { results := [.lit (.bool true)], args := [d1, d2] }
  | _ => none }
def mergeOrderRow : OpenClaim := { program := "ytobmghppnlgjlaa", sum := "facab6b1784313f62cf2a086dfbace72db1718de7693bd7da8f09bf89bcaa35b", func := "burnish/burnishlaw05.MergeOrder", spec := "mergeOrder", unfollowed := true, recurses := true, apart := false }
def MergeOrderSaid : Prop := mergeOrderRow.holds Try.pinned (OpenSpec.ofChange mergeOrderSpec)

/-- ITS FALSE NEIGHBOUR: 'it returns false'. Refute it at one input. -/
def mergeOrderWrong : ChangeSpec := { name := "mergeOrder", fn := fun _ => fun
  | [d1, d2] => { results := [.lit (.bool false)], args := [d1, d2] }
  | _ => none }
def MergeOrderWrongFalsely : Prop := mergeOrderRow.holds Try.pinned (OpenSpec.ofChange mergeOrderWrong)

/-- 'burnishlaw05.MergeTables': WHATEVER THE INPUT: true; the input reads as it did. -/
def mergeTablesSpec : ChangeSpec := { name := "mergeTables", fn := fun _ => fun
  | [d] => { results := [.lit (.bool true)], args := [d] }
  | _ => none }
def mergeTablesRow : OpenClaim := { program := "ytobmghppnlgjlaa", sum := "facab6b1784313f62cf2a086dfbace72db1718de7693bd7da8f09bf89bcaa35b", func := "burnish/burnishlaw05.MergeTables", spec := "mergeTables", unfollowed := true, recurses := true, apart := false }
def MergeTablesSaid : Prop := mergeTablesRow.holds Try.pinned (OpenSpec.ofChange mergeTablesSpec)

/-- ITS FALSE NEIGHBOUR: 'it returns false'. Refute it at one input. -/
def mergeTablesWrong : ChangeSpec := { name := "mergeTables", fn := fun _ => fun
  | [d] => { results := [.lit (.bool false)], args := [d] }
  | _ => none }
def MergeTablesWrongFalsely : Prop := mergeTablesRow.holds Try.pinned (OpenSpec.ofChange mergeTablesWrong)

/-- 'burnishlaw05.MergeRuns': WHATEVER THE INPUT: true; the input reads as it did. -/
def mergeRunsSpec : ChangeSpec := { name := "mergeRuns", fn := fun _ => fun
  | [d1, d2, d3] => { results := [.lit (.bool true)], args := [d1, d2, d3] }
  | _ => none }
def mergeRunsRow : OpenClaim := { program := "ytobmghppnlgjlaa", sum := "facab6b1784313f62cf2a086dfbace72db1718de7693bd7da8f09bf89bcaa35b", func := "burnish/burnishlaw05.MergeRuns", spec := "mergeRuns", unfollowed := true, recurses := true, apart := false }
def MergeRunsSaid : Prop := mergeRunsRow.holds Try.pinned (OpenSpec.ofChange mergeRunsSpec)

/-- ITS FALSE NEIGHBOUR: 'it returns false'. Refute it at one input. -/
def mergeRunsWrong : ChangeSpec := { name := "mergeRuns", fn := fun _ => fun
  | [d1, d2, d3] => { results := [.lit (.bool false)], args := [d1, d2, d3] }
  | _ => none }
def MergeRunsWrongFalsely : Prop := mergeRunsRow.holds Try.pinned (OpenSpec.ofChange mergeRunsWrong)

/-- 'burnishlaw05.MergeCosts': WHATEVER THE INPUT: true; the input reads as it did. -/
def mergeCostsSpec : ChangeSpec := { name := "mergeCosts", fn := fun _ => fun
  | [d1, d2] => { results := [.lit (.bool true)], args := [d1, d2] }
  | _ => none }
def mergeCostsRow : OpenClaim := { program := "ytobmghppnlgjlaa", sum := "facab6b1784313f62cf2a086dfbace72db1718de7693bd7da8f09bf89bcaa35b", func := "burnish/burnishlaw05.MergeCosts", spec := "mergeCosts", apart := false }
def MergeCostsSaid : Prop := mergeCostsRow.holds Try.pinned (OpenSpec.ofChange mergeCostsSpec)

/-- ITS FALSE NEIGHBOUR: 'it returns false'. Refute it at one input. -/
def mergeCostsWrong : ChangeSpec := { name := "mergeCosts", fn := fun _ => fun
  | [d1, d2] => { results := [.lit (.bool false)], args := [d1, d2] }
  | _ => none }
def MergeCostsWrongFalsely : Prop := mergeCostsRow.holds Try.pinned (OpenSpec.ofChange mergeCostsWrong)

/- THE SECOND FORM. 'bulk': how many values and letters a reading holds, each counted each time it is reached (what is shared counts as often as it is met; a slice's spare places count too). A statement '..UptoSaid' is the law's where the arguments, and the package variables that the reading takes, are together of bulk at most 1048576: NARROWER than '..Said'. Prove '..Said' where nothing that the law and all that it calls make is longer than what came in: it says more and counts as full. Else prove '..UptoSaid'. A law counts once. -/
mutual
def uptoBulk {H : Type} : DataW H → Nat
  | .lit (.string bytes) => bytes.length + 1
  | .lit _ => 1
  | .nil => 1
  | .ptr d => uptoBulk d + 1
  | .slice elems spare => uptoBulkAll elems + uptoBulkAll spare + 1
  | .agg parts => uptoBulkAll parts + 1
  | .iface _ d => uptoBulk d + 1
  | .map entries => uptoBulkEntries entries + 1
  | .held _ => 1
def uptoBulkAll {H : Type} : List (DataW H) → Nat
  | [] => 0
  | d :: r => uptoBulk d + uptoBulkAll r
def uptoBulkEntries {H : Type} : List (Lit × DataW H) → Nat
  | [] => 0
  | x :: r => uptoBulkEntry x + uptoBulkEntries r
def uptoBulkEntry {H : Type} : Lit × DataW H → Nat
  | (.string bytes, d) => bytes.length + uptoBulk d + 1
  | (_, d) => uptoBulk d + 1
 end
def uptoSmall : (H : Type) → List (DataW H) → Bool := fun _ ds => decide (uptoBulkAll ds ≤ 1048576)
def OpenSpec.upto (s : _root_.Go.ChangeSpec) : _root_.Go.OpenSpec := { _root_.Go.OpenSpec.ofChange s with cond := some uptoSmall }

/-- 'burnishlaw05.MergeBest', WHERE WHAT IT READS IS OF BULK AT MOST 1048576: true; the input reads as it did. -/
def mergeBestUptoRow : OpenClaim := { program := "ytobmghppnlgjlaa", sum := "facab6b1784313f62cf2a086dfbace72db1718de7693bd7da8f09bf89bcaa35b", func := "burnish/burnishlaw05.MergeBest", spec := "mergeBest", unfollowed := true, recurses := true, apart := false, narrowed := true }
def MergeBestUptoSaid : Prop := mergeBestUptoRow.holds Try.pinned (OpenSpec.upto mergeBestSpec)

/-- 'burnishlaw05.MergeForm', WHERE WHAT IT READS IS OF BULK AT MOST 1048576: true; the input reads as it did. -/
def mergeFormUptoRow : OpenClaim := { program := "ytobmghppnlgjlaa", sum := "facab6b1784313f62cf2a086dfbace72db1718de7693bd7da8f09bf89bcaa35b", func := "burnish/burnishlaw05.MergeForm", spec := "mergeForm", unfollowed := true, recurses := true, apart := false, narrowed := true }
def MergeFormUptoSaid : Prop := mergeFormUptoRow.holds Try.pinned (OpenSpec.upto mergeFormSpec)

/-- 'burnishlaw05.MergeOrder', WHERE WHAT IT READS IS OF BULK AT MOST 1048576: true; the input reads as it did. -/
def mergeOrderUptoRow : OpenClaim := { program := "ytobmghppnlgjlaa", sum := "facab6b1784313f62cf2a086dfbace72db1718de7693bd7da8f09bf89bcaa35b", func := "burnish/burnishlaw05.MergeOrder", spec := "mergeOrder", unfollowed := true, recurses := true, apart := false, narrowed := true }
def MergeOrderUptoSaid : Prop := mergeOrderUptoRow.holds Try.pinned (OpenSpec.upto mergeOrderSpec)

/-- 'burnishlaw05.MergeTables', WHERE WHAT IT READS IS OF BULK AT MOST 1048576: true; the input reads as it did. -/
def mergeTablesUptoRow : OpenClaim := { program := "ytobmghppnlgjlaa", sum := "facab6b1784313f62cf2a086dfbace72db1718de7693bd7da8f09bf89bcaa35b", func := "burnish/burnishlaw05.MergeTables", spec := "mergeTables", unfollowed := true, recurses := true, apart := false, narrowed := true }
def MergeTablesUptoSaid : Prop := mergeTablesUptoRow.holds Try.pinned (OpenSpec.upto mergeTablesSpec)

/-- 'burnishlaw05.MergeRuns', WHERE WHAT IT READS IS OF BULK AT MOST 1048576: true; the input reads as it did. -/
def mergeRunsUptoRow : OpenClaim := { program := "ytobmghppnlgjlaa", sum := "facab6b1784313f62cf2a086dfbace72db1718de7693bd7da8f09bf89bcaa35b", func := "burnish/burnishlaw05.MergeRuns", spec := "mergeRuns", unfollowed := true, recurses := true, apart := false, narrowed := true }
def MergeRunsUptoSaid : Prop := mergeRunsUptoRow.holds Try.pinned (OpenSpec.upto mergeRunsSpec)

/-- 'burnishlaw05.MergeCosts', WHERE WHAT IT READS IS OF BULK AT MOST 1048576: true; the input reads as it did. -/
def mergeCostsUptoRow : OpenClaim := { program := "ytobmghppnlgjlaa", sum := "facab6b1784313f62cf2a086dfbace72db1718de7693bd7da8f09bf89bcaa35b", func := "burnish/burnishlaw05.MergeCosts", spec := "mergeCosts", apart := false, narrowed := true }
def MergeCostsUptoSaid : Prop := mergeCostsUptoRow.holds Try.pinned (OpenSpec.upto mergeCostsSpec)

end Rows
end Go.Proofs.Ytobmghppnlgjlaa
