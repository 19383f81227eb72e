/-
  NARROWER THAN 'FOR EVERY INPUT', by the rows' own cells (each row's printed sentence says how): LaceAll: laid · LaceSpreads: laid · LaceOnce: laid.
  DERIVED. THE GIVEN ROWS OF THIS SEAT. 3 by the template 'for every input the law returns true; each argument reads behind the call as it read before'; 0 by the template 'total and deterministic' (their statements: YtfdnjblbhbkndaaDoorTotals.lean).
  GIVEN WITH THE SEED: the statements are not yours to turn. If you find one false, say at which input.
  Laid BY PROGRAM, IN A SANDBOX (cutbox-rows.mjs): the forced cells as the released guide's own fill.sh prints them over the translation 9f600c0a15c53a31… (all of the seat's roots in one cut). By AI agents, Wed Nov 11 2026. No macro, syntax, notation, axiom, sorry.
-/
import Derived.Test.YtfdnjblbhbkndaaDoorChecked
import GoSem.Claim
import GoSem.ClaimJoined
import GoSem.ClaimMapViews
import Derived.JoinedTies
import Derived.KernelRfl
namespace Go.Proofs.YtfdnjblbhbkndaaDoor
/- THE CELL 'sum', in the pinned program and in every row, IS THE sha256 OF THE DUMP (.gsa) THAT YtfdnjblbhbkndaaDoorProg.lean LOADS. Nothing in Lean hashes anything: it is a label: what it is worth is what the hold of that sum in a sandbox is worth. -/
noncomputable def Tryd.pinned : Pinned := { name := "ytfdnjblbhbkndaadoor", sum := "9f600c0a15c53a318995d9e6aa1e3f144b3ebfaaa209bf38f1ea03f4675ae737", checked := Tryd.checked }
namespace Rows
def none {H : Type} : Left H := { results := [], args := [] }

/- WHAT THE LISTED PACKAGE-LEVEL VARIABLES READ AS WHEN THE CALL BEGINS. Each datum BY PROGRAM (the guide's laid-datum.mjs) off the statement by which the dump's own 'gosem.cut.vars' lays the variable. In a bare row this is a premise. The card (YtfdnjblbhbkndaaDoorCards.lean) ties it to the program's text. -/
def laid_burnish_lace_passes {H : Type} : DataW H := .agg [.agg [.lit (.int .i64 0), .lit (.int .i64 8), .lit (.int .i64 0), .lit (.int .i64 8)], .agg [.lit (.int .i64 4), .lit (.int .i64 8), .lit (.int .i64 0), .lit (.int .i64 8)], .agg [.lit (.int .i64 0), .lit (.int .i64 4), .lit (.int .i64 4), .lit (.int .i64 8)], .agg [.lit (.int .i64 2), .lit (.int .i64 4), .lit (.int .i64 0), .lit (.int .i64 4)], .agg [.lit (.int .i64 0), .lit (.int .i64 2), .lit (.int .i64 2), .lit (.int .i64 4)], .agg [.lit (.int .i64 1), .lit (.int .i64 2), .lit (.int .i64 0), .lit (.int .i64 2)], .agg [.lit (.int .i64 0), .lit (.int .i64 1), .lit (.int .i64 1), .lit (.int .i64 2)]]

/-- 'burnishlaw15.LaceAll': WHATEVER THE INPUT: true; the input reads as it did. -/
def laceAllSpec : ChangeSpec := { name := "laceAll", fn := fun _ => fun
  | [d] => { results := [.lit (.bool true)], args := [d] }
  | _ => none }
def laceAllRow : OpenClaim := { program := "ytfdnjblbhbkndaadoor", sum := "9f600c0a15c53a318995d9e6aa1e3f144b3ebfaaa209bf38f1ea03f4675ae737", func := "burnish/burnishlaw15.LaceAll", spec := "laceAll", unfollowed := true, recurses := true, named := ["burnish/lace.passes"], apart := false, laid := [("burnish/lace.passes", laid_burnish_lace_passes)] }
def LaceAllSaid : Prop := laceAllRow.holds Tryd.pinned (OpenSpec.ofChange laceAllSpec)

/-- ITS FALSE NEIGHBOUR: 'it returns false'. Refute it at one input. -/
def laceAllWrong : ChangeSpec := { name := "laceAll", fn := fun _ => fun
  | [d] => { results := [.lit (.bool false)], args := [d] }
  | _ => none }
def LaceAllWrongFalsely : Prop := laceAllRow.holds Tryd.pinned (OpenSpec.ofChange laceAllWrong)

/-- 'burnishlaw15.LaceSpreads': WHATEVER THE INPUT: true; the input reads as it did. -/
def laceSpreadsSpec : ChangeSpec := { name := "laceSpreads", fn := fun _ => fun
  | [d1, d2, d3] => { results := [.lit (.bool true)], args := [d1, d2, d3] }
  | _ => none }
def laceSpreadsRow : OpenClaim := { program := "ytfdnjblbhbkndaadoor", sum := "9f600c0a15c53a318995d9e6aa1e3f144b3ebfaaa209bf38f1ea03f4675ae737", func := "burnish/burnishlaw15.LaceSpreads", spec := "laceSpreads", unfollowed := true, recurses := true, named := ["burnish/lace.passes"], apart := false, laid := [("burnish/lace.passes", laid_burnish_lace_passes)] }
def LaceSpreadsSaid : Prop := laceSpreadsRow.holds Tryd.pinned (OpenSpec.ofChange laceSpreadsSpec)

/-- ITS FALSE NEIGHBOUR: 'it returns false'. Refute it at one input. -/
def laceSpreadsWrong : ChangeSpec := { name := "laceSpreads", fn := fun _ => fun
  | [d1, d2, d3] => { results := [.lit (.bool false)], args := [d1, d2, d3] }
  | _ => none }
def LaceSpreadsWrongFalsely : Prop := laceSpreadsRow.holds Tryd.pinned (OpenSpec.ofChange laceSpreadsWrong)

/-- 'burnishlaw15.LaceOnce': WHATEVER THE INPUT: true; the input reads as it did. -/
def laceOnceSpec : ChangeSpec := { name := "laceOnce", fn := fun _ => fun
  | [d1, d2] => { results := [.lit (.bool true)], args := [d1, d2] }
  | _ => none }
def laceOnceRow : OpenClaim := { program := "ytfdnjblbhbkndaadoor", sum := "9f600c0a15c53a318995d9e6aa1e3f144b3ebfaaa209bf38f1ea03f4675ae737", func := "burnish/burnishlaw15.LaceOnce", spec := "laceOnce", unfollowed := true, recurses := true, named := ["burnish/lace.passes"], apart := false, laid := [("burnish/lace.passes", laid_burnish_lace_passes)] }
def LaceOnceSaid : Prop := laceOnceRow.holds Tryd.pinned (OpenSpec.ofChange laceOnceSpec)

/-- ITS FALSE NEIGHBOUR: 'it returns false'. Refute it at one input. -/
def laceOnceWrong : ChangeSpec := { name := "laceOnce", fn := fun _ => fun
  | [d1, d2] => { results := [.lit (.bool false)], args := [d1, d2] }
  | _ => none }
def LaceOnceWrongFalsely : Prop := laceOnceRow.holds Tryd.pinned (OpenSpec.ofChange laceOnceWrong)

/- THE SECOND FORM. 'bulk': how many values and letters a reading holds, each counted each time it is reached (what is shared counts as often as it is met; a slice's spare places count too). A statement '..UptoSaid' is the law's where the arguments, and the package variables that the reading takes, are together of bulk at most 1048576: NARROWER than '..Said'. Prove '..Said' where nothing that the law and all that it calls make is longer than what came in: it says more and counts as full. Else prove '..UptoSaid'. A law counts once. -/
mutual
def uptoBulk {H : Type} : DataW H → Nat
  | .lit (.string bytes) => bytes.length + 1
  | .lit _ => 1
  | .nil => 1
  | .ptr d => uptoBulk d + 1
  | .slice elems spare => uptoBulkAll elems + uptoBulkAll spare + 1
  | .agg parts => uptoBulkAll parts + 1
  | .iface _ d => uptoBulk d + 1
  | .map entries => uptoBulkEntries entries + 1
  | .held _ => 1
def uptoBulkAll {H : Type} : List (DataW H) → Nat
  | [] => 0
  | d :: r => uptoBulk d + uptoBulkAll r
def uptoBulkEntries {H : Type} : List (Lit × DataW H) → Nat
  | [] => 0
  | x :: r => uptoBulkEntry x + uptoBulkEntries r
def uptoBulkEntry {H : Type} : Lit × DataW H → Nat
  | (.string bytes, d) => bytes.length + uptoBulk d + 1
  | (_, d) => uptoBulk d + 1
 end
def uptoSmall : (H : Type) → List (DataW H) → Bool := fun _ ds => decide (uptoBulkAll ds ≤ 1048576)
def OpenSpec.upto (s : _root_.Go.ChangeSpec) : _root_.Go.OpenSpec := { _root_.Go.OpenSpec.ofChange s with cond := some uptoSmall }

/-- 'burnishlaw15.LaceAll', WHERE WHAT IT READS IS OF BULK AT MOST 1048576: true; the input reads as it did. -/
def laceAllUptoRow : OpenClaim := { program := "ytfdnjblbhbkndaadoor", sum := "9f600c0a15c53a318995d9e6aa1e3f144b3ebfaaa209bf38f1ea03f4675ae737", func := "burnish/burnishlaw15.LaceAll", spec := "laceAll", unfollowed := true, recurses := true, named := ["burnish/lace.passes"], apart := false, laid := [("burnish/lace.passes", laid_burnish_lace_passes)], narrowed := true }
def LaceAllUptoSaid : Prop := laceAllUptoRow.holds Tryd.pinned (OpenSpec.upto laceAllSpec)

/-- 'burnishlaw15.LaceSpreads', WHERE WHAT IT READS IS OF BULK AT MOST 1048576: true; the input reads as it did. -/
def laceSpreadsUptoRow : OpenClaim := { program := "ytfdnjblbhbkndaadoor", sum := "9f600c0a15c53a318995d9e6aa1e3f144b3ebfaaa209bf38f1ea03f4675ae737", func := "burnish/burnishlaw15.LaceSpreads", spec := "laceSpreads", unfollowed := true, recurses := true, named := ["burnish/lace.passes"], apart := false, laid := [("burnish/lace.passes", laid_burnish_lace_passes)], narrowed := true }
def LaceSpreadsUptoSaid : Prop := laceSpreadsUptoRow.holds Tryd.pinned (OpenSpec.upto laceSpreadsSpec)

/-- 'burnishlaw15.LaceOnce', WHERE WHAT IT READS IS OF BULK AT MOST 1048576: true; the input reads as it did. -/
def laceOnceUptoRow : OpenClaim := { program := "ytfdnjblbhbkndaadoor", sum := "9f600c0a15c53a318995d9e6aa1e3f144b3ebfaaa209bf38f1ea03f4675ae737", func := "burnish/burnishlaw15.LaceOnce", spec := "laceOnce", unfollowed := true, recurses := true, named := ["burnish/lace.passes"], apart := false, laid := [("burnish/lace.passes", laid_burnish_lace_passes)], narrowed := true }
def LaceOnceUptoSaid : Prop := laceOnceUptoRow.holds Tryd.pinned (OpenSpec.upto laceOnceSpec)

end Rows
end Go.Proofs.YtfdnjblbhbkndaaDoor
