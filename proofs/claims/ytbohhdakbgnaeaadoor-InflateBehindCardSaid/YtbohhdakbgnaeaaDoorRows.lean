/-
  NARROWER THAN 'FOR EVERY INPUT', by the rows' own cells (each row's printed sentence says how): InflateBehind: laid · InflateStored: laid · ZlibUnwraps: laid · ZlibBack: laid.
  DERIVED. THE GIVEN ROWS OF THIS SEAT. 4 by the template 'for every input the law returns true; each argument reads behind the call as it read before'; 0 by the template 'total and deterministic' (their statements: YtbohhdakbgnaeaaDoorTotals.lean).
  GIVEN WITH THE SEED: the statements are not yours to turn. If you find one false, say at which input.
  Laid BY PROGRAM, IN A SANDBOX (cutbox-rows.mjs): the forced cells as the released guide's own fill.sh prints them over the translation fa2b6328beec08cf… (all of the seat's roots in one cut). By AI agents, Wed Nov 11 2026. No macro, syntax, notation, axiom, sorry.
-/
import Derived.Test.YtbohhdakbgnaeaaDoorChecked
import GoSem.Claim
import GoSem.ClaimJoined
import GoSem.ClaimMapViews
import Derived.JoinedTies
import Derived.KernelRfl
namespace Go.Proofs.YtbohhdakbgnaeaaDoor
/- THE CELL 'sum', in the pinned program and in every row, IS THE sha256 OF THE DUMP (.gsa) THAT YtbohhdakbgnaeaaDoorProg.lean LOADS. Nothing in Lean hashes anything: it is a label: what it is worth is what the hold of that sum in a sandbox is worth. -/
noncomputable def Tryd.pinned : Pinned := { name := "ytbohhdakbgnaeaadoor", sum := "fa2b6328beec08cf930a1069c620bb29869984e94e45fa1e70cd5b073bc7608c", checked := Tryd.checked }
namespace Rows
def none {H : Type} : Left H := { results := [], args := [] }

/- WHAT THE LISTED PACKAGE-LEVEL VARIABLES READ AS WHEN THE CALL BEGINS. Each datum BY PROGRAM (the guide's laid-datum.mjs) off the statement by which the dump's own 'gosem.cut.vars' lays the variable. In a bare row this is a premise. The card (YtbohhdakbgnaeaaDoorCards.lean) ties it to the program's text. -/
def laid_burnish_inflate_lengthOrder {H : Type} : DataW H := .agg [.lit (.int .i64 16), .lit (.int .i64 17), .lit (.int .i64 18), .lit (.int .i64 0), .lit (.int .i64 8), .lit (.int .i64 7), .lit (.int .i64 9), .lit (.int .i64 6), .lit (.int .i64 10), .lit (.int .i64 5), .lit (.int .i64 11), .lit (.int .i64 4), .lit (.int .i64 12), .lit (.int .i64 3), .lit (.int .i64 13), .lit (.int .i64 2), .lit (.int .i64 14), .lit (.int .i64 1), .lit (.int .i64 15)]

/-- 'burnishlaw06.InflateBehind': WHATEVER THE INPUT: true; the input reads as it did. -/
def inflateBehindSpec : ChangeSpec := { name := "inflateBehind", fn := fun _ => fun
  | [d1, d2, d3] => { results := [.lit (.bool true)], args := [d1, d2, d3] }
  | _ => none }
def inflateBehindRow : OpenClaim := { program := "ytbohhdakbgnaeaadoor", sum := "fa2b6328beec08cf930a1069c620bb29869984e94e45fa1e70cd5b073bc7608c", func := "burnish/burnishlaw06.InflateBehind", spec := "inflateBehind", unfollowed := true, recurses := true, named := ["burnish/inflate.lengthOrder"], apart := false, laid := [("burnish/inflate.lengthOrder", laid_burnish_inflate_lengthOrder)] }
def InflateBehindSaid : Prop := inflateBehindRow.holds Tryd.pinned (OpenSpec.ofChange inflateBehindSpec)

/-- ITS FALSE NEIGHBOUR: 'it returns false'. Refute it at one input. -/
def inflateBehindWrong : ChangeSpec := { name := "inflateBehind", fn := fun _ => fun
  | [d1, d2, d3] => { results := [.lit (.bool false)], args := [d1, d2, d3] }
  | _ => none }
def InflateBehindWrongFalsely : Prop := inflateBehindRow.holds Tryd.pinned (OpenSpec.ofChange inflateBehindWrong)

/-- 'burnishlaw06.InflateStored': WHATEVER THE INPUT: true; the input reads as it did. -/
def inflateStoredSpec : ChangeSpec := { name := "inflateStored", fn := fun _ => fun
  | [d1, d2] => { results := [.lit (.bool true)], args := [d1, d2] }
  | _ => none }
def inflateStoredRow : OpenClaim := { program := "ytbohhdakbgnaeaadoor", sum := "fa2b6328beec08cf930a1069c620bb29869984e94e45fa1e70cd5b073bc7608c", func := "burnish/burnishlaw06.InflateStored", spec := "inflateStored", unfollowed := true, recurses := true, named := ["burnish/inflate.lengthOrder"], apart := false, laid := [("burnish/inflate.lengthOrder", laid_burnish_inflate_lengthOrder)] }
def InflateStoredSaid : Prop := inflateStoredRow.holds Tryd.pinned (OpenSpec.ofChange inflateStoredSpec)

/-- ITS FALSE NEIGHBOUR: 'it returns false'. Refute it at one input. -/
def inflateStoredWrong : ChangeSpec := { name := "inflateStored", fn := fun _ => fun
  | [d1, d2] => { results := [.lit (.bool false)], args := [d1, d2] }
  | _ => none }
def InflateStoredWrongFalsely : Prop := inflateStoredRow.holds Tryd.pinned (OpenSpec.ofChange inflateStoredWrong)

/-- 'burnishlaw07.ZlibUnwraps': WHATEVER THE INPUT: true; the input reads as it did. -/
def zlibUnwrapsSpec : ChangeSpec := { name := "zlibUnwraps", fn := fun _ => fun
  | [d1, d2] => { results := [.lit (.bool true)], args := [d1, d2] }
  | _ => none }
def zlibUnwrapsRow : OpenClaim := { program := "ytbohhdakbgnaeaadoor", sum := "fa2b6328beec08cf930a1069c620bb29869984e94e45fa1e70cd5b073bc7608c", func := "burnish/burnishlaw07.ZlibUnwraps", spec := "zlibUnwraps", unfollowed := true, recurses := true, named := ["burnish/inflate.lengthOrder"], apart := false, laid := [("burnish/inflate.lengthOrder", laid_burnish_inflate_lengthOrder)] }
def ZlibUnwrapsSaid : Prop := zlibUnwrapsRow.holds Tryd.pinned (OpenSpec.ofChange zlibUnwrapsSpec)

/-- ITS FALSE NEIGHBOUR: 'it returns false'. Refute it at one input. -/
def zlibUnwrapsWrong : ChangeSpec := { name := "zlibUnwraps", fn := fun _ => fun
  | [d1, d2] => { results := [.lit (.bool false)], args := [d1, d2] }
  | _ => none }
def ZlibUnwrapsWrongFalsely : Prop := zlibUnwrapsRow.holds Tryd.pinned (OpenSpec.ofChange zlibUnwrapsWrong)

/-- 'burnishlaw07.ZlibBack': WHATEVER THE INPUT: true; the input reads as it did. -/
def zlibBackSpec : ChangeSpec := { name := "zlibBack", fn := fun _ => fun
  | [d1, d2, d3] => { results := [.lit (.bool true)], args := [d1, d2, d3] }
  | _ => none }
def zlibBackRow : OpenClaim := { program := "ytbohhdakbgnaeaadoor", sum := "fa2b6328beec08cf930a1069c620bb29869984e94e45fa1e70cd5b073bc7608c", func := "burnish/burnishlaw07.ZlibBack", spec := "zlibBack", unfollowed := true, recurses := true, named := ["burnish/inflate.lengthOrder"], apart := false, laid := [("burnish/inflate.lengthOrder", laid_burnish_inflate_lengthOrder)] }
def ZlibBackSaid : Prop := zlibBackRow.holds Tryd.pinned (OpenSpec.ofChange zlibBackSpec)

/-- ITS FALSE NEIGHBOUR: 'it returns false'. Refute it at one input. -/
def zlibBackWrong : ChangeSpec := { name := "zlibBack", fn := fun _ => fun
  | [d1, d2, d3] => { results := [.lit (.bool false)], args := [d1, d2, d3] }
  | _ => none }
def ZlibBackWrongFalsely : Prop := zlibBackRow.holds Tryd.pinned (OpenSpec.ofChange zlibBackWrong)

/- THE SECOND FORM. 'bulk': how many values and letters a reading holds, each counted each time it is reached (what is shared counts as often as it is met; a slice's spare places count too). A statement '..UptoSaid' is the law's where the arguments, and the package variables that the reading takes, are together of bulk at most 1048576: NARROWER than '..Said'. Prove '..Said' where nothing that the law and all that it calls make is longer than what came in: it says more and counts as full. Else prove '..UptoSaid'. A law counts once. -/
mutual
def uptoBulk {H : Type} : DataW H → Nat
  | .lit (.string bytes) => bytes.length + 1
  | .lit _ => 1
  | .nil => 1
  | .ptr d => uptoBulk d + 1
  | .slice elems spare => uptoBulkAll elems + uptoBulkAll spare + 1
  | .agg parts => uptoBulkAll parts + 1
  | .iface _ d => uptoBulk d + 1
  | .map entries => uptoBulkEntries entries + 1
  | .held _ => 1
def uptoBulkAll {H : Type} : List (DataW H) → Nat
  | [] => 0
  | d :: r => uptoBulk d + uptoBulkAll r
def uptoBulkEntries {H : Type} : List (Lit × DataW H) → Nat
  | [] => 0
  | x :: r => uptoBulkEntry x + uptoBulkEntries r
def uptoBulkEntry {H : Type} : Lit × DataW H → Nat
  | (.string bytes, d) => bytes.length + uptoBulk d + 1
  | (_, d) => uptoBulk d + 1
 end
def uptoSmall : (H : Type) → List (DataW H) → Bool := fun _ ds => decide (uptoBulkAll ds ≤ 1048576)
def OpenSpec.upto (s : _root_.Go.ChangeSpec) : _root_.Go.OpenSpec := { _root_.Go.OpenSpec.ofChange s with cond := some uptoSmall }

/-- 'burnishlaw06.InflateBehind', WHERE WHAT IT READS IS OF BULK AT MOST 1048576: true; the input reads as it did. -/
def inflateBehindUptoRow : OpenClaim := { program := "ytbohhdakbgnaeaadoor", sum := "fa2b6328beec08cf930a1069c620bb29869984e94e45fa1e70cd5b073bc7608c", func := "burnish/burnishlaw06.InflateBehind", spec := "inflateBehind", unfollowed := true, recurses := true, named := ["burnish/inflate.lengthOrder"], apart := false, laid := [("burnish/inflate.lengthOrder", laid_burnish_inflate_lengthOrder)], narrowed := true }
def InflateBehindUptoSaid : Prop := inflateBehindUptoRow.holds Tryd.pinned (OpenSpec.upto inflateBehindSpec)

/-- 'burnishlaw06.InflateStored', WHERE WHAT IT READS IS OF BULK AT MOST 1048576: true; the input reads as it did. -/
def inflateStoredUptoRow : OpenClaim := { program := "ytbohhdakbgnaeaadoor", sum := "fa2b6328beec08cf930a1069c620bb29869984e94e45fa1e70cd5b073bc7608c", func := "burnish/burnishlaw06.InflateStored", spec := "inflateStored", unfollowed := true, recurses := true, named := ["burnish/inflate.lengthOrder"], apart := false, laid := [("burnish/inflate.lengthOrder", laid_burnish_inflate_lengthOrder)], narrowed := true }
def InflateStoredUptoSaid : Prop := inflateStoredUptoRow.holds Tryd.pinned (OpenSpec.upto inflateStoredSpec)

/-- 'burnishlaw07.ZlibUnwraps', WHERE WHAT IT READS IS OF BULK AT MOST 1048576: true; the input reads as it did. -/
def zlibUnwrapsUptoRow : OpenClaim := { program := "ytbohhdakbgnaeaadoor", sum := "fa2b6328beec08cf930a1069c620bb29869984e94e45fa1e70cd5b073bc7608c", func := "burnish/burnishlaw07.ZlibUnwraps", spec := "zlibUnwraps", unfollowed := true, recurses := true, named := ["burnish/inflate.lengthOrder"], apart := false, laid := [("burnish/inflate.lengthOrder", laid_burnish_inflate_lengthOrder)], narrowed := true }
def ZlibUnwrapsUptoSaid : Prop := zlibUnwrapsUptoRow.holds Tryd.pinned (OpenSpec.upto zlibUnwrapsSpec)

/-- 'burnishlaw07.ZlibBack', WHERE WHAT IT READS IS OF BULK AT MOST 1048576: true; the input reads as it did. -/
def zlibBackUptoRow : OpenClaim := { program := "ytbohhdakbgnaeaadoor", sum := "fa2b6328beec08cf930a1069c620bb29869984e94e45fa1e70cd5b073bc7608c", func := "burnish/burnishlaw07.ZlibBack", spec := "zlibBack", unfollowed := true, recurses := true, named := ["burnish/inflate.lengthOrder"], apart := false, laid := [("burnish/inflate.lengthOrder", laid_burnish_inflate_lengthOrder)], narrowed := true }
def ZlibBackUptoSaid : Prop := zlibBackUptoRow.holds Tryd.pinned (OpenSpec.upto zlibBackSpec)

end Rows
end Go.Proofs.YtbohhdakbgnaeaaDoor
