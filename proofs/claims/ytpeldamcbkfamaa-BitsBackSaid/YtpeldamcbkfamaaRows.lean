/-
  No cell of these rows narrows 'for every input' (looked for: loops, veiled, ifaces, maps, wideKeys, modest, calm, conditions, laid).
  DERIVED. THE GIVEN ROWS OF THIS SEAT. 6 by the template 'for every input the law returns true; each argument reads behind the call as it read before'; 0 by the template 'total and deterministic' (their statements: YtpeldamcbkfamaaTotals.lean).
  GIVEN WITH THE SEED: the statements are not yours to turn. If you find one false, say at which input.
  Laid BY PROGRAM, IN A SANDBOX (cutbox-rows.mjs): the forced cells as the released guide's own fill.sh prints them over the translation f9b30c79c3c25af6… (all of the seat's roots in one cut). By AI agents, Wed Nov 11 2026. No macro, syntax, notation, axiom, sorry.
-/
import Derived.Test.YtpeldamcbkfamaaChecked
import GoSem.Claim
import GoSem.ClaimJoined
import GoSem.ClaimMapViews
import Derived.JoinedTies
import Derived.KernelRfl
namespace Go.Proofs.Ytpeldamcbkfamaa
/- THE CELL 'sum', in the pinned program and in every row, IS THE sha256 OF THE DUMP (.gsa) THAT YtpeldamcbkfamaaProg.lean LOADS. Nothing in Lean hashes anything: it is a label: what it is worth is what the hold of that sum in a sandbox is worth. -/
noncomputable def Try.pinned : Pinned := { name := "ytpeldamcbkfamaa", sum := "f9b30c79c3c25af66a2bd71ec34c2677cf913f2fa96d79b81f1b82ed64a6ebe1", checked := Try.checked }
namespace Rows
def none {H : Type} : Left H := { results := [], args := [] }

/-- 'burnishlaw03.BitsWrites': WHATEVER THE INPUT: true; the input reads as it did. -/
def bitsWritesSpec : ChangeSpec := { name := "bitsWrites", fn := fun _ => fun
  | [d1, d2] => { results := [.lit (.bool true)], args := [d1, d2] }
  | _ => none }
def bitsWritesRow : OpenClaim := { program := "ytpeldamcbkfamaa", sum := "f9b30c79c3c25af66a2bd71ec34c2677cf913f2fa96d79b81f1b82ed64a6ebe1", func := "burnish/burnishlaw03.BitsWrites", spec := "bitsWrites", apart := false }
def BitsWritesSaid : Prop := bitsWritesRow.holds Try.pinned (OpenSpec.ofChange bitsWritesSpec)

/-- ITS FALSE NEIGHBOUR: 'it returns false'. Refute it at one input. -/
def bitsWritesWrong : ChangeSpec := { name := "bitsWrites", fn := fun _ => fun
  | [d1, d2] => { results := [.lit (.bool false)], args := [d1, d2] }
  | _ => none }
def BitsWritesWrongFalsely : Prop := bitsWritesRow.holds Try.pinned (OpenSpec.ofChange bitsWritesWrong)

/-- 'burnishlaw03.BitsReads': WHATEVER THE INPUT: true; the input reads as it did. -/
def bitsReadsSpec : ChangeSpec := { name := "bitsReads", fn := fun _ => fun
  | [d1, d2, d3] => { results := [.lit (.bool true)], args := [d1, d2, d3] }
  | _ => none }
def bitsReadsRow : OpenClaim := { program := "ytpeldamcbkfamaa", sum := "f9b30c79c3c25af66a2bd71ec34c2677cf913f2fa96d79b81f1b82ed64a6ebe1", func := "burnish/burnishlaw03.BitsReads", spec := "bitsReads", apart := false }
def BitsReadsSaid : Prop := bitsReadsRow.holds Try.pinned (OpenSpec.ofChange bitsReadsSpec)

/-- ITS FALSE NEIGHBOUR: 'it returns false'. Refute it at one input. -/
def bitsReadsWrong : ChangeSpec := { name := "bitsReads", fn := fun _ => fun
  | [d1, d2, d3] => { results := [.lit (.bool false)], args := [d1, d2, d3] }
  | _ => none }
def BitsReadsWrongFalsely : Prop := bitsReadsRow.holds Try.pinned (OpenSpec.ofChange bitsReadsWrong)

/-- 'burnishlaw03.BitsBack': WHATEVER THE INPUT: true; the input reads as it did. -/
def bitsBackSpec : ChangeSpec := { name := "bitsBack", fn := fun _ => fun
  | [d1, d2] => { results := [.lit (.bool true)], args := [d1, d2] }
  | _ => none }
def bitsBackRow : OpenClaim := { program := "ytpeldamcbkfamaa", sum := "f9b30c79c3c25af66a2bd71ec34c2677cf913f2fa96d79b81f1b82ed64a6ebe1", func := "burnish/burnishlaw03.BitsBack", spec := "bitsBack", apart := false }
def BitsBackSaid : Prop := bitsBackRow.holds Try.pinned (OpenSpec.ofChange bitsBackSpec)

/-- ITS FALSE NEIGHBOUR: 'it returns false'. Refute it at one input. -/
def bitsBackWrong : ChangeSpec := { name := "bitsBack", fn := fun _ => fun
  | [d1, d2] => { results := [.lit (.bool false)], args := [d1, d2] }
  | _ => none }
def BitsBackWrongFalsely : Prop := bitsBackRow.holds Try.pinned (OpenSpec.ofChange bitsBackWrong)

/-- 'burnishlaw03.BitsStuffs': WHATEVER THE INPUT: true; the input reads as it did. -/
def bitsStuffsSpec : ChangeSpec := { name := "bitsStuffs", fn := fun _ => fun
  | [d] => { results := [.lit (.bool true)], args := [d] }
  | _ => none }
def bitsStuffsRow : OpenClaim := { program := "ytpeldamcbkfamaa", sum := "f9b30c79c3c25af66a2bd71ec34c2677cf913f2fa96d79b81f1b82ed64a6ebe1", func := "burnish/burnishlaw03.BitsStuffs", spec := "bitsStuffs", apart := false }
def BitsStuffsSaid : Prop := bitsStuffsRow.holds Try.pinned (OpenSpec.ofChange bitsStuffsSpec)

/-- ITS FALSE NEIGHBOUR: 'it returns false'. Refute it at one input. -/
def bitsStuffsWrong : ChangeSpec := { name := "bitsStuffs", fn := fun _ => fun
  | [d] => { results := [.lit (.bool false)], args := [d] }
  | _ => none }
def BitsStuffsWrongFalsely : Prop := bitsStuffsRow.holds Try.pinned (OpenSpec.ofChange bitsStuffsWrong)

/-- 'burnishlaw03.BitsUnstuffs': WHATEVER THE INPUT: true; the input reads as it did. -/
def bitsUnstuffsSpec : ChangeSpec := { name := "bitsUnstuffs", fn := fun _ => fun
  | [d1, d2] => { results := [.lit (.bool true)], args := [d1, d2] }
  | _ => none }
def bitsUnstuffsRow : OpenClaim := { program := "ytpeldamcbkfamaa", sum := "f9b30c79c3c25af66a2bd71ec34c2677cf913f2fa96d79b81f1b82ed64a6ebe1", func := "burnish/burnishlaw03.BitsUnstuffs", spec := "bitsUnstuffs", apart := false }
def BitsUnstuffsSaid : Prop := bitsUnstuffsRow.holds Try.pinned (OpenSpec.ofChange bitsUnstuffsSpec)

/-- ITS FALSE NEIGHBOUR: 'it returns false'. Refute it at one input. -/
def bitsUnstuffsWrong : ChangeSpec := { name := "bitsUnstuffs", fn := fun _ => fun
  | [d1, d2] => { results := [.lit (.bool false)], args := [d1, d2] }
  | _ => none }
def BitsUnstuffsWrongFalsely : Prop := bitsUnstuffsRow.holds Try.pinned (OpenSpec.ofChange bitsUnstuffsWrong)

/-- 'burnishlaw03.BitsNone': WHATEVER THE INPUT: true; the input reads as it did. -/
def bitsNoneSpec : ChangeSpec := { name := "bitsNone", fn := fun _ => fun
  | [d1, d2] => { results := [.lit (.bool true)], args := [d1, d2] }
  | _ => none }
def bitsNoneRow : OpenClaim := { program := "ytpeldamcbkfamaa", sum := "f9b30c79c3c25af66a2bd71ec34c2677cf913f2fa96d79b81f1b82ed64a6ebe1", func := "burnish/burnishlaw03.BitsNone", spec := "bitsNone", apart := false }
def BitsNoneSaid : Prop := bitsNoneRow.holds Try.pinned (OpenSpec.ofChange bitsNoneSpec)

/-- ITS FALSE NEIGHBOUR: 'it returns false'. Refute it at one input. -/
def bitsNoneWrong : ChangeSpec := { name := "bitsNone", fn := fun _ => fun
  | [d1, d2] => { results := [.lit (.bool false)], args := [d1, d2] }
  | _ => none }
def BitsNoneWrongFalsely : Prop := bitsNoneRow.holds Try.pinned (OpenSpec.ofChange bitsNoneWrong)

/- THE SECOND FORM. 'bulk': how many values and letters a reading holds, each counted each time it is reached (what is shared counts as often as it is met; a slice's spare places count too). A statement '..UptoSaid' is the law's where the arguments, and the package variables that the reading takes, are together of bulk at most 1048576: NARROWER than '..Said'. Prove '..Said' where nothing that the law and all that it calls make is longer than what came in: it says more and counts as full. Else prove '..UptoSaid'. A law counts once. -/
mutual
def uptoBulk {H : Type} : DataW H → Nat
  | .lit (.string bytes) => bytes.length + 1
  | .lit _ => 1
  | .nil => 1
  | .ptr d => uptoBulk d + 1
  | .slice elems spare => uptoBulkAll elems + uptoBulkAll spare + 1
  | .agg parts => uptoBulkAll parts + 1
  | .iface _ d => uptoBulk d + 1
  | .map entries => uptoBulkEntries entries + 1
  | .held _ => 1
def uptoBulkAll {H : Type} : List (DataW H) → Nat
  | [] => 0
  | d :: r => uptoBulk d + uptoBulkAll r
def uptoBulkEntries {H : Type} : List (Lit × DataW H) → Nat
  | [] => 0
  | x :: r => uptoBulkEntry x + uptoBulkEntries r
def uptoBulkEntry {H : Type} : Lit × DataW H → Nat
  | (.string bytes, d) => bytes.length + uptoBulk d + 1
  | (_, d) => uptoBulk d + 1
 end
def uptoSmall : (H : Type) → List (DataW H) → Bool := fun _ ds => decide (uptoBulkAll ds ≤ 1048576)
def OpenSpec.upto (s : _root_.Go.ChangeSpec) : _root_.Go.OpenSpec := { _root_.Go.OpenSpec.ofChange s with cond := some uptoSmall }

/-- 'burnishlaw03.BitsWrites', WHERE WHAT IT READS IS OF BULK AT MOST 1048576: true; the input reads as it did. -/
def bitsWritesUptoRow : OpenClaim := { program := "ytpeldamcbkfamaa", sum := "f9b30c79c3c25af66a2bd71ec34c2677cf913f2fa96d79b81f1b82ed64a6ebe1", func := "burnish/burnishlaw03.BitsWrites", spec := "bitsWrites", apart := false, narrowed := true }
def BitsWritesUptoSaid : Prop := bitsWritesUptoRow.holds Try.pinned (OpenSpec.upto bitsWritesSpec)

/-- 'burnishlaw03.BitsReads', WHERE WHAT IT READS IS OF BULK AT MOST 1048576: true; the input reads as it did. -/
def bitsReadsUptoRow : OpenClaim := { program := "ytpeldamcbkfamaa", sum := "f9b30c79c3c25af66a2bd71ec34c2677cf913f2fa96d79b81f1b82ed64a6ebe1", func := "burnish/burnishlaw03.BitsReads", spec := "bitsReads", apart := false, narrowed := true }
def BitsReadsUptoSaid : Prop := bitsReadsUptoRow.holds Try.pinned (OpenSpec.upto bitsReadsSpec)

/-- 'burnishlaw03.BitsBack', WHERE WHAT IT READS IS OF BULK AT MOST 1048576: true; the input reads as it did. -/
def bitsBackUptoRow : OpenClaim := { program := "ytpeldamcbkfamaa", sum := "f9b30c79c3c25af66a2bd71ec34c2677cf913f2fa96d79b81f1b82ed64a6ebe1", func := "burnish/burnishlaw03.BitsBack", spec := "bitsBack", apart := false, narrowed := true }
def BitsBackUptoSaid : Prop := bitsBackUptoRow.holds Try.pinned (OpenSpec.upto bitsBackSpec)

/-- 'burnishlaw03.BitsStuffs', WHERE WHAT IT READS IS OF BULK AT MOST 1048576: true; the input reads as it did. -/
def bitsStuffsUptoRow : OpenClaim := { program := "ytpeldamcbkfamaa", sum := "f9b30c79c3c25af66a2bd71ec34c2677cf913f2fa96d79b81f1b82ed64a6ebe1", func := "burnish/burnishlaw03.BitsStuffs", spec := "bitsStuffs", apart := false, narrowed := true }
def BitsStuffsUptoSaid : Prop := bitsStuffsUptoRow.holds Try.pinned (OpenSpec.upto bitsStuffsSpec)

/-- 'burnishlaw03.BitsUnstuffs', WHERE WHAT IT READS IS OF BULK AT MOST 1048576: true; the input reads as it did. -/
def bitsUnstuffsUptoRow : OpenClaim := { program := "ytpeldamcbkfamaa", sum := "f9b30c79c3c25af66a2bd71ec34c2677cf913f2fa96d79b81f1b82ed64a6ebe1", func := "burnish/burnishlaw03.BitsUnstuffs", spec := "bitsUnstuffs", apart := false, narrowed := true }
def BitsUnstuffsUptoSaid : Prop := bitsUnstuffsUptoRow.holds Try.pinned (OpenSpec.upto bitsUnstuffsSpec)

/-- 'burnishlaw03.BitsNone', WHERE WHAT IT READS IS OF BULK AT MOST 1048576: true; the input reads as it did. -/
def bitsNoneUptoRow : OpenClaim := { program := "ytpeldamcbkfamaa", sum := "f9b30c79c3c25af66a2bd71ec34c2677cf913f2fa96d79b81f1b82ed64a6ebe1", func := "burnish/burnishlaw03.BitsNone", spec := "bitsNone", apart := false, narrowed := true }
def BitsNoneUptoSaid : Prop := bitsNoneUptoRow.holds Try.pinned (OpenSpec.upto bitsNoneSpec)

end Rows
end Go.Proofs.Ytpeldamcbkfamaa
