/-
  No cell of these rows narrows 'for every input' (looked for: loops, veiled, ifaces, maps, wideKeys, modest, calm, conditions, laid).
  DERIVED. THE GIVEN ROWS OF THIS SEAT. 5 by the template 'for every input the law returns true; each argument reads behind the call as it read before'; 0 by the template 'total and deterministic' (their statements: YtkjdekaipphlpaaTotals.lean).
  GIVEN WITH THE SEED: the statements are not yours to turn. If you find one false, say at which input.
  Laid BY PROGRAM, IN A SANDBOX (cutbox-rows.mjs): the forced cells as the released guide's own fill.sh prints them over the translation 8b4c8ab2599dfd4f… (all of the seat's roots in one cut). By AI agents, Wed Nov 11 2026. No macro, syntax, notation, axiom, sorry.
-/
import Derived.Test.YtkjdekaipphlpaaChecked
import GoSem.Claim
import GoSem.ClaimJoined
import GoSem.ClaimMapViews
import Derived.JoinedTies
import Derived.KernelRfl
namespace Go.Proofs.Ytkjdekaipphlpaa
/- THE CELL 'sum', in the pinned program and in every row, IS THE sha256 OF THE DUMP (.gsa) THAT YtkjdekaipphlpaaProg.lean LOADS. Nothing in Lean hashes anything: it is a label: what it is worth is what the hold of that sum in a sandbox is worth. -/
noncomputable def Try.pinned : Pinned := { name := "ytkjdekaipphlpaa", sum := "8b4c8ab2599dfd4f4e4a5a09d875ad7548f25b0682c5d54ca13fbaa8c7d29a3d", checked := Try.checked }
namespace Rows
def none {H : Type} : Left H := { results := [], args := [] }

/-- 'burnishlaw16.SamplePacks': WHATEVER THE INPUT: true; the input reads as it did. -/
def samplePacksSpec : ChangeSpec := { name := "samplePacks", fn := fun _ => fun
  | [d1, d2] => { results := [.lit (.bool true)], args := [d1, d2] }
  | _ => none }
def samplePacksRow : OpenClaim := { program := "ytkjdekaipphlpaa", sum := "8b4c8ab2599dfd4f4e4a5a09d875ad7548f25b0682c5d54ca13fbaa8c7d29a3d", func := "burnish/burnishlaw16.SamplePacks", spec := "samplePacks", apart := false }
def SamplePacksSaid : Prop := samplePacksRow.holds Try.pinned (OpenSpec.ofChange samplePacksSpec)

/-- ITS FALSE NEIGHBOUR: 'it returns false'. Refute it at one input. -/
def samplePacksWrong : ChangeSpec := { name := "samplePacks", fn := fun _ => fun
  | [d1, d2] => { results := [.lit (.bool false)], args := [d1, d2] }
  | _ => none }
def SamplePacksWrongFalsely : Prop := samplePacksRow.holds Try.pinned (OpenSpec.ofChange samplePacksWrong)

/-- 'burnishlaw16.SampleUnpacks': WHATEVER THE INPUT: true; the input reads as it did. -/
def sampleUnpacksSpec : ChangeSpec := { name := "sampleUnpacks", fn := fun _ => fun
  | [d1, d2, d3] => { results := [.lit (.bool true)], args := [d1, d2, d3] }
  | _ => none }
def sampleUnpacksRow : OpenClaim := { program := "ytkjdekaipphlpaa", sum := "8b4c8ab2599dfd4f4e4a5a09d875ad7548f25b0682c5d54ca13fbaa8c7d29a3d", func := "burnish/burnishlaw16.SampleUnpacks", spec := "sampleUnpacks", apart := false }
def SampleUnpacksSaid : Prop := sampleUnpacksRow.holds Try.pinned (OpenSpec.ofChange sampleUnpacksSpec)

/-- ITS FALSE NEIGHBOUR: 'it returns false'. Refute it at one input. -/
def sampleUnpacksWrong : ChangeSpec := { name := "sampleUnpacks", fn := fun _ => fun
  | [d1, d2, d3] => { results := [.lit (.bool false)], args := [d1, d2, d3] }
  | _ => none }
def SampleUnpacksWrongFalsely : Prop := sampleUnpacksRow.holds Try.pinned (OpenSpec.ofChange sampleUnpacksWrong)

/-- 'burnishlaw16.SampleBack': WHATEVER THE INPUT: true; the input reads as it did. -/
def sampleBackSpec : ChangeSpec := { name := "sampleBack", fn := fun _ => fun
  | [d1, d2, d3] => { results := [.lit (.bool true)], args := [d1, d2, d3] }
  | _ => none }
def sampleBackRow : OpenClaim := { program := "ytkjdekaipphlpaa", sum := "8b4c8ab2599dfd4f4e4a5a09d875ad7548f25b0682c5d54ca13fbaa8c7d29a3d", func := "burnish/burnishlaw16.SampleBack", spec := "sampleBack", apart := false }
def SampleBackSaid : Prop := sampleBackRow.holds Try.pinned (OpenSpec.ofChange sampleBackSpec)

/-- ITS FALSE NEIGHBOUR: 'it returns false'. Refute it at one input. -/
def sampleBackWrong : ChangeSpec := { name := "sampleBack", fn := fun _ => fun
  | [d1, d2, d3] => { results := [.lit (.bool false)], args := [d1, d2, d3] }
  | _ => none }
def SampleBackWrongFalsely : Prop := sampleBackRow.holds Try.pinned (OpenSpec.ofChange sampleBackWrong)

/-- 'burnishlaw16.SampleWidens': WHATEVER THE INPUT: true; the input reads as it did. -/
def sampleWidensSpec : ChangeSpec := { name := "sampleWidens", fn := fun _ => fun
  | [d1, d2] => { results := [.lit (.bool true)], args := [d1, d2] }
  | _ => none }
def sampleWidensRow : OpenClaim := { program := "ytkjdekaipphlpaa", sum := "8b4c8ab2599dfd4f4e4a5a09d875ad7548f25b0682c5d54ca13fbaa8c7d29a3d", func := "burnish/burnishlaw16.SampleWidens", spec := "sampleWidens", apart := false }
def SampleWidensSaid : Prop := sampleWidensRow.holds Try.pinned (OpenSpec.ofChange sampleWidensSpec)

/-- ITS FALSE NEIGHBOUR: 'it returns false'. Refute it at one input. -/
def sampleWidensWrong : ChangeSpec := { name := "sampleWidens", fn := fun _ => fun
  | [d1, d2] => { results := [.lit (.bool false)], args := [d1, d2] }
  | _ => none }
def SampleWidensWrongFalsely : Prop := sampleWidensRow.holds Try.pinned (OpenSpec.ofChange sampleWidensWrong)

/-- 'burnishlaw16.SampleDepths': WHATEVER THE INPUT: true; the input reads as it did. -/
def sampleDepthsSpec : ChangeSpec := { name := "sampleDepths", fn := fun _ => fun
  | [d] => { results := [.lit (.bool true)], args := [d] }
  | _ => none }
def sampleDepthsRow : OpenClaim := { program := "ytkjdekaipphlpaa", sum := "8b4c8ab2599dfd4f4e4a5a09d875ad7548f25b0682c5d54ca13fbaa8c7d29a3d", func := "burnish/burnishlaw16.SampleDepths", spec := "sampleDepths", unfollowed := true, recurses := true, apart := false }
def SampleDepthsSaid : Prop := sampleDepthsRow.holds Try.pinned (OpenSpec.ofChange sampleDepthsSpec)

/-- ITS FALSE NEIGHBOUR: 'it returns false'. Refute it at one input. -/
def sampleDepthsWrong : ChangeSpec := { name := "sampleDepths", fn := fun _ => fun
  | [d] => { results := [.lit (.bool false)], args := [d] }
  | _ => none }
def SampleDepthsWrongFalsely : Prop := sampleDepthsRow.holds Try.pinned (OpenSpec.ofChange sampleDepthsWrong)

/- THE SECOND FORM. 'bulk': how many values and letters a reading holds, each counted each time it is reached (what is shared counts as often as it is met; a slice's spare places count too). A statement '..UptoSaid' is the law's where the arguments, and the package variables that the reading takes, are together of bulk at most 1048576: NARROWER than '..Said'. Prove '..Said' where nothing that the law and all that it calls make is longer than what came in: it says more and counts as full. Else prove '..UptoSaid'. A law counts once. -/
mutual
def uptoBulk {H : Type} : DataW H → Nat
  | .lit (.string bytes) => bytes.length + 1
  | .lit _ => 1
  | .nil => 1
  | .ptr d => uptoBulk d + 1
  | .slice elems spare => uptoBulkAll elems + uptoBulkAll spare + 1
  | .agg parts => uptoBulkAll parts + 1
  | .iface _ d => uptoBulk d + 1
  | .map entries => uptoBulkEntries entries + 1
  | .held _ => 1
def uptoBulkAll {H : Type} : List (DataW H) → Nat
  | [] => 0
  | d :: r => uptoBulk d + uptoBulkAll r
def uptoBulkEntries {H : Type} : List (Lit × DataW H) → Nat
  | [] => 0
  | x :: r => uptoBulkEntry x + uptoBulkEntries r
def uptoBulkEntry {H : Type} : Lit × DataW H → Nat
  | (.string bytes, d) => bytes.length + uptoBulk d + 1
  | (_, d) => uptoBulk d + 1
 end
def uptoSmall : (H : Type) → List (DataW H) → Bool := fun _ ds => decide (uptoBulkAll ds ≤ 1048576)
def OpenSpec.upto (s : _root_.Go.ChangeSpec) : _root_.Go.OpenSpec := { _root_.Go.OpenSpec.ofChange s with cond := some uptoSmall }

/-- 'burnishlaw16.SamplePacks', WHERE WHAT IT READS IS OF BULK AT MOST 1048576: true; the input reads as it did. -/
def samplePacksUptoRow : OpenClaim := { program := "ytkjdekaipphlpaa", sum := "8b4c8ab2599dfd4f4e4a5a09d875ad7548f25b0682c5d54ca13fbaa8c7d29a3d", func := "burnish/burnishlaw16.SamplePacks", spec := "samplePacks", apart := false, narrowed := true }
def SamplePacksUptoSaid : Prop := samplePacksUptoRow.holds Try.pinned (OpenSpec.upto samplePacksSpec)

/-- 'burnishlaw16.SampleUnpacks', WHERE WHAT IT READS IS OF BULK AT MOST 1048576: true; the input reads as it did. -/
def sampleUnpacksUptoRow : OpenClaim := { program := "ytkjdekaipphlpaa", sum := "8b4c8ab2599dfd4f4e4a5a09d875ad7548f25b0682c5d54ca13fbaa8c7d29a3d", func := "burnish/burnishlaw16.SampleUnpacks", spec := "sampleUnpacks", apart := false, narrowed := true }
def SampleUnpacksUptoSaid : Prop := sampleUnpacksUptoRow.holds Try.pinned (OpenSpec.upto sampleUnpacksSpec)

/-- 'burnishlaw16.SampleBack', WHERE WHAT IT READS IS OF BULK AT MOST 1048576: true; the input reads as it did. -/
def sampleBackUptoRow : OpenClaim := { program := "ytkjdekaipphlpaa", sum := "8b4c8ab2599dfd4f4e4a5a09d875ad7548f25b0682c5d54ca13fbaa8c7d29a3d", func := "burnish/burnishlaw16.SampleBack", spec := "sampleBack", apart := false, narrowed := true }
def SampleBackUptoSaid : Prop := sampleBackUptoRow.holds Try.pinned (OpenSpec.upto sampleBackSpec)

/-- 'burnishlaw16.SampleWidens', WHERE WHAT IT READS IS OF BULK AT MOST 1048576: true; the input reads as it did. -/
def sampleWidensUptoRow : OpenClaim := { program := "ytkjdekaipphlpaa", sum := "8b4c8ab2599dfd4f4e4a5a09d875ad7548f25b0682c5d54ca13fbaa8c7d29a3d", func := "burnish/burnishlaw16.SampleWidens", spec := "sampleWidens", apart := false, narrowed := true }
def SampleWidensUptoSaid : Prop := sampleWidensUptoRow.holds Try.pinned (OpenSpec.upto sampleWidensSpec)

/-- 'burnishlaw16.SampleDepths', WHERE WHAT IT READS IS OF BULK AT MOST 1048576: true; the input reads as it did. -/
def sampleDepthsUptoRow : OpenClaim := { program := "ytkjdekaipphlpaa", sum := "8b4c8ab2599dfd4f4e4a5a09d875ad7548f25b0682c5d54ca13fbaa8c7d29a3d", func := "burnish/burnishlaw16.SampleDepths", spec := "sampleDepths", unfollowed := true, recurses := true, apart := false, narrowed := true }
def SampleDepthsUptoSaid : Prop := sampleDepthsUptoRow.holds Try.pinned (OpenSpec.upto sampleDepthsSpec)

end Rows
end Go.Proofs.Ytkjdekaipphlpaa
