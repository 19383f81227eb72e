/-
  No cell of these rows narrows 'for every input' (looked for: loops, veiled, ifaces, maps, wideKeys, modest, calm, conditions, laid).
  DERIVED. THE GIVEN ROWS OF THIS SEAT. 7 by the template 'for every input the law returns true; each argument reads behind the call as it read before'; 0 by the template 'total and deterministic' (their statements: YtaedajedjbgnbaaTotals.lean).
  GIVEN WITH THE SEED: the statements are not yours to turn. If you find one false, say at which input.
  Laid BY PROGRAM, IN A SANDBOX (cutbox-rows.mjs): the forced cells as the released guide's own fill.sh prints them over the translation 0aef6225181a8a11… (all of the seat's roots in one cut). By AI agents, Wed Nov 11 2026. No macro, syntax, notation, axiom, sorry.
-/
import Derived.Test.YtaedajedjbgnbaaChecked
import GoSem.Claim
import GoSem.ClaimJoined
import GoSem.ClaimMapViews
import Derived.JoinedTies
import Derived.KernelRfl
namespace Go.Proofs.Ytaedajedjbgnbaa
/- THE CELL 'sum', in the pinned program and in every row, IS THE sha256 OF THE DUMP (.gsa) THAT YtaedajedjbgnbaaProg.lean LOADS. Nothing in Lean hashes anything: it is a label: what it is worth is what the hold of that sum in a sandbox is worth. -/
noncomputable def Try.pinned : Pinned := { name := "ytaedajedjbgnbaa", sum := "0aef6225181a8a11e43b99f1df1e8d1fd11081d0bdec172564c1739b1e935921", checked := Try.checked }
namespace Rows
def none {H : Type} : Left H := { results := [], args := [] }

/-- 'burnishlaw12.ChunkParses': WHATEVER THE INPUT: true; the input reads as it did. -/
def chunkParsesSpec : ChangeSpec := { name := "chunkParses", fn := fun _ => fun
  | [d] => { results := [.lit (.bool true)], args := [d] }
  | _ => none }
def chunkParsesRow : OpenClaim := { program := "ytaedajedjbgnbaa", sum := "0aef6225181a8a11e43b99f1df1e8d1fd11081d0bdec172564c1739b1e935921", func := "burnish/burnishlaw12.ChunkParses", spec := "chunkParses", apart := false }
def ChunkParsesSaid : Prop := chunkParsesRow.holds Try.pinned (OpenSpec.ofChange chunkParsesSpec)

/-- ITS FALSE NEIGHBOUR: 'it returns false'. Refute it at one input. -/
def chunkParsesWrong : ChangeSpec := { name := "chunkParses", fn := fun _ => fun
  | [d] => { results := [.lit (.bool false)], args := [d] }
  | _ => none }
def ChunkParsesWrongFalsely : Prop := chunkParsesRow.holds Try.pinned (OpenSpec.ofChange chunkParsesWrong)

/-- 'burnishlaw12.ChunkWrites': WHATEVER THE INPUT: true; the input reads as it did. -/
def chunkWritesSpec : ChangeSpec := { name := "chunkWrites", fn := fun _ => fun
  | [d] => { results := [.lit (.bool true)], args := [d] }
  | _ => none }
def chunkWritesRow : OpenClaim := { program := "ytaedajedjbgnbaa", sum := "0aef6225181a8a11e43b99f1df1e8d1fd11081d0bdec172564c1739b1e935921", func := "burnish/burnishlaw12.ChunkWrites", spec := "chunkWrites", apart := false }
def ChunkWritesSaid : Prop := chunkWritesRow.holds Try.pinned (OpenSpec.ofChange chunkWritesSpec)

/-- ITS FALSE NEIGHBOUR: 'it returns false'. Refute it at one input. -/
def chunkWritesWrong : ChangeSpec := { name := "chunkWrites", fn := fun _ => fun
  | [d] => { results := [.lit (.bool false)], args := [d] }
  | _ => none }
def ChunkWritesWrongFalsely : Prop := chunkWritesRow.holds Try.pinned (OpenSpec.ofChange chunkWritesWrong)

/-- 'burnishlaw12.ChunkBack': WHATEVER THE INPUT: true; the input reads as it did. -/
def chunkBackSpec : ChangeSpec := { name := "chunkBack", fn := fun _ => fun
  | [d1, d2] => { results := [.lit (.bool true)], args := [d1, d2] }
  | _ => none }
def chunkBackRow : OpenClaim := { program := "ytaedajedjbgnbaa", sum := "0aef6225181a8a11e43b99f1df1e8d1fd11081d0bdec172564c1739b1e935921", func := "burnish/burnishlaw12.ChunkBack", spec := "chunkBack", apart := false }
def ChunkBackSaid : Prop := chunkBackRow.holds Try.pinned (OpenSpec.ofChange chunkBackSpec)

/-- ITS FALSE NEIGHBOUR: 'it returns false'. Refute it at one input. -/
def chunkBackWrong : ChangeSpec := { name := "chunkBack", fn := fun _ => fun
  | [d1, d2] => { results := [.lit (.bool false)], args := [d1, d2] }
  | _ => none }
def ChunkBackWrongFalsely : Prop := chunkBackRow.holds Try.pinned (OpenSpec.ofChange chunkBackWrong)

/-- 'burnishlaw12.ChunkBits': WHATEVER THE INPUT: true; the input reads as it did. -/
def chunkBitsSpec : ChangeSpec := { name := "chunkBits", fn := fun _ => fun
  | [d1, d2] => { results := [.lit (.bool true)], args := [d1, d2] }
  | _ => none }
def chunkBitsRow : OpenClaim := { program := "ytaedajedjbgnbaa", sum := "0aef6225181a8a11e43b99f1df1e8d1fd11081d0bdec172564c1739b1e935921", func := "burnish/burnishlaw12.ChunkBits", spec := "chunkBits", apart := false }
def ChunkBitsSaid : Prop := chunkBitsRow.holds Try.pinned (OpenSpec.ofChange chunkBitsSpec)

/-- ITS FALSE NEIGHBOUR: 'it returns false'. Refute it at one input. -/
def chunkBitsWrong : ChangeSpec := { name := "chunkBits", fn := fun _ => fun
  | [d1, d2] => { results := [.lit (.bool false)], args := [d1, d2] }
  | _ => none }
def ChunkBitsWrongFalsely : Prop := chunkBitsRow.holds Try.pinned (OpenSpec.ofChange chunkBitsWrong)

/-- 'burnishlaw12.ChunkNames': WHATEVER THE INPUT: true; the input reads as it did. -/
def chunkNamesSpec : ChangeSpec := { name := "chunkNames", fn := fun _ => fun
  | [d] => { results := [.lit (.bool true)], args := [d] }
  | _ => none }
def chunkNamesRow : OpenClaim := { program := "ytaedajedjbgnbaa", sum := "0aef6225181a8a11e43b99f1df1e8d1fd11081d0bdec172564c1739b1e935921", func := "burnish/burnishlaw12.ChunkNames", spec := "chunkNames", apart := false }
def ChunkNamesSaid : Prop := chunkNamesRow.holds Try.pinned (OpenSpec.ofChange chunkNamesSpec)

/-- ITS FALSE NEIGHBOUR: 'it returns false'. Refute it at one input. -/
def chunkNamesWrong : ChangeSpec := { name := "chunkNames", fn := fun _ => fun
  | [d] => { results := [.lit (.bool false)], args := [d] }
  | _ => none }
def ChunkNamesWrongFalsely : Prop := chunkNamesRow.holds Try.pinned (OpenSpec.ofChange chunkNamesWrong)

/-- 'burnishlaw12.ChunkOf': WHATEVER THE INPUT: true; the input reads as it did. -/
def chunkOfSpec : ChangeSpec := { name := "chunkOf", fn := fun _ => fun
  | [d] => { results := [.lit (.bool true)], args := [d] }
  | _ => none }
def chunkOfRow : OpenClaim := { program := "ytaedajedjbgnbaa", sum := "0aef6225181a8a11e43b99f1df1e8d1fd11081d0bdec172564c1739b1e935921", func := "burnish/burnishlaw12.ChunkOf", spec := "chunkOf", unfollowed := true, recurses := true, apart := false }
def ChunkOfSaid : Prop := chunkOfRow.holds Try.pinned (OpenSpec.ofChange chunkOfSpec)

/-- ITS FALSE NEIGHBOUR: 'it returns false'. Refute it at one input. -/
def chunkOfWrong : ChangeSpec := { name := "chunkOf", fn := fun _ => fun
  | [d] => { results := [.lit (.bool false)], args := [d] }
  | _ => none }
def ChunkOfWrongFalsely : Prop := chunkOfRow.holds Try.pinned (OpenSpec.ofChange chunkOfWrong)

/-- 'burnishlaw12.ChunkLimits': WHATEVER THE INPUT: true; the input reads as it did. -/
def chunkLimitsSpec : ChangeSpec := { name := "chunkLimits", fn := fun _ => fun
  | [d] => { results := [.lit (.bool true)], args := [d] }
  | _ => none }
def chunkLimitsRow : OpenClaim := { program := "ytaedajedjbgnbaa", sum := "0aef6225181a8a11e43b99f1df1e8d1fd11081d0bdec172564c1739b1e935921", func := "burnish/burnishlaw12.ChunkLimits", spec := "chunkLimits", apart := false }
def ChunkLimitsSaid : Prop := chunkLimitsRow.holds Try.pinned (OpenSpec.ofChange chunkLimitsSpec)

/-- ITS FALSE NEIGHBOUR: 'it returns false'. Refute it at one input. -/
def chunkLimitsWrong : ChangeSpec := { name := "chunkLimits", fn := fun _ => fun
  | [d] => { results := [.lit (.bool false)], args := [d] }
  | _ => none }
def ChunkLimitsWrongFalsely : Prop := chunkLimitsRow.holds Try.pinned (OpenSpec.ofChange chunkLimitsWrong)

/- THE SECOND FORM. 'bulk': how many values and letters a reading holds, each counted each time it is reached (what is shared counts as often as it is met; a slice's spare places count too). A statement '..UptoSaid' is the law's where the arguments, and the package variables that the reading takes, are together of bulk at most 1048576: NARROWER than '..Said'. Prove '..Said' where nothing that the law and all that it calls make is longer than what came in: it says more and counts as full. Else prove '..UptoSaid'. A law counts once. -/
mutual
def uptoBulk {H : Type} : DataW H → Nat
  | .lit (.string bytes) => bytes.length + 1
  | .lit _ => 1
  | .nil => 1
  | .ptr d => uptoBulk d + 1
  | .slice elems spare => uptoBulkAll elems + uptoBulkAll spare + 1
  | .agg parts => uptoBulkAll parts + 1
  | .iface _ d => uptoBulk d + 1
  | .map entries => uptoBulkEntries entries + 1
  | .held _ => 1
def uptoBulkAll {H : Type} : List (DataW H) → Nat
  | [] => 0
  | d :: r => uptoBulk d + uptoBulkAll r
def uptoBulkEntries {H : Type} : List (Lit × DataW H) → Nat
  | [] => 0
  | x :: r => uptoBulkEntry x + uptoBulkEntries r
def uptoBulkEntry {H : Type} : Lit × DataW H → Nat
  | (.string bytes, d) => bytes.length + uptoBulk d + 1
  | (_, d) => uptoBulk d + 1
 end
def uptoSmall : (H : Type) → List (DataW H) → Bool := fun _ ds => decide (uptoBulkAll ds ≤ 1048576)
def OpenSpec.upto (s : _root_.Go.ChangeSpec) : _root_.Go.OpenSpec := { _root_.Go.OpenSpec.ofChange s with cond := some uptoSmall }

/-- 'burnishlaw12.ChunkParses', WHERE WHAT IT READS IS OF BULK AT MOST 1048576: true; the input reads as it did. -/
def chunkParsesUptoRow : OpenClaim := { program := "ytaedajedjbgnbaa", sum := "0aef6225181a8a11e43b99f1df1e8d1fd11081d0bdec172564c1739b1e935921", func := "burnish/burnishlaw12.ChunkParses", spec := "chunkParses", apart := false, narrowed := true }
def ChunkParsesUptoSaid : Prop := chunkParsesUptoRow.holds Try.pinned (OpenSpec.upto chunkParsesSpec)

/-- 'burnishlaw12.ChunkWrites', WHERE WHAT IT READS IS OF BULK AT MOST 1048576: true; the input reads as it did. -/
def chunkWritesUptoRow : OpenClaim := { program := "ytaedajedjbgnbaa", sum := "0aef6225181a8a11e43b99f1df1e8d1fd11081d0bdec172564c1739b1e935921", func := "burnish/burnishlaw12.ChunkWrites", spec := "chunkWrites", apart := false, narrowed := true }
def ChunkWritesUptoSaid : Prop := chunkWritesUptoRow.holds Try.pinned (OpenSpec.upto chunkWritesSpec)

/-- 'burnishlaw12.ChunkBack', WHERE WHAT IT READS IS OF BULK AT MOST 1048576: true; the input reads as it did. -/
def chunkBackUptoRow : OpenClaim := { program := "ytaedajedjbgnbaa", sum := "0aef6225181a8a11e43b99f1df1e8d1fd11081d0bdec172564c1739b1e935921", func := "burnish/burnishlaw12.ChunkBack", spec := "chunkBack", apart := false, narrowed := true }
def ChunkBackUptoSaid : Prop := chunkBackUptoRow.holds Try.pinned (OpenSpec.upto chunkBackSpec)

/-- 'burnishlaw12.ChunkBits', WHERE WHAT IT READS IS OF BULK AT MOST 1048576: true; the input reads as it did. -/
def chunkBitsUptoRow : OpenClaim := { program := "ytaedajedjbgnbaa", sum := "0aef6225181a8a11e43b99f1df1e8d1fd11081d0bdec172564c1739b1e935921", func := "burnish/burnishlaw12.ChunkBits", spec := "chunkBits", apart := false, narrowed := true }
def ChunkBitsUptoSaid : Prop := chunkBitsUptoRow.holds Try.pinned (OpenSpec.upto chunkBitsSpec)

/-- 'burnishlaw12.ChunkNames', WHERE WHAT IT READS IS OF BULK AT MOST 1048576: true; the input reads as it did. -/
def chunkNamesUptoRow : OpenClaim := { program := "ytaedajedjbgnbaa", sum := "0aef6225181a8a11e43b99f1df1e8d1fd11081d0bdec172564c1739b1e935921", func := "burnish/burnishlaw12.ChunkNames", spec := "chunkNames", apart := false, narrowed := true }
def ChunkNamesUptoSaid : Prop := chunkNamesUptoRow.holds Try.pinned (OpenSpec.upto chunkNamesSpec)

/-- 'burnishlaw12.ChunkOf', WHERE WHAT IT READS IS OF BULK AT MOST 1048576: true; the input reads as it did. -/
def chunkOfUptoRow : OpenClaim := { program := "ytaedajedjbgnbaa", sum := "0aef6225181a8a11e43b99f1df1e8d1fd11081d0bdec172564c1739b1e935921", func := "burnish/burnishlaw12.ChunkOf", spec := "chunkOf", unfollowed := true, recurses := true, apart := false, narrowed := true }
def ChunkOfUptoSaid : Prop := chunkOfUptoRow.holds Try.pinned (OpenSpec.upto chunkOfSpec)

/-- 'burnishlaw12.ChunkLimits', WHERE WHAT IT READS IS OF BULK AT MOST 1048576: true; the input reads as it did. -/
def chunkLimitsUptoRow : OpenClaim := { program := "ytaedajedjbgnbaa", sum := "0aef6225181a8a11e43b99f1df1e8d1fd11081d0bdec172564c1739b1e935921", func := "burnish/burnishlaw12.ChunkLimits", spec := "chunkLimits", apart := false, narrowed := true }
def ChunkLimitsUptoSaid : Prop := chunkLimitsUptoRow.holds Try.pinned (OpenSpec.upto chunkLimitsSpec)

end Rows
end Go.Proofs.Ytaedajedjbgnbaa
