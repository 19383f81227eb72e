/-
  No cell of these rows narrows 'for every input' (looked for: loops, veiled, ifaces, maps, wideKeys, modest, calm, conditions, laid).
  DERIVED. THE GIVEN ROWS OF THIS SEAT. 6 by the template 'for every input the law returns true; each argument reads behind the call as it read before'; 0 by the template 'total and deterministic' (their statements: YtbgaaocgdjkkeaaTotals.lean).
  GIVEN WITH THE SEED: the statements are not yours to turn. If you find one false, say at which input.
  Laid BY PROGRAM, IN A SANDBOX (cutbox-rows.mjs): the forced cells as the released guide's own fill.sh prints them over the translation 080f5b28dda0ae30… (all of the seat's roots in one cut). By AI agents, Wed Nov 11 2026. No macro, syntax, notation, axiom, sorry.
-/
import Derived.Test.YtbgaaocgdjkkeaaChecked
import GoSem.Claim
import GoSem.ClaimJoined
import GoSem.ClaimMapViews
import Derived.JoinedTies
import Derived.KernelRfl
namespace Go.Proofs.Ytbgaaocgdjkkeaa
/- THE CELL 'sum', in the pinned program and in every row, IS THE sha256 OF THE DUMP (.gsa) THAT YtbgaaocgdjkkeaaProg.lean LOADS. Nothing in Lean hashes anything: it is a label: what it is worth is what the hold of that sum in a sandbox is worth. -/
noncomputable def Try.pinned : Pinned := { name := "ytbgaaocgdjkkeaa", sum := "080f5b28dda0ae3029c2d4393c6d8f8fa6710e1171f6b9b212541465be04942a", checked := Try.checked }
namespace Rows
def none {H : Type} : Left H := { results := [], args := [] }

/-- 'burnishlaw13.HeadOrders': WHATEVER THE INPUT: true; the input reads as it did. -/
def headOrdersSpec : ChangeSpec := { name := "headOrders", fn := fun _ => fun
  | [d] => { results := [.lit (.bool true)], args := [d] }
  | _ => none }
def headOrdersRow : OpenClaim := { program := "ytbgaaocgdjkkeaa", sum := "080f5b28dda0ae3029c2d4393c6d8f8fa6710e1171f6b9b212541465be04942a", func := "burnish/burnishlaw13.HeadOrders", spec := "headOrders", apart := false }
def HeadOrdersSaid : Prop := headOrdersRow.holds Try.pinned (OpenSpec.ofChange headOrdersSpec)

/-- ITS FALSE NEIGHBOUR: 'it returns false'. Refute it at one input. -/
def headOrdersWrong : ChangeSpec := { name := "headOrders", fn := fun _ => fun
  | [d] => { results := [.lit (.bool false)], args := [d] }
  | _ => none }
def HeadOrdersWrongFalsely : Prop := headOrdersRow.holds Try.pinned (OpenSpec.ofChange headOrdersWrong)

/-- 'burnishlaw14.FilterOf': WHATEVER THE INPUT: true; the input reads as it did. -/
def filterOfSpec : ChangeSpec := { name := "filterOf", fn := fun _ => fun
  | [d] => { results := [.lit (.bool true)], args := [d] }
  | _ => none }
def filterOfRow : OpenClaim := { program := "ytbgaaocgdjkkeaa", sum := "080f5b28dda0ae3029c2d4393c6d8f8fa6710e1171f6b9b212541465be04942a", func := "burnish/burnishlaw14.FilterOf", spec := "filterOf", apart := false }
def FilterOfSaid : Prop := filterOfRow.holds Try.pinned (OpenSpec.ofChange filterOfSpec)

/-- ITS FALSE NEIGHBOUR: 'it returns false'. Refute it at one input. -/
def filterOfWrong : ChangeSpec := { name := "filterOf", fn := fun _ => fun
  | [d] => { results := [.lit (.bool false)], args := [d] }
  | _ => none }
def FilterOfWrongFalsely : Prop := filterOfRow.holds Try.pinned (OpenSpec.ofChange filterOfWrong)

/-- 'burnishlaw14.FilterRows': WHATEVER THE INPUT: true; the input reads as it did. -/
def filterRowsSpec : ChangeSpec := { name := "filterRows", fn := fun _ => fun
  | [d] => { results := [.lit (.bool true)], args := [d] }
  | _ => none }
def filterRowsRow : OpenClaim := { program := "ytbgaaocgdjkkeaa", sum := "080f5b28dda0ae3029c2d4393c6d8f8fa6710e1171f6b9b212541465be04942a", func := "burnish/burnishlaw14.FilterRows", spec := "filterRows", apart := false }
def FilterRowsSaid : Prop := filterRowsRow.holds Try.pinned (OpenSpec.ofChange filterRowsSpec)

/-- ITS FALSE NEIGHBOUR: 'it returns false'. Refute it at one input. -/
def filterRowsWrong : ChangeSpec := { name := "filterRows", fn := fun _ => fun
  | [d] => { results := [.lit (.bool false)], args := [d] }
  | _ => none }
def FilterRowsWrongFalsely : Prop := filterRowsRow.holds Try.pinned (OpenSpec.ofChange filterRowsWrong)

/-- 'burnishlaw14.FilterBack': WHATEVER THE INPUT: true; the input reads as it did. -/
def filterBackSpec : ChangeSpec := { name := "filterBack", fn := fun _ => fun
  | [d] => { results := [.lit (.bool true)], args := [d] }
  | _ => none }
def filterBackRow : OpenClaim := { program := "ytbgaaocgdjkkeaa", sum := "080f5b28dda0ae3029c2d4393c6d8f8fa6710e1171f6b9b212541465be04942a", func := "burnish/burnishlaw14.FilterBack", spec := "filterBack", apart := false }
def FilterBackSaid : Prop := filterBackRow.holds Try.pinned (OpenSpec.ofChange filterBackSpec)

/-- ITS FALSE NEIGHBOUR: 'it returns false'. Refute it at one input. -/
def filterBackWrong : ChangeSpec := { name := "filterBack", fn := fun _ => fun
  | [d] => { results := [.lit (.bool false)], args := [d] }
  | _ => none }
def FilterBackWrongFalsely : Prop := filterBackRow.holds Try.pinned (OpenSpec.ofChange filterBackWrong)

/-- 'burnishlaw14.FilterWeights': WHATEVER THE INPUT: true; the input reads as it did. -/
def filterWeightsSpec : ChangeSpec := { name := "filterWeights", fn := fun _ => fun
  | [d] => { results := [.lit (.bool true)], args := [d] }
  | _ => none }
def filterWeightsRow : OpenClaim := { program := "ytbgaaocgdjkkeaa", sum := "080f5b28dda0ae3029c2d4393c6d8f8fa6710e1171f6b9b212541465be04942a", func := "burnish/burnishlaw14.FilterWeights", spec := "filterWeights", apart := false }
def FilterWeightsSaid : Prop := filterWeightsRow.holds Try.pinned (OpenSpec.ofChange filterWeightsSpec)

/-- ITS FALSE NEIGHBOUR: 'it returns false'. Refute it at one input. -/
def filterWeightsWrong : ChangeSpec := { name := "filterWeights", fn := fun _ => fun
  | [d] => { results := [.lit (.bool false)], args := [d] }
  | _ => none }
def FilterWeightsWrongFalsely : Prop := filterWeightsRow.holds Try.pinned (OpenSpec.ofChange filterWeightsWrong)

/-- 'burnishlaw14.FilterRolls': WHATEVER THE INPUT: true; the input reads as it did. -/
def filterRollsSpec : ChangeSpec := { name := "filterRolls", fn := fun _ => fun
  | [d] => { results := [.lit (.bool true)], args := [d] }
  | _ => none }
def filterRollsRow : OpenClaim := { program := "ytbgaaocgdjkkeaa", sum := "080f5b28dda0ae3029c2d4393c6d8f8fa6710e1171f6b9b212541465be04942a", func := "burnish/burnishlaw14.FilterRolls", spec := "filterRolls", apart := false }
def FilterRollsSaid : Prop := filterRollsRow.holds Try.pinned (OpenSpec.ofChange filterRollsSpec)

/-- ITS FALSE NEIGHBOUR: 'it returns false'. Refute it at one input. -/
def filterRollsWrong : ChangeSpec := { name := "filterRolls", fn := fun _ => fun
  | [d] => { results := [.lit (.bool false)], args := [d] }
  | _ => none }
def FilterRollsWrongFalsely : Prop := filterRollsRow.holds Try.pinned (OpenSpec.ofChange filterRollsWrong)

/- THE SECOND FORM. 'bulk': how many values and letters a reading holds, each counted each time it is reached (what is shared counts as often as it is met; a slice's spare places count too). A statement '..UptoSaid' is the law's where the arguments, and the package variables that the reading takes, are together of bulk at most 1048576: NARROWER than '..Said'. Prove '..Said' where nothing that the law and all that it calls make is longer than what came in: it says more and counts as full. Else prove '..UptoSaid'. A law counts once. -/
mutual
def uptoBulk {H : Type} : DataW H → Nat
  | .lit (.string bytes) => bytes.length + 1
  | .lit _ => 1
  | .nil => 1
  | .ptr d => uptoBulk d + 1
  | .slice elems spare => uptoBulkAll elems + uptoBulkAll spare + 1
  | .agg parts => uptoBulkAll parts + 1
  | .iface _ d => uptoBulk d + 1
  | .map entries => uptoBulkEntries entries + 1
  | .held _ => 1
def uptoBulkAll {H : Type} : List (DataW H) → Nat
  | [] => 0
  | d :: r => uptoBulk d + uptoBulkAll r
def uptoBulkEntries {H : Type} : List (Lit × DataW H) → Nat
  | [] => 0
  | x :: r => uptoBulkEntry x + uptoBulkEntries r
def uptoBulkEntry {H : Type} : Lit × DataW H → Nat
  | (.string bytes, d) => bytes.length + uptoBulk d + 1
  | (_, d) => uptoBulk d + 1
 end
def uptoSmall : (H : Type) → List (DataW H) → Bool := fun _ ds => decide (uptoBulkAll ds ≤ 1048576)
def OpenSpec.upto (s : _root_.Go.ChangeSpec) : _root_.Go.OpenSpec := { _root_.Go.OpenSpec.ofChange s with cond := some uptoSmall }

/-- 'burnishlaw13.HeadOrders', WHERE WHAT IT READS IS OF BULK AT MOST 1048576: true; the input reads as it did. -/
def headOrdersUptoRow : OpenClaim := { program := "ytbgaaocgdjkkeaa", sum := "080f5b28dda0ae3029c2d4393c6d8f8fa6710e1171f6b9b212541465be04942a", func := "burnish/burnishlaw13.HeadOrders", spec := "headOrders", apart := false, narrowed := true }
def HeadOrdersUptoSaid : Prop := headOrdersUptoRow.holds Try.pinned (OpenSpec.upto headOrdersSpec)

/-- 'burnishlaw14.FilterOf', WHERE WHAT IT READS IS OF BULK AT MOST 1048576: true; the input reads as it did. -/
def filterOfUptoRow : OpenClaim := { program := "ytbgaaocgdjkkeaa", sum := "080f5b28dda0ae3029c2d4393c6d8f8fa6710e1171f6b9b212541465be04942a", func := "burnish/burnishlaw14.FilterOf", spec := "filterOf", apart := false, narrowed := true }
def FilterOfUptoSaid : Prop := filterOfUptoRow.holds Try.pinned (OpenSpec.upto filterOfSpec)

/-- 'burnishlaw14.FilterRows', WHERE WHAT IT READS IS OF BULK AT MOST 1048576: true; the input reads as it did. -/
def filterRowsUptoRow : OpenClaim := { program := "ytbgaaocgdjkkeaa", sum := "080f5b28dda0ae3029c2d4393c6d8f8fa6710e1171f6b9b212541465be04942a", func := "burnish/burnishlaw14.FilterRows", spec := "filterRows", apart := false, narrowed := true }
def FilterRowsUptoSaid : Prop := filterRowsUptoRow.holds Try.pinned (OpenSpec.upto filterRowsSpec)

/-- 'burnishlaw14.FilterBack', WHERE WHAT IT READS IS OF BULK AT MOST 1048576: true; the input reads as it did. -/
def filterBackUptoRow : OpenClaim := { program := "ytbgaaocgdjkkeaa", sum := "080f5b28dda0ae3029c2d4393c6d8f8fa6710e1171f6b9b212541465be04942a", func := "burnish/burnishlaw14.FilterBack", spec := "filterBack", apart := false, narrowed := true }
def FilterBackUptoSaid : Prop := filterBackUptoRow.holds Try.pinned (OpenSpec.upto filterBackSpec)

/-- 'burnishlaw14.FilterWeights', WHERE WHAT IT READS IS OF BULK AT MOST 1048576: true; the input reads as it did. -/
def filterWeightsUptoRow : OpenClaim := { program := "ytbgaaocgdjkkeaa", sum := "080f5b28dda0ae3029c2d4393c6d8f8fa6710e1171f6b9b212541465be04942a", func := "burnish/burnishlaw14.FilterWeights", spec := "filterWeights", apart := false, narrowed := true }
def FilterWeightsUptoSaid : Prop := filterWeightsUptoRow.holds Try.pinned (OpenSpec.upto filterWeightsSpec)

/-- 'burnishlaw14.FilterRolls', WHERE WHAT IT READS IS OF BULK AT MOST 1048576: true; the input reads as it did. -/
def filterRollsUptoRow : OpenClaim := { program := "ytbgaaocgdjkkeaa", sum := "080f5b28dda0ae3029c2d4393c6d8f8fa6710e1171f6b9b212541465be04942a", func := "burnish/burnishlaw14.FilterRolls", spec := "filterRolls", apart := false, narrowed := true }
def FilterRollsUptoSaid : Prop := filterRollsUptoRow.holds Try.pinned (OpenSpec.upto filterRollsSpec)

end Rows
end Go.Proofs.Ytbgaaocgdjkkeaa
