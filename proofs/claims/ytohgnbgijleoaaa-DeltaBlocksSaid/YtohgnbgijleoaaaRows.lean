/-
  No cell of these rows narrows 'for every input' (looked for: loops, veiled, ifaces, maps, wideKeys, modest, calm, conditions, laid).
  DERIVED. THE GIVEN ROWS OF THIS SEAT. 5 by the template 'for every input the law returns true; each argument reads behind the call as it read before'; 0 by the template 'total and deterministic' (their statements: YtohgnbgijleoaaaTotals.lean).
  GIVEN WITH THE SEED: the statements are not yours to turn. If you find one false, say at which input.
  Laid BY PROGRAM, IN A SANDBOX (cutbox-rows.mjs): the forced cells as the released guide's own fill.sh prints them over the translation db0b4569b3bad3be… (all of the seat's roots in one cut). By AI agents, Wed Nov 11 2026. No macro, syntax, notation, axiom, sorry.
-/
import Derived.Test.YtohgnbgijleoaaaChecked
import GoSem.Claim
import GoSem.ClaimJoined
import GoSem.ClaimMapViews
import Derived.JoinedTies
import Derived.KernelRfl
namespace Go.Proofs.Ytohgnbgijleoaaa
/- THE CELL 'sum', in the pinned program and in every row, IS THE sha256 OF THE DUMP (.gsa) THAT YtohgnbgijleoaaaProg.lean LOADS. Nothing in Lean hashes anything: it is a label: what it is worth is what the hold of that sum in a sandbox is worth. -/
noncomputable def Try.pinned : Pinned := { name := "ytohgnbgijleoaaa", sum := "db0b4569b3bad3be74a2d0f8d80a1475fb1febe66ea52bbdcc2ba310587c71b8", checked := Try.checked }
namespace Rows
def none {H : Type} : Left H := { results := [], args := [] }

/-- 'shredderlaw12.DeltaInts': WHATEVER THE INPUT: true; the input reads as it did. -/
def deltaIntsSpec : ChangeSpec := { name := "deltaInts", fn := fun _ => fun
  | [d1, d2] => { results := [.lit (.bool true)], args := [d1, d2] }
  | _ => none }
def deltaIntsRow : OpenClaim := { program := "ytohgnbgijleoaaa", sum := "db0b4569b3bad3be74a2d0f8d80a1475fb1febe66ea52bbdcc2ba310587c71b8", func := "shredder/shredderlaw12.DeltaInts", spec := "deltaInts", apart := false }
def DeltaIntsSaid : Prop := deltaIntsRow.holds Try.pinned (OpenSpec.ofChange deltaIntsSpec)

/-- ITS FALSE NEIGHBOUR: 'it returns false'. Refute it at one input. -/
def deltaIntsWrong : ChangeSpec := { name := "deltaInts", fn := fun _ => fun
  | [d1, d2] => { results := [.lit (.bool false)], args := [d1, d2] }
  | _ => none }
def DeltaIntsWrongFalsely : Prop := deltaIntsRow.holds Try.pinned (OpenSpec.ofChange deltaIntsWrong)

/-- 'shredderlaw12.DeltaReads': WHATEVER THE INPUT: true; the input reads as it did. -/
def deltaReadsSpec : ChangeSpec := { name := "deltaReads", fn := fun _ => fun
  | [d1, d2, d3, d4, d5, d6] => { results := [.lit (.bool true)], args := [d1, d2, d3, d4, d5, d6] }
  | _ => none }
def deltaReadsRow : OpenClaim := { program := "ytohgnbgijleoaaa", sum := "db0b4569b3bad3be74a2d0f8d80a1475fb1febe66ea52bbdcc2ba310587c71b8", func := "shredder/shredderlaw12.DeltaReads", spec := "deltaReads", apart := false }
def DeltaReadsSaid : Prop := deltaReadsRow.holds Try.pinned (OpenSpec.ofChange deltaReadsSpec)

/-- ITS FALSE NEIGHBOUR: 'it returns false'. Refute it at one input. -/
def deltaReadsWrong : ChangeSpec := { name := "deltaReads", fn := fun _ => fun
  | [d1, d2, d3, d4, d5, d6] => { results := [.lit (.bool false)], args := [d1, d2, d3, d4, d5, d6] }
  | _ => none }
def DeltaReadsWrongFalsely : Prop := deltaReadsRow.holds Try.pinned (OpenSpec.ofChange deltaReadsWrong)

/-- 'shredderlaw12.DeltaSteps': WHATEVER THE INPUT: true; the input reads as it did. -/
def deltaStepsSpec : ChangeSpec := { name := "deltaSteps", fn := fun _ => fun
  | [d1, d2, d3] => { results := [.lit (.bool true)], args := [d1, d2, d3] }
  | _ => none }
def deltaStepsRow : OpenClaim := { program := "ytohgnbgijleoaaa", sum := "db0b4569b3bad3be74a2d0f8d80a1475fb1febe66ea52bbdcc2ba310587c71b8", func := "shredder/shredderlaw12.DeltaSteps", spec := "deltaSteps", apart := false }
def DeltaStepsSaid : Prop := deltaStepsRow.holds Try.pinned (OpenSpec.ofChange deltaStepsSpec)

/-- ITS FALSE NEIGHBOUR: 'it returns false'. Refute it at one input. -/
def deltaStepsWrong : ChangeSpec := { name := "deltaSteps", fn := fun _ => fun
  | [d1, d2, d3] => { results := [.lit (.bool false)], args := [d1, d2, d3] }
  | _ => none }
def DeltaStepsWrongFalsely : Prop := deltaStepsRow.holds Try.pinned (OpenSpec.ofChange deltaStepsWrong)

/-- 'shredderlaw12.DeltaWrap': WHATEVER THE INPUT: true; the input reads as it did. -/
def deltaWrapSpec : ChangeSpec := { name := "deltaWrap", fn := fun _ => fun
  | [d] => { results := [.lit (.bool true)], args := [d] }
  | _ => none }
def deltaWrapRow : OpenClaim := { program := "ytohgnbgijleoaaa", sum := "db0b4569b3bad3be74a2d0f8d80a1475fb1febe66ea52bbdcc2ba310587c71b8", func := "shredder/shredderlaw12.DeltaWrap", spec := "deltaWrap", apart := false }
def DeltaWrapSaid : Prop := deltaWrapRow.holds Try.pinned (OpenSpec.ofChange deltaWrapSpec)

/-- ITS FALSE NEIGHBOUR: 'it returns false'. Refute it at one input. -/
def deltaWrapWrong : ChangeSpec := { name := "deltaWrap", fn := fun _ => fun
  | [d] => { results := [.lit (.bool false)], args := [d] }
  | _ => none }
def DeltaWrapWrongFalsely : Prop := deltaWrapRow.holds Try.pinned (OpenSpec.ofChange deltaWrapWrong)

/-- 'shredderlaw12.DeltaBlocks': WHATEVER THE INPUT: true; the input reads as it did. -/
def deltaBlocksSpec : ChangeSpec := { name := "deltaBlocks", fn := fun _ => fun
  | [d1, d2, d3] => { results := [.lit (.bool true)], args := [d1, d2, d3] }
  | _ => none }
def deltaBlocksRow : OpenClaim := { program := "ytohgnbgijleoaaa", sum := "db0b4569b3bad3be74a2d0f8d80a1475fb1febe66ea52bbdcc2ba310587c71b8", func := "shredder/shredderlaw12.DeltaBlocks", spec := "deltaBlocks", apart := false }
def DeltaBlocksSaid : Prop := deltaBlocksRow.holds Try.pinned (OpenSpec.ofChange deltaBlocksSpec)

/-- ITS FALSE NEIGHBOUR: 'it returns false'. Refute it at one input. -/
def deltaBlocksWrong : ChangeSpec := { name := "deltaBlocks", fn := fun _ => fun
  | [d1, d2, d3] => { results := [.lit (.bool false)], args := [d1, d2, d3] }
  | _ => none }
def DeltaBlocksWrongFalsely : Prop := deltaBlocksRow.holds Try.pinned (OpenSpec.ofChange deltaBlocksWrong)

/- THE SECOND FORM. 'bulk': how many values and letters a reading holds, each counted each time it is reached (what is shared counts as often as it is met; a slice's spare places count too). A statement '..UptoSaid' is the law's where the arguments, and the package variables that the reading takes, are together of bulk at most 1048576: NARROWER than '..Said'. Prove '..Said' where nothing that the law and all that it calls make is longer than what came in: it says more and counts as full. Else prove '..UptoSaid'. A law counts once. -/
mutual
def uptoBulk {H : Type} : DataW H → Nat
  | .lit (.string bytes) => bytes.length + 1
  | .lit _ => 1
  | .nil => 1
  | .ptr d => uptoBulk d + 1
  | .slice elems spare => uptoBulkAll elems + uptoBulkAll spare + 1
  | .agg parts => uptoBulkAll parts + 1
  | .iface _ d => uptoBulk d + 1
  | .map entries => uptoBulkEntries entries + 1
  | .held _ => 1
def uptoBulkAll {H : Type} : List (DataW H) → Nat
  | [] => 0
  | d :: r => uptoBulk d + uptoBulkAll r
def uptoBulkEntries {H : Type} : List (Lit × DataW H) → Nat
  | [] => 0
  | x :: r => uptoBulkEntry x + uptoBulkEntries r
def uptoBulkEntry {H : Type} : Lit × DataW H → Nat
  | (.string bytes, d) => bytes.length + uptoBulk d + 1
  | (_, d) => uptoBulk d + 1
 end
def uptoSmall : (H : Type) → List (DataW H) → Bool := fun _ ds => decide (uptoBulkAll ds ≤ 1048576)
def OpenSpec.upto (s : _root_.Go.ChangeSpec) : _root_.Go.OpenSpec := { _root_.Go.OpenSpec.ofChange s with cond := some uptoSmall }

/-- 'shredderlaw12.DeltaInts', WHERE WHAT IT READS IS OF BULK AT MOST 1048576: true; the input reads as it did. -/
def deltaIntsUptoRow : OpenClaim := { program := "ytohgnbgijleoaaa", sum := "db0b4569b3bad3be74a2d0f8d80a1475fb1febe66ea52bbdcc2ba310587c71b8", func := "shredder/shredderlaw12.DeltaInts", spec := "deltaInts", apart := false, narrowed := true }
def DeltaIntsUptoSaid : Prop := deltaIntsUptoRow.holds Try.pinned (OpenSpec.upto deltaIntsSpec)

/-- 'shredderlaw12.DeltaReads', WHERE WHAT IT READS IS OF BULK AT MOST 1048576: true; the input reads as it did. -/
def deltaReadsUptoRow : OpenClaim := { program := "ytohgnbgijleoaaa", sum := "db0b4569b3bad3be74a2d0f8d80a1475fb1febe66ea52bbdcc2ba310587c71b8", func := "shredder/shredderlaw12.DeltaReads", spec := "deltaReads", apart := false, narrowed := true }
def DeltaReadsUptoSaid : Prop := deltaReadsUptoRow.holds Try.pinned (OpenSpec.upto deltaReadsSpec)

/-- 'shredderlaw12.DeltaSteps', WHERE WHAT IT READS IS OF BULK AT MOST 1048576: true; the input reads as it did. -/
def deltaStepsUptoRow : OpenClaim := { program := "ytohgnbgijleoaaa", sum := "db0b4569b3bad3be74a2d0f8d80a1475fb1febe66ea52bbdcc2ba310587c71b8", func := "shredder/shredderlaw12.DeltaSteps", spec := "deltaSteps", apart := false, narrowed := true }
def DeltaStepsUptoSaid : Prop := deltaStepsUptoRow.holds Try.pinned (OpenSpec.upto deltaStepsSpec)

/-- 'shredderlaw12.DeltaWrap', WHERE WHAT IT READS IS OF BULK AT MOST 1048576: true; the input reads as it did. -/
def deltaWrapUptoRow : OpenClaim := { program := "ytohgnbgijleoaaa", sum := "db0b4569b3bad3be74a2d0f8d80a1475fb1febe66ea52bbdcc2ba310587c71b8", func := "shredder/shredderlaw12.DeltaWrap", spec := "deltaWrap", apart := false, narrowed := true }
def DeltaWrapUptoSaid : Prop := deltaWrapUptoRow.holds Try.pinned (OpenSpec.upto deltaWrapSpec)

/-- 'shredderlaw12.DeltaBlocks', WHERE WHAT IT READS IS OF BULK AT MOST 1048576: true; the input reads as it did. -/
def deltaBlocksUptoRow : OpenClaim := { program := "ytohgnbgijleoaaa", sum := "db0b4569b3bad3be74a2d0f8d80a1475fb1febe66ea52bbdcc2ba310587c71b8", func := "shredder/shredderlaw12.DeltaBlocks", spec := "deltaBlocks", apart := false, narrowed := true }
def DeltaBlocksUptoSaid : Prop := deltaBlocksUptoRow.holds Try.pinned (OpenSpec.upto deltaBlocksSpec)

end Rows
end Go.Proofs.Ytohgnbgijleoaaa
