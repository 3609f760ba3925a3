/-
  No cell of these rows narrows 'for every input' (looked for: loops, veiled, ifaces, maps, wideKeys, modest, calm, conditions, laid).
  DERIVED. THE GIVEN ROWS OF THIS SEAT. 5 by the template 'for every input the law returns true; each argument reads behind the call as it read before'; 0 by the template 'total and deterministic' (their statements: YtgfjmbjpikcffaaTotals.lean).
  GIVEN WITH THE SEED: the statements are not yours to turn. If you find one false, say at which input.
  Laid BY PROGRAM, IN A SANDBOX (cutbox-rows.mjs): the forced cells as the released guide's own fill.sh prints them over the translation b66877baf8bedb40… (all of the seat's roots in one cut). By AI agents, Wed Nov 11 2026. No macro, syntax, notation, axiom, sorry.
-/
import Derived.Test.YtgfjmbjpikcffaaChecked
import GoSem.Claim
import GoSem.ClaimJoined
import GoSem.ClaimMapViews
import Derived.JoinedTies
import Derived.KernelRfl
namespace Go.Proofs.Ytgfjmbjpikcffaa
/- THE CELL 'sum', in the pinned program and in every row, IS THE sha256 OF THE DUMP (.gsa) THAT YtgfjmbjpikcffaaProg.lean LOADS. Nothing in Lean hashes anything: it is a label: what it is worth is what the hold of that sum in a sandbox is worth. -/
noncomputable def Try.pinned : Pinned := { name := "ytgfjmbjpikcffaa", sum := "b66877baf8bedb4078b3e9b6a6cd2c5aa5c16cca389021652c7d91f8b9740f42", checked := Try.checked }
namespace Rows
def none {H : Type} : Left H := { results := [], args := [] }

/-- 'shredderlaw17.StatOf': WHATEVER THE INPUT: true; the input reads as it did. -/
def statOfSpec : ChangeSpec := { name := "statOf", fn := fun _ => fun
  | [d1, d2, d3, d4] => { results := [.lit (.bool true)], args := [d1, d2, d3, d4] }
  | _ => none }
def statOfRow : OpenClaim := { program := "ytgfjmbjpikcffaa", sum := "b66877baf8bedb4078b3e9b6a6cd2c5aa5c16cca389021652c7d91f8b9740f42", func := "shredder/shredderlaw17.StatOf", spec := "statOf", apart := false }
def StatOfSaid : Prop := statOfRow.holds Try.pinned (OpenSpec.ofChange statOfSpec)

/-- ITS FALSE NEIGHBOUR: 'it returns false'. Refute it at one input. -/
def statOfWrong : ChangeSpec := { name := "statOf", fn := fun _ => fun
  | [d1, d2, d3, d4] => { results := [.lit (.bool false)], args := [d1, d2, d3, d4] }
  | _ => none }
def StatOfWrongFalsely : Prop := statOfRow.holds Try.pinned (OpenSpec.ofChange statOfWrong)

/-- 'shredderlaw17.StatBounds': WHATEVER THE INPUT: true; the input reads as it did. -/
def statBoundsSpec : ChangeSpec := { name := "statBounds", fn := fun _ => fun
  | [d1, d2] => { results := [.lit (.bool true)], args := [d1, d2] }
  | _ => none }
def statBoundsRow : OpenClaim := { program := "ytgfjmbjpikcffaa", sum := "b66877baf8bedb4078b3e9b6a6cd2c5aa5c16cca389021652c7d91f8b9740f42", func := "shredder/shredderlaw17.StatBounds", spec := "statBounds", apart := false }
def StatBoundsSaid : Prop := statBoundsRow.holds Try.pinned (OpenSpec.ofChange statBoundsSpec)

/-- ITS FALSE NEIGHBOUR: 'it returns false'. Refute it at one input. -/
def statBoundsWrong : ChangeSpec := { name := "statBounds", fn := fun _ => fun
  | [d1, d2] => { results := [.lit (.bool false)], args := [d1, d2] }
  | _ => none }
def StatBoundsWrongFalsely : Prop := statBoundsRow.holds Try.pinned (OpenSpec.ofChange statBoundsWrong)

/-- 'shredderlaw17.StatOps': WHATEVER THE INPUT: true; the input reads as it did. -/
def statOpsSpec : ChangeSpec := { name := "statOps", fn := fun _ => fun
  | [d1, d2, d3] => { results := [.lit (.bool true)], args := [d1, d2, d3] }
  | _ => none }
def statOpsRow : OpenClaim := { program := "ytgfjmbjpikcffaa", sum := "b66877baf8bedb4078b3e9b6a6cd2c5aa5c16cca389021652c7d91f8b9740f42", func := "shredder/shredderlaw17.StatOps", spec := "statOps", apart := false }
def StatOpsSaid : Prop := statOpsRow.holds Try.pinned (OpenSpec.ofChange statOpsSpec)

/-- ITS FALSE NEIGHBOUR: 'it returns false'. Refute it at one input. -/
def statOpsWrong : ChangeSpec := { name := "statOps", fn := fun _ => fun
  | [d1, d2, d3] => { results := [.lit (.bool false)], args := [d1, d2, d3] }
  | _ => none }
def StatOpsWrongFalsely : Prop := statOpsRow.holds Try.pinned (OpenSpec.ofChange statOpsWrong)

/-- 'shredderlaw17.StatJoins': WHATEVER THE INPUT: true; the input reads as it did. -/
def statJoinsSpec : ChangeSpec := { name := "statJoins", fn := fun _ => fun
  | [d1, d2, d3, d4, d5] => { results := [.lit (.bool true)], args := [d1, d2, d3, d4, d5] }
  | _ => none }
def statJoinsRow : OpenClaim := { program := "ytgfjmbjpikcffaa", sum := "b66877baf8bedb4078b3e9b6a6cd2c5aa5c16cca389021652c7d91f8b9740f42", func := "shredder/shredderlaw17.StatJoins", spec := "statJoins", apart := false }
def StatJoinsSaid : Prop := statJoinsRow.holds Try.pinned (OpenSpec.ofChange statJoinsSpec)

/-- ITS FALSE NEIGHBOUR: 'it returns false'. Refute it at one input. -/
def statJoinsWrong : ChangeSpec := { name := "statJoins", fn := fun _ => fun
  | [d1, d2, d3, d4, d5] => { results := [.lit (.bool false)], args := [d1, d2, d3, d4, d5] }
  | _ => none }
def StatJoinsWrongFalsely : Prop := statJoinsRow.holds Try.pinned (OpenSpec.ofChange statJoinsWrong)

/-- 'shredderlaw17.StatNone': WHATEVER THE INPUT: true; the input reads as it did. -/
def statNoneSpec : ChangeSpec := { name := "statNone", fn := fun _ => fun
  | [d1, d2, d3] => { results := [.lit (.bool true)], args := [d1, d2, d3] }
  | _ => none }
def statNoneRow : OpenClaim := { program := "ytgfjmbjpikcffaa", sum := "b66877baf8bedb4078b3e9b6a6cd2c5aa5c16cca389021652c7d91f8b9740f42", func := "shredder/shredderlaw17.StatNone", spec := "statNone", apart := false }
def StatNoneSaid : Prop := statNoneRow.holds Try.pinned (OpenSpec.ofChange statNoneSpec)

/-- ITS FALSE NEIGHBOUR: 'it returns false'. Refute it at one input. -/
def statNoneWrong : ChangeSpec := { name := "statNone", fn := fun _ => fun
  | [d1, d2, d3] => { results := [.lit (.bool false)], args := [d1, d2, d3] }
  | _ => none }
def StatNoneWrongFalsely : Prop := statNoneRow.holds Try.pinned (OpenSpec.ofChange statNoneWrong)

/- THE SECOND FORM. 'bulk': how many values and letters a reading holds, each counted each time it is reached (what is shared counts as often as it is met; a slice's spare places count too). A statement '..UptoSaid' is the law's where the arguments, and the package variables that the reading takes, are together of bulk at most 1048576: NARROWER than '..Said'. Prove '..Said' where nothing that the law and all that it calls make is longer than what came in: it says more and counts as full. Else prove '..UptoSaid'. A law counts once. -/
mutual
def uptoBulk {H : Type} : DataW H → Nat
  | .lit (.string bytes) => bytes.length + 1
  | .lit _ => 1
  | .nil => 1
  | .ptr d => uptoBulk d + 1
  | .slice elems spare => uptoBulkAll elems + uptoBulkAll spare + 1
  | .agg parts => uptoBulkAll parts + 1
  | .iface _ d => uptoBulk d + 1
  | .map entries => uptoBulkEntries entries + 1
  | .held _ => 1
def uptoBulkAll {H : Type} : List (DataW H) → Nat
  | [] => 0
  | d :: r => uptoBulk d + uptoBulkAll r
def uptoBulkEntries {H : Type} : List (Lit × DataW H) → Nat
  | [] => 0
  | x :: r => uptoBulkEntry x + uptoBulkEntries r
def uptoBulkEntry {H : Type} : Lit × DataW H → Nat
  | (.string bytes, d) => bytes.length + uptoBulk d + 1
  | (_, d) => uptoBulk d + 1
 end
def uptoSmall : (H : Type) → List (DataW H) → Bool := fun _ ds => decide (uptoBulkAll ds ≤ 1048576)
def OpenSpec.upto (s : _root_.Go.ChangeSpec) : _root_.Go.OpenSpec := { _root_.Go.OpenSpec.ofChange s with cond := some uptoSmall }

/-- 'shredderlaw17.StatOf', WHERE WHAT IT READS IS OF BULK AT MOST 1048576: true; the input reads as it did. -/
def statOfUptoRow : OpenClaim := { program := "ytgfjmbjpikcffaa", sum := "b66877baf8bedb4078b3e9b6a6cd2c5aa5c16cca389021652c7d91f8b9740f42", func := "shredder/shredderlaw17.StatOf", spec := "statOf", apart := false, narrowed := true }
def StatOfUptoSaid : Prop := statOfUptoRow.holds Try.pinned (OpenSpec.upto statOfSpec)

/-- 'shredderlaw17.StatBounds', WHERE WHAT IT READS IS OF BULK AT MOST 1048576: true; the input reads as it did. -/
def statBoundsUptoRow : OpenClaim := { program := "ytgfjmbjpikcffaa", sum := "b66877baf8bedb4078b3e9b6a6cd2c5aa5c16cca389021652c7d91f8b9740f42", func := "shredder/shredderlaw17.StatBounds", spec := "statBounds", apart := false, narrowed := true }
def StatBoundsUptoSaid : Prop := statBoundsUptoRow.holds Try.pinned (OpenSpec.upto statBoundsSpec)

/-- 'shredderlaw17.StatOps', WHERE WHAT IT READS IS OF BULK AT MOST 1048576: true; the input reads as it did. -/
def statOpsUptoRow : OpenClaim := { program := "ytgfjmbjpikcffaa", sum := "b66877baf8bedb4078b3e9b6a6cd2c5aa5c16cca389021652c7d91f8b9740f42", func := "shredder/shredderlaw17.StatOps", spec := "statOps", apart := false, narrowed := true }
def StatOpsUptoSaid : Prop := statOpsUptoRow.holds Try.pinned (OpenSpec.upto statOpsSpec)

/-- 'shredderlaw17.StatJoins', WHERE WHAT IT READS IS OF BULK AT MOST 1048576: true; the input reads as it did. -/
def statJoinsUptoRow : OpenClaim := { program := "ytgfjmbjpikcffaa", sum := "b66877baf8bedb4078b3e9b6a6cd2c5aa5c16cca389021652c7d91f8b9740f42", func := "shredder/shredderlaw17.StatJoins", spec := "statJoins", apart := false, narrowed := true }
def StatJoinsUptoSaid : Prop := statJoinsUptoRow.holds Try.pinned (OpenSpec.upto statJoinsSpec)

/-- 'shredderlaw17.StatNone', WHERE WHAT IT READS IS OF BULK AT MOST 1048576: true; the input reads as it did. -/
def statNoneUptoRow : OpenClaim := { program := "ytgfjmbjpikcffaa", sum := "b66877baf8bedb4078b3e9b6a6cd2c5aa5c16cca389021652c7d91f8b9740f42", func := "shredder/shredderlaw17.StatNone", spec := "statNone", apart := false, narrowed := true }
def StatNoneUptoSaid : Prop := statNoneUptoRow.holds Try.pinned (OpenSpec.upto statNoneSpec)

end Rows
end Go.Proofs.Ytgfjmbjpikcffaa
