/-
  NARROWER THAN 'FOR EVERY INPUT', by the rows' own cells (each row's printed sentence says how): ShredColumns: loops.
  DERIVED. THE GIVEN ROWS OF THIS SEAT. 7 by the template 'for every input the law returns true; each argument reads behind the call as it read before'; 0 by the template 'total and deterministic' (their statements: YtbbedkkinhccjaaTotals.lean).
  GIVEN WITH THE SEED: the statements are not yours to turn. If you find one false, say at which input.
  Laid BY PROGRAM, IN A SANDBOX (cutbox-rows.mjs): the forced cells as the released guide's own fill.sh prints them over the translation 47c85c400c5b5127… (all of the seat's roots in one cut). By AI agents, Wed Nov 11 2026. No macro, syntax, notation, axiom, sorry.
-/
import Derived.Test.YtbbedkkinhccjaaChecked
import GoSem.Claim
import GoSem.ClaimJoined
import GoSem.ClaimMapViews
import Derived.JoinedTies
import Derived.KernelRfl
namespace Go.Proofs.Ytbbedkkinhccjaa
/- THE CELL 'sum', in the pinned program and in every row, IS THE sha256 OF THE DUMP (.gsa) THAT YtbbedkkinhccjaaProg.lean LOADS. Nothing in Lean hashes anything: it is a label: what it is worth is what the hold of that sum in a sandbox is worth. -/
noncomputable def Try.pinned : Pinned := { name := "ytbbedkkinhccjaa", sum := "47c85c400c5b51279a358036ffadfc17af13242373ab1fff36971d22b5c9b1d0", checked := Try.checked }
namespace Rows
def none {H : Type} : Left H := { results := [], args := [] }

/-- 'shredderlaw14.ShredOne': WHATEVER THE INPUT: true; the input reads as it did. -/
def shredOneSpec : ChangeSpec := { name := "shredOne", fn := fun _ => fun
  | [d1, d2] => { results := [.lit (.bool true)], args := [d1, d2] }
  | _ => none }
def shredOneRow : OpenClaim := { program := "ytbbedkkinhccjaa", sum := "47c85c400c5b51279a358036ffadfc17af13242373ab1fff36971d22b5c9b1d0", func := "shredder/shredderlaw14.ShredOne", spec := "shredOne", unfollowed := true, recurses := true, apart := false }
def ShredOneSaid : Prop := shredOneRow.holds Try.pinned (OpenSpec.ofChange shredOneSpec)

/-- ITS FALSE NEIGHBOUR: 'it returns false'. Refute it at one input. -/
def shredOneWrong : ChangeSpec := { name := "shredOne", fn := fun _ => fun
  | [d1, d2] => { results := [.lit (.bool false)], args := [d1, d2] }
  | _ => none }
def ShredOneWrongFalsely : Prop := shredOneRow.holds Try.pinned (OpenSpec.ofChange shredOneWrong)

/-- 'shredderlaw14.ShredSames': WHATEVER THE INPUT: true; the input reads as it did. -/
def shredSamesSpec : ChangeSpec := { name := "shredSames", fn := fun _ => fun
  | [d1, d2, d3, d4] => { results := [.lit (.bool true)], args := [d1, d2, d3, d4] }
  | _ => none }
def shredSamesRow : OpenClaim := { program := "ytbbedkkinhccjaa", sum := "47c85c400c5b51279a358036ffadfc17af13242373ab1fff36971d22b5c9b1d0", func := "shredder/shredderlaw14.ShredSames", spec := "shredSames", unfollowed := true, recurses := true, apart := false }
def ShredSamesSaid : Prop := shredSamesRow.holds Try.pinned (OpenSpec.ofChange shredSamesSpec)

/-- ITS FALSE NEIGHBOUR: 'it returns false'. Refute it at one input. -/
def shredSamesWrong : ChangeSpec := { name := "shredSames", fn := fun _ => fun
  | [d1, d2, d3, d4] => { results := [.lit (.bool false)], args := [d1, d2, d3, d4] }
  | _ => none }
def ShredSamesWrongFalsely : Prop := shredSamesRow.holds Try.pinned (OpenSpec.ofChange shredSamesWrong)

/-- 'shredderlaw14.ShredCutNone': WHATEVER THE INPUT: true; the input reads as it did. -/
def shredCutNoneSpec : ChangeSpec := { name := "shredCutNone", fn := fun _ => fun
  | [d1, d2, d3, d4] => { results := [.lit (.bool true)], args := [d1, d2, d3, d4] }
  | _ => none }
def shredCutNoneRow : OpenClaim := { program := "ytbbedkkinhccjaa", sum := "47c85c400c5b51279a358036ffadfc17af13242373ab1fff36971d22b5c9b1d0", func := "shredder/shredderlaw14.ShredCutNone", spec := "shredCutNone", unfollowed := true, recurses := true, apart := false }
def ShredCutNoneSaid : Prop := shredCutNoneRow.holds Try.pinned (OpenSpec.ofChange shredCutNoneSpec)

/-- ITS FALSE NEIGHBOUR: 'it returns false'. Refute it at one input. -/
def shredCutNoneWrong : ChangeSpec := { name := "shredCutNone", fn := fun _ => fun
  | [d1, d2, d3, d4] => { results := [.lit (.bool false)], args := [d1, d2, d3, d4] }
  | _ => none }
def ShredCutNoneWrongFalsely : Prop := shredCutNoneRow.holds Try.pinned (OpenSpec.ofChange shredCutNoneWrong)

/-- 'shredderlaw14.ShredKeeps': WHATEVER THE INPUT: true; the input reads as it did. -/
def shredKeepsSpec : ChangeSpec := { name := "shredKeeps", fn := fun _ => fun
  | [d1, d2] => { results := [.lit (.bool true)], args := [d1, d2] }
  | _ => none }
def shredKeepsRow : OpenClaim := { program := "ytbbedkkinhccjaa", sum := "47c85c400c5b51279a358036ffadfc17af13242373ab1fff36971d22b5c9b1d0", func := "shredder/shredderlaw14.ShredKeeps", spec := "shredKeeps", unfollowed := true, recurses := true, apart := false }
def ShredKeepsSaid : Prop := shredKeepsRow.holds Try.pinned (OpenSpec.ofChange shredKeepsSpec)

/-- ITS FALSE NEIGHBOUR: 'it returns false'. Refute it at one input. -/
def shredKeepsWrong : ChangeSpec := { name := "shredKeeps", fn := fun _ => fun
  | [d1, d2] => { results := [.lit (.bool false)], args := [d1, d2] }
  | _ => none }
def ShredKeepsWrongFalsely : Prop := shredKeepsRow.holds Try.pinned (OpenSpec.ofChange shredKeepsWrong)

/-- 'shredderlaw14.ShredLists': WHATEVER THE INPUT: true; the input reads as it did. -/
def shredListsSpec : ChangeSpec := { name := "shredLists", fn := fun _ => fun
  | [d] => { results := [.lit (.bool true)], args := [d] }
  | _ => none }
def shredListsRow : OpenClaim := { program := "ytbbedkkinhccjaa", sum := "47c85c400c5b51279a358036ffadfc17af13242373ab1fff36971d22b5c9b1d0", func := "shredder/shredderlaw14.ShredLists", spec := "shredLists", unfollowed := true, recurses := true, apart := false }
def ShredListsSaid : Prop := shredListsRow.holds Try.pinned (OpenSpec.ofChange shredListsSpec)

/-- ITS FALSE NEIGHBOUR: 'it returns false'. Refute it at one input. -/
def shredListsWrong : ChangeSpec := { name := "shredLists", fn := fun _ => fun
  | [d] => { results := [.lit (.bool false)], args := [d] }
  | _ => none }
def ShredListsWrongFalsely : Prop := shredListsRow.holds Try.pinned (OpenSpec.ofChange shredListsWrong)

/-- 'shredderlaw14.ShredCuts': WHATEVER THE INPUT: true; the input reads as it did. -/
def shredCutsSpec : ChangeSpec := { name := "shredCuts", fn := fun _ => fun
  | [d1, d2, d3, d4, d5, d6] => { results := [.lit (.bool true)], args := [d1, d2, d3, d4, d5, d6] }
  | _ => none }
def shredCutsRow : OpenClaim := { program := "ytbbedkkinhccjaa", sum := "47c85c400c5b51279a358036ffadfc17af13242373ab1fff36971d22b5c9b1d0", func := "shredder/shredderlaw14.ShredCuts", spec := "shredCuts", unfollowed := true, recurses := true, apart := false }
def ShredCutsSaid : Prop := shredCutsRow.holds Try.pinned (OpenSpec.ofChange shredCutsSpec)

/-- ITS FALSE NEIGHBOUR: 'it returns false'. Refute it at one input. -/
def shredCutsWrong : ChangeSpec := { name := "shredCuts", fn := fun _ => fun
  | [d1, d2, d3, d4, d5, d6] => { results := [.lit (.bool false)], args := [d1, d2, d3, d4, d5, d6] }
  | _ => none }
def ShredCutsWrongFalsely : Prop := shredCutsRow.holds Try.pinned (OpenSpec.ofChange shredCutsWrong)

/-- 'shredderlaw14.ShredColumns': WHATEVER THE INPUT: true; the input reads as it did. -/
def shredColumnsSpec : ChangeSpec := { name := "shredColumns", fn := fun _ => fun
  | [d1, d2, d3] => { results := [.lit (.bool true)], args := [d1, d2, d3] }
  | _ => none }
def shredColumnsRow : OpenClaim := { program := "ytbbedkkinhccjaa", sum := "47c85c400c5b51279a358036ffadfc17af13242373ab1fff36971d22b5c9b1d0", func := "shredder/shredderlaw14.ShredColumns", spec := "shredColumns", unfollowed := true, recurses := true, loops := true, apart := false }
def ShredColumnsSaid : Prop := shredColumnsRow.holds Try.pinned (OpenSpec.ofChange shredColumnsSpec)

/-- ITS FALSE NEIGHBOUR: 'it returns false'. Refute it at one input. -/
def shredColumnsWrong : ChangeSpec := { name := "shredColumns", fn := fun _ => fun
  | [d1, d2, d3] => { results := [.lit (.bool false)], args := [d1, d2, d3] }
  | _ => none }
def ShredColumnsWrongFalsely : Prop := shredColumnsRow.holds Try.pinned (OpenSpec.ofChange shredColumnsWrong)

/- THE SECOND FORM. 'bulk': how many values and letters a reading holds, each counted each time it is reached (what is shared counts as often as it is met; a slice's spare places count too). A statement '..UptoSaid' is the law's where the arguments, and the package variables that the reading takes, are together of bulk at most 1048576: NARROWER than '..Said'. Prove '..Said' where nothing that the law and all that it calls make is longer than what came in: it says more and counts as full. Else prove '..UptoSaid'. A law counts once. -/
mutual
def uptoBulk {H : Type} : DataW H → Nat
  | .lit (.string bytes) => bytes.length + 1
  | .lit _ => 1
  | .nil => 1
  | .ptr d => uptoBulk d + 1
  | .slice elems spare => uptoBulkAll elems + uptoBulkAll spare + 1
  | .agg parts => uptoBulkAll parts + 1
  | .iface _ d => uptoBulk d + 1
  | .map entries => uptoBulkEntries entries + 1
  | .held _ => 1
def uptoBulkAll {H : Type} : List (DataW H) → Nat
  | [] => 0
  | d :: r => uptoBulk d + uptoBulkAll r
def uptoBulkEntries {H : Type} : List (Lit × DataW H) → Nat
  | [] => 0
  | x :: r => uptoBulkEntry x + uptoBulkEntries r
def uptoBulkEntry {H : Type} : Lit × DataW H → Nat
  | (.string bytes, d) => bytes.length + uptoBulk d + 1
  | (_, d) => uptoBulk d + 1
 end
def uptoSmall : (H : Type) → List (DataW H) → Bool := fun _ ds => decide (uptoBulkAll ds ≤ 1048576)
def OpenSpec.upto (s : _root_.Go.ChangeSpec) : _root_.Go.OpenSpec := { _root_.Go.OpenSpec.ofChange s with cond := some uptoSmall }

/-- 'shredderlaw14.ShredOne', WHERE WHAT IT READS IS OF BULK AT MOST 1048576: true; the input reads as it did. -/
def shredOneUptoRow : OpenClaim := { program := "ytbbedkkinhccjaa", sum := "47c85c400c5b51279a358036ffadfc17af13242373ab1fff36971d22b5c9b1d0", func := "shredder/shredderlaw14.ShredOne", spec := "shredOne", unfollowed := true, recurses := true, apart := false, narrowed := true }
def ShredOneUptoSaid : Prop := shredOneUptoRow.holds Try.pinned (OpenSpec.upto shredOneSpec)

/-- 'shredderlaw14.ShredSames', WHERE WHAT IT READS IS OF BULK AT MOST 1048576: true; the input reads as it did. -/
def shredSamesUptoRow : OpenClaim := { program := "ytbbedkkinhccjaa", sum := "47c85c400c5b51279a358036ffadfc17af13242373ab1fff36971d22b5c9b1d0", func := "shredder/shredderlaw14.ShredSames", spec := "shredSames", unfollowed := true, recurses := true, apart := false, narrowed := true }
def ShredSamesUptoSaid : Prop := shredSamesUptoRow.holds Try.pinned (OpenSpec.upto shredSamesSpec)

/-- 'shredderlaw14.ShredCutNone', WHERE WHAT IT READS IS OF BULK AT MOST 1048576: true; the input reads as it did. -/
def shredCutNoneUptoRow : OpenClaim := { program := "ytbbedkkinhccjaa", sum := "47c85c400c5b51279a358036ffadfc17af13242373ab1fff36971d22b5c9b1d0", func := "shredder/shredderlaw14.ShredCutNone", spec := "shredCutNone", unfollowed := true, recurses := true, apart := false, narrowed := true }
def ShredCutNoneUptoSaid : Prop := shredCutNoneUptoRow.holds Try.pinned (OpenSpec.upto shredCutNoneSpec)

/-- 'shredderlaw14.ShredKeeps', WHERE WHAT IT READS IS OF BULK AT MOST 1048576: true; the input reads as it did. -/
def shredKeepsUptoRow : OpenClaim := { program := "ytbbedkkinhccjaa", sum := "47c85c400c5b51279a358036ffadfc17af13242373ab1fff36971d22b5c9b1d0", func := "shredder/shredderlaw14.ShredKeeps", spec := "shredKeeps", unfollowed := true, recurses := true, apart := false, narrowed := true }
def ShredKeepsUptoSaid : Prop := shredKeepsUptoRow.holds Try.pinned (OpenSpec.upto shredKeepsSpec)

/-- 'shredderlaw14.ShredLists', WHERE WHAT IT READS IS OF BULK AT MOST 1048576: true; the input reads as it did. -/
def shredListsUptoRow : OpenClaim := { program := "ytbbedkkinhccjaa", sum := "47c85c400c5b51279a358036ffadfc17af13242373ab1fff36971d22b5c9b1d0", func := "shredder/shredderlaw14.ShredLists", spec := "shredLists", unfollowed := true, recurses := true, apart := false, narrowed := true }
def ShredListsUptoSaid : Prop := shredListsUptoRow.holds Try.pinned (OpenSpec.upto shredListsSpec)

/-- 'shredderlaw14.ShredCuts', WHERE WHAT IT READS IS OF BULK AT MOST 1048576: true; the input reads as it did. -/
def shredCutsUptoRow : OpenClaim := { program := "ytbbedkkinhccjaa", sum := "47c85c400c5b51279a358036ffadfc17af13242373ab1fff36971d22b5c9b1d0", func := "shredder/shredderlaw14.ShredCuts", spec := "shredCuts", unfollowed := true, recurses := true, apart := false, narrowed := true }
def ShredCutsUptoSaid : Prop := shredCutsUptoRow.holds Try.pinned (OpenSpec.upto shredCutsSpec)

/-- 'shredderlaw14.ShredColumns', WHERE WHAT IT READS IS OF BULK AT MOST 1048576: true; the input reads as it did. -/
def shredColumnsUptoRow : OpenClaim := { program := "ytbbedkkinhccjaa", sum := "47c85c400c5b51279a358036ffadfc17af13242373ab1fff36971d22b5c9b1d0", func := "shredder/shredderlaw14.ShredColumns", spec := "shredColumns", unfollowed := true, recurses := true, loops := true, apart := false, narrowed := true }
def ShredColumnsUptoSaid : Prop := shredColumnsUptoRow.holds Try.pinned (OpenSpec.upto shredColumnsSpec)

end Rows
end Go.Proofs.Ytbbedkkinhccjaa
