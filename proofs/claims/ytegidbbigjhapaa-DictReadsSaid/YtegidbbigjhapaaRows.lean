/-
  No cell of these rows narrows 'for every input' (looked for: loops, veiled, ifaces, maps, wideKeys, modest, calm, conditions, laid).
  DERIVED. THE GIVEN ROWS OF THIS SEAT. 7 by the template 'for every input the law returns true; each argument reads behind the call as it read before'; 0 by the template 'total and deterministic' (their statements: YtegidbbigjhapaaTotals.lean).
  GIVEN WITH THE SEED: the statements are not yours to turn. If you find one false, say at which input.
  Laid BY PROGRAM, IN A SANDBOX (cutbox-rows.mjs): the forced cells as the released guide's own fill.sh prints them over the translation 9becde6e5aa77248… (all of the seat's roots in one cut). By AI agents, Wed Nov 11 2026. No macro, syntax, notation, axiom, sorry.
-/
import Derived.Test.YtegidbbigjhapaaChecked
import GoSem.Claim
import GoSem.ClaimJoined
import GoSem.ClaimMapViews
import Derived.JoinedTies
import Derived.KernelRfl
namespace Go.Proofs.Ytegidbbigjhapaa
/- THE CELL 'sum', in the pinned program and in every row, IS THE sha256 OF THE DUMP (.gsa) THAT YtegidbbigjhapaaProg.lean LOADS. Nothing in Lean hashes anything: it is a label: what it is worth is what the hold of that sum in a sandbox is worth. -/
noncomputable def Try.pinned : Pinned := { name := "ytegidbbigjhapaa", sum := "9becde6e5aa772487a144633fe9c6292605fc8bed213950203ed1d38b34a7cd5", checked := Try.checked }
namespace Rows
def none {H : Type} : Left H := { results := [], args := [] }

/-- 'shredderlaw13.DictBuilds': WHATEVER THE INPUT: true; the input reads as it did. -/
def dictBuildsSpec : ChangeSpec := { name := "dictBuilds", fn := fun _ => fun
  | [d1, d2, d3, d4] => { results := [.lit (.bool true)], args := [d1, d2, d3, d4] }
  | _ => none }
def dictBuildsRow : OpenClaim := { program := "ytegidbbigjhapaa", sum := "9becde6e5aa772487a144633fe9c6292605fc8bed213950203ed1d38b34a7cd5", func := "shredder/shredderlaw13.DictBuilds", spec := "dictBuilds", unfollowed := true, recurses := true, plainKeys := false, apart := false }
def DictBuildsSaid : Prop := dictBuildsRow.holds Try.pinned (OpenSpec.ofChange dictBuildsSpec)

/-- ITS FALSE NEIGHBOUR: 'it returns false'. Refute it at one input. -/
def dictBuildsWrong : ChangeSpec := { name := "dictBuilds", fn := fun _ => fun
  | [d1, d2, d3, d4] => { results := [.lit (.bool false)], args := [d1, d2, d3, d4] }
  | _ => none }
def DictBuildsWrongFalsely : Prop := dictBuildsRow.holds Try.pinned (OpenSpec.ofChange dictBuildsWrong)

/-- 'shredderlaw13.DictReads': WHATEVER THE INPUT: true; the input reads as it did. -/
def dictReadsSpec : ChangeSpec := { name := "dictReads", fn := fun _ => fun
  | [d1, d2, d3, d4] => { results := [.lit (.bool true)], args := [d1, d2, d3, d4] }
  | _ => none }
def dictReadsRow : OpenClaim := { program := "ytegidbbigjhapaa", sum := "9becde6e5aa772487a144633fe9c6292605fc8bed213950203ed1d38b34a7cd5", func := "shredder/shredderlaw13.DictReads", spec := "dictReads", unfollowed := true, recurses := true, plainKeys := false, apart := false }
def DictReadsSaid : Prop := dictReadsRow.holds Try.pinned (OpenSpec.ofChange dictReadsSpec)

/-- ITS FALSE NEIGHBOUR: 'it returns false'. Refute it at one input. -/
def dictReadsWrong : ChangeSpec := { name := "dictReads", fn := fun _ => fun
  | [d1, d2, d3, d4] => { results := [.lit (.bool false)], args := [d1, d2, d3, d4] }
  | _ => none }
def DictReadsWrongFalsely : Prop := dictReadsRow.holds Try.pinned (OpenSpec.ofChange dictReadsWrong)

/-- 'shredderlaw13.DictWords': WHATEVER THE INPUT: true; the input reads as it did. -/
def dictWordsSpec : ChangeSpec := { name := "dictWords", fn := fun _ => fun
  | [d1, d2] => { results := [.lit (.bool true)], args := [d1, d2] }
  | _ => none }
def dictWordsRow : OpenClaim := { program := "ytegidbbigjhapaa", sum := "9becde6e5aa772487a144633fe9c6292605fc8bed213950203ed1d38b34a7cd5", func := "shredder/shredderlaw13.DictWords", spec := "dictWords", plainKeys := false, apart := false }
def DictWordsSaid : Prop := dictWordsRow.holds Try.pinned (OpenSpec.ofChange dictWordsSpec)

/-- ITS FALSE NEIGHBOUR: 'it returns false'. Refute it at one input. -/
def dictWordsWrong : ChangeSpec := { name := "dictWords", fn := fun _ => fun
  | [d1, d2] => { results := [.lit (.bool false)], args := [d1, d2] }
  | _ => none }
def DictWordsWrongFalsely : Prop := dictWordsRow.holds Try.pinned (OpenSpec.ofChange dictWordsWrong)

/-- 'shredderlaw13.DictOne': WHATEVER THE INPUT: true; the input reads as it did. -/
def dictOneSpec : ChangeSpec := { name := "dictOne", fn := fun _ => fun
  | [d1, d2] => { results := [.lit (.bool true)], args := [d1, d2] }
  | _ => none }
def dictOneRow : OpenClaim := { program := "ytegidbbigjhapaa", sum := "9becde6e5aa772487a144633fe9c6292605fc8bed213950203ed1d38b34a7cd5", func := "shredder/shredderlaw13.DictOne", spec := "dictOne", unfollowed := true, recurses := true, plainKeys := false, apart := false }
def DictOneSaid : Prop := dictOneRow.holds Try.pinned (OpenSpec.ofChange dictOneSpec)

/-- ITS FALSE NEIGHBOUR: 'it returns false'. Refute it at one input. -/
def dictOneWrong : ChangeSpec := { name := "dictOne", fn := fun _ => fun
  | [d1, d2] => { results := [.lit (.bool false)], args := [d1, d2] }
  | _ => none }
def DictOneWrongFalsely : Prop := dictOneRow.holds Try.pinned (OpenSpec.ofChange dictOneWrong)

/-- 'shredderlaw13.DictBounds': WHATEVER THE INPUT: true; the input reads as it did. -/
def dictBoundsSpec : ChangeSpec := { name := "dictBounds", fn := fun _ => fun
  | [d1, d2] => { results := [.lit (.bool true)], args := [d1, d2] }
  | _ => none }
def dictBoundsRow : OpenClaim := { program := "ytegidbbigjhapaa", sum := "9becde6e5aa772487a144633fe9c6292605fc8bed213950203ed1d38b34a7cd5", func := "shredder/shredderlaw13.DictBounds", spec := "dictBounds", plainKeys := false, apart := false }
def DictBoundsSaid : Prop := dictBoundsRow.holds Try.pinned (OpenSpec.ofChange dictBoundsSpec)

/-- ITS FALSE NEIGHBOUR: 'it returns false'. Refute it at one input. -/
def dictBoundsWrong : ChangeSpec := { name := "dictBounds", fn := fun _ => fun
  | [d1, d2] => { results := [.lit (.bool false)], args := [d1, d2] }
  | _ => none }
def DictBoundsWrongFalsely : Prop := dictBoundsRow.holds Try.pinned (OpenSpec.ofChange dictBoundsWrong)

/-- 'shredderlaw13.DictNumbers': WHATEVER THE INPUT: true; the input reads as it did. -/
def dictNumbersSpec : ChangeSpec := { name := "dictNumbers", fn := fun _ => fun
  | [d1, d2] => { results := [.lit (.bool true)], args := [d1, d2] }
  | _ => none }
def dictNumbersRow : OpenClaim := { program := "ytegidbbigjhapaa", sum := "9becde6e5aa772487a144633fe9c6292605fc8bed213950203ed1d38b34a7cd5", func := "shredder/shredderlaw13.DictNumbers", spec := "dictNumbers", unfollowed := true, recurses := true, plainKeys := false, apart := false }
def DictNumbersSaid : Prop := dictNumbersRow.holds Try.pinned (OpenSpec.ofChange dictNumbersSpec)

/-- ITS FALSE NEIGHBOUR: 'it returns false'. Refute it at one input. -/
def dictNumbersWrong : ChangeSpec := { name := "dictNumbers", fn := fun _ => fun
  | [d1, d2] => { results := [.lit (.bool false)], args := [d1, d2] }
  | _ => none }
def DictNumbersWrongFalsely : Prop := dictNumbersRow.holds Try.pinned (OpenSpec.ofChange dictNumbersWrong)

/-- 'shredderlaw13.DictOrder': WHATEVER THE INPUT: true; the input reads as it did. -/
def dictOrderSpec : ChangeSpec := { name := "dictOrder", fn := fun _ => fun
  | [d1, d2, d3] => { results := [.lit (.bool true)], args := [d1, d2, d3] }
  | _ => none }
def dictOrderRow : OpenClaim := { program := "ytegidbbigjhapaa", sum := "9becde6e5aa772487a144633fe9c6292605fc8bed213950203ed1d38b34a7cd5", func := "shredder/shredderlaw13.DictOrder", spec := "dictOrder", plainKeys := false, apart := false }
def DictOrderSaid : Prop := dictOrderRow.holds Try.pinned (OpenSpec.ofChange dictOrderSpec)

/-- ITS FALSE NEIGHBOUR: 'it returns false'. Refute it at one input. -/
def dictOrderWrong : ChangeSpec := { name := "dictOrder", fn := fun _ => fun
  | [d1, d2, d3] => { results := [.lit (.bool false)], args := [d1, d2, d3] }
  | _ => none }
def DictOrderWrongFalsely : Prop := dictOrderRow.holds Try.pinned (OpenSpec.ofChange dictOrderWrong)

/- THE SECOND FORM. 'bulk': how many values and letters a reading holds, each counted each time it is reached (what is shared counts as often as it is met; a slice's spare places count too). A statement '..UptoSaid' is the law's where the arguments, and the package variables that the reading takes, are together of bulk at most 1048576: NARROWER than '..Said'. Prove '..Said' where nothing that the law and all that it calls make is longer than what came in: it says more and counts as full. Else prove '..UptoSaid'. A law counts once. -/
mutual
def uptoBulk {H : Type} : DataW H → Nat
  | .lit (.string bytes) => bytes.length + 1
  | .lit _ => 1
  | .nil => 1
  | .ptr d => uptoBulk d + 1
  | .slice elems spare => uptoBulkAll elems + uptoBulkAll spare + 1
  | .agg parts => uptoBulkAll parts + 1
  | .iface _ d => uptoBulk d + 1
  | .map entries => uptoBulkEntries entries + 1
  | .held _ => 1
def uptoBulkAll {H : Type} : List (DataW H) → Nat
  | [] => 0
  | d :: r => uptoBulk d + uptoBulkAll r
def uptoBulkEntries {H : Type} : List (Lit × DataW H) → Nat
  | [] => 0
  | x :: r => uptoBulkEntry x + uptoBulkEntries r
def uptoBulkEntry {H : Type} : Lit × DataW H → Nat
  | (.string bytes, d) => bytes.length + uptoBulk d + 1
  | (_, d) => uptoBulk d + 1
 end
def uptoSmall : (H : Type) → List (DataW H) → Bool := fun _ ds => decide (uptoBulkAll ds ≤ 1048576)
def OpenSpec.upto (s : _root_.Go.ChangeSpec) : _root_.Go.OpenSpec := { _root_.Go.OpenSpec.ofChange s with cond := some uptoSmall }

/-- 'shredderlaw13.DictBuilds', WHERE WHAT IT READS IS OF BULK AT MOST 1048576: true; the input reads as it did. -/
def dictBuildsUptoRow : OpenClaim := { program := "ytegidbbigjhapaa", sum := "9becde6e5aa772487a144633fe9c6292605fc8bed213950203ed1d38b34a7cd5", func := "shredder/shredderlaw13.DictBuilds", spec := "dictBuilds", unfollowed := true, recurses := true, plainKeys := false, apart := false, narrowed := true }
def DictBuildsUptoSaid : Prop := dictBuildsUptoRow.holds Try.pinned (OpenSpec.upto dictBuildsSpec)

/-- 'shredderlaw13.DictReads', WHERE WHAT IT READS IS OF BULK AT MOST 1048576: true; the input reads as it did. -/
def dictReadsUptoRow : OpenClaim := { program := "ytegidbbigjhapaa", sum := "9becde6e5aa772487a144633fe9c6292605fc8bed213950203ed1d38b34a7cd5", func := "shredder/shredderlaw13.DictReads", spec := "dictReads", unfollowed := true, recurses := true, plainKeys := false, apart := false, narrowed := true }
def DictReadsUptoSaid : Prop := dictReadsUptoRow.holds Try.pinned (OpenSpec.upto dictReadsSpec)

/-- 'shredderlaw13.DictWords', WHERE WHAT IT READS IS OF BULK AT MOST 1048576: true; the input reads as it did. -/
def dictWordsUptoRow : OpenClaim := { program := "ytegidbbigjhapaa", sum := "9becde6e5aa772487a144633fe9c6292605fc8bed213950203ed1d38b34a7cd5", func := "shredder/shredderlaw13.DictWords", spec := "dictWords", plainKeys := false, apart := false, narrowed := true }
def DictWordsUptoSaid : Prop := dictWordsUptoRow.holds Try.pinned (OpenSpec.upto dictWordsSpec)

/-- 'shredderlaw13.DictOne', WHERE WHAT IT READS IS OF BULK AT MOST 1048576: true; the input reads as it did. -/
def dictOneUptoRow : OpenClaim := { program := "ytegidbbigjhapaa", sum := "9becde6e5aa772487a144633fe9c6292605fc8bed213950203ed1d38b34a7cd5", func := "shredder/shredderlaw13.DictOne", spec := "dictOne", unfollowed := true, recurses := true, plainKeys := false, apart := false, narrowed := true }
def DictOneUptoSaid : Prop := dictOneUptoRow.holds Try.pinned (OpenSpec.upto dictOneSpec)

/-- 'shredderlaw13.DictBounds', WHERE WHAT IT READS IS OF BULK AT MOST 1048576: true; the input reads as it did. -/
def dictBoundsUptoRow : OpenClaim := { program := "ytegidbbigjhapaa", sum := "9becde6e5aa772487a144633fe9c6292605fc8bed213950203ed1d38b34a7cd5", func := "shredder/shredderlaw13.DictBounds", spec := "dictBounds", plainKeys := false, apart := false, narrowed := true }
def DictBoundsUptoSaid : Prop := dictBoundsUptoRow.holds Try.pinned (OpenSpec.upto dictBoundsSpec)

/-- 'shredderlaw13.DictNumbers', WHERE WHAT IT READS IS OF BULK AT MOST 1048576: true; the input reads as it did. -/
def dictNumbersUptoRow : OpenClaim := { program := "ytegidbbigjhapaa", sum := "9becde6e5aa772487a144633fe9c6292605fc8bed213950203ed1d38b34a7cd5", func := "shredder/shredderlaw13.DictNumbers", spec := "dictNumbers", unfollowed := true, recurses := true, plainKeys := false, apart := false, narrowed := true }
def DictNumbersUptoSaid : Prop := dictNumbersUptoRow.holds Try.pinned (OpenSpec.upto dictNumbersSpec)

/-- 'shredderlaw13.DictOrder', WHERE WHAT IT READS IS OF BULK AT MOST 1048576: true; the input reads as it did. -/
def dictOrderUptoRow : OpenClaim := { program := "ytegidbbigjhapaa", sum := "9becde6e5aa772487a144633fe9c6292605fc8bed213950203ed1d38b34a7cd5", func := "shredder/shredderlaw13.DictOrder", spec := "dictOrder", plainKeys := false, apart := false, narrowed := true }
def DictOrderUptoSaid : Prop := dictOrderUptoRow.holds Try.pinned (OpenSpec.upto dictOrderSpec)

end Rows
end Go.Proofs.Ytegidbbigjhapaa
