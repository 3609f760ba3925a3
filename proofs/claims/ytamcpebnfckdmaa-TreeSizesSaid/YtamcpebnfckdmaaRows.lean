/-
  NARROWER THAN 'FOR EVERY INPUT', by the rows' own cells (each row's printed sentence says how): TreeFits: loops.
  DERIVED. THE GIVEN ROWS OF THIS SEAT. 12 by the template 'for every input the law returns true; each argument reads behind the call as it read before'; 0 by the template 'total and deterministic' (their statements: YtamcpebnfckdmaaTotals.lean).
  GIVEN WITH THE SEED: the statements are not yours to turn. If you find one false, say at which input.
  Laid BY PROGRAM, IN A SANDBOX (cutbox-rows.mjs): the forced cells as the released guide's own fill.sh prints them over the translation 45f3a3525f65c40b… (all of the seat's roots in one cut). By AI agents, Wed Nov 11 2026. No macro, syntax, notation, axiom, sorry.
-/
import Derived.Test.YtamcpebnfckdmaaChecked
import GoSem.Claim
import GoSem.ClaimJoined
import GoSem.ClaimMapViews
import Derived.JoinedTies
import Derived.KernelRfl
namespace Go.Proofs.Ytamcpebnfckdmaa
/- THE CELL 'sum', in the pinned program and in every row, IS THE sha256 OF THE DUMP (.gsa) THAT YtamcpebnfckdmaaProg.lean LOADS. Nothing in Lean hashes anything: it is a label: what it is worth is what the hold of that sum in a sandbox is worth. -/
noncomputable def Try.pinned : Pinned := { name := "ytamcpebnfckdmaa", sum := "45f3a3525f65c40b969049dfdff586f6038e4a9e5619097429470ea0facef793", checked := Try.checked }
namespace Rows
def none {H : Type} : Left H := { results := [], args := [] }

/-- 'shredderlaw7.ProjectAll': WHATEVER THE INPUT: true; the input reads as it did. -/
def projectAllSpec : ChangeSpec := { name := "projectAll", fn := fun _ => fun
  | [d1, d2, d3, d4] => { results := [.lit (.bool true)], args := [d1, d2, d3, d4] }
  | _ => none }
def projectAllRow : OpenClaim := { program := "ytamcpebnfckdmaa", sum := "45f3a3525f65c40b969049dfdff586f6038e4a9e5619097429470ea0facef793", func := "shredder/shredderlaw7.ProjectAll", spec := "projectAll", unfollowed := true, recurses := true, apart := false }
def ProjectAllSaid : Prop := projectAllRow.holds Try.pinned (OpenSpec.ofChange projectAllSpec)

/-- ITS FALSE NEIGHBOUR: 'it returns false'. Refute it at one input. -/
def projectAllWrong : ChangeSpec := { name := "projectAll", fn := fun _ => fun
  | [d1, d2, d3, d4] => { results := [.lit (.bool false)], args := [d1, d2, d3, d4] }
  | _ => none }
def ProjectAllWrongFalsely : Prop := projectAllRow.holds Try.pinned (OpenSpec.ofChange projectAllWrong)

/-- 'shredderlaw7.ProjectFits': WHATEVER THE INPUT: true; the input reads as it did. -/
def projectFitsSpec : ChangeSpec := { name := "projectFits", fn := fun _ => fun
  | [d1, d2, d3] => { results := [.lit (.bool true)], args := [d1, d2, d3] }
  | _ => none }
def projectFitsRow : OpenClaim := { program := "ytamcpebnfckdmaa", sum := "45f3a3525f65c40b969049dfdff586f6038e4a9e5619097429470ea0facef793", func := "shredder/shredderlaw7.ProjectFits", spec := "projectFits", unfollowed := true, recurses := true, apart := false }
def ProjectFitsSaid : Prop := projectFitsRow.holds Try.pinned (OpenSpec.ofChange projectFitsSpec)

/-- ITS FALSE NEIGHBOUR: 'it returns false'. Refute it at one input. -/
def projectFitsWrong : ChangeSpec := { name := "projectFits", fn := fun _ => fun
  | [d1, d2, d3] => { results := [.lit (.bool false)], args := [d1, d2, d3] }
  | _ => none }
def ProjectFitsWrongFalsely : Prop := projectFitsRow.holds Try.pinned (OpenSpec.ofChange projectFitsWrong)

/-- 'shredderlaw7.ProjectTwice': WHATEVER THE INPUT: true; the input reads as it did. -/
def projectTwiceSpec : ChangeSpec := { name := "projectTwice", fn := fun _ => fun
  | [d1, d2, d3, d4] => { results := [.lit (.bool true)], args := [d1, d2, d3, d4] }
  | _ => none }
def projectTwiceRow : OpenClaim := { program := "ytamcpebnfckdmaa", sum := "45f3a3525f65c40b969049dfdff586f6038e4a9e5619097429470ea0facef793", func := "shredder/shredderlaw7.ProjectTwice", spec := "projectTwice", unfollowed := true, recurses := true, apart := false }
def ProjectTwiceSaid : Prop := projectTwiceRow.holds Try.pinned (OpenSpec.ofChange projectTwiceSpec)

/-- ITS FALSE NEIGHBOUR: 'it returns false'. Refute it at one input. -/
def projectTwiceWrong : ChangeSpec := { name := "projectTwice", fn := fun _ => fun
  | [d1, d2, d3, d4] => { results := [.lit (.bool false)], args := [d1, d2, d3, d4] }
  | _ => none }
def ProjectTwiceWrongFalsely : Prop := projectTwiceRow.holds Try.pinned (OpenSpec.ofChange projectTwiceWrong)

/-- 'shredderlaw7.ProjectOne': WHATEVER THE INPUT: true; the input reads as it did. -/
def projectOneSpec : ChangeSpec := { name := "projectOne", fn := fun _ => fun
  | [d1, d2] => { results := [.lit (.bool true)], args := [d1, d2] }
  | _ => none }
def projectOneRow : OpenClaim := { program := "ytamcpebnfckdmaa", sum := "45f3a3525f65c40b969049dfdff586f6038e4a9e5619097429470ea0facef793", func := "shredder/shredderlaw7.ProjectOne", spec := "projectOne", unfollowed := true, recurses := true, apart := false }
def ProjectOneSaid : Prop := projectOneRow.holds Try.pinned (OpenSpec.ofChange projectOneSpec)

/-- ITS FALSE NEIGHBOUR: 'it returns false'. Refute it at one input. -/
def projectOneWrong : ChangeSpec := { name := "projectOne", fn := fun _ => fun
  | [d1, d2] => { results := [.lit (.bool false)], args := [d1, d2] }
  | _ => none }
def ProjectOneWrongFalsely : Prop := projectOneRow.holds Try.pinned (OpenSpec.ofChange projectOneWrong)

/-- 'shredderlaw7.ProjectAlone': WHATEVER THE INPUT: true; the input reads as it did. -/
def projectAloneSpec : ChangeSpec := { name := "projectAlone", fn := fun _ => fun
  | [d1, d2, d3] => { results := [.lit (.bool true)], args := [d1, d2, d3] }
  | _ => none }
def projectAloneRow : OpenClaim := { program := "ytamcpebnfckdmaa", sum := "45f3a3525f65c40b969049dfdff586f6038e4a9e5619097429470ea0facef793", func := "shredder/shredderlaw7.ProjectAlone", spec := "projectAlone", unfollowed := true, recurses := true, apart := false }
def ProjectAloneSaid : Prop := projectAloneRow.holds Try.pinned (OpenSpec.ofChange projectAloneSpec)

/-- ITS FALSE NEIGHBOUR: 'it returns false'. Refute it at one input. -/
def projectAloneWrong : ChangeSpec := { name := "projectAlone", fn := fun _ => fun
  | [d1, d2, d3] => { results := [.lit (.bool false)], args := [d1, d2, d3] }
  | _ => none }
def ProjectAloneWrongFalsely : Prop := projectAloneRow.holds Try.pinned (OpenSpec.ofChange projectAloneWrong)

/-- 'shredderlaw8.TreeFits': WHATEVER THE INPUT: true; the input reads as it did. -/
def treeFitsSpec : ChangeSpec := { name := "treeFits", fn := fun _ => fun
  | [d1, d2, d3, d4, d5, d6, d7] => { results := [.lit (.bool true)], args := [d1, d2, d3, d4, d5, d6, d7] }
  | _ => none }
def treeFitsRow : OpenClaim := { program := "ytamcpebnfckdmaa", sum := "45f3a3525f65c40b969049dfdff586f6038e4a9e5619097429470ea0facef793", func := "shredder/shredderlaw8.TreeFits", spec := "treeFits", unfollowed := true, recurses := true, loops := true, apart := false }
def TreeFitsSaid : Prop := treeFitsRow.holds Try.pinned (OpenSpec.ofChange treeFitsSpec)

/-- ITS FALSE NEIGHBOUR: 'it returns false'. Refute it at one input. -/
def treeFitsWrong : ChangeSpec := { name := "treeFits", fn := fun _ => fun
  | [d1, d2, d3, d4, d5, d6, d7] => { results := [.lit (.bool false)], args := [d1, d2, d3, d4, d5, d6, d7] }
  | _ => none }
def TreeFitsWrongFalsely : Prop := treeFitsRow.holds Try.pinned (OpenSpec.ofChange treeFitsWrong)

/-- 'shredderlaw8.TreeSames': WHATEVER THE INPUT: true; the input reads as it did. -/
def treeSamesSpec : ChangeSpec := { name := "treeSames", fn := fun _ => fun
  | [d1, d2, d3, d4, d5] => { results := [.lit (.bool true)], args := [d1, d2, d3, d4, d5] }
  | _ => none }
def treeSamesRow : OpenClaim := { program := "ytamcpebnfckdmaa", sum := "45f3a3525f65c40b969049dfdff586f6038e4a9e5619097429470ea0facef793", func := "shredder/shredderlaw8.TreeSames", spec := "treeSames", unfollowed := true, recurses := true, apart := false }
def TreeSamesSaid : Prop := treeSamesRow.holds Try.pinned (OpenSpec.ofChange treeSamesSpec)

/-- ITS FALSE NEIGHBOUR: 'it returns false'. Refute it at one input. -/
def treeSamesWrong : ChangeSpec := { name := "treeSames", fn := fun _ => fun
  | [d1, d2, d3, d4, d5] => { results := [.lit (.bool false)], args := [d1, d2, d3, d4, d5] }
  | _ => none }
def TreeSamesWrongFalsely : Prop := treeSamesRow.holds Try.pinned (OpenSpec.ofChange treeSamesWrong)

/-- 'shredderlaw8.TreeCounts': WHATEVER THE INPUT: true; the input reads as it did. -/
def treeCountsSpec : ChangeSpec := { name := "treeCounts", fn := fun _ => fun
  | [d1, d2] => { results := [.lit (.bool true)], args := [d1, d2] }
  | _ => none }
def treeCountsRow : OpenClaim := { program := "ytamcpebnfckdmaa", sum := "45f3a3525f65c40b969049dfdff586f6038e4a9e5619097429470ea0facef793", func := "shredder/shredderlaw8.TreeCounts", spec := "treeCounts", unfollowed := true, recurses := true, apart := false }
def TreeCountsSaid : Prop := treeCountsRow.holds Try.pinned (OpenSpec.ofChange treeCountsSpec)

/-- ITS FALSE NEIGHBOUR: 'it returns false'. Refute it at one input. -/
def treeCountsWrong : ChangeSpec := { name := "treeCounts", fn := fun _ => fun
  | [d1, d2] => { results := [.lit (.bool false)], args := [d1, d2] }
  | _ => none }
def TreeCountsWrongFalsely : Prop := treeCountsRow.holds Try.pinned (OpenSpec.ofChange treeCountsWrong)

/-- 'shredderlaw8.TreeValues': WHATEVER THE INPUT: true; the input reads as it did. -/
def treeValuesSpec : ChangeSpec := { name := "treeValues", fn := fun _ => fun
  | [d1, d2, d3] => { results := [.lit (.bool true)], args := [d1, d2, d3] }
  | _ => none }
def treeValuesRow : OpenClaim := { program := "ytamcpebnfckdmaa", sum := "45f3a3525f65c40b969049dfdff586f6038e4a9e5619097429470ea0facef793", func := "shredder/shredderlaw8.TreeValues", spec := "treeValues", unfollowed := true, recurses := true, apart := false }
def TreeValuesSaid : Prop := treeValuesRow.holds Try.pinned (OpenSpec.ofChange treeValuesSpec)

/-- ITS FALSE NEIGHBOUR: 'it returns false'. Refute it at one input. -/
def treeValuesWrong : ChangeSpec := { name := "treeValues", fn := fun _ => fun
  | [d1, d2, d3] => { results := [.lit (.bool false)], args := [d1, d2, d3] }
  | _ => none }
def TreeValuesWrongFalsely : Prop := treeValuesRow.holds Try.pinned (OpenSpec.ofChange treeValuesWrong)

/-- 'shredderlaw8.TreeFirst': WHATEVER THE INPUT: true; the input reads as it did. -/
def treeFirstSpec : ChangeSpec := { name := "treeFirst", fn := fun _ => fun
  | [d1, d2] => { results := [.lit (.bool true)], args := [d1, d2] }
  | _ => none }
def treeFirstRow : OpenClaim := { program := "ytamcpebnfckdmaa", sum := "45f3a3525f65c40b969049dfdff586f6038e4a9e5619097429470ea0facef793", func := "shredder/shredderlaw8.TreeFirst", spec := "treeFirst", unfollowed := true, recurses := true, apart := false }
def TreeFirstSaid : Prop := treeFirstRow.holds Try.pinned (OpenSpec.ofChange treeFirstSpec)

/-- ITS FALSE NEIGHBOUR: 'it returns false'. Refute it at one input. -/
def treeFirstWrong : ChangeSpec := { name := "treeFirst", fn := fun _ => fun
  | [d1, d2] => { results := [.lit (.bool false)], args := [d1, d2] }
  | _ => none }
def TreeFirstWrongFalsely : Prop := treeFirstRow.holds Try.pinned (OpenSpec.ofChange treeFirstWrong)

/-- 'shredderlaw8.TreeSizes': WHATEVER THE INPUT: true; the input reads as it did. -/
def treeSizesSpec : ChangeSpec := { name := "treeSizes", fn := fun _ => fun
  | [d1, d2] => { results := [.lit (.bool true)], args := [d1, d2] }
  | _ => none }
def treeSizesRow : OpenClaim := { program := "ytamcpebnfckdmaa", sum := "45f3a3525f65c40b969049dfdff586f6038e4a9e5619097429470ea0facef793", func := "shredder/shredderlaw8.TreeSizes", spec := "treeSizes", unfollowed := true, recurses := true, apart := false }
def TreeSizesSaid : Prop := treeSizesRow.holds Try.pinned (OpenSpec.ofChange treeSizesSpec)

/-- ITS FALSE NEIGHBOUR: 'it returns false'. Refute it at one input. -/
def treeSizesWrong : ChangeSpec := { name := "treeSizes", fn := fun _ => fun
  | [d1, d2] => { results := [.lit (.bool false)], args := [d1, d2] }
  | _ => none }
def TreeSizesWrongFalsely : Prop := treeSizesRow.holds Try.pinned (OpenSpec.ofChange treeSizesWrong)

/-- 'shredderlaw8.TreeKinds': WHATEVER THE INPUT: true; the input reads as it did. -/
def treeKindsSpec : ChangeSpec := { name := "treeKinds", fn := fun _ => fun
  | [d1, d2, d3, d4] => { results := [.lit (.bool true)], args := [d1, d2, d3, d4] }
  | _ => none }
def treeKindsRow : OpenClaim := { program := "ytamcpebnfckdmaa", sum := "45f3a3525f65c40b969049dfdff586f6038e4a9e5619097429470ea0facef793", func := "shredder/shredderlaw8.TreeKinds", spec := "treeKinds", unfollowed := true, recurses := true, apart := false }
def TreeKindsSaid : Prop := treeKindsRow.holds Try.pinned (OpenSpec.ofChange treeKindsSpec)

/-- ITS FALSE NEIGHBOUR: 'it returns false'. Refute it at one input. -/
def treeKindsWrong : ChangeSpec := { name := "treeKinds", fn := fun _ => fun
  | [d1, d2, d3, d4] => { results := [.lit (.bool false)], args := [d1, d2, d3, d4] }
  | _ => none }
def TreeKindsWrongFalsely : Prop := treeKindsRow.holds Try.pinned (OpenSpec.ofChange treeKindsWrong)

/- THE SECOND FORM. 'bulk': how many values and letters a reading holds, each counted each time it is reached (what is shared counts as often as it is met; a slice's spare places count too). A statement '..UptoSaid' is the law's where the arguments, and the package variables that the reading takes, are together of bulk at most 1048576: NARROWER than '..Said'. Prove '..Said' where nothing that the law and all that it calls make is longer than what came in: it says more and counts as full. Else prove '..UptoSaid'. A law counts once. -/
mutual
def uptoBulk {H : Type} : DataW H → Nat
  | .lit (.string bytes) => bytes.length + 1
  | .lit _ => 1
  | .nil => 1
  | .ptr d => uptoBulk d + 1
  | .slice elems spare => uptoBulkAll elems + uptoBulkAll spare + 1
  | .agg parts => uptoBulkAll parts + 1
  | .iface _ d => uptoBulk d + 1
  | .map entries => uptoBulkEntries entries + 1
  | .held _ => 1
def uptoBulkAll {H : Type} : List (DataW H) → Nat
  | [] => 0
  | d :: r => uptoBulk d + uptoBulkAll r
def uptoBulkEntries {H : Type} : List (Lit × DataW H) → Nat
  | [] => 0
  | x :: r => uptoBulkEntry x + uptoBulkEntries r
def uptoBulkEntry {H : Type} : Lit × DataW H → Nat
  | (.string bytes, d) => bytes.length + uptoBulk d + 1
  | (_, d) => uptoBulk d + 1
 end
def uptoSmall : (H : Type) → List (DataW H) → Bool := fun _ ds => decide (uptoBulkAll ds ≤ 1048576)
def OpenSpec.upto (s : _root_.Go.ChangeSpec) : _root_.Go.OpenSpec := { _root_.Go.OpenSpec.ofChange s with cond := some uptoSmall }

/-- 'shredderlaw7.ProjectAll', WHERE WHAT IT READS IS OF BULK AT MOST 1048576: true; the input reads as it did. -/
def projectAllUptoRow : OpenClaim := { program := "ytamcpebnfckdmaa", sum := "45f3a3525f65c40b969049dfdff586f6038e4a9e5619097429470ea0facef793", func := "shredder/shredderlaw7.ProjectAll", spec := "projectAll", unfollowed := true, recurses := true, apart := false, narrowed := true }
def ProjectAllUptoSaid : Prop := projectAllUptoRow.holds Try.pinned (OpenSpec.upto projectAllSpec)

/-- 'shredderlaw7.ProjectFits', WHERE WHAT IT READS IS OF BULK AT MOST 1048576: true; the input reads as it did. -/
def projectFitsUptoRow : OpenClaim := { program := "ytamcpebnfckdmaa", sum := "45f3a3525f65c40b969049dfdff586f6038e4a9e5619097429470ea0facef793", func := "shredder/shredderlaw7.ProjectFits", spec := "projectFits", unfollowed := true, recurses := true, apart := false, narrowed := true }
def ProjectFitsUptoSaid : Prop := projectFitsUptoRow.holds Try.pinned (OpenSpec.upto projectFitsSpec)

/-- 'shredderlaw7.ProjectTwice', WHERE WHAT IT READS IS OF BULK AT MOST 1048576: true; the input reads as it did. -/
def projectTwiceUptoRow : OpenClaim := { program := "ytamcpebnfckdmaa", sum := "45f3a3525f65c40b969049dfdff586f6038e4a9e5619097429470ea0facef793", func := "shredder/shredderlaw7.ProjectTwice", spec := "projectTwice", unfollowed := true, recurses := true, apart := false, narrowed := true }
def ProjectTwiceUptoSaid : Prop := projectTwiceUptoRow.holds Try.pinned (OpenSpec.upto projectTwiceSpec)

/-- 'shredderlaw7.ProjectOne', WHERE WHAT IT READS IS OF BULK AT MOST 1048576: true; the input reads as it did. -/
def projectOneUptoRow : OpenClaim := { program := "ytamcpebnfckdmaa", sum := "45f3a3525f65c40b969049dfdff586f6038e4a9e5619097429470ea0facef793", func := "shredder/shredderlaw7.ProjectOne", spec := "projectOne", unfollowed := true, recurses := true, apart := false, narrowed := true }
def ProjectOneUptoSaid : Prop := projectOneUptoRow.holds Try.pinned (OpenSpec.upto projectOneSpec)

/-- 'shredderlaw7.ProjectAlone', WHERE WHAT IT READS IS OF BULK AT MOST 1048576: true; the input reads as it did. -/
def projectAloneUptoRow : OpenClaim := { program := "ytamcpebnfckdmaa", sum := "45f3a3525f65c40b969049dfdff586f6038e4a9e5619097429470ea0facef793", func := "shredder/shredderlaw7.ProjectAlone", spec := "projectAlone", unfollowed := true, recurses := true, apart := false, narrowed := true }
def ProjectAloneUptoSaid : Prop := projectAloneUptoRow.holds Try.pinned (OpenSpec.upto projectAloneSpec)

/-- 'shredderlaw8.TreeFits', WHERE WHAT IT READS IS OF BULK AT MOST 1048576: true; the input reads as it did. -/
def treeFitsUptoRow : OpenClaim := { program := "ytamcpebnfckdmaa", sum := "45f3a3525f65c40b969049dfdff586f6038e4a9e5619097429470ea0facef793", func := "shredder/shredderlaw8.TreeFits", spec := "treeFits", unfollowed := true, recurses := true, loops := true, apart := false, narrowed := true }
def TreeFitsUptoSaid : Prop := treeFitsUptoRow.holds Try.pinned (OpenSpec.upto treeFitsSpec)

/-- 'shredderlaw8.TreeSames', WHERE WHAT IT READS IS OF BULK AT MOST 1048576: true; the input reads as it did. -/
def treeSamesUptoRow : OpenClaim := { program := "ytamcpebnfckdmaa", sum := "45f3a3525f65c40b969049dfdff586f6038e4a9e5619097429470ea0facef793", func := "shredder/shredderlaw8.TreeSames", spec := "treeSames", unfollowed := true, recurses := true, apart := false, narrowed := true }
def TreeSamesUptoSaid : Prop := treeSamesUptoRow.holds Try.pinned (OpenSpec.upto treeSamesSpec)

/-- 'shredderlaw8.TreeCounts', WHERE WHAT IT READS IS OF BULK AT MOST 1048576: true; the input reads as it did. -/
def treeCountsUptoRow : OpenClaim := { program := "ytamcpebnfckdmaa", sum := "45f3a3525f65c40b969049dfdff586f6038e4a9e5619097429470ea0facef793", func := "shredder/shredderlaw8.TreeCounts", spec := "treeCounts", unfollowed := true, recurses := true, apart := false, narrowed := true }
def TreeCountsUptoSaid : Prop := treeCountsUptoRow.holds Try.pinned (OpenSpec.upto treeCountsSpec)

/-- 'shredderlaw8.TreeValues', WHERE WHAT IT READS IS OF BULK AT MOST 1048576: true; the input reads as it did. -/
def treeValuesUptoRow : OpenClaim := { program := "ytamcpebnfckdmaa", sum := "45f3a3525f65c40b969049dfdff586f6038e4a9e5619097429470ea0facef793", func := "shredder/shredderlaw8.TreeValues", spec := "treeValues", unfollowed := true, recurses := true, apart := false, narrowed := true }
def TreeValuesUptoSaid : Prop := treeValuesUptoRow.holds Try.pinned (OpenSpec.upto treeValuesSpec)

/-- 'shredderlaw8.TreeFirst', WHERE WHAT IT READS IS OF BULK AT MOST 1048576: true; the input reads as it did. -/
def treeFirstUptoRow : OpenClaim := { program := "ytamcpebnfckdmaa", sum := "45f3a3525f65c40b969049dfdff586f6038e4a9e5619097429470ea0facef793", func := "shredder/shredderlaw8.TreeFirst", spec := "treeFirst", unfollowed := true, recurses := true, apart := false, narrowed := true }
def TreeFirstUptoSaid : Prop := treeFirstUptoRow.holds Try.pinned (OpenSpec.upto treeFirstSpec)

/-- 'shredderlaw8.TreeSizes', WHERE WHAT IT READS IS OF BULK AT MOST 1048576: true; the input reads as it did. -/
def treeSizesUptoRow : OpenClaim := { program := "ytamcpebnfckdmaa", sum := "45f3a3525f65c40b969049dfdff586f6038e4a9e5619097429470ea0facef793", func := "shredder/shredderlaw8.TreeSizes", spec := "treeSizes", unfollowed := true, recurses := true, apart := false, narrowed := true }
def TreeSizesUptoSaid : Prop := treeSizesUptoRow.holds Try.pinned (OpenSpec.upto treeSizesSpec)

/-- 'shredderlaw8.TreeKinds', WHERE WHAT IT READS IS OF BULK AT MOST 1048576: true; the input reads as it did. -/
def treeKindsUptoRow : OpenClaim := { program := "ytamcpebnfckdmaa", sum := "45f3a3525f65c40b969049dfdff586f6038e4a9e5619097429470ea0facef793", func := "shredder/shredderlaw8.TreeKinds", spec := "treeKinds", unfollowed := true, recurses := true, apart := false, narrowed := true }
def TreeKindsUptoSaid : Prop := treeKindsUptoRow.holds Try.pinned (OpenSpec.upto treeKindsSpec)

end Rows
end Go.Proofs.Ytamcpebnfckdmaa
