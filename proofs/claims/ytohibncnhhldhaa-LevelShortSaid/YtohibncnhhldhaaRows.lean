/-
  NARROWER THAN 'FOR EVERY INPUT', by the rows' own cells (each row's printed sentence says how): TreeFits: loops.
  DERIVED. THE GIVEN ROWS OF THIS SEAT. 16 by the template 'for every input the law returns true; each argument reads behind the call as it read before'; 0 by the template 'total and deterministic' (their statements: YtohibncnhhldhaaTotals.lean).
  GIVEN WITH THE SEED: the statements are not yours to turn. If you find one false, say at which input.
  Laid BY PROGRAM, IN A SANDBOX (cutbox-rows.mjs): the forced cells as the released guide's own fill.sh prints them over the translation 7817d3c9db543efe… (all of the seat's roots in one cut). By AI agents, Wed Nov 11 2026. No macro, syntax, notation, axiom, sorry.
-/
import Derived.Test.YtohibncnhhldhaaChecked
import GoSem.Claim
import GoSem.ClaimJoined
import GoSem.ClaimMapViews
import Derived.JoinedTies
import Derived.KernelRfl
namespace Go.Proofs.Ytohibncnhhldhaa
/- THE CELL 'sum', in the pinned program and in every row, IS THE sha256 OF THE DUMP (.gsa) THAT YtohibncnhhldhaaProg.lean LOADS. Nothing in Lean hashes anything: it is a label: what it is worth is what the hold of that sum in a sandbox is worth. -/
noncomputable def Try.pinned : Pinned := { name := "ytohibncnhhldhaa", sum := "7817d3c9db543efe3ed9487e648210cfe20f0970bcddce044298ea83c1d6af98", checked := Try.checked }
namespace Rows
def none {H : Type} : Left H := { results := [], args := [] }

/-- 'shredderlaw7.ProjectAll': WHATEVER THE INPUT: true; the input reads as it did. -/
def projectAllSpec : ChangeSpec := { name := "projectAll", fn := fun _ => fun
  | [d1, d2, d3, d4] => { results := [.lit (.bool true)], args := [d1, d2, d3, d4] }
  | _ => none }
def projectAllRow : OpenClaim := { program := "ytohibncnhhldhaa", sum := "7817d3c9db543efe3ed9487e648210cfe20f0970bcddce044298ea83c1d6af98", func := "shredder/shredderlaw7.ProjectAll", spec := "projectAll", unfollowed := true, recurses := true, apart := false }
def ProjectAllSaid : Prop := projectAllRow.holds Try.pinned (OpenSpec.ofChange projectAllSpec)

/-- ITS FALSE NEIGHBOUR: 'it returns false'. Refute it at one input. -/
def projectAllWrong : ChangeSpec := { name := "projectAll", fn := fun _ => fun
  | [d1, d2, d3, d4] => { results := [.lit (.bool false)], args := [d1, d2, d3, d4] }
  | _ => none }
def ProjectAllWrongFalsely : Prop := projectAllRow.holds Try.pinned (OpenSpec.ofChange projectAllWrong)

/-- 'shredderlaw7.ProjectFits': WHATEVER THE INPUT: true; the input reads as it did. -/
def projectFitsSpec : ChangeSpec := { name := "projectFits", fn := fun _ => fun
  | [d1, d2, d3] => { results := [.lit (.bool true)], args := [d1, d2, d3] }
  | _ => none }
def projectFitsRow : OpenClaim := { program := "ytohibncnhhldhaa", sum := "7817d3c9db543efe3ed9487e648210cfe20f0970bcddce044298ea83c1d6af98", func := "shredder/shredderlaw7.ProjectFits", spec := "projectFits", unfollowed := true, recurses := true, apart := false }
def ProjectFitsSaid : Prop := projectFitsRow.holds Try.pinned (OpenSpec.ofChange projectFitsSpec)

/-- ITS FALSE NEIGHBOUR: 'it returns false'. Refute it at one input. -/
def projectFitsWrong : ChangeSpec := { name := "projectFits", fn := fun _ => fun
  | [d1, d2, d3] => { results := [.lit (.bool false)], args := [d1, d2, d3] }
  | _ => none }
def ProjectFitsWrongFalsely : Prop := projectFitsRow.holds Try.pinned (OpenSpec.ofChange projectFitsWrong)

/-- 'shredderlaw7.ProjectTwice': WHATEVER THE INPUT: true; the input reads as it did. -/
def projectTwiceSpec : ChangeSpec := { name := "projectTwice", fn := fun _ => fun
  | [d1, d2, d3, d4] => { results := [.lit (.bool true)], args := [d1, d2, d3, d4] }
  | _ => none }
def projectTwiceRow : OpenClaim := { program := "ytohibncnhhldhaa", sum := "7817d3c9db543efe3ed9487e648210cfe20f0970bcddce044298ea83c1d6af98", func := "shredder/shredderlaw7.ProjectTwice", spec := "projectTwice", unfollowed := true, recurses := true, apart := false }
def ProjectTwiceSaid : Prop := projectTwiceRow.holds Try.pinned (OpenSpec.ofChange projectTwiceSpec)

/-- ITS FALSE NEIGHBOUR: 'it returns false'. Refute it at one input. -/
def projectTwiceWrong : ChangeSpec := { name := "projectTwice", fn := fun _ => fun
  | [d1, d2, d3, d4] => { results := [.lit (.bool false)], args := [d1, d2, d3, d4] }
  | _ => none }
def ProjectTwiceWrongFalsely : Prop := projectTwiceRow.holds Try.pinned (OpenSpec.ofChange projectTwiceWrong)

/-- 'shredderlaw7.ProjectAlone': WHATEVER THE INPUT: true; the input reads as it did. -/
def projectAloneSpec : ChangeSpec := { name := "projectAlone", fn := fun _ => fun
  | [d1, d2, d3] => { results := [.lit (.bool true)], args := [d1, d2, d3] }
  | _ => none }
def projectAloneRow : OpenClaim := { program := "ytohibncnhhldhaa", sum := "7817d3c9db543efe3ed9487e648210cfe20f0970bcddce044298ea83c1d6af98", func := "shredder/shredderlaw7.ProjectAlone", spec := "projectAlone", unfollowed := true, recurses := true, apart := false }
def ProjectAloneSaid : Prop := projectAloneRow.holds Try.pinned (OpenSpec.ofChange projectAloneSpec)

/-- ITS FALSE NEIGHBOUR: 'it returns false'. Refute it at one input. -/
def projectAloneWrong : ChangeSpec := { name := "projectAlone", fn := fun _ => fun
  | [d1, d2, d3] => { results := [.lit (.bool false)], args := [d1, d2, d3] }
  | _ => none }
def ProjectAloneWrongFalsely : Prop := projectAloneRow.holds Try.pinned (OpenSpec.ofChange projectAloneWrong)

/-- 'shredderlaw8.TreeFits': WHATEVER THE INPUT: true; the input reads as it did. -/
def treeFitsSpec : ChangeSpec := { name := "treeFits", fn := fun _ => fun
  | [d1, d2, d3, d4, d5, d6, d7] => { results := [.lit (.bool true)], args := [d1, d2, d3, d4, d5, d6, d7] }
  | _ => none }
def treeFitsRow : OpenClaim := { program := "ytohibncnhhldhaa", sum := "7817d3c9db543efe3ed9487e648210cfe20f0970bcddce044298ea83c1d6af98", func := "shredder/shredderlaw8.TreeFits", spec := "treeFits", unfollowed := true, recurses := true, loops := true, apart := false }
def TreeFitsSaid : Prop := treeFitsRow.holds Try.pinned (OpenSpec.ofChange treeFitsSpec)

/-- ITS FALSE NEIGHBOUR: 'it returns false'. Refute it at one input. -/
def treeFitsWrong : ChangeSpec := { name := "treeFits", fn := fun _ => fun
  | [d1, d2, d3, d4, d5, d6, d7] => { results := [.lit (.bool false)], args := [d1, d2, d3, d4, d5, d6, d7] }
  | _ => none }
def TreeFitsWrongFalsely : Prop := treeFitsRow.holds Try.pinned (OpenSpec.ofChange treeFitsWrong)

/-- 'shredderlaw9.WireRows': WHATEVER THE INPUT: true; the input reads as it did. -/
def wireRowsSpec : ChangeSpec := { name := "wireRows", fn := fun _ => fun
  | [d1, d2] => { results := [.lit (.bool true)], args := [d1, d2] }
  | _ => none }
def wireRowsRow : OpenClaim := { program := "ytohibncnhhldhaa", sum := "7817d3c9db543efe3ed9487e648210cfe20f0970bcddce044298ea83c1d6af98", func := "shredder/shredderlaw9.WireRows", spec := "wireRows", unfollowed := true, recurses := true, apart := false }
def WireRowsSaid : Prop := wireRowsRow.holds Try.pinned (OpenSpec.ofChange wireRowsSpec)

/-- ITS FALSE NEIGHBOUR: 'it returns false'. Refute it at one input. -/
def wireRowsWrong : ChangeSpec := { name := "wireRows", fn := fun _ => fun
  | [d1, d2] => { results := [.lit (.bool false)], args := [d1, d2] }
  | _ => none }
def WireRowsWrongFalsely : Prop := wireRowsRow.holds Try.pinned (OpenSpec.ofChange wireRowsWrong)

/-- 'shredderlaw9.WireFronts': WHATEVER THE INPUT: true; the input reads as it did. -/
def wireFrontsSpec : ChangeSpec := { name := "wireFronts", fn := fun _ => fun
  | [d1, d2, d3, d4] => { results := [.lit (.bool true)], args := [d1, d2, d3, d4] }
  | _ => none }
def wireFrontsRow : OpenClaim := { program := "ytohibncnhhldhaa", sum := "7817d3c9db543efe3ed9487e648210cfe20f0970bcddce044298ea83c1d6af98", func := "shredder/shredderlaw9.WireFronts", spec := "wireFronts", unfollowed := true, recurses := true, apart := false }
def WireFrontsSaid : Prop := wireFrontsRow.holds Try.pinned (OpenSpec.ofChange wireFrontsSpec)

/-- ITS FALSE NEIGHBOUR: 'it returns false'. Refute it at one input. -/
def wireFrontsWrong : ChangeSpec := { name := "wireFronts", fn := fun _ => fun
  | [d1, d2, d3, d4] => { results := [.lit (.bool false)], args := [d1, d2, d3, d4] }
  | _ => none }
def WireFrontsWrongFalsely : Prop := wireFrontsRow.holds Try.pinned (OpenSpec.ofChange wireFrontsWrong)

/-- 'shredderlaw9.WireBytes': WHATEVER THE INPUT: true; the input reads as it did. -/
def wireBytesSpec : ChangeSpec := { name := "wireBytes", fn := fun _ => fun
  | [d1, d2] => { results := [.lit (.bool true)], args := [d1, d2] }
  | _ => none }
def wireBytesRow : OpenClaim := { program := "ytohibncnhhldhaa", sum := "7817d3c9db543efe3ed9487e648210cfe20f0970bcddce044298ea83c1d6af98", func := "shredder/shredderlaw9.WireBytes", spec := "wireBytes", unfollowed := true, recurses := true, apart := false }
def WireBytesSaid : Prop := wireBytesRow.holds Try.pinned (OpenSpec.ofChange wireBytesSpec)

/-- ITS FALSE NEIGHBOUR: 'it returns false'. Refute it at one input. -/
def wireBytesWrong : ChangeSpec := { name := "wireBytes", fn := fun _ => fun
  | [d1, d2] => { results := [.lit (.bool false)], args := [d1, d2] }
  | _ => none }
def WireBytesWrongFalsely : Prop := wireBytesRow.holds Try.pinned (OpenSpec.ofChange wireBytesWrong)

/-- 'shredderlaw9.WireReads': WHATEVER THE INPUT: true; the input reads as it did. -/
def wireReadsSpec : ChangeSpec := { name := "wireReads", fn := fun _ => fun
  | [d1, d2, d3, d4, d5, d6] => { results := [.lit (.bool true)], args := [d1, d2, d3, d4, d5, d6] }
  | _ => none }
def wireReadsRow : OpenClaim := { program := "ytohibncnhhldhaa", sum := "7817d3c9db543efe3ed9487e648210cfe20f0970bcddce044298ea83c1d6af98", func := "shredder/shredderlaw9.WireReads", spec := "wireReads", unfollowed := true, recurses := true, apart := false }
def WireReadsSaid : Prop := wireReadsRow.holds Try.pinned (OpenSpec.ofChange wireReadsSpec)

/-- ITS FALSE NEIGHBOUR: 'it returns false'. Refute it at one input. -/
def wireReadsWrong : ChangeSpec := { name := "wireReads", fn := fun _ => fun
  | [d1, d2, d3, d4, d5, d6] => { results := [.lit (.bool false)], args := [d1, d2, d3, d4, d5, d6] }
  | _ => none }
def WireReadsWrongFalsely : Prop := wireReadsRow.holds Try.pinned (OpenSpec.ofChange wireReadsWrong)

/-- 'shredderlaw10.LevelBack': WHATEVER THE INPUT: true; the input reads as it did. -/
def levelBackSpec : ChangeSpec := { name := "levelBack", fn := fun _ => fun
  | [d1, d2] => { results := [.lit (.bool true)], args := [d1, d2] }
  | _ => none }
def levelBackRow : OpenClaim := { program := "ytohibncnhhldhaa", sum := "7817d3c9db543efe3ed9487e648210cfe20f0970bcddce044298ea83c1d6af98", func := "shredder/shredderlaw10.LevelBack", spec := "levelBack", unfollowed := true, recurses := true, apart := false }
def LevelBackSaid : Prop := levelBackRow.holds Try.pinned (OpenSpec.ofChange levelBackSpec)

/-- ITS FALSE NEIGHBOUR: 'it returns false'. Refute it at one input. -/
def levelBackWrong : ChangeSpec := { name := "levelBack", fn := fun _ => fun
  | [d1, d2] => { results := [.lit (.bool false)], args := [d1, d2] }
  | _ => none }
def LevelBackWrongFalsely : Prop := levelBackRow.holds Try.pinned (OpenSpec.ofChange levelBackWrong)

/-- 'shredderlaw10.LevelReads': WHATEVER THE INPUT: true; the input reads as it did. -/
def levelReadsSpec : ChangeSpec := { name := "levelReads", fn := fun _ => fun
  | [d1, d2, d3, d4, d5, d6, d7] => { results := [.lit (.bool true)], args := [d1, d2, d3, d4, d5, d6, d7] }
  | _ => none }
def levelReadsRow : OpenClaim := { program := "ytohibncnhhldhaa", sum := "7817d3c9db543efe3ed9487e648210cfe20f0970bcddce044298ea83c1d6af98", func := "shredder/shredderlaw10.LevelReads", spec := "levelReads", unfollowed := true, recurses := true, apart := false }
def LevelReadsSaid : Prop := levelReadsRow.holds Try.pinned (OpenSpec.ofChange levelReadsSpec)

/-- ITS FALSE NEIGHBOUR: 'it returns false'. Refute it at one input. -/
def levelReadsWrong : ChangeSpec := { name := "levelReads", fn := fun _ => fun
  | [d1, d2, d3, d4, d5, d6, d7] => { results := [.lit (.bool false)], args := [d1, d2, d3, d4, d5, d6, d7] }
  | _ => none }
def LevelReadsWrongFalsely : Prop := levelReadsRow.holds Try.pinned (OpenSpec.ofChange levelReadsWrong)

/-- 'shredderlaw10.LevelRuns': WHATEVER THE INPUT: true; the input reads as it did. -/
def levelRunsSpec : ChangeSpec := { name := "levelRuns", fn := fun _ => fun
  | [d1, d2, d3] => { results := [.lit (.bool true)], args := [d1, d2, d3] }
  | _ => none }
def levelRunsRow : OpenClaim := { program := "ytohibncnhhldhaa", sum := "7817d3c9db543efe3ed9487e648210cfe20f0970bcddce044298ea83c1d6af98", func := "shredder/shredderlaw10.LevelRuns", spec := "levelRuns", unfollowed := true, recurses := true, apart := false }
def LevelRunsSaid : Prop := levelRunsRow.holds Try.pinned (OpenSpec.ofChange levelRunsSpec)

/-- ITS FALSE NEIGHBOUR: 'it returns false'. Refute it at one input. -/
def levelRunsWrong : ChangeSpec := { name := "levelRuns", fn := fun _ => fun
  | [d1, d2, d3] => { results := [.lit (.bool false)], args := [d1, d2, d3] }
  | _ => none }
def LevelRunsWrongFalsely : Prop := levelRunsRow.holds Try.pinned (OpenSpec.ofChange levelRunsWrong)

/-- 'shredderlaw10.LevelNone': WHATEVER THE INPUT: true; the input reads as it did. -/
def levelNoneSpec : ChangeSpec := { name := "levelNone", fn := fun _ => fun
  | [d1, d2] => { results := [.lit (.bool true)], args := [d1, d2] }
  | _ => none }
def levelNoneRow : OpenClaim := { program := "ytohibncnhhldhaa", sum := "7817d3c9db543efe3ed9487e648210cfe20f0970bcddce044298ea83c1d6af98", func := "shredder/shredderlaw10.LevelNone", spec := "levelNone", unfollowed := true, recurses := true, apart := false }
def LevelNoneSaid : Prop := levelNoneRow.holds Try.pinned (OpenSpec.ofChange levelNoneSpec)

/-- ITS FALSE NEIGHBOUR: 'it returns false'. Refute it at one input. -/
def levelNoneWrong : ChangeSpec := { name := "levelNone", fn := fun _ => fun
  | [d1, d2] => { results := [.lit (.bool false)], args := [d1, d2] }
  | _ => none }
def LevelNoneWrongFalsely : Prop := levelNoneRow.holds Try.pinned (OpenSpec.ofChange levelNoneWrong)

/-- 'shredderlaw10.LevelMany': WHATEVER THE INPUT: true; the input reads as it did. -/
def levelManySpec : ChangeSpec := { name := "levelMany", fn := fun _ => fun
  | [d1, d2, d3] => { results := [.lit (.bool true)], args := [d1, d2, d3] }
  | _ => none }
def levelManyRow : OpenClaim := { program := "ytohibncnhhldhaa", sum := "7817d3c9db543efe3ed9487e648210cfe20f0970bcddce044298ea83c1d6af98", func := "shredder/shredderlaw10.LevelMany", spec := "levelMany", unfollowed := true, recurses := true, apart := false }
def LevelManySaid : Prop := levelManyRow.holds Try.pinned (OpenSpec.ofChange levelManySpec)

/-- ITS FALSE NEIGHBOUR: 'it returns false'. Refute it at one input. -/
def levelManyWrong : ChangeSpec := { name := "levelMany", fn := fun _ => fun
  | [d1, d2, d3] => { results := [.lit (.bool false)], args := [d1, d2, d3] }
  | _ => none }
def LevelManyWrongFalsely : Prop := levelManyRow.holds Try.pinned (OpenSpec.ofChange levelManyWrong)

/-- 'shredderlaw10.LevelShort': WHATEVER THE INPUT: true; the input reads as it did. -/
def levelShortSpec : ChangeSpec := { name := "levelShort", fn := fun _ => fun
  | [d1, d2, d3, d4] => { results := [.lit (.bool true)], args := [d1, d2, d3, d4] }
  | _ => none }
def levelShortRow : OpenClaim := { program := "ytohibncnhhldhaa", sum := "7817d3c9db543efe3ed9487e648210cfe20f0970bcddce044298ea83c1d6af98", func := "shredder/shredderlaw10.LevelShort", spec := "levelShort", unfollowed := true, recurses := true, apart := false }
def LevelShortSaid : Prop := levelShortRow.holds Try.pinned (OpenSpec.ofChange levelShortSpec)

/-- ITS FALSE NEIGHBOUR: 'it returns false'. Refute it at one input. -/
def levelShortWrong : ChangeSpec := { name := "levelShort", fn := fun _ => fun
  | [d1, d2, d3, d4] => { results := [.lit (.bool false)], args := [d1, d2, d3, d4] }
  | _ => none }
def LevelShortWrongFalsely : Prop := levelShortRow.holds Try.pinned (OpenSpec.ofChange levelShortWrong)

/-- 'shredderlaw10.LevelRun': WHATEVER THE INPUT: true; the input reads as it did. -/
def levelRunSpec : ChangeSpec := { name := "levelRun", fn := fun _ => fun
  | [d1, d2, d3] => { results := [.lit (.bool true)], args := [d1, d2, d3] }
  | _ => none }
def levelRunRow : OpenClaim := { program := "ytohibncnhhldhaa", sum := "7817d3c9db543efe3ed9487e648210cfe20f0970bcddce044298ea83c1d6af98", func := "shredder/shredderlaw10.LevelRun", spec := "levelRun", unfollowed := true, recurses := true, apart := false }
def LevelRunSaid : Prop := levelRunRow.holds Try.pinned (OpenSpec.ofChange levelRunSpec)

/-- ITS FALSE NEIGHBOUR: 'it returns false'. Refute it at one input. -/
def levelRunWrong : ChangeSpec := { name := "levelRun", fn := fun _ => fun
  | [d1, d2, d3] => { results := [.lit (.bool false)], args := [d1, d2, d3] }
  | _ => none }
def LevelRunWrongFalsely : Prop := levelRunRow.holds Try.pinned (OpenSpec.ofChange levelRunWrong)

/- THE SECOND FORM. 'bulk': how many values and letters a reading holds, each counted each time it is reached (what is shared counts as often as it is met; a slice's spare places count too). A statement '..UptoSaid' is the law's where the arguments, and the package variables that the reading takes, are together of bulk at most 1048576: NARROWER than '..Said'. Prove '..Said' where nothing that the law and all that it calls make is longer than what came in: it says more and counts as full. Else prove '..UptoSaid'. A law counts once. -/
mutual
def uptoBulk {H : Type} : DataW H → Nat
  | .lit (.string bytes) => bytes.length + 1
  | .lit _ => 1
  | .nil => 1
  | .ptr d => uptoBulk d + 1
  | .slice elems spare => uptoBulkAll elems + uptoBulkAll spare + 1
  | .agg parts => uptoBulkAll parts + 1
  | .iface _ d => uptoBulk d + 1
  | .map entries => uptoBulkEntries entries + 1
  | .held _ => 1
def uptoBulkAll {H : Type} : List (DataW H) → Nat
  | [] => 0
  | d :: r => uptoBulk d + uptoBulkAll r
def uptoBulkEntries {H : Type} : List (Lit × DataW H) → Nat
  | [] => 0
  | x :: r => uptoBulkEntry x + uptoBulkEntries r
def uptoBulkEntry {H : Type} : Lit × DataW H → Nat
  | (.string bytes, d) => bytes.length + uptoBulk d + 1
  | (_, d) => uptoBulk d + 1
 end
def uptoSmall : (H : Type) → List (DataW H) → Bool := fun _ ds => decide (uptoBulkAll ds ≤ 1048576)
def OpenSpec.upto (s : _root_.Go.ChangeSpec) : _root_.Go.OpenSpec := { _root_.Go.OpenSpec.ofChange s with cond := some uptoSmall }

/-- 'shredderlaw7.ProjectAll', WHERE WHAT IT READS IS OF BULK AT MOST 1048576: true; the input reads as it did. -/
def projectAllUptoRow : OpenClaim := { program := "ytohibncnhhldhaa", sum := "7817d3c9db543efe3ed9487e648210cfe20f0970bcddce044298ea83c1d6af98", func := "shredder/shredderlaw7.ProjectAll", spec := "projectAll", unfollowed := true, recurses := true, apart := false, narrowed := true }
def ProjectAllUptoSaid : Prop := projectAllUptoRow.holds Try.pinned (OpenSpec.upto projectAllSpec)

/-- 'shredderlaw7.ProjectFits', WHERE WHAT IT READS IS OF BULK AT MOST 1048576: true; the input reads as it did. -/
def projectFitsUptoRow : OpenClaim := { program := "ytohibncnhhldhaa", sum := "7817d3c9db543efe3ed9487e648210cfe20f0970bcddce044298ea83c1d6af98", func := "shredder/shredderlaw7.ProjectFits", spec := "projectFits", unfollowed := true, recurses := true, apart := false, narrowed := true }
def ProjectFitsUptoSaid : Prop := projectFitsUptoRow.holds Try.pinned (OpenSpec.upto projectFitsSpec)

/-- 'shredderlaw7.ProjectTwice', WHERE WHAT IT READS IS OF BULK AT MOST 1048576: true; the input reads as it did. -/
def projectTwiceUptoRow : OpenClaim := { program := "ytohibncnhhldhaa", sum := "7817d3c9db543efe3ed9487e648210cfe20f0970bcddce044298ea83c1d6af98", func := "shredder/shredderlaw7.ProjectTwice", spec := "projectTwice", unfollowed := true, recurses := true, apart := false, narrowed := true }
def ProjectTwiceUptoSaid : Prop := projectTwiceUptoRow.holds Try.pinned (OpenSpec.upto projectTwiceSpec)

/-- 'shredderlaw7.ProjectAlone', WHERE WHAT IT READS IS OF BULK AT MOST 1048576: true; the input reads as it did. -/
def projectAloneUptoRow : OpenClaim := { program := "ytohibncnhhldhaa", sum := "7817d3c9db543efe3ed9487e648210cfe20f0970bcddce044298ea83c1d6af98", func := "shredder/shredderlaw7.ProjectAlone", spec := "projectAlone", unfollowed := true, recurses := true, apart := false, narrowed := true }
def ProjectAloneUptoSaid : Prop := projectAloneUptoRow.holds Try.pinned (OpenSpec.upto projectAloneSpec)

/-- 'shredderlaw8.TreeFits', WHERE WHAT IT READS IS OF BULK AT MOST 1048576: true; the input reads as it did. -/
def treeFitsUptoRow : OpenClaim := { program := "ytohibncnhhldhaa", sum := "7817d3c9db543efe3ed9487e648210cfe20f0970bcddce044298ea83c1d6af98", func := "shredder/shredderlaw8.TreeFits", spec := "treeFits", unfollowed := true, recurses := true, loops := true, apart := false, narrowed := true }
def TreeFitsUptoSaid : Prop := treeFitsUptoRow.holds Try.pinned (OpenSpec.upto treeFitsSpec)

/-- 'shredderlaw9.WireRows', WHERE WHAT IT READS IS OF BULK AT MOST 1048576: true; the input reads as it did. -/
def wireRowsUptoRow : OpenClaim := { program := "ytohibncnhhldhaa", sum := "7817d3c9db543efe3ed9487e648210cfe20f0970bcddce044298ea83c1d6af98", func := "shredder/shredderlaw9.WireRows", spec := "wireRows", unfollowed := true, recurses := true, apart := false, narrowed := true }
def WireRowsUptoSaid : Prop := wireRowsUptoRow.holds Try.pinned (OpenSpec.upto wireRowsSpec)

/-- 'shredderlaw9.WireFronts', WHERE WHAT IT READS IS OF BULK AT MOST 1048576: true; the input reads as it did. -/
def wireFrontsUptoRow : OpenClaim := { program := "ytohibncnhhldhaa", sum := "7817d3c9db543efe3ed9487e648210cfe20f0970bcddce044298ea83c1d6af98", func := "shredder/shredderlaw9.WireFronts", spec := "wireFronts", unfollowed := true, recurses := true, apart := false, narrowed := true }
def WireFrontsUptoSaid : Prop := wireFrontsUptoRow.holds Try.pinned (OpenSpec.upto wireFrontsSpec)

/-- 'shredderlaw9.WireBytes', WHERE WHAT IT READS IS OF BULK AT MOST 1048576: true; the input reads as it did. -/
def wireBytesUptoRow : OpenClaim := { program := "ytohibncnhhldhaa", sum := "7817d3c9db543efe3ed9487e648210cfe20f0970bcddce044298ea83c1d6af98", func := "shredder/shredderlaw9.WireBytes", spec := "wireBytes", unfollowed := true, recurses := true, apart := false, narrowed := true }
def WireBytesUptoSaid : Prop := wireBytesUptoRow.holds Try.pinned (OpenSpec.upto wireBytesSpec)

/-- 'shredderlaw9.WireReads', WHERE WHAT IT READS IS OF BULK AT MOST 1048576: true; the input reads as it did. -/
def wireReadsUptoRow : OpenClaim := { program := "ytohibncnhhldhaa", sum := "7817d3c9db543efe3ed9487e648210cfe20f0970bcddce044298ea83c1d6af98", func := "shredder/shredderlaw9.WireReads", spec := "wireReads", unfollowed := true, recurses := true, apart := false, narrowed := true }
def WireReadsUptoSaid : Prop := wireReadsUptoRow.holds Try.pinned (OpenSpec.upto wireReadsSpec)

/-- 'shredderlaw10.LevelBack', WHERE WHAT IT READS IS OF BULK AT MOST 1048576: true; the input reads as it did. -/
def levelBackUptoRow : OpenClaim := { program := "ytohibncnhhldhaa", sum := "7817d3c9db543efe3ed9487e648210cfe20f0970bcddce044298ea83c1d6af98", func := "shredder/shredderlaw10.LevelBack", spec := "levelBack", unfollowed := true, recurses := true, apart := false, narrowed := true }
def LevelBackUptoSaid : Prop := levelBackUptoRow.holds Try.pinned (OpenSpec.upto levelBackSpec)

/-- 'shredderlaw10.LevelReads', WHERE WHAT IT READS IS OF BULK AT MOST 1048576: true; the input reads as it did. -/
def levelReadsUptoRow : OpenClaim := { program := "ytohibncnhhldhaa", sum := "7817d3c9db543efe3ed9487e648210cfe20f0970bcddce044298ea83c1d6af98", func := "shredder/shredderlaw10.LevelReads", spec := "levelReads", unfollowed := true, recurses := true, apart := false, narrowed := true }
def LevelReadsUptoSaid : Prop := levelReadsUptoRow.holds Try.pinned (OpenSpec.upto levelReadsSpec)

/-- 'shredderlaw10.LevelRuns', WHERE WHAT IT READS IS OF BULK AT MOST 1048576: true; the input reads as it did. -/
def levelRunsUptoRow : OpenClaim := { program := "ytohibncnhhldhaa", sum := "7817d3c9db543efe3ed9487e648210cfe20f0970bcddce044298ea83c1d6af98", func := "shredder/shredderlaw10.LevelRuns", spec := "levelRuns", unfollowed := true, recurses := true, apart := false, narrowed := true }
def LevelRunsUptoSaid : Prop := levelRunsUptoRow.holds Try.pinned (OpenSpec.upto levelRunsSpec)

/-- 'shredderlaw10.LevelNone', WHERE WHAT IT READS IS OF BULK AT MOST 1048576: true; the input reads as it did. -/
def levelNoneUptoRow : OpenClaim := { program := "ytohibncnhhldhaa", sum := "7817d3c9db543efe3ed9487e648210cfe20f0970bcddce044298ea83c1d6af98", func := "shredder/shredderlaw10.LevelNone", spec := "levelNone", unfollowed := true, recurses := true, apart := false, narrowed := true }
def LevelNoneUptoSaid : Prop := levelNoneUptoRow.holds Try.pinned (OpenSpec.upto levelNoneSpec)

/-- 'shredderlaw10.LevelMany', WHERE WHAT IT READS IS OF BULK AT MOST 1048576: true; the input reads as it did. -/
def levelManyUptoRow : OpenClaim := { program := "ytohibncnhhldhaa", sum := "7817d3c9db543efe3ed9487e648210cfe20f0970bcddce044298ea83c1d6af98", func := "shredder/shredderlaw10.LevelMany", spec := "levelMany", unfollowed := true, recurses := true, apart := false, narrowed := true }
def LevelManyUptoSaid : Prop := levelManyUptoRow.holds Try.pinned (OpenSpec.upto levelManySpec)

/-- 'shredderlaw10.LevelShort', WHERE WHAT IT READS IS OF BULK AT MOST 1048576: true; the input reads as it did. -/
def levelShortUptoRow : OpenClaim := { program := "ytohibncnhhldhaa", sum := "7817d3c9db543efe3ed9487e648210cfe20f0970bcddce044298ea83c1d6af98", func := "shredder/shredderlaw10.LevelShort", spec := "levelShort", unfollowed := true, recurses := true, apart := false, narrowed := true }
def LevelShortUptoSaid : Prop := levelShortUptoRow.holds Try.pinned (OpenSpec.upto levelShortSpec)

/-- 'shredderlaw10.LevelRun', WHERE WHAT IT READS IS OF BULK AT MOST 1048576: true; the input reads as it did. -/
def levelRunUptoRow : OpenClaim := { program := "ytohibncnhhldhaa", sum := "7817d3c9db543efe3ed9487e648210cfe20f0970bcddce044298ea83c1d6af98", func := "shredder/shredderlaw10.LevelRun", spec := "levelRun", unfollowed := true, recurses := true, apart := false, narrowed := true }
def LevelRunUptoSaid : Prop := levelRunUptoRow.holds Try.pinned (OpenSpec.upto levelRunSpec)

end Rows
end Go.Proofs.Ytohibncnhhldhaa
