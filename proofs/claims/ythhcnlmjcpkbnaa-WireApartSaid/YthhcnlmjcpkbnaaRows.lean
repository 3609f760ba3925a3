/-
  NARROWER THAN 'FOR EVERY INPUT', by the rows' own cells (each row's printed sentence says how): TreeFits: loops.
  DERIVED. THE GIVEN ROWS OF THIS SEAT. 14 by the template 'for every input the law returns true; each argument reads behind the call as it read before'; 0 by the template 'total and deterministic' (their statements: YthhcnlmjcpkbnaaTotals.lean).
  GIVEN WITH THE SEED: the statements are not yours to turn. If you find one false, say at which input.
  Laid BY PROGRAM, IN A SANDBOX (cutbox-rows.mjs): the forced cells as the released guide's own fill.sh prints them over the translation 7b440617b71530d6… (all of the seat's roots in one cut). By AI agents, Wed Nov 11 2026. No macro, syntax, notation, axiom, sorry.
-/
import Derived.Test.YthhcnlmjcpkbnaaChecked
import GoSem.Claim
import GoSem.ClaimJoined
import GoSem.ClaimMapViews
import Derived.JoinedTies
import Derived.KernelRfl
namespace Go.Proofs.Ythhcnlmjcpkbnaa
/- THE CELL 'sum', in the pinned program and in every row, IS THE sha256 OF THE DUMP (.gsa) THAT YthhcnlmjcpkbnaaProg.lean LOADS. Nothing in Lean hashes anything: it is a label: what it is worth is what the hold of that sum in a sandbox is worth. -/
noncomputable def Try.pinned : Pinned := { name := "ythhcnlmjcpkbnaa", sum := "7b440617b71530d616c8b5b1d2785fdd03fa1826949fc66a87d72dd4bb063b43", checked := Try.checked }
namespace Rows
def none {H : Type} : Left H := { results := [], args := [] }

/-- 'shredderlaw7.ProjectAll': WHATEVER THE INPUT: true; the input reads as it did. -/
def projectAllSpec : ChangeSpec := { name := "projectAll", fn := fun _ => fun
  | [d1, d2, d3, d4] => { results := [.lit (.bool true)], args := [d1, d2, d3, d4] }
  | _ => none }
def projectAllRow : OpenClaim := { program := "ythhcnlmjcpkbnaa", sum := "7b440617b71530d616c8b5b1d2785fdd03fa1826949fc66a87d72dd4bb063b43", func := "shredder/shredderlaw7.ProjectAll", spec := "projectAll", unfollowed := true, recurses := true, apart := false }
def ProjectAllSaid : Prop := projectAllRow.holds Try.pinned (OpenSpec.ofChange projectAllSpec)

/-- ITS FALSE NEIGHBOUR: 'it returns false'. Refute it at one input. -/
def projectAllWrong : ChangeSpec := { name := "projectAll", fn := fun _ => fun
  | [d1, d2, d3, d4] => { results := [.lit (.bool false)], args := [d1, d2, d3, d4] }
  | _ => none }
def ProjectAllWrongFalsely : Prop := projectAllRow.holds Try.pinned (OpenSpec.ofChange projectAllWrong)

/-- 'shredderlaw7.ProjectFits': WHATEVER THE INPUT: true; the input reads as it did. -/
def projectFitsSpec : ChangeSpec := { name := "projectFits", fn := fun _ => fun
  | [d1, d2, d3] => { results := [.lit (.bool true)], args := [d1, d2, d3] }
  | _ => none }
def projectFitsRow : OpenClaim := { program := "ythhcnlmjcpkbnaa", sum := "7b440617b71530d616c8b5b1d2785fdd03fa1826949fc66a87d72dd4bb063b43", func := "shredder/shredderlaw7.ProjectFits", spec := "projectFits", unfollowed := true, recurses := true, apart := false }
def ProjectFitsSaid : Prop := projectFitsRow.holds Try.pinned (OpenSpec.ofChange projectFitsSpec)

/-- ITS FALSE NEIGHBOUR: 'it returns false'. Refute it at one input. -/
def projectFitsWrong : ChangeSpec := { name := "projectFits", fn := fun _ => fun
  | [d1, d2, d3] => { results := [.lit (.bool false)], args := [d1, d2, d3] }
  | _ => none }
def ProjectFitsWrongFalsely : Prop := projectFitsRow.holds Try.pinned (OpenSpec.ofChange projectFitsWrong)

/-- 'shredderlaw7.ProjectTwice': WHATEVER THE INPUT: true; the input reads as it did. -/
def projectTwiceSpec : ChangeSpec := { name := "projectTwice", fn := fun _ => fun
  | [d1, d2, d3, d4] => { results := [.lit (.bool true)], args := [d1, d2, d3, d4] }
  | _ => none }
def projectTwiceRow : OpenClaim := { program := "ythhcnlmjcpkbnaa", sum := "7b440617b71530d616c8b5b1d2785fdd03fa1826949fc66a87d72dd4bb063b43", func := "shredder/shredderlaw7.ProjectTwice", spec := "projectTwice", unfollowed := true, recurses := true, apart := false }
def ProjectTwiceSaid : Prop := projectTwiceRow.holds Try.pinned (OpenSpec.ofChange projectTwiceSpec)

/-- ITS FALSE NEIGHBOUR: 'it returns false'. Refute it at one input. -/
def projectTwiceWrong : ChangeSpec := { name := "projectTwice", fn := fun _ => fun
  | [d1, d2, d3, d4] => { results := [.lit (.bool false)], args := [d1, d2, d3, d4] }
  | _ => none }
def ProjectTwiceWrongFalsely : Prop := projectTwiceRow.holds Try.pinned (OpenSpec.ofChange projectTwiceWrong)

/-- 'shredderlaw7.ProjectAlone': WHATEVER THE INPUT: true; the input reads as it did. -/
def projectAloneSpec : ChangeSpec := { name := "projectAlone", fn := fun _ => fun
  | [d1, d2, d3] => { results := [.lit (.bool true)], args := [d1, d2, d3] }
  | _ => none }
def projectAloneRow : OpenClaim := { program := "ythhcnlmjcpkbnaa", sum := "7b440617b71530d616c8b5b1d2785fdd03fa1826949fc66a87d72dd4bb063b43", func := "shredder/shredderlaw7.ProjectAlone", spec := "projectAlone", unfollowed := true, recurses := true, apart := false }
def ProjectAloneSaid : Prop := projectAloneRow.holds Try.pinned (OpenSpec.ofChange projectAloneSpec)

/-- ITS FALSE NEIGHBOUR: 'it returns false'. Refute it at one input. -/
def projectAloneWrong : ChangeSpec := { name := "projectAlone", fn := fun _ => fun
  | [d1, d2, d3] => { results := [.lit (.bool false)], args := [d1, d2, d3] }
  | _ => none }
def ProjectAloneWrongFalsely : Prop := projectAloneRow.holds Try.pinned (OpenSpec.ofChange projectAloneWrong)

/-- 'shredderlaw8.TreeFits': WHATEVER THE INPUT: true; the input reads as it did. -/
def treeFitsSpec : ChangeSpec := { name := "treeFits", fn := fun _ => fun
  | [d1, d2, d3, d4, d5, d6, d7] => { results := [.lit (.bool true)], args := [d1, d2, d3, d4, d5, d6, d7] }
  | _ => none }
def treeFitsRow : OpenClaim := { program := "ythhcnlmjcpkbnaa", sum := "7b440617b71530d616c8b5b1d2785fdd03fa1826949fc66a87d72dd4bb063b43", func := "shredder/shredderlaw8.TreeFits", spec := "treeFits", unfollowed := true, recurses := true, loops := true, apart := false }
def TreeFitsSaid : Prop := treeFitsRow.holds Try.pinned (OpenSpec.ofChange treeFitsSpec)

/-- ITS FALSE NEIGHBOUR: 'it returns false'. Refute it at one input. -/
def treeFitsWrong : ChangeSpec := { name := "treeFits", fn := fun _ => fun
  | [d1, d2, d3, d4, d5, d6, d7] => { results := [.lit (.bool false)], args := [d1, d2, d3, d4, d5, d6, d7] }
  | _ => none }
def TreeFitsWrongFalsely : Prop := treeFitsRow.holds Try.pinned (OpenSpec.ofChange treeFitsWrong)

/-- 'shredderlaw8.TreeSames': WHATEVER THE INPUT: true; the input reads as it did. -/
def treeSamesSpec : ChangeSpec := { name := "treeSames", fn := fun _ => fun
  | [d1, d2, d3, d4, d5] => { results := [.lit (.bool true)], args := [d1, d2, d3, d4, d5] }
  | _ => none }
def treeSamesRow : OpenClaim := { program := "ythhcnlmjcpkbnaa", sum := "7b440617b71530d616c8b5b1d2785fdd03fa1826949fc66a87d72dd4bb063b43", func := "shredder/shredderlaw8.TreeSames", spec := "treeSames", unfollowed := true, recurses := true, apart := false }
def TreeSamesSaid : Prop := treeSamesRow.holds Try.pinned (OpenSpec.ofChange treeSamesSpec)

/-- ITS FALSE NEIGHBOUR: 'it returns false'. Refute it at one input. -/
def treeSamesWrong : ChangeSpec := { name := "treeSames", fn := fun _ => fun
  | [d1, d2, d3, d4, d5] => { results := [.lit (.bool false)], args := [d1, d2, d3, d4, d5] }
  | _ => none }
def TreeSamesWrongFalsely : Prop := treeSamesRow.holds Try.pinned (OpenSpec.ofChange treeSamesWrong)

/-- 'shredderlaw9.WireBytes': WHATEVER THE INPUT: true; the input reads as it did. -/
def wireBytesSpec : ChangeSpec := { name := "wireBytes", fn := fun _ => fun
  | [d1, d2] => { results := [.lit (.bool true)], args := [d1, d2] }
  | _ => none }
def wireBytesRow : OpenClaim := { program := "ythhcnlmjcpkbnaa", sum := "7b440617b71530d616c8b5b1d2785fdd03fa1826949fc66a87d72dd4bb063b43", func := "shredder/shredderlaw9.WireBytes", spec := "wireBytes", unfollowed := true, recurses := true, apart := false }
def WireBytesSaid : Prop := wireBytesRow.holds Try.pinned (OpenSpec.ofChange wireBytesSpec)

/-- ITS FALSE NEIGHBOUR: 'it returns false'. Refute it at one input. -/
def wireBytesWrong : ChangeSpec := { name := "wireBytes", fn := fun _ => fun
  | [d1, d2] => { results := [.lit (.bool false)], args := [d1, d2] }
  | _ => none }
def WireBytesWrongFalsely : Prop := wireBytesRow.holds Try.pinned (OpenSpec.ofChange wireBytesWrong)

/-- 'shredderlaw9.WireReads': WHATEVER THE INPUT: true; the input reads as it did. -/
def wireReadsSpec : ChangeSpec := { name := "wireReads", fn := fun _ => fun
  | [d1, d2, d3, d4, d5, d6] => { results := [.lit (.bool true)], args := [d1, d2, d3, d4, d5, d6] }
  | _ => none }
def wireReadsRow : OpenClaim := { program := "ythhcnlmjcpkbnaa", sum := "7b440617b71530d616c8b5b1d2785fdd03fa1826949fc66a87d72dd4bb063b43", func := "shredder/shredderlaw9.WireReads", spec := "wireReads", unfollowed := true, recurses := true, apart := false }
def WireReadsSaid : Prop := wireReadsRow.holds Try.pinned (OpenSpec.ofChange wireReadsSpec)

/-- ITS FALSE NEIGHBOUR: 'it returns false'. Refute it at one input. -/
def wireReadsWrong : ChangeSpec := { name := "wireReads", fn := fun _ => fun
  | [d1, d2, d3, d4, d5, d6] => { results := [.lit (.bool false)], args := [d1, d2, d3, d4, d5, d6] }
  | _ => none }
def WireReadsWrongFalsely : Prop := wireReadsRow.holds Try.pinned (OpenSpec.ofChange wireReadsWrong)

/-- 'shredderlaw9.WireThree': WHATEVER THE INPUT: true; the input reads as it did. -/
def wireThreeSpec : ChangeSpec := { name := "wireThree", fn := fun _ => fun
  | [d] => { results := [.lit (.bool true)], args := [d] }
  | _ => none }
def wireThreeRow : OpenClaim := { program := "ythhcnlmjcpkbnaa", sum := "7b440617b71530d616c8b5b1d2785fdd03fa1826949fc66a87d72dd4bb063b43", func := "shredder/shredderlaw9.WireThree", spec := "wireThree", unfollowed := true, recurses := true, apart := false }
def WireThreeSaid : Prop := wireThreeRow.holds Try.pinned (OpenSpec.ofChange wireThreeSpec)

/-- ITS FALSE NEIGHBOUR: 'it returns false'. Refute it at one input. -/
def wireThreeWrong : ChangeSpec := { name := "wireThree", fn := fun _ => fun
  | [d] => { results := [.lit (.bool false)], args := [d] }
  | _ => none }
def WireThreeWrongFalsely : Prop := wireThreeRow.holds Try.pinned (OpenSpec.ofChange wireThreeWrong)

/-- 'shredderlaw9.WireMany': WHATEVER THE INPUT: true; the input reads as it did. -/
def wireManySpec : ChangeSpec := { name := "wireMany", fn := fun _ => fun
  | [d1, d2] => { results := [.lit (.bool true)], args := [d1, d2] }
  | _ => none }
def wireManyRow : OpenClaim := { program := "ythhcnlmjcpkbnaa", sum := "7b440617b71530d616c8b5b1d2785fdd03fa1826949fc66a87d72dd4bb063b43", func := "shredder/shredderlaw9.WireMany", spec := "wireMany", unfollowed := true, recurses := true, apart := false }
def WireManySaid : Prop := wireManyRow.holds Try.pinned (OpenSpec.ofChange wireManySpec)

/-- ITS FALSE NEIGHBOUR: 'it returns false'. Refute it at one input. -/
def wireManyWrong : ChangeSpec := { name := "wireMany", fn := fun _ => fun
  | [d1, d2] => { results := [.lit (.bool false)], args := [d1, d2] }
  | _ => none }
def WireManyWrongFalsely : Prop := wireManyRow.holds Try.pinned (OpenSpec.ofChange wireManyWrong)

/-- 'shredderlaw9.WireRows': WHATEVER THE INPUT: true; the input reads as it did. -/
def wireRowsSpec : ChangeSpec := { name := "wireRows", fn := fun _ => fun
  | [d1, d2] => { results := [.lit (.bool true)], args := [d1, d2] }
  | _ => none }
def wireRowsRow : OpenClaim := { program := "ythhcnlmjcpkbnaa", sum := "7b440617b71530d616c8b5b1d2785fdd03fa1826949fc66a87d72dd4bb063b43", func := "shredder/shredderlaw9.WireRows", spec := "wireRows", unfollowed := true, recurses := true, apart := false }
def WireRowsSaid : Prop := wireRowsRow.holds Try.pinned (OpenSpec.ofChange wireRowsSpec)

/-- ITS FALSE NEIGHBOUR: 'it returns false'. Refute it at one input. -/
def wireRowsWrong : ChangeSpec := { name := "wireRows", fn := fun _ => fun
  | [d1, d2] => { results := [.lit (.bool false)], args := [d1, d2] }
  | _ => none }
def WireRowsWrongFalsely : Prop := wireRowsRow.holds Try.pinned (OpenSpec.ofChange wireRowsWrong)

/-- 'shredderlaw9.WireFronts': WHATEVER THE INPUT: true; the input reads as it did. -/
def wireFrontsSpec : ChangeSpec := { name := "wireFronts", fn := fun _ => fun
  | [d1, d2, d3, d4] => { results := [.lit (.bool true)], args := [d1, d2, d3, d4] }
  | _ => none }
def wireFrontsRow : OpenClaim := { program := "ythhcnlmjcpkbnaa", sum := "7b440617b71530d616c8b5b1d2785fdd03fa1826949fc66a87d72dd4bb063b43", func := "shredder/shredderlaw9.WireFronts", spec := "wireFronts", unfollowed := true, recurses := true, apart := false }
def WireFrontsSaid : Prop := wireFrontsRow.holds Try.pinned (OpenSpec.ofChange wireFrontsSpec)

/-- ITS FALSE NEIGHBOUR: 'it returns false'. Refute it at one input. -/
def wireFrontsWrong : ChangeSpec := { name := "wireFronts", fn := fun _ => fun
  | [d1, d2, d3, d4] => { results := [.lit (.bool false)], args := [d1, d2, d3, d4] }
  | _ => none }
def WireFrontsWrongFalsely : Prop := wireFrontsRow.holds Try.pinned (OpenSpec.ofChange wireFrontsWrong)

/-- 'shredderlaw9.WireApart': WHATEVER THE INPUT: true; the input reads as it did. -/
def wireApartSpec : ChangeSpec := { name := "wireApart", fn := fun _ => fun
  | [d1, d2, d3] => { results := [.lit (.bool true)], args := [d1, d2, d3] }
  | _ => none }
def wireApartRow : OpenClaim := { program := "ythhcnlmjcpkbnaa", sum := "7b440617b71530d616c8b5b1d2785fdd03fa1826949fc66a87d72dd4bb063b43", func := "shredder/shredderlaw9.WireApart", spec := "wireApart", unfollowed := true, recurses := true, apart := false }
def WireApartSaid : Prop := wireApartRow.holds Try.pinned (OpenSpec.ofChange wireApartSpec)

/-- ITS FALSE NEIGHBOUR: 'it returns false'. Refute it at one input. -/
def wireApartWrong : ChangeSpec := { name := "wireApart", fn := fun _ => fun
  | [d1, d2, d3] => { results := [.lit (.bool false)], args := [d1, d2, d3] }
  | _ => none }
def WireApartWrongFalsely : Prop := wireApartRow.holds Try.pinned (OpenSpec.ofChange wireApartWrong)

/-- 'shredderlaw9.WireBad': WHATEVER THE INPUT: true; the input reads as it did. -/
def wireBadSpec : ChangeSpec := { name := "wireBad", fn := fun _ => fun
  | [d1, d2] => { results := [.lit (.bool true)], args := [d1, d2] }
  | _ => none }
def wireBadRow : OpenClaim := { program := "ythhcnlmjcpkbnaa", sum := "7b440617b71530d616c8b5b1d2785fdd03fa1826949fc66a87d72dd4bb063b43", func := "shredder/shredderlaw9.WireBad", spec := "wireBad", unfollowed := true, recurses := true, apart := false }
def WireBadSaid : Prop := wireBadRow.holds Try.pinned (OpenSpec.ofChange wireBadSpec)

/-- ITS FALSE NEIGHBOUR: 'it returns false'. Refute it at one input. -/
def wireBadWrong : ChangeSpec := { name := "wireBad", fn := fun _ => fun
  | [d1, d2] => { results := [.lit (.bool false)], args := [d1, d2] }
  | _ => none }
def WireBadWrongFalsely : Prop := wireBadRow.holds Try.pinned (OpenSpec.ofChange wireBadWrong)

/- THE SECOND FORM. 'bulk': how many values and letters a reading holds, each counted each time it is reached (what is shared counts as often as it is met; a slice's spare places count too). A statement '..UptoSaid' is the law's where the arguments, and the package variables that the reading takes, are together of bulk at most 1048576: NARROWER than '..Said'. Prove '..Said' where nothing that the law and all that it calls make is longer than what came in: it says more and counts as full. Else prove '..UptoSaid'. A law counts once. -/
mutual
def uptoBulk {H : Type} : DataW H → Nat
  | .lit (.string bytes) => bytes.length + 1
  | .lit _ => 1
  | .nil => 1
  | .ptr d => uptoBulk d + 1
  | .slice elems spare => uptoBulkAll elems + uptoBulkAll spare + 1
  | .agg parts => uptoBulkAll parts + 1
  | .iface _ d => uptoBulk d + 1
  | .map entries => uptoBulkEntries entries + 1
  | .held _ => 1
def uptoBulkAll {H : Type} : List (DataW H) → Nat
  | [] => 0
  | d :: r => uptoBulk d + uptoBulkAll r
def uptoBulkEntries {H : Type} : List (Lit × DataW H) → Nat
  | [] => 0
  | x :: r => uptoBulkEntry x + uptoBulkEntries r
def uptoBulkEntry {H : Type} : Lit × DataW H → Nat
  | (.string bytes, d) => bytes.length + uptoBulk d + 1
  | (_, d) => uptoBulk d + 1
 end
def uptoSmall : (H : Type) → List (DataW H) → Bool := fun _ ds => decide (uptoBulkAll ds ≤ 1048576)
def OpenSpec.upto (s : _root_.Go.ChangeSpec) : _root_.Go.OpenSpec := { _root_.Go.OpenSpec.ofChange s with cond := some uptoSmall }

/-- 'shredderlaw7.ProjectAll', WHERE WHAT IT READS IS OF BULK AT MOST 1048576: true; the input reads as it did. -/
def projectAllUptoRow : OpenClaim := { program := "ythhcnlmjcpkbnaa", sum := "7b440617b71530d616c8b5b1d2785fdd03fa1826949fc66a87d72dd4bb063b43", func := "shredder/shredderlaw7.ProjectAll", spec := "projectAll", unfollowed := true, recurses := true, apart := false, narrowed := true }
def ProjectAllUptoSaid : Prop := projectAllUptoRow.holds Try.pinned (OpenSpec.upto projectAllSpec)

/-- 'shredderlaw7.ProjectFits', WHERE WHAT IT READS IS OF BULK AT MOST 1048576: true; the input reads as it did. -/
def projectFitsUptoRow : OpenClaim := { program := "ythhcnlmjcpkbnaa", sum := "7b440617b71530d616c8b5b1d2785fdd03fa1826949fc66a87d72dd4bb063b43", func := "shredder/shredderlaw7.ProjectFits", spec := "projectFits", unfollowed := true, recurses := true, apart := false, narrowed := true }
def ProjectFitsUptoSaid : Prop := projectFitsUptoRow.holds Try.pinned (OpenSpec.upto projectFitsSpec)

/-- 'shredderlaw7.ProjectTwice', WHERE WHAT IT READS IS OF BULK AT MOST 1048576: true; the input reads as it did. -/
def projectTwiceUptoRow : OpenClaim := { program := "ythhcnlmjcpkbnaa", sum := "7b440617b71530d616c8b5b1d2785fdd03fa1826949fc66a87d72dd4bb063b43", func := "shredder/shredderlaw7.ProjectTwice", spec := "projectTwice", unfollowed := true, recurses := true, apart := false, narrowed := true }
def ProjectTwiceUptoSaid : Prop := projectTwiceUptoRow.holds Try.pinned (OpenSpec.upto projectTwiceSpec)

/-- 'shredderlaw7.ProjectAlone', WHERE WHAT IT READS IS OF BULK AT MOST 1048576: true; the input reads as it did. -/
def projectAloneUptoRow : OpenClaim := { program := "ythhcnlmjcpkbnaa", sum := "7b440617b71530d616c8b5b1d2785fdd03fa1826949fc66a87d72dd4bb063b43", func := "shredder/shredderlaw7.ProjectAlone", spec := "projectAlone", unfollowed := true, recurses := true, apart := false, narrowed := true }
def ProjectAloneUptoSaid : Prop := projectAloneUptoRow.holds Try.pinned (OpenSpec.upto projectAloneSpec)

/-- 'shredderlaw8.TreeFits', WHERE WHAT IT READS IS OF BULK AT MOST 1048576: true; the input reads as it did. -/
def treeFitsUptoRow : OpenClaim := { program := "ythhcnlmjcpkbnaa", sum := "7b440617b71530d616c8b5b1d2785fdd03fa1826949fc66a87d72dd4bb063b43", func := "shredder/shredderlaw8.TreeFits", spec := "treeFits", unfollowed := true, recurses := true, loops := true, apart := false, narrowed := true }
def TreeFitsUptoSaid : Prop := treeFitsUptoRow.holds Try.pinned (OpenSpec.upto treeFitsSpec)

/-- 'shredderlaw8.TreeSames', WHERE WHAT IT READS IS OF BULK AT MOST 1048576: true; the input reads as it did. -/
def treeSamesUptoRow : OpenClaim := { program := "ythhcnlmjcpkbnaa", sum := "7b440617b71530d616c8b5b1d2785fdd03fa1826949fc66a87d72dd4bb063b43", func := "shredder/shredderlaw8.TreeSames", spec := "treeSames", unfollowed := true, recurses := true, apart := false, narrowed := true }
def TreeSamesUptoSaid : Prop := treeSamesUptoRow.holds Try.pinned (OpenSpec.upto treeSamesSpec)

/-- 'shredderlaw9.WireBytes', WHERE WHAT IT READS IS OF BULK AT MOST 1048576: true; the input reads as it did. -/
def wireBytesUptoRow : OpenClaim := { program := "ythhcnlmjcpkbnaa", sum := "7b440617b71530d616c8b5b1d2785fdd03fa1826949fc66a87d72dd4bb063b43", func := "shredder/shredderlaw9.WireBytes", spec := "wireBytes", unfollowed := true, recurses := true, apart := false, narrowed := true }
def WireBytesUptoSaid : Prop := wireBytesUptoRow.holds Try.pinned (OpenSpec.upto wireBytesSpec)

/-- 'shredderlaw9.WireReads', WHERE WHAT IT READS IS OF BULK AT MOST 1048576: true; the input reads as it did. -/
def wireReadsUptoRow : OpenClaim := { program := "ythhcnlmjcpkbnaa", sum := "7b440617b71530d616c8b5b1d2785fdd03fa1826949fc66a87d72dd4bb063b43", func := "shredder/shredderlaw9.WireReads", spec := "wireReads", unfollowed := true, recurses := true, apart := false, narrowed := true }
def WireReadsUptoSaid : Prop := wireReadsUptoRow.holds Try.pinned (OpenSpec.upto wireReadsSpec)

/-- 'shredderlaw9.WireThree', WHERE WHAT IT READS IS OF BULK AT MOST 1048576: true; the input reads as it did. -/
def wireThreeUptoRow : OpenClaim := { program := "ythhcnlmjcpkbnaa", sum := "7b440617b71530d616c8b5b1d2785fdd03fa1826949fc66a87d72dd4bb063b43", func := "shredder/shredderlaw9.WireThree", spec := "wireThree", unfollowed := true, recurses := true, apart := false, narrowed := true }
def WireThreeUptoSaid : Prop := wireThreeUptoRow.holds Try.pinned (OpenSpec.upto wireThreeSpec)

/-- 'shredderlaw9.WireMany', WHERE WHAT IT READS IS OF BULK AT MOST 1048576: true; the input reads as it did. -/
def wireManyUptoRow : OpenClaim := { program := "ythhcnlmjcpkbnaa", sum := "7b440617b71530d616c8b5b1d2785fdd03fa1826949fc66a87d72dd4bb063b43", func := "shredder/shredderlaw9.WireMany", spec := "wireMany", unfollowed := true, recurses := true, apart := false, narrowed := true }
def WireManyUptoSaid : Prop := wireManyUptoRow.holds Try.pinned (OpenSpec.upto wireManySpec)

/-- 'shredderlaw9.WireRows', WHERE WHAT IT READS IS OF BULK AT MOST 1048576: true; the input reads as it did. -/
def wireRowsUptoRow : OpenClaim := { program := "ythhcnlmjcpkbnaa", sum := "7b440617b71530d616c8b5b1d2785fdd03fa1826949fc66a87d72dd4bb063b43", func := "shredder/shredderlaw9.WireRows", spec := "wireRows", unfollowed := true, recurses := true, apart := false, narrowed := true }
def WireRowsUptoSaid : Prop := wireRowsUptoRow.holds Try.pinned (OpenSpec.upto wireRowsSpec)

/-- 'shredderlaw9.WireFronts', WHERE WHAT IT READS IS OF BULK AT MOST 1048576: true; the input reads as it did. -/
def wireFrontsUptoRow : OpenClaim := { program := "ythhcnlmjcpkbnaa", sum := "7b440617b71530d616c8b5b1d2785fdd03fa1826949fc66a87d72dd4bb063b43", func := "shredder/shredderlaw9.WireFronts", spec := "wireFronts", unfollowed := true, recurses := true, apart := false, narrowed := true }
def WireFrontsUptoSaid : Prop := wireFrontsUptoRow.holds Try.pinned (OpenSpec.upto wireFrontsSpec)

/-- 'shredderlaw9.WireApart', WHERE WHAT IT READS IS OF BULK AT MOST 1048576: true; the input reads as it did. -/
def wireApartUptoRow : OpenClaim := { program := "ythhcnlmjcpkbnaa", sum := "7b440617b71530d616c8b5b1d2785fdd03fa1826949fc66a87d72dd4bb063b43", func := "shredder/shredderlaw9.WireApart", spec := "wireApart", unfollowed := true, recurses := true, apart := false, narrowed := true }
def WireApartUptoSaid : Prop := wireApartUptoRow.holds Try.pinned (OpenSpec.upto wireApartSpec)

/-- 'shredderlaw9.WireBad', WHERE WHAT IT READS IS OF BULK AT MOST 1048576: true; the input reads as it did. -/
def wireBadUptoRow : OpenClaim := { program := "ythhcnlmjcpkbnaa", sum := "7b440617b71530d616c8b5b1d2785fdd03fa1826949fc66a87d72dd4bb063b43", func := "shredder/shredderlaw9.WireBad", spec := "wireBad", unfollowed := true, recurses := true, apart := false, narrowed := true }
def WireBadUptoSaid : Prop := wireBadUptoRow.holds Try.pinned (OpenSpec.upto wireBadSpec)

end Rows
end Go.Proofs.Ythhcnlmjcpkbnaa
