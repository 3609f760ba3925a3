/-
  No cell of these rows narrows 'for every input' (looked for: loops, veiled, ifaces, maps, wideKeys, modest, calm, conditions, laid).
  DERIVED. THE GIVEN ROWS OF THIS SEAT. 7 by the template 'for every input the law returns true; each argument reads behind the call as it read before'; 0 by the template 'total and deterministic' (their statements: YtpffgelllabfnaaTotals.lean).
  GIVEN WITH THE SEED: the statements are not yours to turn. If you find one false, say at which input.
  Laid BY PROGRAM, IN A SANDBOX (cutbox-rows.mjs): the forced cells as the released guide's own fill.sh prints them over the translation e3ab890045e8359f… (all of the seat's roots in one cut). By AI agents, Wed Nov 11 2026. No macro, syntax, notation, axiom, sorry.
-/
import Derived.Test.YtpffgelllabfnaaChecked
import GoSem.Claim
import GoSem.ClaimJoined
import GoSem.ClaimMapViews
import Derived.JoinedTies
import Derived.KernelRfl
namespace Go.Proofs.Ytpffgelllabfnaa
/- THE CELL 'sum', in the pinned program and in every row, IS THE sha256 OF THE DUMP (.gsa) THAT YtpffgelllabfnaaProg.lean LOADS. Nothing in Lean hashes anything: it is a label: what it is worth is what the hold of that sum in a sandbox is worth. -/
noncomputable def Try.pinned : Pinned := { name := "ytpffgelllabfnaa", sum := "e3ab890045e8359fc6e6a8e901bd993cf3437f159eb542388f697a5a7515e165", checked := Try.checked }
namespace Rows
def none {H : Type} : Left H := { results := [], args := [] }

/-- 'shredderlaw15.FsmAll': WHATEVER THE INPUT: true; the input reads as it did. -/
def fsmAllSpec : ChangeSpec := { name := "fsmAll", fn := fun _ => fun
  | [d1, d2, d3] => { results := [.lit (.bool true)], args := [d1, d2, d3] }
  | _ => none }
def fsmAllRow : OpenClaim := { program := "ytpffgelllabfnaa", sum := "e3ab890045e8359fc6e6a8e901bd993cf3437f159eb542388f697a5a7515e165", func := "shredder/shredderlaw15.FsmAll", spec := "fsmAll", unfollowed := true, recurses := true, apart := false }
def FsmAllSaid : Prop := fsmAllRow.holds Try.pinned (OpenSpec.ofChange fsmAllSpec)

/-- ITS FALSE NEIGHBOUR: 'it returns false'. Refute it at one input. -/
def fsmAllWrong : ChangeSpec := { name := "fsmAll", fn := fun _ => fun
  | [d1, d2, d3] => { results := [.lit (.bool false)], args := [d1, d2, d3] }
  | _ => none }
def FsmAllWrongFalsely : Prop := fsmAllRow.holds Try.pinned (OpenSpec.ofChange fsmAllWrong)

/-- 'shredderlaw15.FsmWalks': WHATEVER THE INPUT: true; the input reads as it did. -/
def fsmWalksSpec : ChangeSpec := { name := "fsmWalks", fn := fun _ => fun
  | [d1, d2] => { results := [.lit (.bool true)], args := [d1, d2] }
  | _ => none }
def fsmWalksRow : OpenClaim := { program := "ytpffgelllabfnaa", sum := "e3ab890045e8359fc6e6a8e901bd993cf3437f159eb542388f697a5a7515e165", func := "shredder/shredderlaw15.FsmWalks", spec := "fsmWalks", unfollowed := true, recurses := true, apart := false }
def FsmWalksSaid : Prop := fsmWalksRow.holds Try.pinned (OpenSpec.ofChange fsmWalksSpec)

/-- ITS FALSE NEIGHBOUR: 'it returns false'. Refute it at one input. -/
def fsmWalksWrong : ChangeSpec := { name := "fsmWalks", fn := fun _ => fun
  | [d1, d2] => { results := [.lit (.bool false)], args := [d1, d2] }
  | _ => none }
def FsmWalksWrongFalsely : Prop := fsmWalksRow.holds Try.pinned (OpenSpec.ofChange fsmWalksWrong)

/-- 'shredderlaw15.FsmBack': WHATEVER THE INPUT: true; the input reads as it did. -/
def fsmBackSpec : ChangeSpec := { name := "fsmBack", fn := fun _ => fun
  | [d] => { results := [.lit (.bool true)], args := [d] }
  | _ => none }
def fsmBackRow : OpenClaim := { program := "ytpffgelllabfnaa", sum := "e3ab890045e8359fc6e6a8e901bd993cf3437f159eb542388f697a5a7515e165", func := "shredder/shredderlaw15.FsmBack", spec := "fsmBack", unfollowed := true, recurses := true, apart := false }
def FsmBackSaid : Prop := fsmBackRow.holds Try.pinned (OpenSpec.ofChange fsmBackSpec)

/-- ITS FALSE NEIGHBOUR: 'it returns false'. Refute it at one input. -/
def fsmBackWrong : ChangeSpec := { name := "fsmBack", fn := fun _ => fun
  | [d] => { results := [.lit (.bool false)], args := [d] }
  | _ => none }
def FsmBackWrongFalsely : Prop := fsmBackRow.holds Try.pinned (OpenSpec.ofChange fsmBackWrong)

/-- 'shredderlaw15.FsmCommon': WHATEVER THE INPUT: true; the input reads as it did. -/
def fsmCommonSpec : ChangeSpec := { name := "fsmCommon", fn := fun _ => fun
  | [d] => { results := [.lit (.bool true)], args := [d] }
  | _ => none }
def fsmCommonRow : OpenClaim := { program := "ytpffgelllabfnaa", sum := "e3ab890045e8359fc6e6a8e901bd993cf3437f159eb542388f697a5a7515e165", func := "shredder/shredderlaw15.FsmCommon", spec := "fsmCommon", unfollowed := true, recurses := true, apart := false }
def FsmCommonSaid : Prop := fsmCommonRow.holds Try.pinned (OpenSpec.ofChange fsmCommonSpec)

/-- ITS FALSE NEIGHBOUR: 'it returns false'. Refute it at one input. -/
def fsmCommonWrong : ChangeSpec := { name := "fsmCommon", fn := fun _ => fun
  | [d] => { results := [.lit (.bool false)], args := [d] }
  | _ => none }
def FsmCommonWrongFalsely : Prop := fsmCommonRow.holds Try.pinned (OpenSpec.ofChange fsmCommonWrong)

/-- 'shredderlaw15.FsmFlat': WHATEVER THE INPUT: true; the input reads as it did. -/
def fsmFlatSpec : ChangeSpec := { name := "fsmFlat", fn := fun _ => fun
  | [d] => { results := [.lit (.bool true)], args := [d] }
  | _ => none }
def fsmFlatRow : OpenClaim := { program := "ytpffgelllabfnaa", sum := "e3ab890045e8359fc6e6a8e901bd993cf3437f159eb542388f697a5a7515e165", func := "shredder/shredderlaw15.FsmFlat", spec := "fsmFlat", unfollowed := true, recurses := true, apart := false }
def FsmFlatSaid : Prop := fsmFlatRow.holds Try.pinned (OpenSpec.ofChange fsmFlatSpec)

/-- ITS FALSE NEIGHBOUR: 'it returns false'. Refute it at one input. -/
def fsmFlatWrong : ChangeSpec := { name := "fsmFlat", fn := fun _ => fun
  | [d] => { results := [.lit (.bool false)], args := [d] }
  | _ => none }
def FsmFlatWrongFalsely : Prop := fsmFlatRow.holds Try.pinned (OpenSpec.ofChange fsmFlatWrong)

/-- 'shredderlaw15.FsmList': WHATEVER THE INPUT: true; the input reads as it did. -/
def fsmListSpec : ChangeSpec := { name := "fsmList", fn := fun _ => fun
  | [d1, d2] => { results := [.lit (.bool true)], args := [d1, d2] }
  | _ => none }
def fsmListRow : OpenClaim := { program := "ytpffgelllabfnaa", sum := "e3ab890045e8359fc6e6a8e901bd993cf3437f159eb542388f697a5a7515e165", func := "shredder/shredderlaw15.FsmList", spec := "fsmList", unfollowed := true, recurses := true, apart := false }
def FsmListSaid : Prop := fsmListRow.holds Try.pinned (OpenSpec.ofChange fsmListSpec)

/-- ITS FALSE NEIGHBOUR: 'it returns false'. Refute it at one input. -/
def fsmListWrong : ChangeSpec := { name := "fsmList", fn := fun _ => fun
  | [d1, d2] => { results := [.lit (.bool false)], args := [d1, d2] }
  | _ => none }
def FsmListWrongFalsely : Prop := fsmListRow.holds Try.pinned (OpenSpec.ofChange fsmListWrong)

/-- 'shredderlaw15.FsmAlone': WHATEVER THE INPUT: true; the input reads as it did. -/
def fsmAloneSpec : ChangeSpec := { name := "fsmAlone", fn := fun _ => fun
  | [d] => { results := [.lit (.bool true)], args := [d] }
  | _ => none }
def fsmAloneRow : OpenClaim := { program := "ytpffgelllabfnaa", sum := "e3ab890045e8359fc6e6a8e901bd993cf3437f159eb542388f697a5a7515e165", func := "shredder/shredderlaw15.FsmAlone", spec := "fsmAlone", unfollowed := true, recurses := true, apart := false }
def FsmAloneSaid : Prop := fsmAloneRow.holds Try.pinned (OpenSpec.ofChange fsmAloneSpec)

/-- ITS FALSE NEIGHBOUR: 'it returns false'. Refute it at one input. -/
def fsmAloneWrong : ChangeSpec := { name := "fsmAlone", fn := fun _ => fun
  | [d] => { results := [.lit (.bool false)], args := [d] }
  | _ => none }
def FsmAloneWrongFalsely : Prop := fsmAloneRow.holds Try.pinned (OpenSpec.ofChange fsmAloneWrong)

/- THE SECOND FORM. 'bulk': how many values and letters a reading holds, each counted each time it is reached (what is shared counts as often as it is met; a slice's spare places count too). A statement '..UptoSaid' is the law's where the arguments, and the package variables that the reading takes, are together of bulk at most 1048576: NARROWER than '..Said'. Prove '..Said' where nothing that the law and all that it calls make is longer than what came in: it says more and counts as full. Else prove '..UptoSaid'. A law counts once. -/
mutual
def uptoBulk {H : Type} : DataW H → Nat
  | .lit (.string bytes) => bytes.length + 1
  | .lit _ => 1
  | .nil => 1
  | .ptr d => uptoBulk d + 1
  | .slice elems spare => uptoBulkAll elems + uptoBulkAll spare + 1
  | .agg parts => uptoBulkAll parts + 1
  | .iface _ d => uptoBulk d + 1
  | .map entries => uptoBulkEntries entries + 1
  | .held _ => 1
def uptoBulkAll {H : Type} : List (DataW H) → Nat
  | [] => 0
  | d :: r => uptoBulk d + uptoBulkAll r
def uptoBulkEntries {H : Type} : List (Lit × DataW H) → Nat
  | [] => 0
  | x :: r => uptoBulkEntry x + uptoBulkEntries r
def uptoBulkEntry {H : Type} : Lit × DataW H → Nat
  | (.string bytes, d) => bytes.length + uptoBulk d + 1
  | (_, d) => uptoBulk d + 1
 end
def uptoSmall : (H : Type) → List (DataW H) → Bool := fun _ ds => decide (uptoBulkAll ds ≤ 1048576)
def OpenSpec.upto (s : _root_.Go.ChangeSpec) : _root_.Go.OpenSpec := { _root_.Go.OpenSpec.ofChange s with cond := some uptoSmall }

/-- 'shredderlaw15.FsmAll', WHERE WHAT IT READS IS OF BULK AT MOST 1048576: true; the input reads as it did. -/
def fsmAllUptoRow : OpenClaim := { program := "ytpffgelllabfnaa", sum := "e3ab890045e8359fc6e6a8e901bd993cf3437f159eb542388f697a5a7515e165", func := "shredder/shredderlaw15.FsmAll", spec := "fsmAll", unfollowed := true, recurses := true, apart := false, narrowed := true }
def FsmAllUptoSaid : Prop := fsmAllUptoRow.holds Try.pinned (OpenSpec.upto fsmAllSpec)

/-- 'shredderlaw15.FsmWalks', WHERE WHAT IT READS IS OF BULK AT MOST 1048576: true; the input reads as it did. -/
def fsmWalksUptoRow : OpenClaim := { program := "ytpffgelllabfnaa", sum := "e3ab890045e8359fc6e6a8e901bd993cf3437f159eb542388f697a5a7515e165", func := "shredder/shredderlaw15.FsmWalks", spec := "fsmWalks", unfollowed := true, recurses := true, apart := false, narrowed := true }
def FsmWalksUptoSaid : Prop := fsmWalksUptoRow.holds Try.pinned (OpenSpec.upto fsmWalksSpec)

/-- 'shredderlaw15.FsmBack', WHERE WHAT IT READS IS OF BULK AT MOST 1048576: true; the input reads as it did. -/
def fsmBackUptoRow : OpenClaim := { program := "ytpffgelllabfnaa", sum := "e3ab890045e8359fc6e6a8e901bd993cf3437f159eb542388f697a5a7515e165", func := "shredder/shredderlaw15.FsmBack", spec := "fsmBack", unfollowed := true, recurses := true, apart := false, narrowed := true }
def FsmBackUptoSaid : Prop := fsmBackUptoRow.holds Try.pinned (OpenSpec.upto fsmBackSpec)

/-- 'shredderlaw15.FsmCommon', WHERE WHAT IT READS IS OF BULK AT MOST 1048576: true; the input reads as it did. -/
def fsmCommonUptoRow : OpenClaim := { program := "ytpffgelllabfnaa", sum := "e3ab890045e8359fc6e6a8e901bd993cf3437f159eb542388f697a5a7515e165", func := "shredder/shredderlaw15.FsmCommon", spec := "fsmCommon", unfollowed := true, recurses := true, apart := false, narrowed := true }
def FsmCommonUptoSaid : Prop := fsmCommonUptoRow.holds Try.pinned (OpenSpec.upto fsmCommonSpec)

/-- 'shredderlaw15.FsmFlat', WHERE WHAT IT READS IS OF BULK AT MOST 1048576: true; the input reads as it did. -/
def fsmFlatUptoRow : OpenClaim := { program := "ytpffgelllabfnaa", sum := "e3ab890045e8359fc6e6a8e901bd993cf3437f159eb542388f697a5a7515e165", func := "shredder/shredderlaw15.FsmFlat", spec := "fsmFlat", unfollowed := true, recurses := true, apart := false, narrowed := true }
def FsmFlatUptoSaid : Prop := fsmFlatUptoRow.holds Try.pinned (OpenSpec.upto fsmFlatSpec)

/-- 'shredderlaw15.FsmList', WHERE WHAT IT READS IS OF BULK AT MOST 1048576: true; the input reads as it did. -/
def fsmListUptoRow : OpenClaim := { program := "ytpffgelllabfnaa", sum := "e3ab890045e8359fc6e6a8e901bd993cf3437f159eb542388f697a5a7515e165", func := "shredder/shredderlaw15.FsmList", spec := "fsmList", unfollowed := true, recurses := true, apart := false, narrowed := true }
def FsmListUptoSaid : Prop := fsmListUptoRow.holds Try.pinned (OpenSpec.upto fsmListSpec)

/-- 'shredderlaw15.FsmAlone', WHERE WHAT IT READS IS OF BULK AT MOST 1048576: true; the input reads as it did. -/
def fsmAloneUptoRow : OpenClaim := { program := "ytpffgelllabfnaa", sum := "e3ab890045e8359fc6e6a8e901bd993cf3437f159eb542388f697a5a7515e165", func := "shredder/shredderlaw15.FsmAlone", spec := "fsmAlone", unfollowed := true, recurses := true, apart := false, narrowed := true }
def FsmAloneUptoSaid : Prop := fsmAloneUptoRow.holds Try.pinned (OpenSpec.upto fsmAloneSpec)

end Rows
end Go.Proofs.Ytpffgelllabfnaa
