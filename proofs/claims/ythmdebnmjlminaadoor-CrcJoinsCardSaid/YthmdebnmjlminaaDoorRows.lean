/-
  NARROWER THAN 'FOR EVERY INPUT', by the rows' own cells (each row's printed sentence says how): CrcSums: laid · CrcTurned: laid · CrcBytes: laid · CrcJoins: laid · CrcEnds: laid · CrcPlaces: laid · CrcNone: laid.
  DERIVED. THE GIVEN ROWS OF THIS SEAT. 7 by the template 'for every input the law returns true; each argument reads behind the call as it read before'; 0 by the template 'total and deterministic' (their statements: YthmdebnmjlminaaDoorTotals.lean).
  GIVEN WITH THE SEED: the statements are not yours to turn. If you find one false, say at which input.
  Laid BY PROGRAM, IN A SANDBOX (cutbox-rows.mjs): the forced cells as the released guide's own fill.sh prints them over the translation f862f7f42c089474… (all of the seat's roots in one cut). By AI agents, Wed Nov 11 2026. No macro, syntax, notation, axiom, sorry.
-/
import Derived.Test.YthmdebnmjlminaaDoorChecked
import GoSem.Claim
import GoSem.ClaimJoined
import GoSem.ClaimMapViews
import Derived.JoinedTies
import Derived.KernelRfl
namespace Go.Proofs.YthmdebnmjlminaaDoor
/- THE CELL 'sum', in the pinned program and in every row, IS THE sha256 OF THE DUMP (.gsa) THAT YthmdebnmjlminaaDoorProg.lean LOADS. Nothing in Lean hashes anything: it is a label: what it is worth is what the hold of that sum in a sandbox is worth. -/
noncomputable def Tryd.pinned : Pinned := { name := "ythmdebnmjlminaadoor", sum := "f862f7f42c089474a2da2f5b1d696044acfd3afe81a67fc2dadb516f054a8e4e", checked := Tryd.checked }
namespace Rows
def none {H : Type} : Left H := { results := [], args := [] }

/- WHAT THE LISTED PACKAGE-LEVEL VARIABLES READ AS WHEN THE CALL BEGINS. Each datum BY PROGRAM (the guide's laid-datum.mjs) off the statement by which the dump's own 'gosem.cut.vars' lays the variable. In a bare row this is a premise. The card (YthmdebnmjlminaaDoorCards.lean) ties it to the program's text. -/
def laid_shredder_crc_shares {H : Type} : DataW H := .agg [.lit (.int .u32 0), .lit (.int .u32 498536548), .lit (.int .u32 997073096), .lit (.int .u32 651767980), .lit (.int .u32 1994146192), .lit (.int .u32 1802195444), .lit (.int .u32 1303535960), .lit (.int .u32 1342533948), .lit (.int .u32 3988292384), .lit (.int .u32 4027552580), .lit (.int .u32 3604390888), .lit (.int .u32 3412177804), .lit (.int .u32 2607071920), .lit (.int .u32 2262029012), .lit (.int .u32 2685067896), .lit (.int .u32 3183342108)]

/-- 'shredderlaw4.CrcSums': WHATEVER THE INPUT: true; the input reads as it did. -/
def crcSumsSpec : ChangeSpec := { name := "crcSums", fn := fun _ => fun
  | [d] => { results := [.lit (.bool true)], args := [d] }
  | _ => none }
def crcSumsRow : OpenClaim := { program := "ythmdebnmjlminaadoor", sum := "f862f7f42c089474a2da2f5b1d696044acfd3afe81a67fc2dadb516f054a8e4e", func := "shredder/shredderlaw4.CrcSums", spec := "crcSums", named := ["shredder/crc.shares"], apart := false, laid := [("shredder/crc.shares", laid_shredder_crc_shares)] }
def CrcSumsSaid : Prop := crcSumsRow.holds Tryd.pinned (OpenSpec.ofChange crcSumsSpec)

/-- ITS FALSE NEIGHBOUR: 'it returns false'. Refute it at one input. -/
def crcSumsWrong : ChangeSpec := { name := "crcSums", fn := fun _ => fun
  | [d] => { results := [.lit (.bool false)], args := [d] }
  | _ => none }
def CrcSumsWrongFalsely : Prop := crcSumsRow.holds Tryd.pinned (OpenSpec.ofChange crcSumsWrong)

/-- 'shredderlaw4.CrcTurned': WHATEVER THE INPUT: true; the input reads as it did. -/
def crcTurnedSpec : ChangeSpec := { name := "crcTurned", fn := fun _ => fun
  | [d1, d2, d3] => { results := [.lit (.bool true)], args := [d1, d2, d3] }
  | _ => none }
def crcTurnedRow : OpenClaim := { program := "ythmdebnmjlminaadoor", sum := "f862f7f42c089474a2da2f5b1d696044acfd3afe81a67fc2dadb516f054a8e4e", func := "shredder/shredderlaw4.CrcTurned", spec := "crcTurned", named := ["shredder/crc.shares"], apart := false, laid := [("shredder/crc.shares", laid_shredder_crc_shares)] }
def CrcTurnedSaid : Prop := crcTurnedRow.holds Tryd.pinned (OpenSpec.ofChange crcTurnedSpec)

/-- ITS FALSE NEIGHBOUR: 'it returns false'. Refute it at one input. -/
def crcTurnedWrong : ChangeSpec := { name := "crcTurned", fn := fun _ => fun
  | [d1, d2, d3] => { results := [.lit (.bool false)], args := [d1, d2, d3] }
  | _ => none }
def CrcTurnedWrongFalsely : Prop := crcTurnedRow.holds Tryd.pinned (OpenSpec.ofChange crcTurnedWrong)

/-- 'shredderlaw4.CrcBytes': WHATEVER THE INPUT: true; the input reads as it did. -/
def crcBytesSpec : ChangeSpec := { name := "crcBytes", fn := fun _ => fun
  | [d1, d2, d3] => { results := [.lit (.bool true)], args := [d1, d2, d3] }
  | _ => none }
def crcBytesRow : OpenClaim := { program := "ythmdebnmjlminaadoor", sum := "f862f7f42c089474a2da2f5b1d696044acfd3afe81a67fc2dadb516f054a8e4e", func := "shredder/shredderlaw4.CrcBytes", spec := "crcBytes", named := ["shredder/crc.shares"], apart := false, laid := [("shredder/crc.shares", laid_shredder_crc_shares)] }
def CrcBytesSaid : Prop := crcBytesRow.holds Tryd.pinned (OpenSpec.ofChange crcBytesSpec)

/-- ITS FALSE NEIGHBOUR: 'it returns false'. Refute it at one input. -/
def crcBytesWrong : ChangeSpec := { name := "crcBytes", fn := fun _ => fun
  | [d1, d2, d3] => { results := [.lit (.bool false)], args := [d1, d2, d3] }
  | _ => none }
def CrcBytesWrongFalsely : Prop := crcBytesRow.holds Tryd.pinned (OpenSpec.ofChange crcBytesWrong)

/-- 'shredderlaw4.CrcJoins': WHATEVER THE INPUT: true; the input reads as it did. -/
def crcJoinsSpec : ChangeSpec := { name := "crcJoins", fn := fun _ => fun
  | [d1, d2, d3] => { results := [.lit (.bool true)], args := [d1, d2, d3] }
  | _ => none }
def crcJoinsRow : OpenClaim := { program := "ythmdebnmjlminaadoor", sum := "f862f7f42c089474a2da2f5b1d696044acfd3afe81a67fc2dadb516f054a8e4e", func := "shredder/shredderlaw4.CrcJoins", spec := "crcJoins", named := ["shredder/crc.shares"], apart := false, laid := [("shredder/crc.shares", laid_shredder_crc_shares)] }
def CrcJoinsSaid : Prop := crcJoinsRow.holds Tryd.pinned (OpenSpec.ofChange crcJoinsSpec)

/-- ITS FALSE NEIGHBOUR: 'it returns false'. Refute it at one input. -/
def crcJoinsWrong : ChangeSpec := { name := "crcJoins", fn := fun _ => fun
  | [d1, d2, d3] => { results := [.lit (.bool false)], args := [d1, d2, d3] }
  | _ => none }
def CrcJoinsWrongFalsely : Prop := crcJoinsRow.holds Tryd.pinned (OpenSpec.ofChange crcJoinsWrong)

/-- 'shredderlaw4.CrcEnds': WHATEVER THE INPUT: true; the input reads as it did. -/
def crcEndsSpec : ChangeSpec := { name := "crcEnds", fn := fun _ => fun
  | [d] => { results := [.lit (.bool true)], args := [d] }
  | _ => none }
def crcEndsRow : OpenClaim := { program := "ythmdebnmjlminaadoor", sum := "f862f7f42c089474a2da2f5b1d696044acfd3afe81a67fc2dadb516f054a8e4e", func := "shredder/shredderlaw4.CrcEnds", spec := "crcEnds", named := ["shredder/crc.shares"], apart := false, laid := [("shredder/crc.shares", laid_shredder_crc_shares)] }
def CrcEndsSaid : Prop := crcEndsRow.holds Tryd.pinned (OpenSpec.ofChange crcEndsSpec)

/-- ITS FALSE NEIGHBOUR: 'it returns false'. Refute it at one input. -/
def crcEndsWrong : ChangeSpec := { name := "crcEnds", fn := fun _ => fun
  | [d] => { results := [.lit (.bool false)], args := [d] }
  | _ => none }
def CrcEndsWrongFalsely : Prop := crcEndsRow.holds Tryd.pinned (OpenSpec.ofChange crcEndsWrong)

/-- 'shredderlaw4.CrcPlaces': WHATEVER THE INPUT: true; the input reads as it did. -/
def crcPlacesSpec : ChangeSpec := { name := "crcPlaces", fn := fun _ => fun
  | [d1, d2, d3] => { results := [.lit (.bool true)], args := [d1, d2, d3] }
  | _ => none }
def crcPlacesRow : OpenClaim := { program := "ythmdebnmjlminaadoor", sum := "f862f7f42c089474a2da2f5b1d696044acfd3afe81a67fc2dadb516f054a8e4e", func := "shredder/shredderlaw4.CrcPlaces", spec := "crcPlaces", named := ["shredder/crc.shares"], apart := false, laid := [("shredder/crc.shares", laid_shredder_crc_shares)] }
def CrcPlacesSaid : Prop := crcPlacesRow.holds Tryd.pinned (OpenSpec.ofChange crcPlacesSpec)

/-- ITS FALSE NEIGHBOUR: 'it returns false'. Refute it at one input. -/
def crcPlacesWrong : ChangeSpec := { name := "crcPlaces", fn := fun _ => fun
  | [d1, d2, d3] => { results := [.lit (.bool false)], args := [d1, d2, d3] }
  | _ => none }
def CrcPlacesWrongFalsely : Prop := crcPlacesRow.holds Tryd.pinned (OpenSpec.ofChange crcPlacesWrong)

/-- 'shredderlaw4.CrcNone': WHATEVER THE INPUT: true; the input reads as it did. -/
def crcNoneSpec : ChangeSpec := { name := "crcNone", fn := fun _ => fun
  | [d1, d2] => { results := [.lit (.bool true)], args := [d1, d2] }
  | _ => none }
def crcNoneRow : OpenClaim := { program := "ythmdebnmjlminaadoor", sum := "f862f7f42c089474a2da2f5b1d696044acfd3afe81a67fc2dadb516f054a8e4e", func := "shredder/shredderlaw4.CrcNone", spec := "crcNone", named := ["shredder/crc.shares"], apart := false, laid := [("shredder/crc.shares", laid_shredder_crc_shares)] }
def CrcNoneSaid : Prop := crcNoneRow.holds Tryd.pinned (OpenSpec.ofChange crcNoneSpec)

/-- ITS FALSE NEIGHBOUR: 'it returns false'. Refute it at one input. -/
def crcNoneWrong : ChangeSpec := { name := "crcNone", fn := fun _ => fun
  | [d1, d2] => { results := [.lit (.bool false)], args := [d1, d2] }
  | _ => none }
def CrcNoneWrongFalsely : Prop := crcNoneRow.holds Tryd.pinned (OpenSpec.ofChange crcNoneWrong)

/- THE SECOND FORM. 'bulk': how many values and letters a reading holds, each counted each time it is reached (what is shared counts as often as it is met; a slice's spare places count too). A statement '..UptoSaid' is the law's where the arguments, and the package variables that the reading takes, are together of bulk at most 1048576: NARROWER than '..Said'. Prove '..Said' where nothing that the law and all that it calls make is longer than what came in: it says more and counts as full. Else prove '..UptoSaid'. A law counts once. -/
mutual
def uptoBulk {H : Type} : DataW H → Nat
  | .lit (.string bytes) => bytes.length + 1
  | .lit _ => 1
  | .nil => 1
  | .ptr d => uptoBulk d + 1
  | .slice elems spare => uptoBulkAll elems + uptoBulkAll spare + 1
  | .agg parts => uptoBulkAll parts + 1
  | .iface _ d => uptoBulk d + 1
  | .map entries => uptoBulkEntries entries + 1
  | .held _ => 1
def uptoBulkAll {H : Type} : List (DataW H) → Nat
  | [] => 0
  | d :: r => uptoBulk d + uptoBulkAll r
def uptoBulkEntries {H : Type} : List (Lit × DataW H) → Nat
  | [] => 0
  | x :: r => uptoBulkEntry x + uptoBulkEntries r
def uptoBulkEntry {H : Type} : Lit × DataW H → Nat
  | (.string bytes, d) => bytes.length + uptoBulk d + 1
  | (_, d) => uptoBulk d + 1
 end
def uptoSmall : (H : Type) → List (DataW H) → Bool := fun _ ds => decide (uptoBulkAll ds ≤ 1048576)
def OpenSpec.upto (s : _root_.Go.ChangeSpec) : _root_.Go.OpenSpec := { _root_.Go.OpenSpec.ofChange s with cond := some uptoSmall }

/-- 'shredderlaw4.CrcSums', WHERE WHAT IT READS IS OF BULK AT MOST 1048576: true; the input reads as it did. -/
def crcSumsUptoRow : OpenClaim := { program := "ythmdebnmjlminaadoor", sum := "f862f7f42c089474a2da2f5b1d696044acfd3afe81a67fc2dadb516f054a8e4e", func := "shredder/shredderlaw4.CrcSums", spec := "crcSums", named := ["shredder/crc.shares"], apart := false, laid := [("shredder/crc.shares", laid_shredder_crc_shares)], narrowed := true }
def CrcSumsUptoSaid : Prop := crcSumsUptoRow.holds Tryd.pinned (OpenSpec.upto crcSumsSpec)

/-- 'shredderlaw4.CrcTurned', WHERE WHAT IT READS IS OF BULK AT MOST 1048576: true; the input reads as it did. -/
def crcTurnedUptoRow : OpenClaim := { program := "ythmdebnmjlminaadoor", sum := "f862f7f42c089474a2da2f5b1d696044acfd3afe81a67fc2dadb516f054a8e4e", func := "shredder/shredderlaw4.CrcTurned", spec := "crcTurned", named := ["shredder/crc.shares"], apart := false, laid := [("shredder/crc.shares", laid_shredder_crc_shares)], narrowed := true }
def CrcTurnedUptoSaid : Prop := crcTurnedUptoRow.holds Tryd.pinned (OpenSpec.upto crcTurnedSpec)

/-- 'shredderlaw4.CrcBytes', WHERE WHAT IT READS IS OF BULK AT MOST 1048576: true; the input reads as it did. -/
def crcBytesUptoRow : OpenClaim := { program := "ythmdebnmjlminaadoor", sum := "f862f7f42c089474a2da2f5b1d696044acfd3afe81a67fc2dadb516f054a8e4e", func := "shredder/shredderlaw4.CrcBytes", spec := "crcBytes", named := ["shredder/crc.shares"], apart := false, laid := [("shredder/crc.shares", laid_shredder_crc_shares)], narrowed := true }
def CrcBytesUptoSaid : Prop := crcBytesUptoRow.holds Tryd.pinned (OpenSpec.upto crcBytesSpec)

/-- 'shredderlaw4.CrcJoins', WHERE WHAT IT READS IS OF BULK AT MOST 1048576: true; the input reads as it did. -/
def crcJoinsUptoRow : OpenClaim := { program := "ythmdebnmjlminaadoor", sum := "f862f7f42c089474a2da2f5b1d696044acfd3afe81a67fc2dadb516f054a8e4e", func := "shredder/shredderlaw4.CrcJoins", spec := "crcJoins", named := ["shredder/crc.shares"], apart := false, laid := [("shredder/crc.shares", laid_shredder_crc_shares)], narrowed := true }
def CrcJoinsUptoSaid : Prop := crcJoinsUptoRow.holds Tryd.pinned (OpenSpec.upto crcJoinsSpec)

/-- 'shredderlaw4.CrcEnds', WHERE WHAT IT READS IS OF BULK AT MOST 1048576: true; the input reads as it did. -/
def crcEndsUptoRow : OpenClaim := { program := "ythmdebnmjlminaadoor", sum := "f862f7f42c089474a2da2f5b1d696044acfd3afe81a67fc2dadb516f054a8e4e", func := "shredder/shredderlaw4.CrcEnds", spec := "crcEnds", named := ["shredder/crc.shares"], apart := false, laid := [("shredder/crc.shares", laid_shredder_crc_shares)], narrowed := true }
def CrcEndsUptoSaid : Prop := crcEndsUptoRow.holds Tryd.pinned (OpenSpec.upto crcEndsSpec)

/-- 'shredderlaw4.CrcPlaces', WHERE WHAT IT READS IS OF BULK AT MOST 1048576: true; the input reads as it did. -/
def crcPlacesUptoRow : OpenClaim := { program := "ythmdebnmjlminaadoor", sum := "f862f7f42c089474a2da2f5b1d696044acfd3afe81a67fc2dadb516f054a8e4e", func := "shredder/shredderlaw4.CrcPlaces", spec := "crcPlaces", named := ["shredder/crc.shares"], apart := false, laid := [("shredder/crc.shares", laid_shredder_crc_shares)], narrowed := true }
def CrcPlacesUptoSaid : Prop := crcPlacesUptoRow.holds Tryd.pinned (OpenSpec.upto crcPlacesSpec)

/-- 'shredderlaw4.CrcNone', WHERE WHAT IT READS IS OF BULK AT MOST 1048576: true; the input reads as it did. -/
def crcNoneUptoRow : OpenClaim := { program := "ythmdebnmjlminaadoor", sum := "f862f7f42c089474a2da2f5b1d696044acfd3afe81a67fc2dadb516f054a8e4e", func := "shredder/shredderlaw4.CrcNone", spec := "crcNone", named := ["shredder/crc.shares"], apart := false, laid := [("shredder/crc.shares", laid_shredder_crc_shares)], narrowed := true }
def CrcNoneUptoSaid : Prop := crcNoneUptoRow.holds Tryd.pinned (OpenSpec.upto crcNoneSpec)

end Rows
end Go.Proofs.YthmdebnmjlminaaDoor
