/-
  NARROWER THAN 'FOR EVERY INPUT', by the rows' own cells (each row's printed sentence says how): PlainBack: laid · PlainReads: laid · PlainSizes: laid · PlainCuts: laid · PlainLong: laid · PlainInts: laid · PlainRows: laid.
  DERIVED. THE GIVEN ROWS OF THIS SEAT. 7 by the template 'for every input the law returns true; each argument reads behind the call as it read before'; 0 by the template 'total and deterministic' (their statements: YtndbgemdklnmlaaDoorTotals.lean).
  GIVEN WITH THE SEED: the statements are not yours to turn. If you find one false, say at which input.
  Laid BY PROGRAM, IN A SANDBOX (cutbox-rows.mjs): the forced cells as the released guide's own fill.sh prints them over the translation 18fccbfaac439fd0… (all of the seat's roots in one cut). By AI agents, Wed Nov 11 2026. No macro, syntax, notation, axiom, sorry.
-/
import Derived.Test.YtndbgemdklnmlaaDoorChecked
import GoSem.Claim
import GoSem.ClaimJoined
import GoSem.ClaimMapViews
import Derived.JoinedTies
import Derived.KernelRfl
namespace Go.Proofs.YtndbgemdklnmlaaDoor
/- THE CELL 'sum', in the pinned program and in every row, IS THE sha256 OF THE DUMP (.gsa) THAT YtndbgemdklnmlaaDoorProg.lean LOADS. Nothing in Lean hashes anything: it is a label: what it is worth is what the hold of that sum in a sandbox is worth. -/
noncomputable def Tryd.pinned : Pinned := { name := "ytndbgemdklnmlaadoor", sum := "18fccbfaac439fd0c276214d7213c49e79033c50d7eaac04fa5f965c235247b3", checked := Tryd.checked }
namespace Rows
def none {H : Type} : Left H := { results := [], args := [] }

/- WHAT THE LISTED PACKAGE-LEVEL VARIABLES READ AS WHEN THE CALL BEGINS. Each datum BY PROGRAM (the guide's laid-datum.mjs) off the statement by which the dump's own 'gosem.cut.vars' lays the variable. In a bare row this is a premise. The card (YtndbgemdklnmlaaDoorCards.lean) ties it to the program's text. -/
def laid_shredder_plain_signs {H : Type} : DataW H := .agg [.lit (.int .i32 45), .lit (.int .i32 98), .lit (.int .i32 52), .lit (.int .i32 56), .lit (.int .i32 116)]

/-- 'shredderlaw11.PlainBack': WHATEVER THE INPUT: true; the input reads as it did. -/
def plainBackSpec : ChangeSpec := { name := "plainBack", fn := fun _ => fun
  | [d1, d2] => { results := [.lit (.bool true)], args := [d1, d2] }
  | _ => none }
def plainBackRow : OpenClaim := { program := "ytndbgemdklnmlaadoor", sum := "18fccbfaac439fd0c276214d7213c49e79033c50d7eaac04fa5f965c235247b3", func := "shredder/shredderlaw11.PlainBack", spec := "plainBack", unfollowed := true, recurses := true, named := ["shredder/plain.signs"], apart := false, laid := [("shredder/plain.signs", laid_shredder_plain_signs)] }
def PlainBackSaid : Prop := plainBackRow.holds Tryd.pinned (OpenSpec.ofChange plainBackSpec)

/-- ITS FALSE NEIGHBOUR: 'it returns false'. Refute it at one input. -/
def plainBackWrong : ChangeSpec := { name := "plainBack", fn := fun _ => fun
  | [d1, d2] => { results := [.lit (.bool false)], args := [d1, d2] }
  | _ => none }
def PlainBackWrongFalsely : Prop := plainBackRow.holds Tryd.pinned (OpenSpec.ofChange plainBackWrong)

/-- 'shredderlaw11.PlainReads': WHATEVER THE INPUT: true; the input reads as it did. -/
def plainReadsSpec : ChangeSpec := { name := "plainReads", fn := fun _ => fun
  | [d1, d2, d3, d4, d5, d6, d7] => { results := [.lit (.bool true)], args := [d1, d2, d3, d4, d5, d6, d7] }
  | _ => none }
def plainReadsRow : OpenClaim := { program := "ytndbgemdklnmlaadoor", sum := "18fccbfaac439fd0c276214d7213c49e79033c50d7eaac04fa5f965c235247b3", func := "shredder/shredderlaw11.PlainReads", spec := "plainReads", unfollowed := true, recurses := true, named := ["shredder/plain.signs"], apart := false, laid := [("shredder/plain.signs", laid_shredder_plain_signs)] }
def PlainReadsSaid : Prop := plainReadsRow.holds Tryd.pinned (OpenSpec.ofChange plainReadsSpec)

/-- ITS FALSE NEIGHBOUR: 'it returns false'. Refute it at one input. -/
def plainReadsWrong : ChangeSpec := { name := "plainReads", fn := fun _ => fun
  | [d1, d2, d3, d4, d5, d6, d7] => { results := [.lit (.bool false)], args := [d1, d2, d3, d4, d5, d6, d7] }
  | _ => none }
def PlainReadsWrongFalsely : Prop := plainReadsRow.holds Tryd.pinned (OpenSpec.ofChange plainReadsWrong)

/-- 'shredderlaw11.PlainSizes': WHATEVER THE INPUT: true; the input reads as it did. -/
def plainSizesSpec : ChangeSpec := { name := "plainSizes", fn := fun _ => fun
  | [d1, d2] => { results := [.lit (.bool true)], args := [d1, d2] }
  | _ => none }
def plainSizesRow : OpenClaim := { program := "ytndbgemdklnmlaadoor", sum := "18fccbfaac439fd0c276214d7213c49e79033c50d7eaac04fa5f965c235247b3", func := "shredder/shredderlaw11.PlainSizes", spec := "plainSizes", unfollowed := true, recurses := true, named := ["shredder/plain.signs"], apart := false, laid := [("shredder/plain.signs", laid_shredder_plain_signs)] }
def PlainSizesSaid : Prop := plainSizesRow.holds Tryd.pinned (OpenSpec.ofChange plainSizesSpec)

/-- ITS FALSE NEIGHBOUR: 'it returns false'. Refute it at one input. -/
def plainSizesWrong : ChangeSpec := { name := "plainSizes", fn := fun _ => fun
  | [d1, d2] => { results := [.lit (.bool false)], args := [d1, d2] }
  | _ => none }
def PlainSizesWrongFalsely : Prop := plainSizesRow.holds Tryd.pinned (OpenSpec.ofChange plainSizesWrong)

/-- 'shredderlaw11.PlainCuts': WHATEVER THE INPUT: true; the input reads as it did. -/
def plainCutsSpec : ChangeSpec := { name := "plainCuts", fn := fun _ => fun
  | [d1, d2, d3, d4] => { results := [.lit (.bool true)], args := [d1, d2, d3, d4] }
  | _ => none }
def plainCutsRow : OpenClaim := { program := "ytndbgemdklnmlaadoor", sum := "18fccbfaac439fd0c276214d7213c49e79033c50d7eaac04fa5f965c235247b3", func := "shredder/shredderlaw11.PlainCuts", spec := "plainCuts", unfollowed := true, recurses := true, named := ["shredder/plain.signs"], apart := false, laid := [("shredder/plain.signs", laid_shredder_plain_signs)] }
def PlainCutsSaid : Prop := plainCutsRow.holds Tryd.pinned (OpenSpec.ofChange plainCutsSpec)

/-- ITS FALSE NEIGHBOUR: 'it returns false'. Refute it at one input. -/
def plainCutsWrong : ChangeSpec := { name := "plainCuts", fn := fun _ => fun
  | [d1, d2, d3, d4] => { results := [.lit (.bool false)], args := [d1, d2, d3, d4] }
  | _ => none }
def PlainCutsWrongFalsely : Prop := plainCutsRow.holds Tryd.pinned (OpenSpec.ofChange plainCutsWrong)

/-- 'shredderlaw11.PlainLong': WHATEVER THE INPUT: true; the input reads as it did. -/
def plainLongSpec : ChangeSpec := { name := "plainLong", fn := fun _ => fun
  | [d] => { results := [.lit (.bool true)], args := [d] }
  | _ => none }
def plainLongRow : OpenClaim := { program := "ytndbgemdklnmlaadoor", sum := "18fccbfaac439fd0c276214d7213c49e79033c50d7eaac04fa5f965c235247b3", func := "shredder/shredderlaw11.PlainLong", spec := "plainLong", unfollowed := true, recurses := true, named := ["shredder/plain.signs"], apart := false, laid := [("shredder/plain.signs", laid_shredder_plain_signs)] }
def PlainLongSaid : Prop := plainLongRow.holds Tryd.pinned (OpenSpec.ofChange plainLongSpec)

/-- ITS FALSE NEIGHBOUR: 'it returns false'. Refute it at one input. -/
def plainLongWrong : ChangeSpec := { name := "plainLong", fn := fun _ => fun
  | [d] => { results := [.lit (.bool false)], args := [d] }
  | _ => none }
def PlainLongWrongFalsely : Prop := plainLongRow.holds Tryd.pinned (OpenSpec.ofChange plainLongWrong)

/-- 'shredderlaw11.PlainInts': WHATEVER THE INPUT: true; the input reads as it did. -/
def plainIntsSpec : ChangeSpec := { name := "plainInts", fn := fun _ => fun
  | [d] => { results := [.lit (.bool true)], args := [d] }
  | _ => none }
def plainIntsRow : OpenClaim := { program := "ytndbgemdklnmlaadoor", sum := "18fccbfaac439fd0c276214d7213c49e79033c50d7eaac04fa5f965c235247b3", func := "shredder/shredderlaw11.PlainInts", spec := "plainInts", unfollowed := true, recurses := true, named := ["shredder/plain.signs"], apart := false, laid := [("shredder/plain.signs", laid_shredder_plain_signs)] }
def PlainIntsSaid : Prop := plainIntsRow.holds Tryd.pinned (OpenSpec.ofChange plainIntsSpec)

/-- ITS FALSE NEIGHBOUR: 'it returns false'. Refute it at one input. -/
def plainIntsWrong : ChangeSpec := { name := "plainInts", fn := fun _ => fun
  | [d] => { results := [.lit (.bool false)], args := [d] }
  | _ => none }
def PlainIntsWrongFalsely : Prop := plainIntsRow.holds Tryd.pinned (OpenSpec.ofChange plainIntsWrong)

/-- 'shredderlaw11.PlainRows': WHATEVER THE INPUT: true; the input reads as it did. -/
def plainRowsSpec : ChangeSpec := { name := "plainRows", fn := fun _ => fun
  | [d1, d2, d3] => { results := [.lit (.bool true)], args := [d1, d2, d3] }
  | _ => none }
def plainRowsRow : OpenClaim := { program := "ytndbgemdklnmlaadoor", sum := "18fccbfaac439fd0c276214d7213c49e79033c50d7eaac04fa5f965c235247b3", func := "shredder/shredderlaw11.PlainRows", spec := "plainRows", unfollowed := true, recurses := true, named := ["shredder/plain.signs"], apart := false, laid := [("shredder/plain.signs", laid_shredder_plain_signs)] }
def PlainRowsSaid : Prop := plainRowsRow.holds Tryd.pinned (OpenSpec.ofChange plainRowsSpec)

/-- ITS FALSE NEIGHBOUR: 'it returns false'. Refute it at one input. -/
def plainRowsWrong : ChangeSpec := { name := "plainRows", fn := fun _ => fun
  | [d1, d2, d3] => { results := [.lit (.bool false)], args := [d1, d2, d3] }
  | _ => none }
def PlainRowsWrongFalsely : Prop := plainRowsRow.holds Tryd.pinned (OpenSpec.ofChange plainRowsWrong)

/- THE SECOND FORM. 'bulk': how many values and letters a reading holds, each counted each time it is reached (what is shared counts as often as it is met; a slice's spare places count too). A statement '..UptoSaid' is the law's where the arguments, and the package variables that the reading takes, are together of bulk at most 1048576: NARROWER than '..Said'. Prove '..Said' where nothing that the law and all that it calls make is longer than what came in: it says more and counts as full. Else prove '..UptoSaid'. A law counts once. -/
mutual
def uptoBulk {H : Type} : DataW H → Nat
  | .lit (.string bytes) => bytes.length + 1
  | .lit _ => 1
  | .nil => 1
  | .ptr d => uptoBulk d + 1
  | .slice elems spare => uptoBulkAll elems + uptoBulkAll spare + 1
  | .agg parts => uptoBulkAll parts + 1
  | .iface _ d => uptoBulk d + 1
  | .map entries => uptoBulkEntries entries + 1
  | .held _ => 1
def uptoBulkAll {H : Type} : List (DataW H) → Nat
  | [] => 0
  | d :: r => uptoBulk d + uptoBulkAll r
def uptoBulkEntries {H : Type} : List (Lit × DataW H) → Nat
  | [] => 0
  | x :: r => uptoBulkEntry x + uptoBulkEntries r
def uptoBulkEntry {H : Type} : Lit × DataW H → Nat
  | (.string bytes, d) => bytes.length + uptoBulk d + 1
  | (_, d) => uptoBulk d + 1
 end
def uptoSmall : (H : Type) → List (DataW H) → Bool := fun _ ds => decide (uptoBulkAll ds ≤ 1048576)
def OpenSpec.upto (s : _root_.Go.ChangeSpec) : _root_.Go.OpenSpec := { _root_.Go.OpenSpec.ofChange s with cond := some uptoSmall }

/-- 'shredderlaw11.PlainBack', WHERE WHAT IT READS IS OF BULK AT MOST 1048576: true; the input reads as it did. -/
def plainBackUptoRow : OpenClaim := { program := "ytndbgemdklnmlaadoor", sum := "18fccbfaac439fd0c276214d7213c49e79033c50d7eaac04fa5f965c235247b3", func := "shredder/shredderlaw11.PlainBack", spec := "plainBack", unfollowed := true, recurses := true, named := ["shredder/plain.signs"], apart := false, laid := [("shredder/plain.signs", laid_shredder_plain_signs)], narrowed := true }
def PlainBackUptoSaid : Prop := plainBackUptoRow.holds Tryd.pinned (OpenSpec.upto plainBackSpec)

/-- 'shredderlaw11.PlainReads', WHERE WHAT IT READS IS OF BULK AT MOST 1048576: true; the input reads as it did. -/
def plainReadsUptoRow : OpenClaim := { program := "ytndbgemdklnmlaadoor", sum := "18fccbfaac439fd0c276214d7213c49e79033c50d7eaac04fa5f965c235247b3", func := "shredder/shredderlaw11.PlainReads", spec := "plainReads", unfollowed := true, recurses := true, named := ["shredder/plain.signs"], apart := false, laid := [("shredder/plain.signs", laid_shredder_plain_signs)], narrowed := true }
def PlainReadsUptoSaid : Prop := plainReadsUptoRow.holds Tryd.pinned (OpenSpec.upto plainReadsSpec)

/-- 'shredderlaw11.PlainSizes', WHERE WHAT IT READS IS OF BULK AT MOST 1048576: true; the input reads as it did. -/
def plainSizesUptoRow : OpenClaim := { program := "ytndbgemdklnmlaadoor", sum := "18fccbfaac439fd0c276214d7213c49e79033c50d7eaac04fa5f965c235247b3", func := "shredder/shredderlaw11.PlainSizes", spec := "plainSizes", unfollowed := true, recurses := true, named := ["shredder/plain.signs"], apart := false, laid := [("shredder/plain.signs", laid_shredder_plain_signs)], narrowed := true }
def PlainSizesUptoSaid : Prop := plainSizesUptoRow.holds Tryd.pinned (OpenSpec.upto plainSizesSpec)

/-- 'shredderlaw11.PlainCuts', WHERE WHAT IT READS IS OF BULK AT MOST 1048576: true; the input reads as it did. -/
def plainCutsUptoRow : OpenClaim := { program := "ytndbgemdklnmlaadoor", sum := "18fccbfaac439fd0c276214d7213c49e79033c50d7eaac04fa5f965c235247b3", func := "shredder/shredderlaw11.PlainCuts", spec := "plainCuts", unfollowed := true, recurses := true, named := ["shredder/plain.signs"], apart := false, laid := [("shredder/plain.signs", laid_shredder_plain_signs)], narrowed := true }
def PlainCutsUptoSaid : Prop := plainCutsUptoRow.holds Tryd.pinned (OpenSpec.upto plainCutsSpec)

/-- 'shredderlaw11.PlainLong', WHERE WHAT IT READS IS OF BULK AT MOST 1048576: true; the input reads as it did. -/
def plainLongUptoRow : OpenClaim := { program := "ytndbgemdklnmlaadoor", sum := "18fccbfaac439fd0c276214d7213c49e79033c50d7eaac04fa5f965c235247b3", func := "shredder/shredderlaw11.PlainLong", spec := "plainLong", unfollowed := true, recurses := true, named := ["shredder/plain.signs"], apart := false, laid := [("shredder/plain.signs", laid_shredder_plain_signs)], narrowed := true }
def PlainLongUptoSaid : Prop := plainLongUptoRow.holds Tryd.pinned (OpenSpec.upto plainLongSpec)

/-- 'shredderlaw11.PlainInts', WHERE WHAT IT READS IS OF BULK AT MOST 1048576: true; the input reads as it did. -/
def plainIntsUptoRow : OpenClaim := { program := "ytndbgemdklnmlaadoor", sum := "18fccbfaac439fd0c276214d7213c49e79033c50d7eaac04fa5f965c235247b3", func := "shredder/shredderlaw11.PlainInts", spec := "plainInts", unfollowed := true, recurses := true, named := ["shredder/plain.signs"], apart := false, laid := [("shredder/plain.signs", laid_shredder_plain_signs)], narrowed := true }
def PlainIntsUptoSaid : Prop := plainIntsUptoRow.holds Tryd.pinned (OpenSpec.upto plainIntsSpec)

/-- 'shredderlaw11.PlainRows', WHERE WHAT IT READS IS OF BULK AT MOST 1048576: true; the input reads as it did. -/
def plainRowsUptoRow : OpenClaim := { program := "ytndbgemdklnmlaadoor", sum := "18fccbfaac439fd0c276214d7213c49e79033c50d7eaac04fa5f965c235247b3", func := "shredder/shredderlaw11.PlainRows", spec := "plainRows", unfollowed := true, recurses := true, named := ["shredder/plain.signs"], apart := false, laid := [("shredder/plain.signs", laid_shredder_plain_signs)], narrowed := true }
def PlainRowsUptoSaid : Prop := plainRowsUptoRow.holds Tryd.pinned (OpenSpec.upto plainRowsSpec)

end Rows
end Go.Proofs.YtndbgemdklnmlaaDoor
