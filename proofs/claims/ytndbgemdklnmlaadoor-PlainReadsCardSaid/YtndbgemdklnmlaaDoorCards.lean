/-
  DERIVED. GIVEN WITH THE SEED: THE CARDS: each row of YtndbgemdklnmlaaDoorRows.lean that lists a variable, with what it lists TIED to the program's text (the seventh form; the later family's looks); each row that meets fmt, with fmt's text TOLD by the authors' own Lean function (tested against real Go, not proved from fmt's source: count such statements apart). THE CARD IS WHAT COUNTS. Prove the row's statement (the work); the ties are given (YtndbgemdklnmlaaDoorTie.lean); close each card by the builder's one call (the guide's Derived/Test/ToyasCard.lean, 'card_holds'). Laid BY PROGRAM, IN A SANDBOX (cutbox-door.mjs). By AI agents, Wed Nov 11 2026. No macro, syntax, notation, axiom, sorry.
-/
import Derived.Test.YtndbgemdklnmlaaDoorRows
import GoSem.ClaimSeven
namespace Go.Proofs.YtndbgemdklnmlaaDoor
namespace Rows

/-- THE TIED CARD OF 'shredderlaw11.PlainBack'. -/
def plainBackCard : Claim7 := { stood := { row := plainBackRow, standIns := [], harness := (true, "5f6c8bad231898570bc00666a7d26317add72fce1bf8eebb0a38a82fa2cccf37"), looks := false }, kinds := [], alts := [], laidByText := true, laidKinds := [.data], laidTests := true, laidLooks := .later }
def PlainBackCardSaid : Prop := Claim7.holds Tryd.pinned (.plain (OpenSpec.ofChange plainBackSpec)) plainBackCard

/-- THE TIED CARD OF 'shredderlaw11.PlainReads'. -/
def plainReadsCard : Claim7 := { stood := { row := plainReadsRow, standIns := [], harness := (true, "5f6c8bad231898570bc00666a7d26317add72fce1bf8eebb0a38a82fa2cccf37"), looks := false }, kinds := [], alts := [], laidByText := true, laidKinds := [.data], laidTests := true, laidLooks := .later }
def PlainReadsCardSaid : Prop := Claim7.holds Tryd.pinned (.plain (OpenSpec.ofChange plainReadsSpec)) plainReadsCard

/-- THE TIED CARD OF 'shredderlaw11.PlainSizes'. -/
def plainSizesCard : Claim7 := { stood := { row := plainSizesRow, standIns := [], harness := (true, "5f6c8bad231898570bc00666a7d26317add72fce1bf8eebb0a38a82fa2cccf37"), looks := false }, kinds := [], alts := [], laidByText := true, laidKinds := [.data], laidTests := true, laidLooks := .later }
def PlainSizesCardSaid : Prop := Claim7.holds Tryd.pinned (.plain (OpenSpec.ofChange plainSizesSpec)) plainSizesCard

/-- THE TIED CARD OF 'shredderlaw11.PlainCuts'. -/
def plainCutsCard : Claim7 := { stood := { row := plainCutsRow, standIns := [], harness := (true, "5f6c8bad231898570bc00666a7d26317add72fce1bf8eebb0a38a82fa2cccf37"), looks := false }, kinds := [], alts := [], laidByText := true, laidKinds := [.data], laidTests := true, laidLooks := .later }
def PlainCutsCardSaid : Prop := Claim7.holds Tryd.pinned (.plain (OpenSpec.ofChange plainCutsSpec)) plainCutsCard

/-- THE TIED CARD OF 'shredderlaw11.PlainLong'. -/
def plainLongCard : Claim7 := { stood := { row := plainLongRow, standIns := [], harness := (true, "5f6c8bad231898570bc00666a7d26317add72fce1bf8eebb0a38a82fa2cccf37"), looks := false }, kinds := [], alts := [], laidByText := true, laidKinds := [.data], laidTests := true, laidLooks := .later }
def PlainLongCardSaid : Prop := Claim7.holds Tryd.pinned (.plain (OpenSpec.ofChange plainLongSpec)) plainLongCard

/-- THE TIED CARD OF 'shredderlaw11.PlainInts'. -/
def plainIntsCard : Claim7 := { stood := { row := plainIntsRow, standIns := [], harness := (true, "5f6c8bad231898570bc00666a7d26317add72fce1bf8eebb0a38a82fa2cccf37"), looks := false }, kinds := [], alts := [], laidByText := true, laidKinds := [.data], laidTests := true, laidLooks := .later }
def PlainIntsCardSaid : Prop := Claim7.holds Tryd.pinned (.plain (OpenSpec.ofChange plainIntsSpec)) plainIntsCard

/-- THE TIED CARD OF 'shredderlaw11.PlainRows'. -/
def plainRowsCard : Claim7 := { stood := { row := plainRowsRow, standIns := [], harness := (true, "5f6c8bad231898570bc00666a7d26317add72fce1bf8eebb0a38a82fa2cccf37"), looks := false }, kinds := [], alts := [], laidByText := true, laidKinds := [.data], laidTests := true, laidLooks := .later }
def PlainRowsCardSaid : Prop := Claim7.holds Tryd.pinned (.plain (OpenSpec.ofChange plainRowsSpec)) plainRowsCard

/-- THE SECOND FORM's CARD OF 'shredderlaw11.PlainBack'. -/
def plainBackUptoCard : Claim7 := { stood := { row := plainBackUptoRow, standIns := [], harness := (true, "5f6c8bad231898570bc00666a7d26317add72fce1bf8eebb0a38a82fa2cccf37"), looks := false }, kinds := [], alts := [], laidByText := true, laidKinds := [.data], laidTests := true, laidLooks := .later }
def PlainBackUptoCardSaid : Prop := Claim7.holds Tryd.pinned (.plain (OpenSpec.upto plainBackSpec)) plainBackUptoCard

/-- THE SECOND FORM's CARD OF 'shredderlaw11.PlainReads'. -/
def plainReadsUptoCard : Claim7 := { stood := { row := plainReadsUptoRow, standIns := [], harness := (true, "5f6c8bad231898570bc00666a7d26317add72fce1bf8eebb0a38a82fa2cccf37"), looks := false }, kinds := [], alts := [], laidByText := true, laidKinds := [.data], laidTests := true, laidLooks := .later }
def PlainReadsUptoCardSaid : Prop := Claim7.holds Tryd.pinned (.plain (OpenSpec.upto plainReadsSpec)) plainReadsUptoCard

/-- THE SECOND FORM's CARD OF 'shredderlaw11.PlainSizes'. -/
def plainSizesUptoCard : Claim7 := { stood := { row := plainSizesUptoRow, standIns := [], harness := (true, "5f6c8bad231898570bc00666a7d26317add72fce1bf8eebb0a38a82fa2cccf37"), looks := false }, kinds := [], alts := [], laidByText := true, laidKinds := [.data], laidTests := true, laidLooks := .later }
def PlainSizesUptoCardSaid : Prop := Claim7.holds Tryd.pinned (.plain (OpenSpec.upto plainSizesSpec)) plainSizesUptoCard

/-- THE SECOND FORM's CARD OF 'shredderlaw11.PlainCuts'. -/
def plainCutsUptoCard : Claim7 := { stood := { row := plainCutsUptoRow, standIns := [], harness := (true, "5f6c8bad231898570bc00666a7d26317add72fce1bf8eebb0a38a82fa2cccf37"), looks := false }, kinds := [], alts := [], laidByText := true, laidKinds := [.data], laidTests := true, laidLooks := .later }
def PlainCutsUptoCardSaid : Prop := Claim7.holds Tryd.pinned (.plain (OpenSpec.upto plainCutsSpec)) plainCutsUptoCard

/-- THE SECOND FORM's CARD OF 'shredderlaw11.PlainLong'. -/
def plainLongUptoCard : Claim7 := { stood := { row := plainLongUptoRow, standIns := [], harness := (true, "5f6c8bad231898570bc00666a7d26317add72fce1bf8eebb0a38a82fa2cccf37"), looks := false }, kinds := [], alts := [], laidByText := true, laidKinds := [.data], laidTests := true, laidLooks := .later }
def PlainLongUptoCardSaid : Prop := Claim7.holds Tryd.pinned (.plain (OpenSpec.upto plainLongSpec)) plainLongUptoCard

/-- THE SECOND FORM's CARD OF 'shredderlaw11.PlainInts'. -/
def plainIntsUptoCard : Claim7 := { stood := { row := plainIntsUptoRow, standIns := [], harness := (true, "5f6c8bad231898570bc00666a7d26317add72fce1bf8eebb0a38a82fa2cccf37"), looks := false }, kinds := [], alts := [], laidByText := true, laidKinds := [.data], laidTests := true, laidLooks := .later }
def PlainIntsUptoCardSaid : Prop := Claim7.holds Tryd.pinned (.plain (OpenSpec.upto plainIntsSpec)) plainIntsUptoCard

/-- THE SECOND FORM's CARD OF 'shredderlaw11.PlainRows'. -/
def plainRowsUptoCard : Claim7 := { stood := { row := plainRowsUptoRow, standIns := [], harness := (true, "5f6c8bad231898570bc00666a7d26317add72fce1bf8eebb0a38a82fa2cccf37"), looks := false }, kinds := [], alts := [], laidByText := true, laidKinds := [.data], laidTests := true, laidLooks := .later }
def PlainRowsUptoCardSaid : Prop := Claim7.holds Tryd.pinned (.plain (OpenSpec.upto plainRowsSpec)) plainRowsUptoCard
end Rows
end Go.Proofs.YtndbgemdklnmlaaDoor
