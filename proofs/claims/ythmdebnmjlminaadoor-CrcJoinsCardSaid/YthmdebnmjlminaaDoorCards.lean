/-
  DERIVED. GIVEN WITH THE SEED: THE CARDS: each row of YthmdebnmjlminaaDoorRows.lean that lists a variable, with what it lists TIED to the program's text (the seventh form; the later family's looks); each row that meets fmt, with fmt's text TOLD by the authors' own Lean function (tested against real Go, not proved from fmt's source: count such statements apart). THE CARD IS WHAT COUNTS. Prove the row's statement (the work); the ties are given (YthmdebnmjlminaaDoorTie.lean); close each card by the builder's one call (the guide's Derived/Test/ToyasCard.lean, 'card_holds'). Laid BY PROGRAM, IN A SANDBOX (cutbox-door.mjs). By AI agents, Wed Nov 11 2026. No macro, syntax, notation, axiom, sorry.
-/
import Derived.Test.YthmdebnmjlminaaDoorRows
import GoSem.ClaimSeven
namespace Go.Proofs.YthmdebnmjlminaaDoor
namespace Rows

/-- THE TIED CARD OF 'shredderlaw4.CrcSums'. -/
def crcSumsCard : Claim7 := { stood := { row := crcSumsRow, standIns := [], harness := (true, "2c5418f4ed6e1d59efc5686218cbde75ec0d34427bdaa41d34e2308b45d1ccae"), looks := false }, kinds := [], alts := [], laidByText := true, laidKinds := [.data], laidTests := true, laidLooks := .later }
def CrcSumsCardSaid : Prop := Claim7.holds Tryd.pinned (.plain (OpenSpec.ofChange crcSumsSpec)) crcSumsCard

/-- THE TIED CARD OF 'shredderlaw4.CrcTurned'. -/
def crcTurnedCard : Claim7 := { stood := { row := crcTurnedRow, standIns := [], harness := (true, "2c5418f4ed6e1d59efc5686218cbde75ec0d34427bdaa41d34e2308b45d1ccae"), looks := false }, kinds := [], alts := [], laidByText := true, laidKinds := [.data], laidTests := true, laidLooks := .later }
def CrcTurnedCardSaid : Prop := Claim7.holds Tryd.pinned (.plain (OpenSpec.ofChange crcTurnedSpec)) crcTurnedCard

/-- THE TIED CARD OF 'shredderlaw4.CrcBytes'. -/
def crcBytesCard : Claim7 := { stood := { row := crcBytesRow, standIns := [], harness := (true, "2c5418f4ed6e1d59efc5686218cbde75ec0d34427bdaa41d34e2308b45d1ccae"), looks := false }, kinds := [], alts := [], laidByText := true, laidKinds := [.data], laidTests := true, laidLooks := .later }
def CrcBytesCardSaid : Prop := Claim7.holds Tryd.pinned (.plain (OpenSpec.ofChange crcBytesSpec)) crcBytesCard

/-- THE TIED CARD OF 'shredderlaw4.CrcJoins'. -/
def crcJoinsCard : Claim7 := { stood := { row := crcJoinsRow, standIns := [], harness := (true, "2c5418f4ed6e1d59efc5686218cbde75ec0d34427bdaa41d34e2308b45d1ccae"), looks := false }, kinds := [], alts := [], laidByText := true, laidKinds := [.data], laidTests := true, laidLooks := .later }
def CrcJoinsCardSaid : Prop := Claim7.holds Tryd.pinned (.plain (OpenSpec.ofChange crcJoinsSpec)) crcJoinsCard

/-- THE TIED CARD OF 'shredderlaw4.CrcEnds'. -/
def crcEndsCard : Claim7 := { stood := { row := crcEndsRow, standIns := [], harness := (true, "2c5418f4ed6e1d59efc5686218cbde75ec0d34427bdaa41d34e2308b45d1ccae"), looks := false }, kinds := [], alts := [], laidByText := true, laidKinds := [.data], laidTests := true, laidLooks := .later }
def CrcEndsCardSaid : Prop := Claim7.holds Tryd.pinned (.plain (OpenSpec.ofChange crcEndsSpec)) crcEndsCard

/-- THE TIED CARD OF 'shredderlaw4.CrcPlaces'. -/
def crcPlacesCard : Claim7 := { stood := { row := crcPlacesRow, standIns := [], harness := (true, "2c5418f4ed6e1d59efc5686218cbde75ec0d34427bdaa41d34e2308b45d1ccae"), looks := false }, kinds := [], alts := [], laidByText := true, laidKinds := [.data], laidTests := true, laidLooks := .later }
def CrcPlacesCardSaid : Prop := Claim7.holds Tryd.pinned (.plain (OpenSpec.ofChange crcPlacesSpec)) crcPlacesCard

/-- THE TIED CARD OF 'shredderlaw4.CrcNone'. -/
def crcNoneCard : Claim7 := { stood := { row := crcNoneRow, standIns := [], harness := (true, "2c5418f4ed6e1d59efc5686218cbde75ec0d34427bdaa41d34e2308b45d1ccae"), looks := false }, kinds := [], alts := [], laidByText := true, laidKinds := [.data], laidTests := true, laidLooks := .later }
def CrcNoneCardSaid : Prop := Claim7.holds Tryd.pinned (.plain (OpenSpec.ofChange crcNoneSpec)) crcNoneCard

/-- THE SECOND FORM's CARD OF 'shredderlaw4.CrcSums'. -/
def crcSumsUptoCard : Claim7 := { stood := { row := crcSumsUptoRow, standIns := [], harness := (true, "2c5418f4ed6e1d59efc5686218cbde75ec0d34427bdaa41d34e2308b45d1ccae"), looks := false }, kinds := [], alts := [], laidByText := true, laidKinds := [.data], laidTests := true, laidLooks := .later }
def CrcSumsUptoCardSaid : Prop := Claim7.holds Tryd.pinned (.plain (OpenSpec.upto crcSumsSpec)) crcSumsUptoCard

/-- THE SECOND FORM's CARD OF 'shredderlaw4.CrcTurned'. -/
def crcTurnedUptoCard : Claim7 := { stood := { row := crcTurnedUptoRow, standIns := [], harness := (true, "2c5418f4ed6e1d59efc5686218cbde75ec0d34427bdaa41d34e2308b45d1ccae"), looks := false }, kinds := [], alts := [], laidByText := true, laidKinds := [.data], laidTests := true, laidLooks := .later }
def CrcTurnedUptoCardSaid : Prop := Claim7.holds Tryd.pinned (.plain (OpenSpec.upto crcTurnedSpec)) crcTurnedUptoCard

/-- THE SECOND FORM's CARD OF 'shredderlaw4.CrcBytes'. -/
def crcBytesUptoCard : Claim7 := { stood := { row := crcBytesUptoRow, standIns := [], harness := (true, "2c5418f4ed6e1d59efc5686218cbde75ec0d34427bdaa41d34e2308b45d1ccae"), looks := false }, kinds := [], alts := [], laidByText := true, laidKinds := [.data], laidTests := true, laidLooks := .later }
def CrcBytesUptoCardSaid : Prop := Claim7.holds Tryd.pinned (.plain (OpenSpec.upto crcBytesSpec)) crcBytesUptoCard

/-- THE SECOND FORM's CARD OF 'shredderlaw4.CrcJoins'. -/
def crcJoinsUptoCard : Claim7 := { stood := { row := crcJoinsUptoRow, standIns := [], harness := (true, "2c5418f4ed6e1d59efc5686218cbde75ec0d34427bdaa41d34e2308b45d1ccae"), looks := false }, kinds := [], alts := [], laidByText := true, laidKinds := [.data], laidTests := true, laidLooks := .later }
def CrcJoinsUptoCardSaid : Prop := Claim7.holds Tryd.pinned (.plain (OpenSpec.upto crcJoinsSpec)) crcJoinsUptoCard

/-- THE SECOND FORM's CARD OF 'shredderlaw4.CrcEnds'. -/
def crcEndsUptoCard : Claim7 := { stood := { row := crcEndsUptoRow, standIns := [], harness := (true, "2c5418f4ed6e1d59efc5686218cbde75ec0d34427bdaa41d34e2308b45d1ccae"), looks := false }, kinds := [], alts := [], laidByText := true, laidKinds := [.data], laidTests := true, laidLooks := .later }
def CrcEndsUptoCardSaid : Prop := Claim7.holds Tryd.pinned (.plain (OpenSpec.upto crcEndsSpec)) crcEndsUptoCard

/-- THE SECOND FORM's CARD OF 'shredderlaw4.CrcPlaces'. -/
def crcPlacesUptoCard : Claim7 := { stood := { row := crcPlacesUptoRow, standIns := [], harness := (true, "2c5418f4ed6e1d59efc5686218cbde75ec0d34427bdaa41d34e2308b45d1ccae"), looks := false }, kinds := [], alts := [], laidByText := true, laidKinds := [.data], laidTests := true, laidLooks := .later }
def CrcPlacesUptoCardSaid : Prop := Claim7.holds Tryd.pinned (.plain (OpenSpec.upto crcPlacesSpec)) crcPlacesUptoCard

/-- THE SECOND FORM's CARD OF 'shredderlaw4.CrcNone'. -/
def crcNoneUptoCard : Claim7 := { stood := { row := crcNoneUptoRow, standIns := [], harness := (true, "2c5418f4ed6e1d59efc5686218cbde75ec0d34427bdaa41d34e2308b45d1ccae"), looks := false }, kinds := [], alts := [], laidByText := true, laidKinds := [.data], laidTests := true, laidLooks := .later }
def CrcNoneUptoCardSaid : Prop := Claim7.holds Tryd.pinned (.plain (OpenSpec.upto crcNoneSpec)) crcNoneUptoCard
end Rows
end Go.Proofs.YthmdebnmjlminaaDoor
