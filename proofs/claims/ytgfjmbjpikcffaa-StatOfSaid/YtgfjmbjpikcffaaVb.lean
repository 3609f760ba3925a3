/- Moved together from several texts. -/
import Derived.Test.YtgfjmbjpikcffaaSo
namespace Go.Proofs.Ytgfjmbjpikcffaa
open Go.RowKit
set_option linter.unusedVariables false
set_option linter.unusedSimpArgs false

/-- A leaf's value. -/
structure V where
  n : Int
  s : ByteArray
deriving DecidableEq, Inhabited

def V.cs (v : V) : List Value := [.int .i64 v.n, .string v.s]

theorem V.cs_len (v : V) : (V.cs v).length = 2 := rfl

abbrev SeenV := SeenK V.cs 2

/-- The empty text. -/
abbrev e0 : ByteArray := { data := #[] }

end Go.Proofs.Ytgfjmbjpikcffaa
