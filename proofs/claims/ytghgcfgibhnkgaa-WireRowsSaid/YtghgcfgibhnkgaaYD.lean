/- Yl: texts of one group, one behind the other. -/
import Derived.Test.YtghgcfgibhnkgaaYA
namespace Go.Proofs.Ytghgcfgibhnkgaa
open Go.RowKit
set_option linter.unusedVariables false

mutual
/-- How many values there are. -/
def szT : Tr → Nat
  | .mk _ _ k => 1 + szK k
def szK : List (List Tr) → Nat
  | [] => 0
  | x :: r => szL x + szK r
def szL : List Tr → Nat
  | [] => 0
  | t :: r => szT t + szL r
end

theorem szT_eq (t : Tr) : szT t = 1 + szK t.k := by cases t with | mk n s k => rw [szT]; rfl

theorem szK_drop {k : List (List Tr)} {i : Nat} {x : List Tr} (h : k[i]? = some x) : szK (k.drop i) = szL x + szK (k.drop (i + 1)) := by
  have hl := (List.getElem?_eq_some_iff.1 h).1
  rw [List.getElem?_eq_getElem hl] at h
  injection h with h
  rw [List.drop_eq_getElem_cons hl, szK, h]

theorem szL_drop {x : List Tr} {i : Nat} {t : Tr} (h : x[i]? = some t) : szL (x.drop i) = szT t + szL (x.drop (i + 1)) := by
  have hl := (List.getElem?_eq_some_iff.1 h).1
  rw [List.getElem?_eq_getElem hl] at h
  injection h with h
  rw [List.drop_eq_getElem_cons hl, szL, h]

end Go.Proofs.Ytghgcfgibhnkgaa
