/- The walk of the statement TextDeep. -/
import Derived.Test.YtpbclmcngafngaaK6
import Derived.Test.YtpbclmcngafngaaW6
namespace Go.Proofs.Ytpbclmcngafngaa
open Go.RowKit
set_option linter.unusedVariables false

def dA : ByteArray := { data := #[109, 101, 115, 115, 97, 103, 101, 32, 109, 32, 123, 32] }
def dG : ByteArray := { data := #[114, 101, 113, 117, 105, 114, 101, 100, 32, 103, 114, 111, 117, 112, 32, 103, 32, 123, 32] }
def dB : ByteArray := { data := #[111, 112, 116, 105, 111, 110, 97, 108, 32, 98, 111, 111, 108, 32, 98, 59, 32] }
def dC : ByteArray := { data := #[125, 32] }
def dE : ByteArray := { data := #[125] }
def dI : ByteArray := { data := #[114, 101, 113, 117, 105, 114, 101, 100, 32, 105, 110, 116, 54, 52, 32] }
def dS : ByteArray := { data := #[59, 32] }
def sD : Nat → ByteArray
  | 0 => dA
  | i + 1 => sD i ++ dG
def sE (n : Nat) : Nat → ByteArray
  | 0 => sD n ++ dB
  | j + 1 => sE n j ++ dC
def tD : Nat → ByteArray
  | 0 => dA
  | i + 1 => tD i ++ dI ++ str [97 + i % 26, 97 + i / 26] ++ dS
theorem sD_size (i : Nat) : (sD i).size = 12 + 19 * i := by
  induction i with
  | zero => rfl
  | succ i ih => rw [sD, ByteArray.size_append, ih]; show _ + 19 = _; omega
theorem sE_size (n j : Nat) : (sE n j).size = 29 + 19 * n + 2 * j := by
  induction j with
  | zero => rw [sE, ByteArray.size_append, sD_size]; show _ + 17 = _; omega
  | succ j ih => rw [sE, ByteArray.size_append, ih]; show _ + 2 = _; omega
theorem tD_size (i : Nat) : (tD i).size = 12 + 19 * i := by
  induction i with
  | zero => rfl
  | succ i ih => rw [tD, ByteArray.size_append, ByteArray.size_append, ByteArray.size_append, ih]; show _ + 15 + 2 + 2 = _; omega

def dOk (n : Nat) : Bool := if n + 1 ≤ 8 then decide ((parseL (bl (sE n n ++ dE))).1 = 0) && decide ((parseL (bl (sE n n ++ dE))).2.length = n + 2) else decide ((parseL (bl (sE n n ++ dE))).1 = 11)
def tOk (m : Nat) : Bool := if m + 1 ≤ 40 then decide ((parseL (bl (tD m ++ dE))).1 = 0) && decide ((parseL (bl (tD m ++ dE))).2.length = m + 1) else decide ((parseL (bl (tD m ++ dE))).1 = 4)
set_option maxRecDepth 100000 in
theorem d_ok : ∀ n, n < 6 → dOk (5 + n) = true := by decide +kernel
set_option maxRecDepth 100000 in
theorem t_ok : ∀ m, m < 7 → tOk (36 + m) = true := by decide +kernel

end Go.Proofs.Ytpbclmcngafngaa
