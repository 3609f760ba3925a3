/- Closed texts: what Parse answers of them, by the kernel; contract of the statements' known. -/
import Derived.Test.YtofnpcfclcfgfaaTz
namespace Go.Proofs.Ytofnpcfclcfgfaa
open Go.RowKit
set_option linter.unusedVariables false

def knT : ByteArray := { data := #[109, 101, 115, 115, 97, 103, 101, 32, 109, 32, 123, 32, 114, 101, 113, 117, 105, 114, 101, 100, 32, 98, 111, 111, 108, 32, 97, 59, 32, 125] }
def badL : List ByteArray := [{ data := #[] }, { data := #[109, 101, 115, 115, 97, 103, 101] }, { data := #[109, 101, 115, 115, 97, 103, 101, 32, 109] }, { data := #[109, 101, 115, 115, 97, 103, 101, 32, 109, 32, 123] }, { data := #[109, 101, 115, 115, 97, 103, 101, 32, 109, 32, 123, 32, 125] }, { data := #[109, 101, 115, 115, 97, 103, 101, 32, 109, 32, 123, 32, 114, 101, 113, 117, 105, 114, 101, 100, 32, 98, 111, 111, 108, 32, 97, 32, 125] }, { data := #[109, 101, 115, 115, 97, 103, 101, 32, 109, 32, 123, 32, 114, 101, 113, 117, 105, 114, 101, 100, 32, 98, 111, 111, 108, 59, 32, 125] }, { data := #[109, 101, 115, 115, 97, 103, 101, 32, 109, 32, 123, 32, 98, 111, 111, 108, 32, 97, 59, 32, 125] }, { data := #[109, 101, 115, 115, 97, 103, 101, 32, 109, 32, 123, 32, 114, 101, 113, 117, 105, 114, 101, 100, 32, 103, 114, 111, 117, 112, 32, 103, 32, 123, 32, 125, 32, 125] }, { data := #[109, 101, 115, 115, 97, 103, 101, 32, 109, 32, 123, 32, 114, 101, 113, 117, 105, 114, 101, 100, 32, 98, 111, 111, 108, 32, 97, 59, 32, 125, 32, 59] }, { data := #[109, 101, 115, 115, 97, 103, 101, 32, 109, 32, 123, 32, 114, 101, 113, 117, 105, 114, 101, 100, 32, 98, 111, 111, 108, 32, 97, 59, 59, 32, 125] }, { data := #[109, 101, 115, 115, 97, 103, 101, 32, 109, 32, 123, 32, 114, 101, 113, 117, 105, 114, 101, 100, 32, 116, 101, 120, 116, 32, 97, 59, 32, 125] }, { data := #[77, 101, 115, 115, 97, 103, 101, 32, 109, 32, 123, 32, 114, 101, 113, 117, 105, 114, 101, 100, 32, 98, 111, 111, 108, 32, 97, 59, 32, 125] }, { data := #[109, 101, 115, 115, 97, 103, 101, 32, 109, 32, 123, 32, 114, 101, 113, 117, 105, 114, 101, 100, 32, 98, 111, 111, 108, 32, 65, 59, 32, 125] }, { data := #[109, 101, 115, 115, 97, 103, 101, 32, 109, 32, 123, 32, 114, 101, 113, 117, 105, 114, 101, 100, 32, 98, 111, 111, 108, 32, 97, 59, 32, 111, 112, 116, 105, 111, 110, 97, 108, 32, 98, 111, 111, 108, 32, 97, 59, 32, 125] }, { data := #[109, 101, 115, 115, 97, 103, 101, 32, 49, 109, 32, 123, 32, 114, 101, 113, 117, 105, 114, 101, 100, 32, 98, 111, 111, 108, 32, 97, 59, 32, 125] }, { data := #[109, 101, 115, 115, 97, 103, 101, 32, 97, 98, 99, 100, 101, 102, 103, 104, 105, 106, 107, 108, 109, 32, 123, 32, 114, 101, 113, 117, 105, 114, 101, 100, 32, 98, 111, 111, 108, 32, 97, 59, 32, 125] }, { data := #[109, 101, 115, 115, 97, 103, 101, 32, 109, 32, 123, 32, 114, 101, 113, 117, 105, 114, 101, 100, 32, 98, 111, 111, 108, 32, 97, 59, 32, 125, 32, 125] }]
def wdL : List ByteArray := [{ data := #[109, 101, 115, 115, 97, 103, 101] }, { data := #[103, 114, 111, 117, 112] }, { data := #[114, 101, 113, 117, 105, 114, 101, 100] }, { data := #[111, 112, 116, 105, 111, 110, 97, 108] }, { data := #[114, 101, 112, 101, 97, 116, 101, 100] }, { data := #[98, 111, 111, 108] }, { data := #[105, 110, 116, 51, 50] }, { data := #[105, 110, 116, 54, 52] }, { data := #[98, 121, 116, 101, 115] }]
def wA : ByteArray := { data := #[109, 101, 115, 115, 97, 103, 101, 32] }
def wB : ByteArray := { data := #[32, 123, 32, 114, 101, 112, 101, 97, 116, 101, 100, 32, 103, 114, 111, 117, 112, 32] }
def wC : ByteArray := { data := #[32, 123, 32, 111, 112, 116, 105, 111, 110, 97, 108, 32, 105, 110, 116, 51, 50, 32] }
def wD : ByteArray := { data := #[59, 32, 125, 32, 125] }
def wdT (x : ByteArray) : ByteArray := wA ++ x ++ wB ++ x ++ wC ++ x ++ wD
def knS : List F := [⟨{ data := #[109] }, 0, 0, 1⟩, ⟨{ data := #[97] }, 0, 1, 0⟩]

set_option maxRecDepth 100000 in
theorem kn_parse : parseL (bl knT) = (0, knS) := by decide +kernel
set_option maxRecDepth 100000 in
theorem bad_parse : ∀ k, k < 18 → parseL (bl (badL.getD k ByteArray.empty)) = (if k = 14 then 7 else 6, []) := by decide +kernel
set_option maxRecDepth 100000 in
theorem wd_parse : ∀ k, k < 9 → parseL (bl (wdT (wdL.getD k ByteArray.empty))) = (0, [⟨wdL.getD k ByteArray.empty, 0, 0, 1⟩, ⟨wdL.getD k ByteArray.empty, 2, 0, 1⟩, ⟨wdL.getD k ByteArray.empty, 1, 2, 0⟩]) := by decide +kernel
theorem wd_size : ∀ k, k < 9 → (wdL.getD k ByteArray.empty).size ≤ 10 := by decide +kernel

set_option maxHeartbeats 1000000 in
theorem known6_any (w : World) : Calls Try.prog 16 #[] w fun e w' => e = .returned (.bool true) ∧ Chg [] w w' := by
  have HP := Lib.hid (parse_any knT w (by decide))
  rw [kn_parse] at HP
  unfold knT at HP
  go_enter Try.func16, Try.ntmps16
  go_wp2_with fail
  (with_reducible refine HP.out.mono ?_)
  rintro e w1 ⟨hk, hout⟩
  have HK := Lib.hid hk
  clear hk
  rcases hout with ⟨-, v, rfl, hown⟩ | ⟨h0, -⟩
  · obtain ⟨a, c, rfl⟩ := own_shape hown
    obtain ⟨g, rfl, -, -, -, hcl⟩ := own_ptr hown (by decide)
    have c6 := hcl 6 (.int .i64 1) rfl
    clear hcl hown
    go_wp2
    go_ret
    exact ⟨rfl, HK.out⟩
  · exact absurd rfl h0

end Go.Proofs.Ytofnpcfclcfgfaa
