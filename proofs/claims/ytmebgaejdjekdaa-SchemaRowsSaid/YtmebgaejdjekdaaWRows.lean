/- The walk of the statement SchemaRows. -/
import Derived.Test.YtmebgaejdjekdaaDp
import Derived.Test.YtmebgaejdjekdaaMo
namespace Go.Proofs.Ytmebgaejdjekdaa
open Go.RowKit
set_option linter.unusedVariables false

abbrev bb : ByteArray := { data := #[98] }

def nm (m : Nat) : ByteArray := str [102, 97 + m % 26, 97 + m / 26]
theorem nm_size (m : Nat) : (nm m).size = 3 := rfl
def rowsG (k : Nat) : List F := ⟨bm, 0, 0, 2⟩ :: (List.range k).map fun j => ⟨nm (j + 1), 0, 2, 0⟩
def rowsT (k : Nat) : List F := ⟨bm, 0, 0, (k : Int)⟩ :: (List.range k).map fun j => ⟨nm (j + 1), 0, 2, 0⟩
theorem chk_rows0 : chk (rowsT 39) = 0 := by decide +kernel
theorem chk_rows1 : chk (rowsT 40) = 4 := by decide +kernel
theorem rowsT_set (k : Nat) : ((rowsG k).flatMap F.cs).set 3 (.int .i64 (k : Int)) = (rowsT k).flatMap F.cs := rfl
theorem rowsT_c (k : Nat) (h : k ≤ 100) : ∀ f ∈ rowsT k, f.c ≤ 9223372036854775807 := by
  intro f hf
  simp [rowsT] at hf
  rcases hf with rfl | ⟨i, _, rfl⟩
  · simp only; omega
  · simp
theorem rowsT_n (k : Nat) : ∀ f ∈ rowsT k, f.n.size ≤ 1000000 := by
  intro f hf
  simp [rowsT] at hf
  rcases hf with rfl | ⟨i, _, rfl⟩
  · show bm.size ≤ _; decide
  · show (nm (i + 1)).size ≤ _; rw [nm_size]; decide
@[simp] theorem rowsT_length (k : Nat) : (rowsT k).length = k + 1 := by simp [rowsT]
def sllen : Value → Nat | .slice _ n _ => n | _ => 0

theorem rowsG_succ (k : Nat) : rowsG (k + 1) = rowsG k ++ [⟨nm (k + 1), 0, 2, 0⟩] := by simp [rowsG, List.range_succ]
theorem rowsG_c (k : Nat) : ∀ f ∈ rowsG k, f.c ≤ 9223372036854775807 := by
  intro f hf
  simp [rowsG] at hf
  rcases hf with rfl | ⟨i, _, rfl⟩ <;> simp

theorem two_seen (w : World) (T : TypeId) (a b : Nat) (x0 x1 : Int) (h0 : x0 = (a : Int)) (h1 : x1 = (b : Int)) :
    Seen (w.alloc (.cells #[.int .u8 x0, .int .u8 x1] T)) (.slice (some ⟨w.heap.size, 0, none⟩) 2 2) (nv .u8 [a, b]) :=
  .inr ⟨⟨w.heap.size, 0, none⟩, 2, rfl, Nat.le_refl _, by decide, fun j u hu => by
    rw [addr_add, World.cell?_alloc_mark, Nat.zero_add, ← hu]
    simp [nv, h0, h1]⟩

theorem nm_add (a b : Nat) : ({ data := #[102] } : ByteArray) ++ str [a, b] = str [102, a, b] := by
  show _ = (⟨#[102, UInt8.ofNat a, UInt8.ofNat b]⟩ : ByteArray)
  rfl

theorem nine (k : Int) (h0 : 0 ≤ k) (h9 : k < 9) : k = 0 ∨ k = 1 ∨ k = 2 ∨ k = 3 ∨ k = 4 ∨ k = 5 ∨ k = 6 ∨ k = 7 ∨ k = 8 := by omega

set_option maxRecDepth 100000 in
set_option maxHeartbeats 4000000 in
theorem walk_SchemaRows (a0 : Int) (a1 : Bool) (w : World) (w0 : (Lit.int .i64 a0).wf = true) :
    Calls Try.prog 6 #[.int .i64 a0, .bool a1] w fun e w' => e = .returned (.bool true) ∧ Below w.heap.size w w' := by
  have hb := wf_i64 w0
  obtain ⟨i0, hi, hz0, hz1, hz2⟩ := info_field
  cases a1
  · go_enter Try.func6, Try.ntmps6
    go_wp2_with fail
    (with_reducible refine (known_any _).mono ?_)
    rintro e w1 ⟨rfl, hk⟩
    have HK := Lib.hid hk
    clear hk
    go_wp2_with fail
    (with_reducible refine (within_any a0 9 _ (by decide) (by decide) hb.1 hb.2).mono ?_)
    rintro e w2 ⟨rfl, rfl⟩
    have h0 := Int.emod_nonneg a0 (show (9 : Int) ≠ 0 by decide)
    have h9 := Int.emod_lt_of_pos a0 (show (0 : Int) < 9 by decide)
    obtain ⟨k, hk⟩ : ∃ k, k = a0 % 9 := ⟨_, rfl⟩
    rw [← hk] at h0 h9 ⊢
    clear hk hb w0
    rcases nine k h0 h9 with rfl | rfl | rfl | rfl | rfl | rfl | rfl | rfl | rfl
    · clear h0 h9
      have HCK := Lib.hid (show chk [⟨bm, 0, 0, 2⟩, ⟨(ByteArray.extract { data := #[97, 98, 99, 100, 101, 102, 103, 104, 105, 106, 107, 108, 109] } 0 12), 0, 1, 0⟩, ⟨bb, 0, 4, 0⟩] = 0 by decide +kernel)
      have HC := Lib.hid (HK.out.alloc (.cells #[.string bm, .int .i64 0, .int .i64 0, .int .i64 2, .string (ByteArray.extract { data := #[97, 98, 99, 100, 101, 102, 103, 104, 105, 106, 107, 108, 109] } 0 12), .int .i64 0, .int .i64 1, .int .i64 0, .string bb, .int .i64 0, .int .i64 4, .int .i64 0] 33))
      have HS := Lib.hid (SeenF.lit w1 w1.heap.size rfl 33 #[.string bm, .int .i64 0, .int .i64 0, .int .i64 2, .string (ByteArray.extract { data := #[97, 98, 99, 100, 101, 102, 103, 104, 105, 106, 107, 108, 109] } 0 12), .int .i64 0, .int .i64 1, .int .i64 0, .string bb, .int .i64 0, .int .i64 4, .int .i64 0] [⟨bm, 0, 0, 2⟩, ⟨(ByteArray.extract { data := #[97, 98, 99, 100, 101, 102, 103, 104, 105, 106, 107, 108, 109] } 0 12), 0, 1, 0⟩, ⟨bb, 0, 4, 0⟩] 3 rfl rfl (by decide))
      have HFC := Lib.hid (show ∀ f ∈ ([⟨bm, 0, 0, 2⟩, ⟨(ByteArray.extract { data := #[97, 98, 99, 100, 101, 102, 103, 104, 105, 106, 107, 108, 109] } 0 12), 0, 1, 0⟩, ⟨bb, 0, 4, 0⟩] : List F), f.c ≤ 9223372036854775807 by decide +kernel)
      have HFN := Lib.hid (show ∀ f ∈ ([⟨bm, 0, 0, 2⟩, ⟨(ByteArray.extract { data := #[97, 98, 99, 100, 101, 102, 103, 104, 105, 106, 107, 108, 109] } 0 12), 0, 1, 0⟩, ⟨bb, 0, 4, 0⟩] : List F), f.n.size ≤ 1000000 by decide +kernel)
      go_wp2_with fail
      (with_reducible refine (check_any _ _ _ HS.out HFC.out HFN.out).mono ?_)
      rintro e w2 ⟨rfl, hk⟩
      rw [HCK.out]
      have HC2 := Lib.hid (HC.out.trans hk (by simp))
      clear hk
      go_wp2
      go_ret
      exact ⟨rfl, HC2.out.below (Nat.le_refl _) (by simp)⟩
    · clear h0 h9
      have HCK := Lib.hid (show chk [⟨bm, 0, 0, 2⟩, ⟨ba, 0, 1, 0⟩, ⟨(ByteArray.extract { data := #[97, 98] } 1 2), 0, 4, 0⟩] = 0 by decide +kernel)
      have HC := Lib.hid (HK.out.alloc (.cells #[.string bm, .int .i64 0, .int .i64 0, .int .i64 2, .string ba, .int .i64 0, .int .i64 1, .int .i64 0, .string (ByteArray.extract { data := #[97, 98] } 1 2), .int .i64 0, .int .i64 4, .int .i64 0] 33))
      have HS := Lib.hid (SeenF.lit w1 w1.heap.size rfl 33 #[.string bm, .int .i64 0, .int .i64 0, .int .i64 2, .string ba, .int .i64 0, .int .i64 1, .int .i64 0, .string (ByteArray.extract { data := #[97, 98] } 1 2), .int .i64 0, .int .i64 4, .int .i64 0] [⟨bm, 0, 0, 2⟩, ⟨ba, 0, 1, 0⟩, ⟨(ByteArray.extract { data := #[97, 98] } 1 2), 0, 4, 0⟩] 3 rfl rfl (by decide))
      have HFC := Lib.hid (show ∀ f ∈ ([⟨bm, 0, 0, 2⟩, ⟨ba, 0, 1, 0⟩, ⟨(ByteArray.extract { data := #[97, 98] } 1 2), 0, 4, 0⟩] : List F), f.c ≤ 9223372036854775807 by decide +kernel)
      have HFN := Lib.hid (show ∀ f ∈ ([⟨bm, 0, 0, 2⟩, ⟨ba, 0, 1, 0⟩, ⟨(ByteArray.extract { data := #[97, 98] } 1 2), 0, 4, 0⟩] : List F), f.n.size ≤ 1000000 by decide +kernel)
      go_wp2_with fail
      (with_reducible refine (check_any _ _ _ HS.out HFC.out HFN.out).mono ?_)
      rintro e w2 ⟨rfl, hk⟩
      rw [HCK.out]
      have HC2 := Lib.hid (HC.out.trans hk (by simp))
      clear hk
      go_wp2
      go_ret
      exact ⟨rfl, HC2.out.below (Nat.le_refl _) (by simp)⟩
    · clear h0 h9
      have HCK := Lib.hid (show chk [⟨bm, 0, 0, 2⟩, ⟨ba, 2, 1, 0⟩, ⟨bb, 0, 4, 0⟩] = 0 by decide +kernel)
      have HC := Lib.hid (HK.out.alloc (.cells #[.string bm, .int .i64 0, .int .i64 0, .int .i64 2, .string ba, .int .i64 2, .int .i64 1, .int .i64 0, .string bb, .int .i64 0, .int .i64 4, .int .i64 0] 33))
      have HS := Lib.hid (SeenF.lit w1 w1.heap.size rfl 33 #[.string bm, .int .i64 0, .int .i64 0, .int .i64 2, .string ba, .int .i64 2, .int .i64 1, .int .i64 0, .string bb, .int .i64 0, .int .i64 4, .int .i64 0] [⟨bm, 0, 0, 2⟩, ⟨ba, 2, 1, 0⟩, ⟨bb, 0, 4, 0⟩] 3 rfl rfl (by decide))
      have HFC := Lib.hid (show ∀ f ∈ ([⟨bm, 0, 0, 2⟩, ⟨ba, 2, 1, 0⟩, ⟨bb, 0, 4, 0⟩] : List F), f.c ≤ 9223372036854775807 by decide +kernel)
      have HFN := Lib.hid (show ∀ f ∈ ([⟨bm, 0, 0, 2⟩, ⟨ba, 2, 1, 0⟩, ⟨bb, 0, 4, 0⟩] : List F), f.n.size ≤ 1000000 by decide +kernel)
      go_wp2_with fail
      (with_reducible refine (check_any _ _ _ HS.out HFC.out HFN.out).mono ?_)
      rintro e w2 ⟨rfl, hk⟩
      rw [HCK.out]
      have HC2 := Lib.hid (HC.out.trans hk (by simp))
      clear hk
      go_wp2
      go_ret
      exact ⟨rfl, HC2.out.below (Nat.le_refl _) (by simp)⟩
    · clear h0 h9
      have HCK := Lib.hid (show chk [⟨bm, 0, 0, 2⟩, ⟨ba, 0, 1, 0⟩, ⟨bb, 0, 4, 0⟩] = 0 by decide +kernel)
      have HC := Lib.hid (HK.out.alloc (.cells #[.string bm, .int .i64 0, .int .i64 0, .int .i64 2, .string ba, .int .i64 0, .int .i64 1, .int .i64 0, .string bb, .int .i64 0, .int .i64 4, .int .i64 0] 33))
      have HS := Lib.hid (SeenF.lit w1 w1.heap.size rfl 33 #[.string bm, .int .i64 0, .int .i64 0, .int .i64 2, .string ba, .int .i64 0, .int .i64 1, .int .i64 0, .string bb, .int .i64 0, .int .i64 4, .int .i64 0] [⟨bm, 0, 0, 2⟩, ⟨ba, 0, 1, 0⟩, ⟨bb, 0, 4, 0⟩] 3 rfl rfl (by decide))
      have HFC := Lib.hid (show ∀ f ∈ ([⟨bm, 0, 0, 2⟩, ⟨ba, 0, 1, 0⟩, ⟨bb, 0, 4, 0⟩] : List F), f.c ≤ 9223372036854775807 by decide +kernel)
      have HFN := Lib.hid (show ∀ f ∈ ([⟨bm, 0, 0, 2⟩, ⟨ba, 0, 1, 0⟩, ⟨bb, 0, 4, 0⟩] : List F), f.n.size ≤ 1000000 by decide +kernel)
      go_wp2_with fail
      (with_reducible refine (check_any _ _ _ HS.out HFC.out HFN.out).mono ?_)
      rintro e w2 ⟨rfl, hk⟩
      rw [HCK.out]
      have HC2 := Lib.hid (HC.out.trans hk (by simp))
      clear hk
      go_wp2
      go_ret
      exact ⟨rfl, HC2.out.below (Nat.le_refl _) (by simp)⟩
    · clear h0 h9
      have HCK := Lib.hid (show chk [⟨bm, 0, 0, 2⟩, ⟨ba, 0, 1, 0⟩, ⟨bb, 0, 4, 0⟩] = 0 by decide +kernel)
      have HC := Lib.hid (HK.out.alloc (.cells #[.string bm, .int .i64 0, .int .i64 0, .int .i64 2, .string ba, .int .i64 0, .int .i64 1, .int .i64 0, .string bb, .int .i64 0, .int .i64 4, .int .i64 0] 33))
      have HS := Lib.hid (SeenF.lit w1 w1.heap.size rfl 33 #[.string bm, .int .i64 0, .int .i64 0, .int .i64 2, .string ba, .int .i64 0, .int .i64 1, .int .i64 0, .string bb, .int .i64 0, .int .i64 4, .int .i64 0] [⟨bm, 0, 0, 2⟩, ⟨ba, 0, 1, 0⟩, ⟨bb, 0, 4, 0⟩] 3 rfl rfl (by decide))
      have HFC := Lib.hid (show ∀ f ∈ ([⟨bm, 0, 0, 2⟩, ⟨ba, 0, 1, 0⟩, ⟨bb, 0, 4, 0⟩] : List F), f.c ≤ 9223372036854775807 by decide +kernel)
      have HFN := Lib.hid (show ∀ f ∈ ([⟨bm, 0, 0, 2⟩, ⟨ba, 0, 1, 0⟩, ⟨bb, 0, 4, 0⟩] : List F), f.n.size ≤ 1000000 by decide +kernel)
      go_wp2_with fail
      (with_reducible refine (check_any _ _ _ HS.out HFC.out HFN.out).mono ?_)
      rintro e w2 ⟨rfl, hk⟩
      rw [HCK.out]
      have HC2 := Lib.hid (HC.out.trans hk (by simp))
      clear hk
      go_wp2
      go_ret
      exact ⟨rfl, HC2.out.below (Nat.le_refl _) (by simp)⟩
    · clear h0 h9
      have HCK := Lib.hid (show chk [⟨bm, 0, 0, 2⟩, ⟨ba, 0, 1, 0⟩, ⟨bb, 0, 4, 0⟩] = 0 by decide +kernel)
      have HC := Lib.hid (HK.out.alloc (.cells #[.string bm, .int .i64 0, .int .i64 0, .int .i64 2, .string ba, .int .i64 0, .int .i64 1, .int .i64 0, .string bb, .int .i64 0, .int .i64 4, .int .i64 0] 33))
      have HS := Lib.hid (SeenF.lit w1 w1.heap.size rfl 33 #[.string bm, .int .i64 0, .int .i64 0, .int .i64 2, .string ba, .int .i64 0, .int .i64 1, .int .i64 0, .string bb, .int .i64 0, .int .i64 4, .int .i64 0] [⟨bm, 0, 0, 2⟩, ⟨ba, 0, 1, 0⟩, ⟨bb, 0, 4, 0⟩] 3 rfl rfl (by decide))
      have HFC := Lib.hid (show ∀ f ∈ ([⟨bm, 0, 0, 2⟩, ⟨ba, 0, 1, 0⟩, ⟨bb, 0, 4, 0⟩] : List F), f.c ≤ 9223372036854775807 by decide +kernel)
      have HFN := Lib.hid (show ∀ f ∈ ([⟨bm, 0, 0, 2⟩, ⟨ba, 0, 1, 0⟩, ⟨bb, 0, 4, 0⟩] : List F), f.n.size ≤ 1000000 by decide +kernel)
      go_wp2_with fail
      (with_reducible refine (check_any _ _ _ HS.out HFC.out HFN.out).mono ?_)
      rintro e w2 ⟨rfl, hk⟩
      rw [HCK.out]
      have HC2 := Lib.hid (HC.out.trans hk (by simp))
      clear hk
      go_wp2
      go_ret
      exact ⟨rfl, HC2.out.below (Nat.le_refl _) (by simp)⟩
    · clear h0 h9
      have HCK := Lib.hid (show chk [⟨bm, 0, 0, 2⟩, ⟨ba, 0, 1, 0⟩, ⟨bb, 0, 4, 0⟩] = 0 by decide +kernel)
      have HC := Lib.hid (HK.out.alloc (.cells #[.string bm, .int .i64 0, .int .i64 0, .int .i64 2, .string ba, .int .i64 0, .int .i64 1, .int .i64 0, .string bb, .int .i64 0, .int .i64 4, .int .i64 0] 33))
      have HS := Lib.hid (SeenF.lit w1 w1.heap.size rfl 33 #[.string bm, .int .i64 0, .int .i64 0, .int .i64 2, .string ba, .int .i64 0, .int .i64 1, .int .i64 0, .string bb, .int .i64 0, .int .i64 4, .int .i64 0] [⟨bm, 0, 0, 2⟩, ⟨ba, 0, 1, 0⟩, ⟨bb, 0, 4, 0⟩] 3 rfl rfl (by decide))
      have HFC := Lib.hid (show ∀ f ∈ ([⟨bm, 0, 0, 2⟩, ⟨ba, 0, 1, 0⟩, ⟨bb, 0, 4, 0⟩] : List F), f.c ≤ 9223372036854775807 by decide +kernel)
      have HFN := Lib.hid (show ∀ f ∈ ([⟨bm, 0, 0, 2⟩, ⟨ba, 0, 1, 0⟩, ⟨bb, 0, 4, 0⟩] : List F), f.n.size ≤ 1000000 by decide +kernel)
      go_wp2_with fail
      (with_reducible refine (check_any _ _ _ HS.out HFC.out HFN.out).mono ?_)
      rintro e w2 ⟨rfl, hk⟩
      rw [HCK.out]
      have HC2 := Lib.hid (HC.out.trans hk (by simp))
      clear hk
      go_wp2
      go_ret
      exact ⟨rfl, HC2.out.below (Nat.le_refl _) (by simp)⟩
    · clear h0 h9
      have HCK := Lib.hid (show chk [⟨bm, 0, 0, 2⟩, ⟨ba, 0, 1, 0⟩, ⟨bb, 0, 4, 0⟩] = 0 by decide +kernel)
      have HC := Lib.hid (HK.out.alloc (.cells #[.string bm, .int .i64 0, .int .i64 0, .int .i64 2, .string ba, .int .i64 0, .int .i64 1, .int .i64 0, .string bb, .int .i64 0, .int .i64 4, .int .i64 0] 33))
      have HS := Lib.hid (SeenF.lit w1 w1.heap.size rfl 33 #[.string bm, .int .i64 0, .int .i64 0, .int .i64 2, .string ba, .int .i64 0, .int .i64 1, .int .i64 0, .string bb, .int .i64 0, .int .i64 4, .int .i64 0] [⟨bm, 0, 0, 2⟩, ⟨ba, 0, 1, 0⟩, ⟨bb, 0, 4, 0⟩] 3 rfl rfl (by decide))
      have HFC := Lib.hid (show ∀ f ∈ ([⟨bm, 0, 0, 2⟩, ⟨ba, 0, 1, 0⟩, ⟨bb, 0, 4, 0⟩] : List F), f.c ≤ 9223372036854775807 by decide +kernel)
      have HFN := Lib.hid (show ∀ f ∈ ([⟨bm, 0, 0, 2⟩, ⟨ba, 0, 1, 0⟩, ⟨bb, 0, 4, 0⟩] : List F), f.n.size ≤ 1000000 by decide +kernel)
      go_wp2_with fail
      (with_reducible refine (check_any _ _ _ HS.out HFC.out HFN.out).mono ?_)
      rintro e w2 ⟨rfl, hk⟩
      rw [HCK.out]
      have HC2 := Lib.hid (HC.out.trans hk (by simp))
      clear hk
      go_wp2
      go_ret
      exact ⟨rfl, HC2.out.below (Nat.le_refl _) (by simp)⟩
    · clear h0 h9
      have HOL := Lib.hid (show (w1.alloc (.cells #[.string bm, .int .i64 0, .int .i64 0, .int .i64 2, .string ba, .int .i64 0, .int .i64 1, .int .i64 0, .string bb, .int .i64 0, .int .i64 4, .int .i64 0] 33)).ownsRow w1.heap.size 33 4 (.slice (some ⟨w1.heap.size, 0, none⟩) 1 3) 1 ((rowsG 0).flatMap F.cs) from
        ⟨rfl, .inr ⟨w1.heap.size, 3, _, rfl, Nat.le_refl _, heap_alloc_new w1 _, by decide, by decide, rfl, rfl⟩⟩)
      go_wp2
      go_loopw [6] (fun sv w' => ∃ k : Nat, k + 1 ≤ 40 ∧ Chg [] w1 w' ∧ w'.ownsRow w1.heap.size 33 4 sv (k + 1) ((rowsG k).flatMap F.cs)) (fun sv _ => 40 - sllen sv)
      case atStart => exact ⟨0, by decide, (Chg.refl [] w1).alloc _, HOL.out⟩
      case round =>
        obtain ⟨k, hk, hc, ho⟩ := hrel
        obtain ⟨ao5, cap5, rfl⟩ := own_shape ho
        have HC := Lib.hid hc; have HO := Lib.hid ho
        clear hc ho
        by_cases hlt : k + 1 < 40
        · have hsz : w1.heap.size ≤ wr.heap.size := HC.out.size
          have hm2 : k + 1 + 1 ≤ maxLen := by unfold maxLen; omega
          have hm3 : (k + 1 + 1) * 40 ≤ 140737488355328 := by omega
          have HM2 := Lib.hid hm2; have HM3 := Lib.hid hm3
          clear hm2 hm3
          obtain ⟨a, ha⟩ : ∃ a, a = 97 + (k + 1) % 26 := ⟨_, rfl⟩
          obtain ⟨b, hb⟩ : ∃ b, b = 97 + (k + 1) / 26 := ⟨_, rfl⟩
          have ha8 : a < 256 := by omega
          have hb8 : b < 256 := by omega
          have hsn := two_seen wr 5 a b (97 + ((k : Int) + 1) % 26) (97 + ((k : Int) + 1) / 26) (by omega) (by omega)
          obtain ⟨s2, hs2⟩ : ∃ s, s = str [a, b] := ⟨_, rfl⟩
          have hcv := cvp hsn rfl hs2 (by intro x hx; simp at hx; omega) _ (Lib.hid (Chg.refl [] _))
          have hs2z : ¬ (9223372036854775807 < 1 + s2.size) := by rw [hs2]; show ¬ (9223372036854775807 < 1 + 2); decide
          have HQ := Lib.hid (show ({ data := #[102] } : ByteArray) ++ s2 = nm (k + 1) by rw [hs2, nm_add, ha, hb]; rfl)
          clear hsn hs2 ha hb
          go_wp2_with (at_builtin; refine wpList_append_own _ rfl _ _ 23 rfl w1.heap.size 33 i0 (.agg #[.string ByteArray.empty, .int .i64 0, .int .i64 0, .int .i64 0]) 4 40 Try.underlying23 hi hz0 hz1 hz2 rfl (by decide) _ _ _ rfl ((HO.out.alloc _).alloc _) ⟨wr.heap.size + 1, 0, none⟩ 1 1 (F.cs ⟨{ data := #[102] } ++ s2, 0, 2, 0⟩) rfl rfl (new_cells (C := #[.string ({ data := #[102] } ++ s2), .int .i64 0, .int .i64 2, .int .i64 0]) (wr.heap.size + 1) (by simp)) (F.one _) HM2.out HM3.out (Nat.le_trans hsz (((Chg.refl [] wr).alloc _).alloc _).size) ?_)
          intro v3 w3 hown hgrow _
          have HCW := Lib.hid (((HC.out.alloc (.cells #[.int .u8 (97 + ((k : Int) + 1) % 26), .int .u8 (97 + ((k : Int) + 1) / 26)] 5)).alloc (.cells #[.string ({ data := #[102] } ++ s2), .int .i64 0, .int .i64 2, .int .i64 0] 33)).grown hgrow (fun q hq => .inr (own_ge HO.out q hq)))
          have HO3 := Lib.hid hown
          obtain ⟨ao3, cap3, rfl⟩ := own_shape hown
          clear hown hgrow
          go_wp2
          go_roundw
          case rel => exact ⟨k + 1, by omega, HCW.out, by rw [rowsG_succ, List.flatMap_append, ← HQ.out]; simpa using HO3.out⟩
          case measure => simp [sllen]; omega
        · have hk9 : k = 40 - 1 := by omega
          subst hk9
          obtain ⟨g, rfl, hgB, hgs, hgf, hgc⟩ := own_ptr HO.out (by decide)
          have hfr : wr.frozen? ⟨g, 3, none⟩ = false := hgf 3
          have hc3 : wr.cell? ⟨g, 3, none⟩ = some (.int .i64 2) := hgc 3 _ rfl
          have hset := own_set HO.out 3 (by decide) (.int .i64 ((40 - 1 : Nat) : Int))
          rw [rowsT_set] at hset
          have HS := Lib.hid (show SeenF (wr.setCell ⟨g, 3, none⟩ (.int .i64 39)) (.slice (some ⟨g, 0, none⟩) 40 cap5) (rowsT 39) from SeenF.own hset (by simp))
          have HCS := Lib.hid (show Chg [] w (wr.setCell ⟨g, 3, none⟩ (.int .i64 39)) from HK.out.trans (HC.out.setCell (p := ⟨g, 3, none⟩) (.inr hgB) _) (by simp))
          clear hgf hgc hset hlt hk
          go_wp2_with fail
          (with_reducible refine (check_any _ _ _ HS.out (rowsT_c _ (by decide)) (rowsT_n _)).mono ?_)
          rintro e w4 ⟨rfl, hk⟩
          rw [show chk (rowsT 39) = 0 from chk_rows0]
          have HC4 := Lib.hid (HCS.out.trans hk (by simp))
          clear hk
          go_wp2
          go_ret
          exact ⟨rfl, HC4.out.below (Nat.le_refl _) (by simp)⟩
  · go_enter Try.func6, Try.ntmps6
    go_wp2_with fail
    (with_reducible refine (known_any _).mono ?_)
    rintro e w1 ⟨rfl, hk⟩
    have HK := Lib.hid hk
    clear hk
    go_wp2_with fail
    (with_reducible refine (within_any a0 9 _ (by decide) (by decide) hb.1 hb.2).mono ?_)
    rintro e w2 ⟨rfl, rfl⟩
    have h0 := Int.emod_nonneg a0 (show (9 : Int) ≠ 0 by decide)
    have h9 := Int.emod_lt_of_pos a0 (show (0 : Int) < 9 by decide)
    obtain ⟨k, hk⟩ : ∃ k, k = a0 % 9 := ⟨_, rfl⟩
    rw [← hk] at h0 h9 ⊢
    clear hk hb w0
    rcases nine k h0 h9 with rfl | rfl | rfl | rfl | rfl | rfl | rfl | rfl | rfl
    · clear h0 h9
      have HCK := Lib.hid (show chk [⟨bm, 0, 0, 2⟩, ⟨(ByteArray.extract { data := #[97, 98, 99, 100, 101, 102, 103, 104, 105, 106, 107, 108, 109] } 0 13), 0, 1, 0⟩, ⟨bb, 0, 4, 0⟩] = 7 by decide +kernel)
      have HC := Lib.hid (HK.out.alloc (.cells #[.string bm, .int .i64 0, .int .i64 0, .int .i64 2, .string (ByteArray.extract { data := #[97, 98, 99, 100, 101, 102, 103, 104, 105, 106, 107, 108, 109] } 0 13), .int .i64 0, .int .i64 1, .int .i64 0, .string bb, .int .i64 0, .int .i64 4, .int .i64 0] 33))
      have HS := Lib.hid (SeenF.lit w1 w1.heap.size rfl 33 #[.string bm, .int .i64 0, .int .i64 0, .int .i64 2, .string (ByteArray.extract { data := #[97, 98, 99, 100, 101, 102, 103, 104, 105, 106, 107, 108, 109] } 0 13), .int .i64 0, .int .i64 1, .int .i64 0, .string bb, .int .i64 0, .int .i64 4, .int .i64 0] [⟨bm, 0, 0, 2⟩, ⟨(ByteArray.extract { data := #[97, 98, 99, 100, 101, 102, 103, 104, 105, 106, 107, 108, 109] } 0 13), 0, 1, 0⟩, ⟨bb, 0, 4, 0⟩] 3 rfl rfl (by decide))
      have HFC := Lib.hid (show ∀ f ∈ ([⟨bm, 0, 0, 2⟩, ⟨(ByteArray.extract { data := #[97, 98, 99, 100, 101, 102, 103, 104, 105, 106, 107, 108, 109] } 0 13), 0, 1, 0⟩, ⟨bb, 0, 4, 0⟩] : List F), f.c ≤ 9223372036854775807 by decide +kernel)
      have HFN := Lib.hid (show ∀ f ∈ ([⟨bm, 0, 0, 2⟩, ⟨(ByteArray.extract { data := #[97, 98, 99, 100, 101, 102, 103, 104, 105, 106, 107, 108, 109] } 0 13), 0, 1, 0⟩, ⟨bb, 0, 4, 0⟩] : List F), f.n.size ≤ 1000000 by decide +kernel)
      go_wp2_with fail
      (with_reducible refine (check_any _ _ _ HS.out HFC.out HFN.out).mono ?_)
      rintro e w2 ⟨rfl, hk⟩
      rw [HCK.out]
      have HC2 := Lib.hid (HC.out.trans hk (by simp))
      clear hk
      go_wp2
      go_ret
      exact ⟨rfl, HC2.out.below (Nat.le_refl _) (by simp)⟩
    · clear h0 h9
      have HCK := Lib.hid (show chk [⟨bm, 0, 0, 2⟩, ⟨ba, 0, 1, 0⟩, ⟨(ByteArray.extract { data := #[97, 98] } 0 1), 0, 4, 0⟩] = 7 by decide +kernel)
      have HC := Lib.hid (HK.out.alloc (.cells #[.string bm, .int .i64 0, .int .i64 0, .int .i64 2, .string ba, .int .i64 0, .int .i64 1, .int .i64 0, .string (ByteArray.extract { data := #[97, 98] } 0 1), .int .i64 0, .int .i64 4, .int .i64 0] 33))
      have HS := Lib.hid (SeenF.lit w1 w1.heap.size rfl 33 #[.string bm, .int .i64 0, .int .i64 0, .int .i64 2, .string ba, .int .i64 0, .int .i64 1, .int .i64 0, .string (ByteArray.extract { data := #[97, 98] } 0 1), .int .i64 0, .int .i64 4, .int .i64 0] [⟨bm, 0, 0, 2⟩, ⟨ba, 0, 1, 0⟩, ⟨(ByteArray.extract { data := #[97, 98] } 0 1), 0, 4, 0⟩] 3 rfl rfl (by decide))
      have HFC := Lib.hid (show ∀ f ∈ ([⟨bm, 0, 0, 2⟩, ⟨ba, 0, 1, 0⟩, ⟨(ByteArray.extract { data := #[97, 98] } 0 1), 0, 4, 0⟩] : List F), f.c ≤ 9223372036854775807 by decide +kernel)
      have HFN := Lib.hid (show ∀ f ∈ ([⟨bm, 0, 0, 2⟩, ⟨ba, 0, 1, 0⟩, ⟨(ByteArray.extract { data := #[97, 98] } 0 1), 0, 4, 0⟩] : List F), f.n.size ≤ 1000000 by decide +kernel)
      go_wp2_with fail
      (with_reducible refine (check_any _ _ _ HS.out HFC.out HFN.out).mono ?_)
      rintro e w2 ⟨rfl, hk⟩
      rw [HCK.out]
      have HC2 := Lib.hid (HC.out.trans hk (by simp))
      clear hk
      go_wp2
      go_ret
      exact ⟨rfl, HC2.out.below (Nat.le_refl _) (by simp)⟩
    · clear h0 h9
      have HCK := Lib.hid (show chk [⟨bm, 0, 0, 2⟩, ⟨ba, 3, 1, 0⟩, ⟨bb, 0, 4, 0⟩] = 3 by decide +kernel)
      have HC := Lib.hid (HK.out.alloc (.cells #[.string bm, .int .i64 0, .int .i64 0, .int .i64 2, .string ba, .int .i64 3, .int .i64 1, .int .i64 0, .string bb, .int .i64 0, .int .i64 4, .int .i64 0] 33))
      have HS := Lib.hid (SeenF.lit w1 w1.heap.size rfl 33 #[.string bm, .int .i64 0, .int .i64 0, .int .i64 2, .string ba, .int .i64 3, .int .i64 1, .int .i64 0, .string bb, .int .i64 0, .int .i64 4, .int .i64 0] [⟨bm, 0, 0, 2⟩, ⟨ba, 3, 1, 0⟩, ⟨bb, 0, 4, 0⟩] 3 rfl rfl (by decide))
      have HFC := Lib.hid (show ∀ f ∈ ([⟨bm, 0, 0, 2⟩, ⟨ba, 3, 1, 0⟩, ⟨bb, 0, 4, 0⟩] : List F), f.c ≤ 9223372036854775807 by decide +kernel)
      have HFN := Lib.hid (show ∀ f ∈ ([⟨bm, 0, 0, 2⟩, ⟨ba, 3, 1, 0⟩, ⟨bb, 0, 4, 0⟩] : List F), f.n.size ≤ 1000000 by decide +kernel)
      go_wp2_with fail
      (with_reducible refine (check_any _ _ _ HS.out HFC.out HFN.out).mono ?_)
      rintro e w2 ⟨rfl, hk⟩
      rw [HCK.out]
      have HC2 := Lib.hid (HC.out.trans hk (by simp))
      clear hk
      go_wp2
      go_ret
      exact ⟨rfl, HC2.out.below (Nat.le_refl _) (by simp)⟩
    · clear h0 h9
      have HCK := Lib.hid (show chk [⟨bm, 0, 0, 2⟩, ⟨ba, 0, 1, 0⟩, ⟨bb, 0, 5, 0⟩] = 3 by decide +kernel)
      have HC := Lib.hid (HK.out.alloc (.cells #[.string bm, .int .i64 0, .int .i64 0, .int .i64 2, .string ba, .int .i64 0, .int .i64 1, .int .i64 0, .string bb, .int .i64 0, .int .i64 5, .int .i64 0] 33))
      have HS := Lib.hid (SeenF.lit w1 w1.heap.size rfl 33 #[.string bm, .int .i64 0, .int .i64 0, .int .i64 2, .string ba, .int .i64 0, .int .i64 1, .int .i64 0, .string bb, .int .i64 0, .int .i64 5, .int .i64 0] [⟨bm, 0, 0, 2⟩, ⟨ba, 0, 1, 0⟩, ⟨bb, 0, 5, 0⟩] 3 rfl rfl (by decide))
      have HFC := Lib.hid (show ∀ f ∈ ([⟨bm, 0, 0, 2⟩, ⟨ba, 0, 1, 0⟩, ⟨bb, 0, 5, 0⟩] : List F), f.c ≤ 9223372036854775807 by decide +kernel)
      have HFN := Lib.hid (show ∀ f ∈ ([⟨bm, 0, 0, 2⟩, ⟨ba, 0, 1, 0⟩, ⟨bb, 0, 5, 0⟩] : List F), f.n.size ≤ 1000000 by decide +kernel)
      go_wp2_with fail
      (with_reducible refine (check_any _ _ _ HS.out HFC.out HFN.out).mono ?_)
      rintro e w2 ⟨rfl, hk⟩
      rw [HCK.out]
      have HC2 := Lib.hid (HC.out.trans hk (by simp))
      clear hk
      go_wp2
      go_ret
      exact ⟨rfl, HC2.out.below (Nat.le_refl _) (by simp)⟩
    · clear h0 h9
      have HCK := Lib.hid (show chk [⟨bm, 1, 0, 2⟩, ⟨ba, 0, 1, 0⟩, ⟨bb, 0, 4, 0⟩] = 3 by decide +kernel)
      have HC := Lib.hid (HK.out.alloc (.cells #[.string bm, .int .i64 1, .int .i64 0, .int .i64 2, .string ba, .int .i64 0, .int .i64 1, .int .i64 0, .string bb, .int .i64 0, .int .i64 4, .int .i64 0] 33))
      have HS := Lib.hid (SeenF.lit w1 w1.heap.size rfl 33 #[.string bm, .int .i64 1, .int .i64 0, .int .i64 2, .string ba, .int .i64 0, .int .i64 1, .int .i64 0, .string bb, .int .i64 0, .int .i64 4, .int .i64 0] [⟨bm, 1, 0, 2⟩, ⟨ba, 0, 1, 0⟩, ⟨bb, 0, 4, 0⟩] 3 rfl rfl (by decide))
      have HFC := Lib.hid (show ∀ f ∈ ([⟨bm, 1, 0, 2⟩, ⟨ba, 0, 1, 0⟩, ⟨bb, 0, 4, 0⟩] : List F), f.c ≤ 9223372036854775807 by decide +kernel)
      have HFN := Lib.hid (show ∀ f ∈ ([⟨bm, 1, 0, 2⟩, ⟨ba, 0, 1, 0⟩, ⟨bb, 0, 4, 0⟩] : List F), f.n.size ≤ 1000000 by decide +kernel)
      go_wp2_with fail
      (with_reducible refine (check_any _ _ _ HS.out HFC.out HFN.out).mono ?_)
      rintro e w2 ⟨rfl, hk⟩
      rw [HCK.out]
      have HC2 := Lib.hid (HC.out.trans hk (by simp))
      clear hk
      go_wp2
      go_ret
      exact ⟨rfl, HC2.out.below (Nat.le_refl _) (by simp)⟩
    · clear h0 h9
      have HCK := Lib.hid (show chk [⟨bm, 0, 0, 2⟩, ⟨ba, 0, 1, 1⟩, ⟨bb, 0, 4, 0⟩] = 1 by decide +kernel)
      have HC := Lib.hid (HK.out.alloc (.cells #[.string bm, .int .i64 0, .int .i64 0, .int .i64 2, .string ba, .int .i64 0, .int .i64 1, .int .i64 1, .string bb, .int .i64 0, .int .i64 4, .int .i64 0] 33))
      have HS := Lib.hid (SeenF.lit w1 w1.heap.size rfl 33 #[.string bm, .int .i64 0, .int .i64 0, .int .i64 2, .string ba, .int .i64 0, .int .i64 1, .int .i64 1, .string bb, .int .i64 0, .int .i64 4, .int .i64 0] [⟨bm, 0, 0, 2⟩, ⟨ba, 0, 1, 1⟩, ⟨bb, 0, 4, 0⟩] 3 rfl rfl (by decide))
      have HFC := Lib.hid (show ∀ f ∈ ([⟨bm, 0, 0, 2⟩, ⟨ba, 0, 1, 1⟩, ⟨bb, 0, 4, 0⟩] : List F), f.c ≤ 9223372036854775807 by decide +kernel)
      have HFN := Lib.hid (show ∀ f ∈ ([⟨bm, 0, 0, 2⟩, ⟨ba, 0, 1, 1⟩, ⟨bb, 0, 4, 0⟩] : List F), f.n.size ≤ 1000000 by decide +kernel)
      go_wp2_with fail
      (with_reducible refine (check_any _ _ _ HS.out HFC.out HFN.out).mono ?_)
      rintro e w2 ⟨rfl, hk⟩
      rw [HCK.out]
      have HC2 := Lib.hid (HC.out.trans hk (by simp))
      clear hk
      go_wp2
      go_ret
      exact ⟨rfl, HC2.out.below (Nat.le_refl _) (by simp)⟩
    · clear h0 h9
      have HCK := Lib.hid (show chk [⟨bm, 0, 0, 3⟩, ⟨ba, 0, 1, 0⟩, ⟨bb, 0, 4, 0⟩] = 1 by decide +kernel)
      have HC := Lib.hid (HK.out.alloc (.cells #[.string bm, .int .i64 0, .int .i64 0, .int .i64 3, .string ba, .int .i64 0, .int .i64 1, .int .i64 0, .string bb, .int .i64 0, .int .i64 4, .int .i64 0] 33))
      have HS := Lib.hid (SeenF.lit w1 w1.heap.size rfl 33 #[.string bm, .int .i64 0, .int .i64 0, .int .i64 3, .string ba, .int .i64 0, .int .i64 1, .int .i64 0, .string bb, .int .i64 0, .int .i64 4, .int .i64 0] [⟨bm, 0, 0, 3⟩, ⟨ba, 0, 1, 0⟩, ⟨bb, 0, 4, 0⟩] 3 rfl rfl (by decide))
      have HFC := Lib.hid (show ∀ f ∈ ([⟨bm, 0, 0, 3⟩, ⟨ba, 0, 1, 0⟩, ⟨bb, 0, 4, 0⟩] : List F), f.c ≤ 9223372036854775807 by decide +kernel)
      have HFN := Lib.hid (show ∀ f ∈ ([⟨bm, 0, 0, 3⟩, ⟨ba, 0, 1, 0⟩, ⟨bb, 0, 4, 0⟩] : List F), f.n.size ≤ 1000000 by decide +kernel)
      go_wp2_with fail
      (with_reducible refine (check_any _ _ _ HS.out HFC.out HFN.out).mono ?_)
      rintro e w2 ⟨rfl, hk⟩
      rw [HCK.out]
      have HC2 := Lib.hid (HC.out.trans hk (by simp))
      clear hk
      go_wp2
      go_ret
      exact ⟨rfl, HC2.out.below (Nat.le_refl _) (by simp)⟩
    · clear h0 h9
      have HCK := Lib.hid (show chk [⟨bm, 0, 0, 1⟩, ⟨ba, 0, 1, 0⟩, ⟨bb, 0, 4, 0⟩] = 1 by decide +kernel)
      have HC := Lib.hid (HK.out.alloc (.cells #[.string bm, .int .i64 0, .int .i64 0, .int .i64 1, .string ba, .int .i64 0, .int .i64 1, .int .i64 0, .string bb, .int .i64 0, .int .i64 4, .int .i64 0] 33))
      have HS := Lib.hid (SeenF.lit w1 w1.heap.size rfl 33 #[.string bm, .int .i64 0, .int .i64 0, .int .i64 1, .string ba, .int .i64 0, .int .i64 1, .int .i64 0, .string bb, .int .i64 0, .int .i64 4, .int .i64 0] [⟨bm, 0, 0, 1⟩, ⟨ba, 0, 1, 0⟩, ⟨bb, 0, 4, 0⟩] 3 rfl rfl (by decide))
      have HFC := Lib.hid (show ∀ f ∈ ([⟨bm, 0, 0, 1⟩, ⟨ba, 0, 1, 0⟩, ⟨bb, 0, 4, 0⟩] : List F), f.c ≤ 9223372036854775807 by decide +kernel)
      have HFN := Lib.hid (show ∀ f ∈ ([⟨bm, 0, 0, 1⟩, ⟨ba, 0, 1, 0⟩, ⟨bb, 0, 4, 0⟩] : List F), f.n.size ≤ 1000000 by decide +kernel)
      go_wp2_with fail
      (with_reducible refine (check_any _ _ _ HS.out HFC.out HFN.out).mono ?_)
      rintro e w2 ⟨rfl, hk⟩
      rw [HCK.out]
      have HC2 := Lib.hid (HC.out.trans hk (by simp))
      clear hk
      go_wp2
      go_ret
      exact ⟨rfl, HC2.out.below (Nat.le_refl _) (by simp)⟩
    · clear h0 h9
      have HOL := Lib.hid (show (w1.alloc (.cells #[.string bm, .int .i64 0, .int .i64 0, .int .i64 2, .string ba, .int .i64 0, .int .i64 1, .int .i64 0, .string bb, .int .i64 0, .int .i64 4, .int .i64 0] 33)).ownsRow w1.heap.size 33 4 (.slice (some ⟨w1.heap.size, 0, none⟩) 1 3) 1 ((rowsG 0).flatMap F.cs) from
        ⟨rfl, .inr ⟨w1.heap.size, 3, _, rfl, Nat.le_refl _, heap_alloc_new w1 _, by decide, by decide, rfl, rfl⟩⟩)
      go_wp2
      go_loopw [6] (fun sv w' => ∃ k : Nat, k + 1 ≤ 41 ∧ Chg [] w1 w' ∧ w'.ownsRow w1.heap.size 33 4 sv (k + 1) ((rowsG k).flatMap F.cs)) (fun sv _ => 41 - sllen sv)
      case atStart => exact ⟨0, by decide, (Chg.refl [] w1).alloc _, HOL.out⟩
      case round =>
        obtain ⟨k, hk, hc, ho⟩ := hrel
        obtain ⟨ao5, cap5, rfl⟩ := own_shape ho
        have HC := Lib.hid hc; have HO := Lib.hid ho
        clear hc ho
        by_cases hlt : k + 1 < 41
        · have hsz : w1.heap.size ≤ wr.heap.size := HC.out.size
          have hm2 : k + 1 + 1 ≤ maxLen := by unfold maxLen; omega
          have hm3 : (k + 1 + 1) * 40 ≤ 140737488355328 := by omega
          have HM2 := Lib.hid hm2; have HM3 := Lib.hid hm3
          clear hm2 hm3
          obtain ⟨a, ha⟩ : ∃ a, a = 97 + (k + 1) % 26 := ⟨_, rfl⟩
          obtain ⟨b, hb⟩ : ∃ b, b = 97 + (k + 1) / 26 := ⟨_, rfl⟩
          have ha8 : a < 256 := by omega
          have hb8 : b < 256 := by omega
          have hsn := two_seen wr 5 a b (97 + ((k : Int) + 1) % 26) (97 + ((k : Int) + 1) / 26) (by omega) (by omega)
          obtain ⟨s2, hs2⟩ : ∃ s, s = str [a, b] := ⟨_, rfl⟩
          have hcv := cvp hsn rfl hs2 (by intro x hx; simp at hx; omega) _ (Lib.hid (Chg.refl [] _))
          have hs2z : ¬ (9223372036854775807 < 1 + s2.size) := by rw [hs2]; show ¬ (9223372036854775807 < 1 + 2); decide
          have HQ := Lib.hid (show ({ data := #[102] } : ByteArray) ++ s2 = nm (k + 1) by rw [hs2, nm_add, ha, hb]; rfl)
          clear hsn hs2 ha hb
          go_wp2_with (at_builtin; refine wpList_append_own _ rfl _ _ 23 rfl w1.heap.size 33 i0 (.agg #[.string ByteArray.empty, .int .i64 0, .int .i64 0, .int .i64 0]) 4 40 Try.underlying23 hi hz0 hz1 hz2 rfl (by decide) _ _ _ rfl ((HO.out.alloc _).alloc _) ⟨wr.heap.size + 1, 0, none⟩ 1 1 (F.cs ⟨{ data := #[102] } ++ s2, 0, 2, 0⟩) rfl rfl (new_cells (C := #[.string ({ data := #[102] } ++ s2), .int .i64 0, .int .i64 2, .int .i64 0]) (wr.heap.size + 1) (by simp)) (F.one _) HM2.out HM3.out (Nat.le_trans hsz (((Chg.refl [] wr).alloc _).alloc _).size) ?_)
          intro v3 w3 hown hgrow _
          have HCW := Lib.hid (((HC.out.alloc (.cells #[.int .u8 (97 + ((k : Int) + 1) % 26), .int .u8 (97 + ((k : Int) + 1) / 26)] 5)).alloc (.cells #[.string ({ data := #[102] } ++ s2), .int .i64 0, .int .i64 2, .int .i64 0] 33)).grown hgrow (fun q hq => .inr (own_ge HO.out q hq)))
          have HO3 := Lib.hid hown
          obtain ⟨ao3, cap3, rfl⟩ := own_shape hown
          clear hown hgrow
          go_wp2
          go_roundw
          case rel => exact ⟨k + 1, by omega, HCW.out, by rw [rowsG_succ, List.flatMap_append, ← HQ.out]; simpa using HO3.out⟩
          case measure => simp [sllen]; omega
        · have hk9 : k = 41 - 1 := by omega
          subst hk9
          obtain ⟨g, rfl, hgB, hgs, hgf, hgc⟩ := own_ptr HO.out (by decide)
          have hfr : wr.frozen? ⟨g, 3, none⟩ = false := hgf 3
          have hc3 : wr.cell? ⟨g, 3, none⟩ = some (.int .i64 2) := hgc 3 _ rfl
          have hset := own_set HO.out 3 (by decide) (.int .i64 ((41 - 1 : Nat) : Int))
          rw [rowsT_set] at hset
          have HS := Lib.hid (show SeenF (wr.setCell ⟨g, 3, none⟩ (.int .i64 40)) (.slice (some ⟨g, 0, none⟩) 41 cap5) (rowsT 40) from SeenF.own hset (by simp))
          have HCS := Lib.hid (show Chg [] w (wr.setCell ⟨g, 3, none⟩ (.int .i64 40)) from HK.out.trans (HC.out.setCell (p := ⟨g, 3, none⟩) (.inr hgB) _) (by simp))
          clear hgf hgc hset hlt hk
          go_wp2_with fail
          (with_reducible refine (check_any _ _ _ HS.out (rowsT_c _ (by decide)) (rowsT_n _)).mono ?_)
          rintro e w4 ⟨rfl, hk⟩
          rw [show chk (rowsT 40) = 4 from chk_rows1]
          have HC4 := Lib.hid (HCS.out.trans hk (by simp))
          clear hk
          go_wp2
          go_ret
          exact ⟨rfl, HC4.out.below (Nat.le_refl _) (by simp)⟩

end Go.Proofs.Ytmebgaejdjekdaa
