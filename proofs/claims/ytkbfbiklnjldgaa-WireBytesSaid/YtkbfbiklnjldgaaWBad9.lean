/- WireBad. -/
import Derived.Test.YtkbfbiklnjldgaaHm
import Derived.Test.YtkbfbiklnjldgaaHE
import Derived.Test.YtkbfbiklnjldgaaHD
import Derived.Test.YtkbfbiklnjldgaaYd
namespace Go.Proofs.Ytkbfbiklnjldgaa
open Go.RowKit
set_option linter.unusedVariables false
set_option linter.unusedSimpArgs false

/-- A schema of one field in the root. -/
def one9 (f : F) : List F := [⟨bm8, 0, 0, 1⟩, f]

theorem parse_one (f : F) (hk : 1 ≤ f.k ∧ f.k ≤ 4) (hc : f.c ≤ 9223372036854775807) (hn : f.n.size ≤ 1000000) (hchk : chk (one9 f) = 0) (sv bv : Value) (b : List Nat) (w : World) (hS : SeenF w sv (one9 f)) (hB : Seen w bv (nv .u8 b)) (hb : ∀ x ∈ b, x < 256) (hbl : b.length ≤ 1000000) :
    Calls Try.prog 9 #[sv, bv] w fun e w' => ∃ lv, e = .returned (.tuple #[lv, .int .i64 ((pAll (.leaf f .nil) b).2 : Nat)]) ∧ ListIn (w.heap.size ≤ ·) w' 2 (pAll (.leaf f .nil) b).1 lv ∧ Chg [] w w' :=
  parse_any9 sv bv (one9 f) ⟨bm8, 0, 0, 1⟩ (.leaf f .nil) b w hS rfl rfl rfl rfl ⟨hk.1, hk.2, trivial⟩ hchk (show 2 ≤ 1000 by decide) (fun x hx => by
    simp [one9] at hx
    rcases hx with rfl | rfl
    · show (1 : Int) ≤ 9223372036854775807; decide
    · exact hc) (fun x hx => by
    simp [one9] at hx
    rcases hx with rfl | rfl
    · show bm8.size ≤ 1000000; decide
    · exact hn) hB hb (Nat.le_trans hbl (by decide))

/-- A literal row of bytes. -/
theorem seen_lit8 (w : World) (C : Array Value) (l : List Nat) (g n : Nat) (hg : g = w.heap.size) (hC : C.toList = nv .u8 l) (hn : n = l.length) (hm : n ≤ maxLen) : Seen (w.alloc (.cells C 5)) (.slice (some ⟨g, 0, none⟩) n n) (nv .u8 l) :=
  (reads_of_own (made_lit w w (Chg.refl _ _) _ _ l C g n hg hC hn hm).2).seen

def fA9 : F := ⟨ba8, 1, 2, 0⟩
def fB9 : F := ⟨ba8, 0, 1, 0⟩
def fC9 : F := ⟨ba8, 0, 4, 0⟩
set_option maxRecDepth 100000 in
theorem chk_abc : chk (one9 fA9) = 0 ∧ chk (one9 fB9) = 0 ∧ chk (one9 fC9) = 0 := by decide +kernel
set_option maxRecDepth 100000 in
theorem bad_a : (List.range 252).all (fun n => decide (n < 2) || decide ((pAll (.leaf fA9 .nil) [1, n, 0, 0, 0, 0]).2 = 10)) = true := by decide +kernel
set_option maxRecDepth 100000 in
theorem bad_b : (List.range 252).all (fun n => decide (n < 2) || decide ((pAll (.leaf fB9 .nil) [1, n]).2 = 10)) = true := by decide +kernel
set_option maxRecDepth 100000 in
theorem bad_c : (List.range 121).all (fun m => decide (m < 101) || decide ((pAll (.leaf fC9 .nil) ([1, m] ++ List.replicate m 0)).2 = 5)) = true := by decide +kernel

theorem all_get {p : Nat → Bool} {n k : Nat} (h : (List.range n).all p = true) (hk : k < n) : p k = true := List.all_eq_true.1 h k (List.mem_range.2 hk)

end Go.Proofs.Ytkbfbiklnjldgaa
