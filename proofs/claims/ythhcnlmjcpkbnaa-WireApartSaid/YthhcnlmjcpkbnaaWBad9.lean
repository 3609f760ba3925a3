/- WireBad. -/
import Derived.Test.YthhcnlmjcpkbnaaHE
import Derived.Test.YthhcnlmjcpkbnaaYd
namespace Go.Proofs.Ythhcnlmjcpkbnaa
open Go.RowKit
set_option linter.unusedVariables false
set_option linter.unusedSimpArgs false

/-- A schema of one field in the root. -/
def one9 (f : F) : List F := [⟨bm8, 0, 0, 1⟩, f]

theorem parse_one (f : F) (hk : 1 ≤ f.k ∧ f.k ≤ 4) (hc : f.c ≤ 9223372036854775807) (hn : f.n.size ≤ 1000000) (hchk : chk (one9 f) = 0) (sv bv : Value) (b : List Nat) (w : World) (hS : SeenF w sv (one9 f)) (hB : Seen w bv (nv .u8 b)) (hb : ∀ x ∈ b, x < 256) (hbl : b.length ≤ 1000000) :
    Calls Try.prog 46 #[sv, bv] w fun e w' => ∃ lv, e = .returned (.tuple #[lv, .int .i64 ((pAll (.leaf f .nil) b).2 : Nat)]) ∧ ListIn (w.heap.size ≤ ·) w' 2 (pAll (.leaf f .nil) b).1 lv ∧ Chg [] w w' :=
  parse_any9 sv bv (one9 f) ⟨bm8, 0, 0, 1⟩ (.leaf f .nil) b w hS rfl rfl rfl rfl ⟨hk.1, hk.2, trivial⟩ hchk (show 2 ≤ 1000 by decide) (fun x hx => by
    simp [one9] at hx
    rcases hx with rfl | rfl
    · show (1 : Int) ≤ 9223372036854775807; decide
    · exact hc) (fun x hx => by
    simp [one9] at hx
    rcases hx with rfl | rfl
    · show bm8.size ≤ 1000000; decide
    · exact hn) hB hb hbl

/-- A literal row of bytes. -/
theorem seen_lit8 (w : World) (C : Array Value) (l : List Nat) (g n : Nat) (hg : g = w.heap.size) (hC : C.toList = nv .u8 l) (hn : n = l.length) (hm : n ≤ maxLen) : Seen (w.alloc (.cells C 5)) (.slice (some ⟨g, 0, none⟩) n n) (nv .u8 l) :=
  (reads_of_own (made_lit w w (Chg.refl _ _) _ _ l C g n hg hC hn hm).2).seen

def fA9 : F := ⟨ba8, 1, 2, 0⟩
def fB9 : F := ⟨ba8, 0, 1, 0⟩
def fC9 : F := ⟨ba8, 0, 4, 0⟩
set_option maxRecDepth 100000 in
theorem chk_abc : chk (one9 fA9) = 0 ∧ chk (one9 fB9) = 0 ∧ chk (one9 fC9) = 0 := by decide +kernel
set_option maxRecDepth 100000 in
theorem bad_a : (List.range 252).all (fun n => decide (n < 2) || decide ((pAll (.leaf fA9 .nil) [1, n, 0, 0, 0, 0]).2 = 10)) = true := by decide +kernel
set_option maxRecDepth 100000 in
theorem bad_b : (List.range 252).all (fun n => decide (n < 2) || decide ((pAll (.leaf fB9 .nil) [1, n]).2 = 10)) = true := by decide +kernel
set_option maxRecDepth 100000 in
theorem bad_c : (List.range 121).all (fun m => decide (m < 101) || decide ((pAll (.leaf fC9 .nil) ([1, m] ++ List.replicate m 0)).2 = 5)) = true := by decide +kernel

theorem all_get {p : Nat → Bool} {n k : Nat} (h : (List.range n).all p = true) (hk : k < n) : p k = true := List.all_eq_true.1 h k (List.mem_range.2 hk)

set_option maxRecDepth 100000 in
set_option maxHeartbeats 4000000 in
theorem walk_WireBad (a0 a1 : Int) (w : World) (w0 : (Lit.int .i64 a0).wf = true) (w1 : (Lit.int .i64 a1).wf = true) :
    Calls Try.prog 16 #[.int .i64 a0, .int .i64 a1] w fun e w' => e = .returned (.bool true) ∧ Below w.heap.size w w' := by
  have HA := Lib.hid (fun wx => w9_int a0 250 250 wx rfl (by decide) (by decide) w0)
  have HB := Lib.hid (fun wx => w9_int a1 20 20 wx rfl (by decide) (by decide) w1)
  obtain ⟨qa, hqa⟩ : ∃ q, q = (a0 % ((250 : Nat) : Int)).toNat := ⟨_, rfl⟩
  obtain ⟨qb, hqb⟩ : ∃ q, q = (a1 % ((20 : Nat) : Int)).toNat := ⟨_, rfl⟩
  have hqa1 : qa < 250 := by rw [hqa]; exact within_lt a0 250 (by decide)
  have hqb1 : qb < 20 := by rw [hqb]; exact within_lt a1 20 (by decide)
  rw [← hqa] at HA
  rw [← hqb] at HB
  clear hqa hqb w0 w1
  obtain ⟨n, hn⟩ : ∃ n, n = 2 + qa := ⟨_, rfl⟩
  obtain ⟨m, hm⟩ : ∃ m, m = 101 + qb := ⟨_, rfl⟩
  have e1 : (2 : Int) + (qa : Int) = (n : Int) := by omega
  have e2 : (101 : Int) + (qb : Int) = (m : Int) := by omega
  have e3 : IntKind.i64.wrap (2 + (qa : Int)) = (n : Int) := by rw [e1]; exact IntWalk.i64_in _ (by omega)
  have e4 : IntKind.i64.wrap (101 + (qb : Int)) = (m : Int) := by rw [e2]; exact IntWalk.i64_in _ (by omega)
  have hn2 : 2 ≤ n ∧ n < 252 := by omega
  have hm2 : 101 ≤ m ∧ m < 121 := by omega
  have HN := Lib.hid hn; have HM := Lib.hid hm
  clear hn hm
  go_enter Try.func16, Try.ntmps16
  go_wp2_with fail
  (with_reducible refine (known9_any _).mono ?_)
  rintro e wA ⟨rfl, hkA⟩
  have HKA := Lib.hid hkA
  clear hkA
  go_wp2_with (first
    | (go_at_call 49; (with_reducible refine (HA.out _).mono ?_); rintro e wq ⟨rfl, rfl⟩)
    | (go_at_call 49; (with_reducible refine (HB.out _).mono ?_); rintro e wq ⟨rfl, rfl⟩)
    | fail)
  obtain ⟨W3, hW3⟩ : ∃ W3, W3 = (((wA.alloc (.cells #[.string { data := #[109] }, .int .i64 0, .int .i64 0, .int .i64 1, .string { data := #[97] }, .int .i64 1, .int .i64 2, .int .i64 0] 78)).alloc (.cells #[.string { data := #[109] }, .int .i64 0, .int .i64 0, .int .i64 1, .string { data := #[97] }, .int .i64 0, .int .i64 1, .int .i64 0] 78)).alloc (.cells #[.string { data := #[109] }, .int .i64 0, .int .i64 0, .int .i64 1, .string { data := #[97] }, .int .i64 0, .int .i64 4, .int .i64 0] 78)) := ⟨_, rfl⟩
  rw [← hW3]
  have HC3 := Lib.hid (show Chg [] w W3 by rw [hW3]; exact ((HKA.out.alloc _).alloc _).alloc _)
  have hb1 : W3.heap[wA.heap.size]? = some (.cells #[.string { data := #[109] }, .int .i64 0, .int .i64 0, .int .i64 1, .string { data := #[97] }, .int .i64 1, .int .i64 2, .int .i64 0] 78 (0, 0)) := by rw [hW3]; exact hl_old (hl_old (hl_new rfl))
  have hb2 : W3.heap[wA.heap.size + 1]? = some (.cells #[.string { data := #[109] }, .int .i64 0, .int .i64 0, .int .i64 1, .string { data := #[97] }, .int .i64 0, .int .i64 1, .int .i64 0] 78 (0, 0)) := by rw [hW3]; exact hl_old (hl_new (by simp))
  have hb3 : W3.heap[wA.heap.size + 1 + 1]? = some (.cells #[.string { data := #[109] }, .int .i64 0, .int .i64 0, .int .i64 1, .string { data := #[97] }, .int .i64 0, .int .i64 4, .int .i64 0] 78 (0, 0)) := by rw [hW3]; exact hl_new (by simp)
  have hz3 : wA.heap.size + 1 + 1 + 1 = W3.heap.size := by rw [hW3]; simp
  have hsA : SeenF W3 (.slice (some ⟨wA.heap.size, 0, none⟩) 2 2) (one9 fA9) := SeenF.blk hb1 (one9 fA9) 2 rfl rfl (by decide)
  have hsB : SeenF W3 (.slice (some ⟨wA.heap.size + 1, 0, none⟩) 2 2) (one9 fB9) := SeenF.blk hb2 (one9 fB9) 2 rfl rfl (by decide)
  have hsC : SeenF W3 (.slice (some ⟨wA.heap.size + 1 + 1, 0, none⟩) 2 2) (one9 fC9) := SeenF.blk hb3 (one9 fC9) 2 rfl rfl (by decide)
  have pA : (pAll (.leaf fA9 .nil) [1, n, 0, 0, 0, 0]).2 = 10 := by have := all_get bad_a hn2.2; simp at this; omega
  have pB : (pAll (.leaf fB9 .nil) [1, n]).2 = 10 := by have := all_get bad_b hn2.2; simp at this; omega
  have pC : (pAll (.leaf fC9 .nil) ([1, m] ++ List.replicate m 0)).2 = 5 := by have := all_get bad_c hm2.2; simp at this ⊢; omega
  have HPA := Lib.hid (show ∀ wx bv, Chg [] W3 wx → Seen wx bv (nv .u8 [1, n, 0, 0, 0, 0]) → Calls Try.prog 46 #[.slice (some ⟨wA.heap.size, 0, none⟩) 2 2, bv] wx fun e w' => ∃ lv, e = .returned (.tuple #[lv, .int .i64 10]) ∧ Chg [] wx w' from fun wx bv hk hs => by
    refine (parse_one fA9 (by decide) (by decide) (by decide) chk_abc.1 _ bv _ wx (hsA.keep hk) hs (by intro x hx; simp at hx; omega) (by simp)).mono ?_
    rintro e w' ⟨lv, rfl, -, h⟩
    rw [pA]
    exact ⟨lv, rfl, h⟩)
  have HPB := Lib.hid (show ∀ wx bv, Chg [] W3 wx → Seen wx bv (nv .u8 [1, n]) → Calls Try.prog 46 #[.slice (some ⟨wA.heap.size + 1, 0, none⟩) 2 2, bv] wx fun e w' => ∃ lv, e = .returned (.tuple #[lv, .int .i64 10]) ∧ Chg [] wx w' from fun wx bv hk hs => by
    refine (parse_one fB9 (by decide) (by decide) (by decide) chk_abc.2.1 _ bv _ wx (hsB.keep hk) hs (by intro x hx; simp at hx; omega) (by simp)).mono ?_
    rintro e w' ⟨lv, rfl, -, h⟩
    rw [pB]
    exact ⟨lv, rfl, h⟩)
  have HPC := Lib.hid (show ∀ wx bv, Chg [] W3 wx → Seen wx bv (nv .u8 ([1, m] ++ List.replicate m 0)) → Calls Try.prog 46 #[.slice (some ⟨wA.heap.size + 1 + 1, 0, none⟩) 2 2, bv] wx fun e w' => ∃ lv, e = .returned (.tuple #[lv, .int .i64 5]) ∧ Chg [] wx w' from fun wx bv hk hs => by
    refine (parse_one fC9 (by decide) (by decide) (by decide) chk_abc.2.2 _ bv _ wx (hsC.keep hk) hs (by intro x hx; simp at hx; omega) (by simp; omega)).mono ?_
    rintro e w' ⟨lv, rfl, -, h⟩
    rw [pC]
    exact ⟨lv, rfl, h⟩)
  have HZ3 := Lib.hid hz3
  clear hW3 hb1 hb2 hb3 hz3 hsA hsB hsC pA pB pC
  refine (HPA.out _ _ ((Chg.refl [] W3).alloc _) (seen_lit8 W3 _ [1, n, 0, 0, 0, 0] _ 6 HZ3.out rfl rfl (by decide))).mono ?_
  rintro e wB ⟨lv1, rfl, hkB⟩
  have HKB := Lib.hid (((Chg.refl [] W3).alloc _).trans hkB (by simp))
  clear hkB
  go_wp2_with fail
  refine (HPB.out _ _ (HKB.out.alloc _) (seen_lit8 wB _ [1, n] _ 2 rfl rfl rfl (by decide))).mono ?_
  rintro e wC ⟨lv2, rfl, hkC⟩
  have HKC := Lib.hid ((HKB.out.alloc _).trans hkC (by simp))
  have HM0 := Lib.hid (show 0 < m by omega)
  have HM9 := Lib.hid (show 2 + m ≤ 1000000 by omega)
  clear hkC
  go_wp2_with (first
    | (at_builtin; refine wpList_append_make rfl (.tmp 51) (.tmp 52) rfl ⟨wC.heap.size, 0, none⟩ 2 m [1, m] rfl rfl rfl (by intro j v hj; rw [addr_add, Nat.zero_add, cell_of_row _ wC.heap.size j _ _ _ (heap_alloc_new wC _)]; simpa [nv] using hj) HM0.out HM9.out ?_; intro v5 w5 hown5 hk5; have HK5 := Lib.hid ((HKC.out.alloc _).trans hk5 (by simp)); have HS5 := Lib.hid (reads_of_own hown5).seen; clear hown5 hk5)
    | (go_at_call 46; (refine (HPC.out _ _ HK5.out HS5.out).mono ?_); rintro e wD ⟨lv3, rfl, hkD⟩; have HKD := Lib.hid (HK5.out.trans hkD (by simp)); clear hkD)
    | fail)
  go_ret
  exact ⟨rfl, (HC3.out.trans HKD.out (by simp)).below (Nat.le_refl _) (by simp)⟩

end Go.Proofs.Ythhcnlmjcpkbnaa
