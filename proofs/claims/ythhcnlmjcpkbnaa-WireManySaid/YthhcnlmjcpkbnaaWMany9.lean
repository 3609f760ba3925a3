/- WireMany. -/
import Derived.Test.YthhcnlmjcpkbnaaHn
namespace Go.Proofs.Ythhcnlmjcpkbnaa
open Go.RowKit
set_option linter.unusedVariables false
set_option linter.unusedSimpArgs false

set_option maxRecDepth 100000 in
theorem chk_mr : chk (one9 fM9) = 0 ∧ chk (one9 fR9) = 0 := by decide +kernel

set_option maxRecDepth 100000 in
set_option maxHeartbeats 4000000 in
theorem walk_WireMany (a0 a1 : Int) (w : World) (w0 : (Lit.int .i64 a0).wf = true) (w1 : (Lit.int .i64 a1).wf = true) :
    Calls Try.prog 12 #[.int .i64 a0, .int .i64 a1] w fun e w' => e = .returned (.bool true) ∧ Below w.heap.size w w' := by
  have HA := Lib.hid (fun wx => w9_int a0 10 10 wx rfl (by decide) (by decide) w0)
  have HB := Lib.hid (fun wx => w9_int a1 9 9 wx rfl (by decide) (by decide) w1)
  obtain ⟨qa, hqa⟩ : ∃ q, q = (a0 % ((10 : Nat) : Int)).toNat := ⟨_, rfl⟩
  obtain ⟨qb, hqb⟩ : ∃ q, q = (a1 % ((9 : Nat) : Int)).toNat := ⟨_, rfl⟩
  have hqa1 : qa < 10 := by rw [hqa]; exact within_lt a0 10 (by decide)
  have hqb1 : qb < 9 := by rw [hqb]; exact within_lt a1 9 (by decide)
  rw [← hqa] at HA
  rw [← hqb] at HB
  clear hqa hqb w0 w1
  obtain ⟨n, hn⟩ : ∃ n, n = 195 + qa := ⟨_, rfl⟩
  obtain ⟨m, hm⟩ : ∃ m, m = 46 + qb := ⟨_, rfl⟩
  have e1 : (195 : Int) + (qa : Int) = (n : Int) := by omega
  have e2 : (46 : Int) + (qb : Int) = (m : Int) := by omega
  have e3 : IntKind.i64.wrap (195 + (qa : Int)) = (n : Int) := by rw [e1]; exact IntWalk.i64_in _ (by omega)
  have e4 : IntKind.i64.wrap (46 + (qb : Int)) = (m : Int) := by rw [e2]; exact IntWalk.i64_in _ (by omega)
  have hn2 : 195 ≤ n ∧ n < 205 := by omega
  have hm2 : 46 ≤ m ∧ m < 55 := by omega
  have hor : bits BinOp.or IntKind.u8 (n : Int) 128 = (n : Int) := by
    have h := or128 n
    rw [show (n : Int) % 256 = (n : Int) by omega] at h
    rw [h]; omega
  have hsh : (n : Int) / 2 ^ 7 = 1 := by omega
  have hsh2 : (n : Int) / 128 = 1 := by omega
  have HN := Lib.hid hn; have HM := Lib.hid hm
  clear hn hm
  by_cases hnb : 200 < n
  · by_cases hmb : 50 < m
    · skip
      have dn : decide ((n : Int) ≤ 200) = false := decide_eq_false (by omega)
      have dn2 : decide ((200 : Int) < (n : Int)) = true := decide_eq_true (by omega)
      have dm : decide ((m : Int) ≤ 50) = false := decide_eq_false (by omega)
      have dm2 : decide ((50 : Int) < (m : Int)) = true := decide_eq_true (by omega)
      have HQ0 := Lib.hid (show 0 < m by omega)
      have HQ9 := Lib.hid (show 2 + m ≤ 1000000 by omega)
      have pR := all_r m (by omega)
      rw [if_pos (by omega)] at pR
      have HPR := Lib.hid (show ∀ wx sv bv, SeenF wx sv (one9 fR9) → Seen wx bv (nv .u8 ([1, m] ++ List.replicate m 0)) → Calls Try.prog 46 #[sv, bv] wx fun e w' => ∃ lo lc, e = .returned (.tuple #[.slice lo 0 lc, .int .i64 4]) ∧ Chg [] wx w' from fun wx sv bv hf hs => by
        refine (parse_one fR9 (by decide) (by decide) (by decide) chk_mr.2 _ bv _ wx hf hs (by intro x hx; simp at hx; omega) (by simp; omega)).mono ?_
        rintro e w' ⟨lv, rfl, hl, h⟩
        rw [pR] at hl ⊢
        obtain ⟨lo, lc, rfl, -, -⟩ := hl.shape
        exact ⟨lo, lc, rfl, h⟩)
      clear pR
      skip
      go_enter Try.func12, Try.ntmps12
      go_wp2_with fail
      (with_reducible refine (known9_any _).mono ?_)
      rintro e wA ⟨rfl, hkA⟩
      have HKA := Lib.hid hkA
      have HM0 := Lib.hid (show 0 < n by omega)
      have HM9 := Lib.hid (show 2 + n ≤ 1000000 by omega)
      obtain ⟨W1, hW1⟩ : ∃ W1, W1 = wA.alloc (.cells #[.string { data := #[109] }, .int .i64 0, .int .i64 0, .int .i64 1, .string { data := #[97] }, .int .i64 1, .int .i64 1, .int .i64 0] 78) := ⟨_, rfl⟩
      have hb1 : W1.heap[wA.heap.size]? = some (.cells #[.string { data := #[109] }, .int .i64 0, .int .i64 0, .int .i64 1, .string { data := #[97] }, .int .i64 1, .int .i64 1, .int .i64 0] 78 (0, 0)) := by rw [hW1]; exact hl_new rfl
      have hsA : SeenF W1 (.slice (some ⟨wA.heap.size, 0, none⟩) 2 2) (one9 fM9) := SeenF.blk hb1 (one9 fM9) 2 rfl rfl (by decide)
      have HC1 := Lib.hid (show Chg [] w W1 by rw [hW1]; exact hkA.alloc _)
      have HW1 := Lib.hid hW1
      have pA := all_m n (by omega)
      rw [if_pos (by omega)] at pA
      have HPA := Lib.hid (show ∀ wx bv, Chg [] W1 wx → Seen wx bv (nv .u8 ([n, 1] ++ List.replicate n 0)) → Calls Try.prog 46 #[.slice (some ⟨wA.heap.size, 0, none⟩) 2 2, bv] wx fun e w' => ∃ lo lc, e = .returned (.tuple #[.slice lo 0 lc, .int .i64 4]) ∧ Chg [] wx w' from fun wx bv hk hs => by
        refine (parse_one fM9 (by decide) (by decide) (by decide) chk_mr.1 _ bv _ wx (hsA.keep hk) hs (by intro x hx; simp at hx; omega) (by simp; omega)).mono ?_
        rintro e w' ⟨lv, rfl, hl, h⟩
        rw [pA] at hl ⊢
        obtain ⟨lo, lc, rfl, -, -⟩ := hl.shape
        exact ⟨lo, lc, rfl, h⟩)
      clear hkA hb1 hsA pA hW1
      go_wp2_with (first
        | (go_at_call 49; (with_reducible refine (HA.out _).mono ?_); rintro e wq ⟨rfl, rfl⟩)
        | (go_at_call 49; (with_reducible refine (HB.out _).mono ?_); rintro e wq ⟨rfl, rfl⟩)
        | (at_builtin; rw [← HW1.out]; refine wpList_append_make rfl (.tmp 30) (.tmp 31) rfl ⟨wA.heap.size + 1, 0, none⟩ 2 n [n, 1] rfl rfl rfl (by intro j v hj; rw [addr_add, Nat.zero_add, cell_of_row _ (wA.heap.size + 1) j _ _ _ (hl_new (by rw [HW1.out]; simp))]; simpa [nv] using hj) HM0.out HM9.out ?_; intro v5 w5 hown5 hk5; have HK5 := Lib.hid (((Chg.refl [] W1).alloc _).trans hk5 (by simp)); have HS5 := Lib.hid (reads_of_own hown5).seen; clear hown5 hk5)
        | (go_at_call 46; (with_reducible refine (HPA.out _ _ HK5.out HS5.out).mono ?_); rintro e wB ⟨lo1, lc1, rfl, hkB⟩; have HKB := Lib.hid (HC1.out.trans (HK5.out.trans hkB (by simp)) (by simp)); clear hkB)
        | (at_builtin; refine wpList_append_make rfl (.tmp 43) (.tmp 44) rfl ⟨wB.heap.size + 1, 0, none⟩ 2 m [1, m] rfl rfl rfl (by intro j v hj; rw [addr_add, Nat.zero_add, cell_of_row _ (wB.heap.size + 1) j _ _ _ (hl_new (by simp))]; simpa [nv] using hj) HQ0.out HQ9.out ?_; intro v6 w6 hown6 hk6; have HK6 := Lib.hid (((HKB.out.alloc _).alloc _).trans hk6 (by simp)); have HS6 := Lib.hid (reads_of_own hown6).seen; have HF6 := Lib.hid (((SeenF.lit wB wB.heap.size rfl 78 #[.string { data := #[109] }, .int .i64 0, .int .i64 0, .int .i64 1, .string { data := #[97] }, .int .i64 2, .int .i64 1, .int .i64 0] (one9 fR9) 2 rfl rfl (by decide)).keep ((Chg.refl [] _).alloc _)).keep hk6); clear hown6 hk6)
        | (go_at_call 46; (with_reducible refine (HPR.out _ _ _ HF6.out HS6.out).mono ?_); rintro e wE ⟨lo2, lc2, rfl, hkE⟩; have HKE := Lib.hid hkE; clear hkE)
        | fail)
      go_ret
      exact ⟨rfl, (HK6.out.trans HKE.out (by simp)).below (Nat.le_refl _) (by simp)⟩
    · skip
      have dn : decide ((n : Int) ≤ 200) = false := decide_eq_false (by omega)
      have dn2 : decide ((200 : Int) < (n : Int)) = true := decide_eq_true (by omega)
      have dm : decide ((m : Int) ≤ 50) = true := decide_eq_true (by omega)
      have dm2 : decide ((50 : Int) < (m : Int)) = false := decide_eq_false (by omega)
      have HQ0 := Lib.hid (show 0 < m by omega)
      have HQ9 := Lib.hid (show 2 + m ≤ 1000000 by omega)
      have pR := all_r m (by omega)
      rw [if_neg (by omega)] at pR
      have HPR := Lib.hid (show ∀ wx sv bv, SeenF wx sv (one9 fR9) → Seen wx bv (nv .u8 ([1, m] ++ List.replicate m 0)) → Calls Try.prog 46 #[sv, bv] wx fun e w' => ∃ g off lc g2 off2 c2 lo3 lc3, e = .returned (.tuple #[.slice (some ⟨g, off, none⟩) 1 lc, .int .i64 0]) ∧ (w'.cell? ⟨g, off + 2, none⟩ = some (.slice (some ⟨g2, off2, none⟩) 1 c2) ∧ w'.cell? ⟨g2, off2, none⟩ = some (.slice lo3 m lc3)) ∧ Chg [] wx w' from fun wx sv bv hf hs => by
        refine (parse_one fR9 (by decide) (by decide) (by decide) chk_mr.2 _ bv _ wx hf hs (by intro x hx; simp at hx; omega) (by simp; omega)).mono ?_
        rintro e w' ⟨lv, rfl, hl, h⟩
        rw [pR] at hl ⊢
        obtain ⟨lo, lc, rfl, -, -⟩ := hl.shape
        obtain ⟨g, off, rfl, hc⟩ := hl.at.get (by simp)
        obtain ⟨kv, -, -, hk2, hk3⟩ := hc 0 _ rfl
        obtain ⟨ko, kc, rfl, -, -⟩ := hk3.shape
        obtain ⟨d', g2, off2, -, rfl, hc2⟩ := hk3.get (by simp)
        obtain ⟨lv2, hl2, hl3⟩ := hc2 0 _ rfl
        obtain ⟨lo3, lc3, rfl, -, -⟩ := hl3.shape
        refine ⟨g, off, lc, g2, off2, kc, lo3, lc3, rfl, ⟨by simpa using hk2, ?_⟩, h⟩
        simpa using hl2)
      clear pR
      skip
      go_enter Try.func12, Try.ntmps12
      go_wp2_with fail
      (with_reducible refine (known9_any _).mono ?_)
      rintro e wA ⟨rfl, hkA⟩
      have HKA := Lib.hid hkA
      have HM0 := Lib.hid (show 0 < n by omega)
      have HM9 := Lib.hid (show 2 + n ≤ 1000000 by omega)
      obtain ⟨W1, hW1⟩ : ∃ W1, W1 = wA.alloc (.cells #[.string { data := #[109] }, .int .i64 0, .int .i64 0, .int .i64 1, .string { data := #[97] }, .int .i64 1, .int .i64 1, .int .i64 0] 78) := ⟨_, rfl⟩
      have hb1 : W1.heap[wA.heap.size]? = some (.cells #[.string { data := #[109] }, .int .i64 0, .int .i64 0, .int .i64 1, .string { data := #[97] }, .int .i64 1, .int .i64 1, .int .i64 0] 78 (0, 0)) := by rw [hW1]; exact hl_new rfl
      have hsA : SeenF W1 (.slice (some ⟨wA.heap.size, 0, none⟩) 2 2) (one9 fM9) := SeenF.blk hb1 (one9 fM9) 2 rfl rfl (by decide)
      have HC1 := Lib.hid (show Chg [] w W1 by rw [hW1]; exact hkA.alloc _)
      have HW1 := Lib.hid hW1
      have pA := all_m n (by omega)
      rw [if_pos (by omega)] at pA
      have HPA := Lib.hid (show ∀ wx bv, Chg [] W1 wx → Seen wx bv (nv .u8 ([n, 1] ++ List.replicate n 0)) → Calls Try.prog 46 #[.slice (some ⟨wA.heap.size, 0, none⟩) 2 2, bv] wx fun e w' => ∃ lo lc, e = .returned (.tuple #[.slice lo 0 lc, .int .i64 4]) ∧ Chg [] wx w' from fun wx bv hk hs => by
        refine (parse_one fM9 (by decide) (by decide) (by decide) chk_mr.1 _ bv _ wx (hsA.keep hk) hs (by intro x hx; simp at hx; omega) (by simp; omega)).mono ?_
        rintro e w' ⟨lv, rfl, hl, h⟩
        rw [pA] at hl ⊢
        obtain ⟨lo, lc, rfl, -, -⟩ := hl.shape
        exact ⟨lo, lc, rfl, h⟩)
      clear hkA hb1 hsA pA hW1
      go_wp2_with (first
        | (go_at_call 49; (with_reducible refine (HA.out _).mono ?_); rintro e wq ⟨rfl, rfl⟩)
        | (go_at_call 49; (with_reducible refine (HB.out _).mono ?_); rintro e wq ⟨rfl, rfl⟩)
        | (at_builtin; rw [← HW1.out]; refine wpList_append_make rfl (.tmp 30) (.tmp 31) rfl ⟨wA.heap.size + 1, 0, none⟩ 2 n [n, 1] rfl rfl rfl (by intro j v hj; rw [addr_add, Nat.zero_add, cell_of_row _ (wA.heap.size + 1) j _ _ _ (hl_new (by rw [HW1.out]; simp))]; simpa [nv] using hj) HM0.out HM9.out ?_; intro v5 w5 hown5 hk5; have HK5 := Lib.hid (((Chg.refl [] W1).alloc _).trans hk5 (by simp)); have HS5 := Lib.hid (reads_of_own hown5).seen; clear hown5 hk5)
        | (go_at_call 46; (with_reducible refine (HPA.out _ _ HK5.out HS5.out).mono ?_); rintro e wB ⟨lo1, lc1, rfl, hkB⟩; have HKB := Lib.hid (HC1.out.trans (HK5.out.trans hkB (by simp)) (by simp)); clear hkB)
        | (at_builtin; refine wpList_append_make rfl (.tmp 43) (.tmp 44) rfl ⟨wB.heap.size + 1, 0, none⟩ 2 m [1, m] rfl rfl rfl (by intro j v hj; rw [addr_add, Nat.zero_add, cell_of_row _ (wB.heap.size + 1) j _ _ _ (hl_new (by simp))]; simpa [nv] using hj) HQ0.out HQ9.out ?_; intro v6 w6 hown6 hk6; have HK6 := Lib.hid (((HKB.out.alloc _).alloc _).trans hk6 (by simp)); have HS6 := Lib.hid (reads_of_own hown6).seen; have HF6 := Lib.hid (((SeenF.lit wB wB.heap.size rfl 78 #[.string { data := #[109] }, .int .i64 0, .int .i64 0, .int .i64 1, .string { data := #[97] }, .int .i64 2, .int .i64 1, .int .i64 0] (one9 fR9) 2 rfl rfl (by decide)).keep ((Chg.refl [] _).alloc _)).keep hk6); clear hown6 hk6)
        | (go_at_call 46; (with_reducible refine (HPR.out _ _ _ HF6.out HS6.out).mono ?_); rintro e wE ⟨ge, oe, ce, g2, o2, c2, lo3, lc3, rfl, ⟨hc1, hc2⟩, hkE⟩; have HKE := Lib.hid hkE; clear hkE)
        | fail)
      go_ret
      exact ⟨rfl, (HK6.out.trans HKE.out (by simp)).below (Nat.le_refl _) (by simp)⟩
  · by_cases hmb : 50 < m
    · skip
      have dn : decide ((n : Int) ≤ 200) = true := decide_eq_true (by omega)
      have dn2 : decide ((200 : Int) < (n : Int)) = false := decide_eq_false (by omega)
      have dm : decide ((m : Int) ≤ 50) = false := decide_eq_false (by omega)
      have dm2 : decide ((50 : Int) < (m : Int)) = true := decide_eq_true (by omega)
      have HQ0 := Lib.hid (show 0 < m by omega)
      have HQ9 := Lib.hid (show 2 + m ≤ 1000000 by omega)
      have pR := all_r m (by omega)
      rw [if_pos (by omega)] at pR
      have HPR := Lib.hid (show ∀ wx sv bv, SeenF wx sv (one9 fR9) → Seen wx bv (nv .u8 ([1, m] ++ List.replicate m 0)) → Calls Try.prog 46 #[sv, bv] wx fun e w' => ∃ lo lc, e = .returned (.tuple #[.slice lo 0 lc, .int .i64 4]) ∧ Chg [] wx w' from fun wx sv bv hf hs => by
        refine (parse_one fR9 (by decide) (by decide) (by decide) chk_mr.2 _ bv _ wx hf hs (by intro x hx; simp at hx; omega) (by simp; omega)).mono ?_
        rintro e w' ⟨lv, rfl, hl, h⟩
        rw [pR] at hl ⊢
        obtain ⟨lo, lc, rfl, -, -⟩ := hl.shape
        exact ⟨lo, lc, rfl, h⟩)
      clear pR
      skip
      go_enter Try.func12, Try.ntmps12
      go_wp2_with fail
      (with_reducible refine (known9_any _).mono ?_)
      rintro e wA ⟨rfl, hkA⟩
      have HKA := Lib.hid hkA
      have HM0 := Lib.hid (show 0 < n by omega)
      have HM9 := Lib.hid (show 2 + n ≤ 1000000 by omega)
      obtain ⟨W1, hW1⟩ : ∃ W1, W1 = wA.alloc (.cells #[.string { data := #[109] }, .int .i64 0, .int .i64 0, .int .i64 1, .string { data := #[97] }, .int .i64 1, .int .i64 1, .int .i64 0] 78) := ⟨_, rfl⟩
      have hb1 : W1.heap[wA.heap.size]? = some (.cells #[.string { data := #[109] }, .int .i64 0, .int .i64 0, .int .i64 1, .string { data := #[97] }, .int .i64 1, .int .i64 1, .int .i64 0] 78 (0, 0)) := by rw [hW1]; exact hl_new rfl
      have hsA : SeenF W1 (.slice (some ⟨wA.heap.size, 0, none⟩) 2 2) (one9 fM9) := SeenF.blk hb1 (one9 fM9) 2 rfl rfl (by decide)
      have HC1 := Lib.hid (show Chg [] w W1 by rw [hW1]; exact hkA.alloc _)
      have HW1 := Lib.hid hW1
      have pA := all_m n (by omega)
      rw [if_neg (by omega)] at pA
      have HPA := Lib.hid (show ∀ wx bv, Chg [] W1 wx → Seen wx bv (nv .u8 ([n, 1] ++ List.replicate n 0)) → Calls Try.prog 46 #[.slice (some ⟨wA.heap.size, 0, none⟩) 2 2, bv] wx fun e w' => ∃ lo lc, e = .returned (.tuple #[.slice lo n lc, .int .i64 0]) ∧ Chg [] wx w' from fun wx bv hk hs => by
        refine (parse_one fM9 (by decide) (by decide) (by decide) chk_mr.1 _ bv _ wx (hsA.keep hk) hs (by intro x hx; simp at hx; omega) (by simp; omega)).mono ?_
        rintro e w' ⟨lv, rfl, hl, h⟩
        rw [pA] at hl ⊢
        obtain ⟨lo, lc, rfl, -, -⟩ := hl.shape
        exact ⟨lo, lc, by simp, h⟩)
      clear hkA hb1 hsA pA hW1
      go_wp2_with (first
        | (go_at_call 49; (with_reducible refine (HA.out _).mono ?_); rintro e wq ⟨rfl, rfl⟩)
        | (go_at_call 49; (with_reducible refine (HB.out _).mono ?_); rintro e wq ⟨rfl, rfl⟩)
        | (at_builtin; rw [← HW1.out]; refine wpList_append_make rfl (.tmp 30) (.tmp 31) rfl ⟨wA.heap.size + 1, 0, none⟩ 2 n [n, 1] rfl rfl rfl (by intro j v hj; rw [addr_add, Nat.zero_add, cell_of_row _ (wA.heap.size + 1) j _ _ _ (hl_new (by rw [HW1.out]; simp))]; simpa [nv] using hj) HM0.out HM9.out ?_; intro v5 w5 hown5 hk5; have HK5 := Lib.hid (((Chg.refl [] W1).alloc _).trans hk5 (by simp)); have HS5 := Lib.hid (reads_of_own hown5).seen; clear hown5 hk5)
        | (go_at_call 46; (with_reducible refine (HPA.out _ _ HK5.out HS5.out).mono ?_); rintro e wB ⟨lo1, lc1, rfl, hkB⟩; have HKB := Lib.hid (HC1.out.trans (HK5.out.trans hkB (by simp)) (by simp)); clear hkB)
        | (at_builtin; refine wpList_append_make rfl (.tmp 43) (.tmp 44) rfl ⟨wB.heap.size + 1, 0, none⟩ 2 m [1, m] rfl rfl rfl (by intro j v hj; rw [addr_add, Nat.zero_add, cell_of_row _ (wB.heap.size + 1) j _ _ _ (hl_new (by simp))]; simpa [nv] using hj) HQ0.out HQ9.out ?_; intro v6 w6 hown6 hk6; have HK6 := Lib.hid (((HKB.out.alloc _).alloc _).trans hk6 (by simp)); have HS6 := Lib.hid (reads_of_own hown6).seen; have HF6 := Lib.hid (((SeenF.lit wB wB.heap.size rfl 78 #[.string { data := #[109] }, .int .i64 0, .int .i64 0, .int .i64 1, .string { data := #[97] }, .int .i64 2, .int .i64 1, .int .i64 0] (one9 fR9) 2 rfl rfl (by decide)).keep ((Chg.refl [] _).alloc _)).keep hk6); clear hown6 hk6)
        | (go_at_call 46; (with_reducible refine (HPR.out _ _ _ HF6.out HS6.out).mono ?_); rintro e wE ⟨lo2, lc2, rfl, hkE⟩; have HKE := Lib.hid hkE; clear hkE)
        | fail)
      go_ret
      exact ⟨rfl, (HK6.out.trans HKE.out (by simp)).below (Nat.le_refl _) (by simp)⟩
    · skip
      have dn : decide ((n : Int) ≤ 200) = true := decide_eq_true (by omega)
      have dn2 : decide ((200 : Int) < (n : Int)) = false := decide_eq_false (by omega)
      have dm : decide ((m : Int) ≤ 50) = true := decide_eq_true (by omega)
      have dm2 : decide ((50 : Int) < (m : Int)) = false := decide_eq_false (by omega)
      have HQ0 := Lib.hid (show 0 < m by omega)
      have HQ9 := Lib.hid (show 2 + m ≤ 1000000 by omega)
      have pR := all_r m (by omega)
      rw [if_neg (by omega)] at pR
      have HPR := Lib.hid (show ∀ wx sv bv, SeenF wx sv (one9 fR9) → Seen wx bv (nv .u8 ([1, m] ++ List.replicate m 0)) → Calls Try.prog 46 #[sv, bv] wx fun e w' => ∃ g off lc g2 off2 c2 lo3 lc3, e = .returned (.tuple #[.slice (some ⟨g, off, none⟩) 1 lc, .int .i64 0]) ∧ (w'.cell? ⟨g, off + 2, none⟩ = some (.slice (some ⟨g2, off2, none⟩) 1 c2) ∧ w'.cell? ⟨g2, off2, none⟩ = some (.slice lo3 m lc3)) ∧ Chg [] wx w' from fun wx sv bv hf hs => by
        refine (parse_one fR9 (by decide) (by decide) (by decide) chk_mr.2 _ bv _ wx hf hs (by intro x hx; simp at hx; omega) (by simp; omega)).mono ?_
        rintro e w' ⟨lv, rfl, hl, h⟩
        rw [pR] at hl ⊢
        obtain ⟨lo, lc, rfl, -, -⟩ := hl.shape
        obtain ⟨g, off, rfl, hc⟩ := hl.at.get (by simp)
        obtain ⟨kv, -, -, hk2, hk3⟩ := hc 0 _ rfl
        obtain ⟨ko, kc, rfl, -, -⟩ := hk3.shape
        obtain ⟨d', g2, off2, -, rfl, hc2⟩ := hk3.get (by simp)
        obtain ⟨lv2, hl2, hl3⟩ := hc2 0 _ rfl
        obtain ⟨lo3, lc3, rfl, -, -⟩ := hl3.shape
        refine ⟨g, off, lc, g2, off2, kc, lo3, lc3, rfl, ⟨by simpa using hk2, ?_⟩, h⟩
        simpa using hl2)
      clear pR
      skip
      go_enter Try.func12, Try.ntmps12
      go_wp2_with fail
      (with_reducible refine (known9_any _).mono ?_)
      rintro e wA ⟨rfl, hkA⟩
      have HKA := Lib.hid hkA
      have HM0 := Lib.hid (show 0 < n by omega)
      have HM9 := Lib.hid (show 2 + n ≤ 1000000 by omega)
      obtain ⟨W1, hW1⟩ : ∃ W1, W1 = wA.alloc (.cells #[.string { data := #[109] }, .int .i64 0, .int .i64 0, .int .i64 1, .string { data := #[97] }, .int .i64 1, .int .i64 1, .int .i64 0] 78) := ⟨_, rfl⟩
      have hb1 : W1.heap[wA.heap.size]? = some (.cells #[.string { data := #[109] }, .int .i64 0, .int .i64 0, .int .i64 1, .string { data := #[97] }, .int .i64 1, .int .i64 1, .int .i64 0] 78 (0, 0)) := by rw [hW1]; exact hl_new rfl
      have hsA : SeenF W1 (.slice (some ⟨wA.heap.size, 0, none⟩) 2 2) (one9 fM9) := SeenF.blk hb1 (one9 fM9) 2 rfl rfl (by decide)
      have HC1 := Lib.hid (show Chg [] w W1 by rw [hW1]; exact hkA.alloc _)
      have HW1 := Lib.hid hW1
      have pA := all_m n (by omega)
      rw [if_neg (by omega)] at pA
      have HPA := Lib.hid (show ∀ wx bv, Chg [] W1 wx → Seen wx bv (nv .u8 ([n, 1] ++ List.replicate n 0)) → Calls Try.prog 46 #[.slice (some ⟨wA.heap.size, 0, none⟩) 2 2, bv] wx fun e w' => ∃ lo lc, e = .returned (.tuple #[.slice lo n lc, .int .i64 0]) ∧ Chg [] wx w' from fun wx bv hk hs => by
        refine (parse_one fM9 (by decide) (by decide) (by decide) chk_mr.1 _ bv _ wx (hsA.keep hk) hs (by intro x hx; simp at hx; omega) (by simp; omega)).mono ?_
        rintro e w' ⟨lv, rfl, hl, h⟩
        rw [pA] at hl ⊢
        obtain ⟨lo, lc, rfl, -, -⟩ := hl.shape
        exact ⟨lo, lc, by simp, h⟩)
      clear hkA hb1 hsA pA hW1
      go_wp2_with (first
        | (go_at_call 49; (with_reducible refine (HA.out _).mono ?_); rintro e wq ⟨rfl, rfl⟩)
        | (go_at_call 49; (with_reducible refine (HB.out _).mono ?_); rintro e wq ⟨rfl, rfl⟩)
        | (at_builtin; rw [← HW1.out]; refine wpList_append_make rfl (.tmp 30) (.tmp 31) rfl ⟨wA.heap.size + 1, 0, none⟩ 2 n [n, 1] rfl rfl rfl (by intro j v hj; rw [addr_add, Nat.zero_add, cell_of_row _ (wA.heap.size + 1) j _ _ _ (hl_new (by rw [HW1.out]; simp))]; simpa [nv] using hj) HM0.out HM9.out ?_; intro v5 w5 hown5 hk5; have HK5 := Lib.hid (((Chg.refl [] W1).alloc _).trans hk5 (by simp)); have HS5 := Lib.hid (reads_of_own hown5).seen; clear hown5 hk5)
        | (go_at_call 46; (with_reducible refine (HPA.out _ _ HK5.out HS5.out).mono ?_); rintro e wB ⟨lo1, lc1, rfl, hkB⟩; have HKB := Lib.hid (HC1.out.trans (HK5.out.trans hkB (by simp)) (by simp)); clear hkB)
        | (at_builtin; refine wpList_append_make rfl (.tmp 43) (.tmp 44) rfl ⟨wB.heap.size + 1, 0, none⟩ 2 m [1, m] rfl rfl rfl (by intro j v hj; rw [addr_add, Nat.zero_add, cell_of_row _ (wB.heap.size + 1) j _ _ _ (hl_new (by simp))]; simpa [nv] using hj) HQ0.out HQ9.out ?_; intro v6 w6 hown6 hk6; have HK6 := Lib.hid (((HKB.out.alloc _).alloc _).trans hk6 (by simp)); have HS6 := Lib.hid (reads_of_own hown6).seen; have HF6 := Lib.hid (((SeenF.lit wB wB.heap.size rfl 78 #[.string { data := #[109] }, .int .i64 0, .int .i64 0, .int .i64 1, .string { data := #[97] }, .int .i64 2, .int .i64 1, .int .i64 0] (one9 fR9) 2 rfl rfl (by decide)).keep ((Chg.refl [] _).alloc _)).keep hk6); clear hown6 hk6)
        | (go_at_call 46; (with_reducible refine (HPR.out _ _ _ HF6.out HS6.out).mono ?_); rintro e wE ⟨ge, oe, ce, g2, o2, c2, lo3, lc3, rfl, ⟨hc1, hc2⟩, hkE⟩; have HKE := Lib.hid hkE; clear hkE)
        | fail)
      go_ret
      exact ⟨rfl, (HK6.out.trans HKE.out (by simp)).below (Nat.le_refl _) (by simp)⟩

end Go.Proofs.Ythhcnlmjcpkbnaa
