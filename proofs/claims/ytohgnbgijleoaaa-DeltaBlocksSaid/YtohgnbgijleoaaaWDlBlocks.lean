/- The walk of the statement DeltaBlocks. -/
import Derived.Test.YtohgnbgijleoaaaWDlSteps
namespace Go.Proofs.Ytohgnbgijleoaaa
open Go.RowKit
set_option linter.unusedVariables false
set_option linter.unusedSimpArgs false

/-- Noughts, and behind a place another number. -/
def stairs (n a : Nat) (B : Int) : List Int := (List.range n).map fun i => if a ≤ i then B else 0
@[simp] theorem stairs_length (n a : Nat) (B : Int) : (stairs n a B).length = n := by simp [stairs]
theorem stairs_get (n a : Nat) (B : Int) (j : Nat) (h : j < n) : (stairs n a B).getD j 0 = if a ≤ j then B else 0 := by simp [stairs, List.getD, h]

theorem difs_stairs (n a : Nat) (B : Int) (hB : In64 B) (h1 : 1 ≤ a) (h2 : a < n) : difs (stairs n a B) = List.replicate (a - 1) 0 ++ B :: List.replicate (n - 1 - a) 0 := by
  apply List.ext_getElem
  · simp; omega
  · intro j hj1 hj2
    rw [difs_length, stairs_length] at hj1
    have h := difs_get (stairs n a B) j (by rw [stairs_length]; omega)
    rw [stairs_get n a B _ (by omega), stairs_get n a B _ (by omega)] at h
    have e : (difs (stairs n a B)).getD j 0 = (difs (stairs n a B))[j] := by
      rw [List.getD, List.getElem?_eq_getElem (by rw [difs_length, stairs_length]; exact hj1)]; rfl
    rw [← e, h]
    unfold In64 at hB
    rcases Nat.lt_trichotomy (j + 1) a with hc | hc | hc
    · rw [if_neg (by omega), if_neg (by omega), List.getElem_append_left (by simp; omega), List.getElem_replicate]
      rfl
    · rw [if_pos (by omega), if_neg (by omega), List.getElem_append_right (by simp; omega)]
      have : j - (List.replicate (a - 1) (0 : Int)).length = 0 := by simp; omega
      simp only [this, List.getElem_cons_zero]
      rw [Int.sub_zero]
      exact wr_id hB
    · rw [if_pos (by omega), if_pos (by omega), List.getElem_append_right (by simp; omega)]
      obtain ⟨t, ht⟩ : ∃ t, j - (List.replicate (a - 1) (0 : Int)).length = t + 1 := ⟨j - a, by simp; omega⟩
      simp only [ht, List.getElem_cons_succ, List.getElem_replicate]
      rw [Int.sub_self]
      rfl

theorem mn_zero {d : List Int} (h0 : (0 : Int) ∈ d) (h : ∀ v ∈ d, 0 ≤ v) : mn d = 0 := by
  have h1 := mn_le _ h0
  have h2 := h _ (mn_mem (l := d) (fun e => by rw [e] at h0; simp at h0))
  omega

theorem blk_one (K p q : Nat) (hK : K < 40) (h2 : 2 ≤ p + 1 + q) (h32 : p + 1 + q ≤ 32) : (blkE (List.replicate p (0 : Int) ++ ((2 ^ K : Nat) : Int) :: List.replicate q 0)).length = 2 + ((p + 1 + q) * (K + 1) + 7) / 8 := by
  have hpow : 2 ^ K < 18446744073709551616 := Nat.lt_of_lt_of_le (Nat.pow_lt_pow_right (by decide) hK) (by decide)
  have hbl : blen (2 ^ K) = K + 1 := blen_of _ _ hpow (Nat.pow_lt_pow_right (by decide) (by omega)) (.inr (by simp))
  have hpos := Nat.two_pow_pos K
  obtain ⟨P, hP⟩ : ∃ P, P = 2 ^ K := ⟨_, rfl⟩
  rw [← hP] at hpow hbl hpos ⊢
  obtain ⟨d, hd⟩ : ∃ d, d = List.replicate p (0 : Int) ++ (P : Int) :: List.replicate q 0 := ⟨_, rfl⟩
  have hmem : ∀ v ∈ d, v = 0 ∨ v = (P : Int) := fun v hv => by
    rw [hd] at hv
    rcases List.mem_append.1 hv with h | h
    · exact .inl (List.mem_replicate.1 h).2
    · rcases List.mem_cons.1 h with h | h
      · exact .inr h
      · exact .inl (List.mem_replicate.1 h).2
  have h0 : (0 : Int) ∈ d := by
    rw [hd]
    by_cases hp : p = 0
    · refine List.mem_append.2 (.inr (List.mem_cons.2 (.inr (List.mem_replicate.2 ⟨by omega, rfl⟩))))
    · exact List.mem_append.2 (.inl (List.mem_replicate.2 ⟨hp, rfl⟩))
  have hB : (P : Int) ∈ d := by rw [hd]; exact List.mem_append.2 (.inr (List.mem_cons.2 (.inl rfl)))
  have hmn : mn d = 0 := mn_zero h0 (fun v hv => by rcases hmem v hv with h | h <;> omega)
  have hlen : d.length = p + 1 + q := by rw [hd]; simp; omega
  have hmx : mx (abv d) = P := by
    have h1 : P ≤ mx (abv d) := mx_ge _ (by
      unfold abv
      refine List.mem_map.2 ⟨_, hB, ?_⟩
      rw [hmn]; omega)
    have h2 : mx (abv d) < P + 1 := mx_lt (by omega) (fun y hy => by
      unfold abv at hy
      obtain ⟨v, hv, rfl⟩ := List.mem_map.1 hy
      rw [hmn]
      rcases hmem v hv with h | h <;> omega)
    omega
  have hwd : wdB d = K + 1 := by
    unfold wdB
    rw [hmx, hbl]
  rw [← hd]
  unfold blkE
  rw [List.length_append, List.length_cons, packed_length, abv_length, hwd, hmn, hlen]
  have hz : (vb (zigOf 0)).length = 1 := zig_small 0 (by decide)
  rw [hz, Nat.mul_comm (K + 1)]
  omega

theorem blks_one (K : Nat) (hK : K < 40) (q : Nat) (p : Nat) (h2 : 2 ≤ min 32 (p + 1 + q - p / 32 * 32)) : (blksE (List.replicate p (0 : Int) ++ ((2 ^ K : Nat) : Int) :: List.replicate q 0)).length = 2 * ((p + 1 + q + 31) / 32) + (min 32 (p + 1 + q - p / 32 * 32) * (K + 1) + 7) / 8 := by
  induction p using Nat.strongRecOn with
  | _ p ih =>
    rw [blksE_cons (by simp), List.length_append]
    by_cases hp : 32 ≤ p
    · have e1 : (List.replicate p (0 : Int) ++ ((2 ^ K : Nat) : Int) :: List.replicate q 0).take 32 = List.replicate 32 0 := by
        rw [List.take_append_of_le_length (by simp; omega), List.take_replicate, Nat.min_eq_left hp]
      have e2 : (List.replicate p (0 : Int) ++ ((2 ^ K : Nat) : Int) :: List.replicate q 0).drop 32 = List.replicate (p - 32) 0 ++ ((2 ^ K : Nat) : Int) :: List.replicate q 0 := by
        rw [List.drop_append_of_le_length (by simp; omega), List.drop_replicate]
      have e3 : p - 32 + 1 + q - (p - 32) / 32 * 32 = p + 1 + q - p / 32 * 32 := by omega
      have hb : (blkE (List.replicate 32 (0 : Int))).length = 2 := blkE_rep 32 0 (by decide) (by decide)
      rw [e1, e2, hb, ih (p - 32) (by omega) (by rw [e3]; exact h2), e3]
      omega
    · have e0 : p / 32 = 0 := by omega
      rw [e0, Nat.zero_mul, Nat.sub_zero] at h2 ⊢
      by_cases hq : p + 1 + q ≤ 32
      · have e1 : (List.replicate p (0 : Int) ++ ((2 ^ K : Nat) : Int) :: List.replicate q 0).take 32 = List.replicate p 0 ++ ((2 ^ K : Nat) : Int) :: List.replicate q 0 := List.take_of_length_le (by simp; omega)
        have e2 : (List.replicate p (0 : Int) ++ ((2 ^ K : Nat) : Int) :: List.replicate q 0).drop 32 = [] := List.drop_of_length_le (by simp; omega)
        rw [e1, e2, blksE_nil, blk_one K p q hK (by omega) hq, Nat.min_eq_right hq]
        simp
        omega
      · have e1 : (List.replicate p (0 : Int) ++ ((2 ^ K : Nat) : Int) :: List.replicate q 0).take 32 = List.replicate p 0 ++ ((2 ^ K : Nat) : Int) :: List.replicate (31 - p) 0 := by
          rw [List.take_append, List.take_of_length_le (by simp; omega)]
          congr 1
          rw [List.length_replicate, show 32 - p = (31 - p) + 1 by omega, List.take_succ_cons, List.take_replicate, Nat.min_eq_left (by omega)]
        have e2 : (List.replicate p (0 : Int) ++ ((2 ^ K : Nat) : Int) :: List.replicate q 0).drop 32 = List.replicate (q - (31 - p)) 0 := by
          rw [List.drop_append, List.drop_of_length_le (by simp; omega), List.nil_append]
          rw [List.length_replicate, show 32 - p = (31 - p) + 1 by omega, List.drop_succ_cons, List.drop_replicate]
        have hz := blksE_rep 0 (by decide) (q - (31 - p))
        rw [show ((0 : Nat) : Int) = 0 from rfl] at hz
        rw [e1, e2, blk_one K p (31 - p) hK (by omega) (by omega), hz, Nat.min_eq_left (by omega), show p + 1 + (31 - p) = 32 by omega]
        omega

theorem ints_stairs (n a K : Nat) (hK : K < 40) (h1 : 1 ≤ a) (h2 : a < n) (hb : 2 ≤ min 32 (n - 1 - (a - 1) / 32 * 32)) : (intsE (stairs n a ((2 ^ K : Nat) : Int))).length = (intsE (List.replicate n (0 : Int))).length + (min 32 (n - 1 - (a - 1) / 32 * 32) * (K + 1) + 7) / 8 := by
  have hpow : 2 ^ K ≤ 2 ^ 40 := Nat.pow_le_pow_right (by decide) (by omega)
  have hd := difs_stairs n a ((2 ^ K : Nat) : Int) (by
    obtain ⟨P, hP⟩ : ∃ P, P = 2 ^ K := ⟨_, rfl⟩
    rw [← hP] at hpow ⊢
    have : (2 : Nat) ^ 40 = 1099511627776 := by decide
    unfold In64; omega) h1 h2
  have hg := stairs_get n a ((2 ^ K : Nat) : Int) 0 (by omega)
  rw [if_neg (by omega)] at hg
  obtain ⟨x, t, e⟩ : ∃ x t, stairs n a ((2 ^ K : Nat) : Int) = x :: t := by
    cases h : stairs n a ((2 ^ K : Nat) : Int) with
    | nil => have := congrArg List.length h; simp at this; omega
    | cons x t => exact ⟨x, t, rfl⟩
  rw [e] at hd hg ⊢
  have hx : x = 0 := by simpa using hg
  have hz : (intsE (List.replicate n (0 : Int))).length = 1 + 2 * ((n + 30) / 32) := by
    have h := ints_stp 0 0 n (by decide) (by decide)
    have e : stp 0 0 n = List.replicate n (0 : Int) := by
      apply List.ext_getElem
      · simp
      · intro j h1 h2; simp [stp]
    rw [← e]
    by_cases hn : n ≤ 1000
    · exact h hn (by omega)
    · have hs : difs (List.replicate n (0 : Int)) = List.replicate (n - 1) 0 := by
        apply List.ext_getElem
        · simp
        · intro j h1 h2
          rw [difs_length, List.length_replicate] at h1
          have h := difs_get (List.replicate n (0 : Int)) j (by rw [List.length_replicate]; omega)
          have e : (difs (List.replicate n (0 : Int))).getD j 0 = (difs (List.replicate n (0 : Int)))[j] := by
            rw [List.getD, List.getElem?_eq_getElem (by rw [difs_length, List.length_replicate]; exact h1)]; rfl
          rw [← e, h, List.getElem_replicate]
          simp [List.getD, show j < n by omega, show j + 1 < n by omega]
          rfl
      rw [e]
      obtain ⟨m, rfl⟩ : ∃ m, n = m + 1 := ⟨n - 1, by omega⟩
      rw [List.replicate_succ] at hs ⊢
      show (vb (zigOf 0) ++ blksE (difs (0 :: List.replicate m 0))).length = _
      have hz := blksE_rep 0 (by decide) (m + 1 - 1)
      rw [show ((0 : Nat) : Int) = 0 from rfl] at hz
      have hv : (vb (zigOf 0)).length = 1 := zig_small 0 (by decide)
      rw [hs, List.length_append, hz, hv]
      omega
  have e1 : a - 1 + 1 + (n - 1 - a) = n - 1 := by omega
  have hbo := blks_one K hK (n - 1 - a) (a - 1) (by rw [e1]; exact hb)
  rw [e1] at hbo
  show (vb (zigOf x) ++ blksE (difs (x :: t))).length = _
  have hv : (vb (zigOf 0)).length = 1 := zig_small 0 (by decide)
  rw [hd, List.length_append, hbo, hx, hv, hz]
  omega

theorem pow_small (K : Nat) (hK : K < 40) : ∃ P : Nat, P = 2 ^ K ∧ 0 < P ∧ P ≤ 1099511627776 ∧ Go.RowKit.wrap64 ((2 : Int) ^ K) = (P : Int) ∧ IntKind.i64.wrap ((2 : Int) ^ K) = (P : Int) ∧ ∀ q : Nat, (q ≤ K → 0 < (P : Int) / 2 ^ q) ∧ (¬ q ≤ K → ¬ 0 < (P : Int) / 2 ^ q) := by
  have e : (2 : Nat) ^ 40 = 1099511627776 := by decide
  have h1 : 2 ^ K ≤ 2 ^ 40 := Nat.pow_le_pow_right (by decide) (by omega)
  rw [e] at h1
  have h2 := Nat.two_pow_pos K
  obtain ⟨P, hP⟩ : ∃ P, P = 2 ^ K := ⟨_, rfl⟩
  have hpi : (2 : Int) ^ K = (P : Int) := by rw [hP]; push_cast; rfl
  refine ⟨P, hP, by rw [hP]; exact h2, by rw [hP]; exact h1, ?_, ?_, ?_⟩
  · rw [hpi]; rw [← hP] at h1; unfold Go.RowKit.wrap64; omega
  · rw [hpi]; rw [← hP] at h1; exact IntWalk.i64_in _ (by omega)
  · intro q
    have hc : (2 : Int) ^ q = ((2 ^ q : Nat) : Int) := by push_cast; rfl
    have e : (P : Int) / 2 ^ q = ((P / 2 ^ q : Nat) : Int) := by rw [hc, ← Int.natCast_ediv]
    rw [e, hP]
    refine ⟨fun h => ?_, fun h => ?_⟩
    · have := Nat.div_pos (Nat.pow_le_pow_right (n := 2) (by decide) h) (Nat.two_pow_pos q)
      omega
    · rw [Nat.div_eq_of_lt (Nat.pow_lt_pow_right (by decide) (by omega))]
      simp

theorem blk_tail {m q LA LB : Nat} (hm : m ≤ 32) (hq : q ≤ 64) (hA : LA ≤ 10000000) (h : LB = LA + (m * q + 7) / 8) :
    ∃ t t7 t8 : Nat, Go.RowKit.wrap64 ((m : Int) * (q : Int)) = (t : Int) ∧ IntKind.i64.wrap ((m : Int) * (q : Int)) = (t : Int) ∧ IntKind.i64.wrap ((t : Int) + 7) = (t7 : Int) ∧ (t7 : Int).tdiv 8 = (t8 : Int) ∧ IntKind.i64.wrap (t8 : Int) = (t8 : Int) ∧ IntKind.i64.wrap ((LA : Int) + (t8 : Int)) = (LB : Int) ∧ (LA : Int) + (t8 : Int) = (LB : Int) ∧ ((LB : Int) == (LB : Int)) = true ∧ Go.RowKit.wrap64 (LB : Int) = (LB : Int) := by
  obtain ⟨t, ht⟩ : ∃ t, t = m * q := ⟨_, rfl⟩
  have ht2 : t ≤ 32 * 64 := by rw [ht]; exact Nat.mul_le_mul hm hq
  have e0 : (m : Int) * (q : Int) = (t : Int) := by rw [ht]; push_cast; rfl
  rw [← ht] at h
  clear ht
  refine ⟨t, t + 7, (t + 7) / 8, ?_, ?_, ?_, ?_, ?_, ?_, ?_, by simp, by unfold Go.RowKit.wrap64; omega⟩
  · rw [e0]; unfold Go.RowKit.wrap64; omega
  · rw [e0]; exact IntWalk.i64_in _ (by omega)
  · rw [show (t : Int) + 7 = ((t + 7 : Nat) : Int) by omega]; exact IntWalk.i64_in _ (by omega)
  · rw [Int.tdiv_eq_ediv_of_nonneg (by omega)]; omega
  · exact IntWalk.i64_in _ (by omega)
  · rw [show (LA : Int) + (((t + 7) / 8 : Nat) : Int) = (LB : Int) by omega]; exact IntWalk.i64_in _ (by omega)
  · omega

set_option maxRecDepth 100000 in
set_option maxHeartbeats 8000000 in
theorem walk_DeltaBlocks (a0 a1 a2 : Int) (w : World) (w0 : (Lit.int .i64 a0).wf = true) (w1 : (Lit.int .i64 a1).wf = true) (w2 : (Lit.int .i64 a2).wf = true) :
    Calls Try.prog 7 #[.int .i64 a0, .int .i64 a1, .int .i64 a2] w fun e w' => e = .returned (.bool true) ∧ Below w.heap.size w w' := by
  obtain ⟨i0, hi, hz0, hz1, hz2⟩ := info_int
  have HK := Lib.hid (known12_any w)
  have HQ0 := Lib.hid (fun wx => within12 a0 100 100 wx rfl (by decide) (by decide) w0)
  have HQ2 := Lib.hid (fun wx => within12 a2 40 40 wx rfl (by decide) (by decide) w2)
  obtain ⟨N, hN⟩ : ∃ K, K = (a0 % ((100 : Nat) : Int)).toNat := ⟨_, rfl⟩
  obtain ⟨K, hK⟩ : ∃ K, K = (a2 % ((40 : Nat) : Int)).toNat := ⟨_, rfl⟩
  have hN100 : N < 100 := by rw [hN]; exact within_lt a0 100 (by decide)
  have hK40 : K < 40 := by rw [hK]; exact within_lt a2 40 (by decide)
  rw [← hN] at HQ0
  rw [← hK] at HQ2
  obtain ⟨n, hn⟩ : ∃ n, n = N + 33 := ⟨_, rfl⟩
  have hnw : IntKind.i64.wrap (33 + (N : Int)) = (n : Int) := by rw [show 33 + (N : Int) = (n : Int) by omega]; exact IntWalk.i64_in _ (by omega)
  have hnw' : 33 + (N : Int) = (n : Int) := by omega
  have hn1 : n ≤ 132 := by omega
  have hn2 : 33 ≤ n := by omega
  obtain ⟨n1, hn1'⟩ : ∃ k, k = n - 1 := ⟨_, rfl⟩
  have hw1 : IntKind.i64.wrap ((n : Int) - 1) = (n1 : Int) := by rw [show (n : Int) - 1 = (n1 : Int) by omega]; exact IntWalk.i64_in _ (by omega)
  have hw1' : (n : Int) - 1 = (n1 : Int) := by omega
  have HQ1 := Lib.hid (fun wx => within12 a1 (n1 : Int) n1 wx rfl (by omega) (by omega) w1)
  obtain ⟨A, hA⟩ : ∃ K, K = (a1 % (n1 : Int)).toNat := ⟨_, rfl⟩
  have hAn : A < n1 := by rw [hA]; exact within_lt a1 n1 (by omega)
  rw [← hA] at HQ1
  obtain ⟨a, ha⟩ : ∃ a, a = A + 1 := ⟨_, rfl⟩
  have haw : IntKind.i64.wrap (1 + (A : Int)) = (a : Int) := by rw [show 1 + (A : Int) = (a : Int) by omega]; exact IntWalk.i64_in _ (by omega)
  have haw' : 1 + (A : Int) = (a : Int) := by omega
  have hn3 : n1 ≤ 131 := by omega
  have hn4 : 32 ≤ n1 := by omega
  have hn5 : n1 + 1 ≤ n := by omega
  have hn6 : n ≤ n1 + 1 := by omega
  have ha1 : 1 ≤ a := by omega
  have ha2 : a < n := by omega
  clear w0 w1 w2 hN hK hA hn hn1' ha hnw' hw1' haw'
  have HLEN := Lib.hid (ints_stairs n a K hK40 ha1 ha2)
  obtain ⟨P, hP, hPpos, hP40, hpw, hpw', hfd⟩ := pow_small K hK40
  have HFD := Lib.hid hfd
  rw [← hP] at HLEN
  clear hP hfd
  go_enter Try.func7, Try.ntmps7
  go_wp2_with (first
    | (go_at_call 8; (with_reducible refine HK.out.mono ?_); rintro e wA ⟨rfl, hk⟩; have HKA := Lib.hid hk; clear hk)
    | (go_at_call 13; (with_reducible refine (HQ0.out _).mono ?_); rintro e wB ⟨rfl, rfl⟩)
    | (go_at_call 13; (with_reducible refine (HQ1.out _).mono ?_); rintro e wB ⟨rfl, rfl⟩)
    | (go_at_call 13; (with_reducible refine (HQ2.out _).mono ?_); rintro e wB ⟨rfl, rfl⟩)
    | (at_make; refine wpList_make_full _ rfl _ _ 22 rfl wA.heap.size 3 i0 (.int .i64 0) 1 Try.underlying22 hi hz0 hz1 .i64 .i64 _ _ n rfl rfl rfl rfl ?c1 ?c2 (Nat.le_refl _) ?_)
    | fail)
  case c1 => rw [hz2]; omega
  case c2 => unfold maxLen; omega
  intro w2 hown2 hg2
  rw [cells_zeroI] at hown2
  have HC2 := Lib.hid ((Chg.refl [] wA).grown hg2 (by simp))
  have HO2 := Lib.hid hown2
  have hlt2 : wA.heap.size < w2.heap.size := by
    obtain ⟨g', hg', -, hlt, -, -⟩ := own_ptr hown2 (by omega)
    injection hg' with hg'
    injection hg' with hg'
    omega
  clear hown2 hg2
  go_wp2_with (first
    | (at_make; refine wpList_make_full _ rfl _ _ 22 rfl w2.heap.size 3 i0 (.int .i64 0) 1 Try.underlying22 hi hz0 hz1 .i64 .i64 _ _ n rfl rfl rfl rfl ?c1 ?c2 (Nat.le_refl _) ?_)
    | fail)
  case c1 => rw [hz2]; omega
  case c2 => unfold maxLen; omega
  intro w3 hown3 hg3
  rw [show (madeCells #[Value.int .i64 0] n).toList = iv (fillI (stairs n a (P : Int)) 0) by rw [cells_zeroI]; unfold fillI; rw [stairs_length]; simp] at hown3
  have HC3 := Lib.hid ((Chg.refl [] w2).grown hg3 (by simp))
  have HO3 := Lib.hid hown3
  obtain ⟨gA, hgA⟩ : ∃ g, g = wA.heap.size := ⟨_, rfl⟩
  obtain ⟨gB, hgB⟩ : ∃ g, g = w2.heap.size := ⟨_, rfl⟩
  have HGA := Lib.hid hgA; have HGB := Lib.hid hgB
  rw [← hgA] at hlt2 HO2 ⊢
  rw [← hgB] at hlt2 HO3 ⊢
  have HOA := Lib.hid (own_chg HO2.out HC3.out (by simp))
  clear hown3 hg3 hgA hgB
  go_wp2
  go_loopw [9] (fun i w' => ∃ j : Nat, j ≤ n ∧ i = .int .i64 (j : Int) ∧ Chg [gB] w3 w' ∧ w'.ownsRow gB 3 1 (.slice (some ⟨gB, 0, none⟩) n n) n (iv (fillI (stairs n a (P : Int)) j))) (fun i _ => n - (intOf i).toNat)
  case atStart => exact ⟨0, Nat.zero_le _, rfl, Chg.refl _ _, HO3.out⟩
  case round =>
    obtain ⟨j, hj, rfl, hc, ho⟩ := hrel
    have HC := Lib.hid hc; have HO := Lib.hid ho
    clear hc ho
    by_cases hlt : j < n
    · have d1 : decide ((j : Int) < (n : Int)) = true := by simp; omega
      obtain ⟨g', hg', hge, hlt', hfz, hcl⟩ := own_ptr HO.out (by omega)
      injection hg' with hg'
      injection hg' with hg'
      subst hg'
      have f0 := hfz j
      have y0 := hcl j (.int .i64 0) (fillI_at (stairs n a (P : Int)) j (by rw [stairs_length]; exact hlt))
      have HFS := Lib.hid (fillI_set (stairs n a (P : Int)) j (by rw [stairs_length]; exact hlt))
      rw [stairs_get n a _ j hlt] at HFS
      have b1 : (j : Int) < (n : Int) := by omega
      have b2 : ¬ ((j : Int) < 0) := by omega
      clear hfz hcl
      by_cases haj : a ≤ j
      · have d2 : decide ((a : Int) ≤ (j : Int)) = true := by simp; omega
        have b3 : (a : Int) ≤ (j : Int) := by omega
        rw [if_pos haj] at HFS
        go_wp2
        refine ⟨⟨j + 1, hlt, by go_num, (HC.out.setCell (p := ⟨gB, j, none⟩) (.inl (by simp)) _).setCell (p := ⟨gB, j, none⟩) (.inl (by simp)) _, ?_⟩, by simp [intOf]; omega⟩
        have h := own_set (own_set HO.out j (by omega) (.int .i64 0)) j (by omega) (.int .i64 (P : Int))
        rw [List.set_set, HFS.out] at h
        exact h
      · have d2 : decide ((a : Int) ≤ (j : Int)) = false := by simp; omega
        have b3 : ¬ (a : Int) ≤ (j : Int) := by omega
        rw [if_neg haj] at HFS
        go_wp2
        refine ⟨⟨j + 1, hlt, by go_num, HC.out.setCell (p := ⟨gB, j, none⟩) (.inl (by simp)) _, ?_⟩, by simp [intOf]; omega⟩
        have h := own_set HO.out j (by omega) (.int .i64 0)
        rw [HFS.out] at h
        exact h
    · have d1 : decide ((j : Int) < (n : Int)) = false := by simp; omega
      obtain rfl : j = n := by omega
      have HSB := Lib.hid (show SeenI wr (.slice (some ⟨gB, 0, none⟩) j j) (stairs j a (P : Int)) by
        have h := HO.out
        rw [show fillI (stairs j a (P : Int)) j = stairs j a (P : Int) by
          have := fillI_all (stairs j a (P : Int)); rw [stairs_length] at this; exact this] at h
        exact ownI_seen h (stairs_length _ _ _))
      have HOA2 := Lib.hid (own_chg HOA.out HC.out (fun g hg hm => by
        simp [Value.ownBlock] at hg
        simp at hm
        omega))
      have HSA := Lib.hid (ownI_seen HOA2.out (by simp))
      have HCW := Lib.hid (((HKA.out.trans HC2.out (by simp)).trans HC3.out (by simp)).trans HC.out (fun t ht => .inr (by simp at ht; have h1 := HGB.out; have h2 := HKA.out.size; have h3 := HC2.out.size; omega)))
      have HIA := Lib.hid (dints_any _ (List.replicate j (0 : Int)) wr HSA.out (by simp; omega) (fun x hx => by rw [(List.mem_replicate.1 hx).2]; unfold In64; omega))
      have HIB := Lib.hid (fun (wx : World) (hc : Chg [] wr wx) => dints_any _ (stairs j a (P : Int)) wx (HSB.out.keep hc) (by rw [stairs_length]; omega) (fun x hx => by
        obtain ⟨i, -, rfl⟩ := List.mem_map.1 hx
        split <;> (unfold In64; omega)))
      obtain ⟨LA, hLA⟩ : ∃ L, L = (intsE (List.replicate j (0 : Int))).length := ⟨_, rfl⟩
      obtain ⟨LB, hLB⟩ : ∃ L, L = (intsE (stairs j a (P : Int))).length := ⟨_, rfl⟩
      unfold Made at HIA HIB
      rw [← hLA] at HIA HLEN
      rw [← hLB] at HIB HLEN
      have hLA7 : LA ≤ 10000000 := by have := intsE_len (List.replicate j (0 : Int)) (fun x hx => by rw [(List.mem_replicate.1 hx).2]; unfold In64; omega); rw [← hLA, List.length_replicate] at this; omega
      obtain ⟨m, hm⟩ : ∃ m, m = min 32 (j - 1 - (a - 1) / 32 * 32) := ⟨_, rfl⟩
      have hMI : min (32 : Int) ((n1 : Int) - ((a : Int) - 1) / 32 * 32) = (m : Int) := by omega
      have hm32 : m ≤ 32 := by omega
      rw [← hm] at HLEN
      clear hLA hLB hm
      go_wp2_with (first
        | (go_at_call 9; (with_reducible refine HIA.out.mono ?_); rintro e w4 ⟨bx, rfl, hc4, ho4⟩; obtain ⟨bo, bc, rfl⟩ := own_shape ho4; have HC4 := Lib.hid hc4; clear hc4 ho4)
        | (go_at_call 9; (with_reducible refine (HIB.out w4 HC4.out).mono ?_); rintro e w5 ⟨bx, rfl, hc5, ho5⟩; obtain ⟨bo5, bc5, rfl⟩ := own_shape ho5; have HC5 := Lib.hid (HC4.out.trans hc5 (by simp)); clear hc5 ho5)
        | fail)
      go_loopw [12] (fun i w' => ∃ q : Nat, q ≤ K + 1 ∧ i = .int .i64 (q : Int) ∧ w' = w5) (fun i _ => K + 1 - (intOf i).toNat)
      case atStart => exact ⟨0, Nat.zero_le _, rfl, rfl⟩
      case round =>
        obtain ⟨q, hq, rfl, rfl⟩ := hrel
        obtain ⟨hf1, hf2⟩ := HFD.out q
        by_cases hqK : q ≤ K
        · have hf := hf1 hqK
          clear hf1 hf2
          go_wp2
          exact ⟨⟨q + 1, by omega, by go_num, trivial⟩, by simp [intOf]; omega⟩
        · have hf := hf2 hqK
          have hqq : q = K + 1 := by omega
          have hq64 : q ≤ 64 := by omega
          have HL := Lib.hid HLEN.out
          rw [← hqq] at HL
          clear hf1 hf2 hqq
          by_cases h2 : 2 ≤ m
          · have dm : decide ((m : Int) < 2) = false := by simp; omega
            have dm' : ¬ (m : Int) < 2 := by omega
            have hL := HL.out h2
            obtain ⟨t, t7, t8, e1, e1', e2, e3, e4, e5, e5', e6, e7⟩ := blk_tail hm32 hq64 hLA7 hL
            clear hL
            go_wp2
            go_ret
            exact ⟨by simp [e7], (HCW.out.trans HC5.out (by simp)).below (Nat.le_refl _) (by simp)⟩
          · have dm : decide ((m : Int) < 2) = true := by simp; omega
            have dm' : (m : Int) < 2 := by omega
            go_wp2
            go_ret
            exact ⟨by simp, (HCW.out.trans HC5.out (by simp)).below (Nat.le_refl _) (by simp)⟩

end Go.Proofs.Ytohgnbgijleoaaa
