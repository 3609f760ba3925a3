/- The walk of the statement DeltaSteps. -/
import Derived.Test.YtohgnbgijleoaaaDg
namespace Go.Proofs.Ytohgnbgijleoaaa
open Go.RowKit
set_option linter.unusedVariables false
set_option linter.unusedSimpArgs false

/-- Numbers that rise evenly. -/
def stp (f s n : Nat) : List Int := (List.range n).map fun i => ((f + i * s : Nat) : Int)
@[simp] theorem stp_length (f s n : Nat) : (stp f s n).length = n := by simp [stp]
theorem stp_snoc (f s n : Nat) : stp f s (n + 1) = stp f s n ++ [((f + n * s : Nat) : Int)] := by simp [stp, List.range_succ]
theorem stp_get (f s n j : Nat) (h : j < n) : (stp f s n).getD j 0 = ((f + j * s : Nat) : Int) := by simp [stp, List.getD, h]

theorem stp_in (f s n : Nat) (hf : f < 64) (hs : s < 64) (hn : n ≤ 1000) : ∀ x ∈ stp f s n, In64 x := by
  intro x hx
  obtain ⟨i, hi, rfl⟩ := List.mem_map.1 hx
  rw [List.mem_range] at hi
  have : i * s ≤ 1000 * 64 := Nat.mul_le_mul (by omega) (by omega)
  unfold In64
  omega

theorem difs_stp (f s n : Nat) (hf : f < 64) (hs : s < 64) (hn : n ≤ 1000) : difs (stp f s n) = List.replicate (n - 1) (s : Int) := by
  apply List.ext_getElem
  · simp
  · intro j h1 h2
    rw [difs_length, stp_length] at h1
    have h := difs_get (stp f s n) j (by rw [stp_length]; omega)
    rw [stp_get f s n _ (by omega), stp_get f s n _ (by omega)] at h
    rw [List.getElem_replicate]
    have e : (difs (stp f s n)).getD j 0 = (difs (stp f s n))[j] := by
      rw [List.getD, List.getElem?_eq_getElem (by rw [difs_length, stp_length]; exact h1)]; rfl
    rw [← e, h]
    have : ((f + (j + 1) * s : Nat) : Int) - ((f + j * s : Nat) : Int) = (s : Int) := by
      rw [Nat.succ_mul]; omega
    rw [this]
    exact wr_id (by omega)

theorem blen_zero : blen 0 = 0 := blen_of 0 0 (by decide) (by decide) (.inl rfl)

theorem mn_rep (m : Nat) (s : Int) (h : 0 < m) : mn (List.replicate m s) = s := by
  have h2 := mn_mem (l := List.replicate m s) (by simp; omega)
  exact (List.mem_replicate.1 h2).2

theorem wdB_rep (m : Nat) (s : Int) : wdB (List.replicate m s) = 0 := by
  have e : mx (abv (List.replicate m s)) = 0 := by
    by_cases hm : m = 0
    · subst hm; rfl
    · have h := mx_lt (l := abv (List.replicate m s)) (m := 1) (by decide) (by
        intro y hy
        obtain ⟨v, hv, rfl⟩ := List.mem_map.1 hy
        rw [mn_rep m s (by omega), (List.mem_replicate.1 hv).2]
        omega)
      omega
  unfold wdB
  rw [e, blen_zero]

theorem zig_small (s : Nat) (h : s < 64) : (vb (zigOf (s : Int))).length = 1 := by
  rw [vb_lt (by unfold zigOf; rw [if_neg (by omega)]; omega)]
  rfl

theorem blkE_rep (m s : Nat) (hm : 0 < m) (hs : s < 64) : (blkE (List.replicate m (s : Int))).length = 2 := by
  unfold blkE
  rw [List.length_append, List.length_cons, packed_length, wdB_rep, mn_rep m _ hm, zig_small s hs]
  simp

theorem blksE_rep (s : Nat) (hs : s < 64) (m : Nat) : (blksE (List.replicate m (s : Int))).length = 2 * ((m + 31) / 32) := by
  induction m using Nat.strongRecOn with
  | _ m ih =>
    by_cases hm : m = 0
    · subst hm; rw [List.replicate_zero, blksE_nil]; rfl
    · rw [blksE_cons (by simp; omega), List.length_append, List.take_replicate, List.drop_replicate, blkE_rep _ s (by omega) hs, ih (m - 32) (by omega)]
      omega

theorem ints_stp (f s n : Nat) (hf : f < 64) (hs : s < 64) (hn : n ≤ 1000) (h0 : 0 < n) : (intsE (stp f s n)).length = 1 + 2 * ((n + 30) / 32) := by
  have hd := difs_stp f s n hf hs hn
  have h0' := stp_get f s n 0 h0
  obtain ⟨x, t, e⟩ : ∃ x t, stp f s n = x :: t := by
    cases h : stp f s n with
    | nil => have := congrArg List.length h; simp at this; omega
    | cons x t => exact ⟨x, t, rfl⟩
  rw [e] at hd h0' ⊢
  have hx : x = (f : Int) := by simpa using h0'
  show (vb (zigOf x) ++ blksE (difs (x :: t))).length = _
  rw [hd, List.length_append, blksE_rep s hs, hx, zig_small f hf]
  omega

set_option maxRecDepth 100000 in
set_option maxHeartbeats 4000000 in
theorem walk_DeltaSteps (a0 a1 a2 : Int) (w : World) (w0 : (Lit.int .i64 a0).wf = true) (w1 : (Lit.int .i64 a1).wf = true) (w2 : (Lit.int .i64 a2).wf = true) :
    Calls Try.prog 5 #[.int .i64 a0, .int .i64 a1, .int .i64 a2] w fun e w' => e = .returned (.bool true) ∧ Below w.heap.size w w' := by
  obtain ⟨i0, hi, hz0, hz1, hz2⟩ := info_int
  have HK := Lib.hid (known12_any w)
  have HQ0 := Lib.hid (fun wx => within12 a0 64 64 wx rfl (by decide) (by decide) w0)
  have HQ1 := Lib.hid (fun wx => within12 a1 64 64 wx rfl (by decide) (by decide) w1)
  have HQ2 := Lib.hid (fun wx => within12 a2 300 300 wx rfl (by decide) (by decide) w2)
  obtain ⟨F, hF⟩ : ∃ K, K = (a0 % ((64 : Nat) : Int)).toNat := ⟨_, rfl⟩
  obtain ⟨S, hS⟩ : ∃ K, K = (a1 % ((64 : Nat) : Int)).toNat := ⟨_, rfl⟩
  obtain ⟨K, hK⟩ : ∃ K, K = (a2 % ((300 : Nat) : Int)).toNat := ⟨_, rfl⟩
  have hF64 : F < 64 := by rw [hF]; exact within_lt a0 64 (by decide)
  have hS64 : S < 64 := by rw [hS]; exact within_lt a1 64 (by decide)
  have hK3 : K < 300 := by rw [hK]; exact within_lt a2 300 (by decide)
  rw [← hF] at HQ0
  rw [← hS] at HQ1
  rw [← hK] at HQ2
  obtain ⟨n, hn⟩ : ∃ n, n = K + 1 := ⟨_, rfl⟩
  have hn1 : (1 : Int) + (K : Int) = (n : Int) := by omega
  have hnw : IntKind.i64.wrap (1 + (K : Int)) = (n : Int) := by rw [hn1]; exact IntWalk.i64_in _ (by omega)
  have hn3 : n ≤ 300 := by omega
  have hnp : 0 < n := by omega
  have hS2 : decide ((64 : Int) ≤ (S : Int)) = false := by simp; omega
  clear w0 w1 w2 hF hS hK hn
  go_enter Try.func5, Try.ntmps5
  go_wp2_with (first
    | (go_at_call 8; (with_reducible refine HK.out.mono ?_); rintro e wA ⟨rfl, hk⟩; have HKA := Lib.hid hk; clear hk)
    | (go_at_call 13; (with_reducible refine (HQ2.out _).mono ?_); rintro e wB ⟨rfl, rfl⟩)
    | (go_at_call 13; (with_reducible refine (HQ0.out _).mono ?_); rintro e wB ⟨rfl, rfl⟩)
    | (go_at_call 13; (with_reducible refine (HQ1.out _).mono ?_); rintro e wB ⟨rfl, rfl⟩)
    | fail)
  go_loopw [7, 8] (fun lv i w' => ∃ j : Nat, j ≤ n ∧ i = .int .i64 (j : Int) ∧ Chg [] w w' ∧ w'.ownsRow w.heap.size 3 1 lv j (iv (stp F S j))) (fun _ i _ => n - (intOf i).toNat)
  case atStart => exact ⟨0, Nat.zero_le _, rfl, HKA.out, World.ownsRow_nil _ _ _ _⟩
  case round =>
    obtain ⟨j, hj, rfl, hc, ho⟩ := hrel
    obtain ⟨lo, lc, rfl⟩ := own_shape ho
    have HC := Lib.hid hc; have HO := Lib.hid ho
    have hB := hc.size
    clear hc ho
    by_cases hlt : j < n
    · have d1 : decide ((j : Int) < (n : Int)) = true := by simp; omega
      obtain ⟨m, hm⟩ : ∃ m, m = j * S := ⟨_, rfl⟩
      have hm2 : m ≤ 300 * 64 := by rw [hm]; exact Nat.mul_le_mul (by omega) (by omega)
      have hmul : IntKind.i64.wrap ((j : Int) * (S : Int)) = (m : Int) := by
        rw [show (j : Int) * (S : Int) = (m : Int) by rw [hm]; push_cast; rfl]
        exact IntWalk.i64_in _ (by omega)
      obtain ⟨z, hz⟩ : ∃ z, z = F + m := ⟨_, rfl⟩
      have hadd : IntKind.i64.wrap ((F : Int) + (m : Int)) = (z : Int) := by rw [show (F : Int) + (m : Int) = (z : Int) by omega]; exact IntWalk.i64_in _ (by omega)
      have HZ := Lib.hid (show iv (stp F S j) ++ [.int .i64 (z : Int)] = iv (stp F S (j + 1)) by
        rw [stp_snoc, hz, hm]; simp [iv])
      have hzz : (F : Int) + (m : Int) = (z : Int) := by omega
      clear hm hz
      go_wp2_with (first
        | (at_builtin; refine wpList_append_own _ rfl _ _ 22 rfl w.heap.size 3 i0 (.int .i64 0) 1 8 Try.underlying22 hi hz0 hz1 hz2 rfl (by decide) _ _ _ rfl (HO.out.alloc _) ⟨wr.heap.size, 0, none⟩ 1 1 [.int .i64 (z : Int)] rfl rfl ?c1 ?c2 ?c3 ?c4 ?c5 ?_)
        | fail)
      case c1 => exact cell_one_new _ _ _
      case c2 => simp [Value.oneCell']
      case c3 => unfold maxLen; omega
      case c4 => omega
      case c5 => simp; omega
      intro v6 w6 hown6 hgrow6 _
      rw [HZ.out] at hown6
      have HC6 := Lib.hid ((HC.out.alloc _).grown hgrow6 (fun k hk => .inr (own_ge HO.out k hk)))
      have HO6 := Lib.hid hown6
      clear hown6 hgrow6
      go_wp2
      go_roundw
      case rel => exact ⟨j + 1, hlt, by go_num, HC6.out, HO6.out⟩
      case measure => simp [intOf]; omega
    · have d1 : decide ((j : Int) < (n : Int)) = false := by simp; omega
      obtain rfl : j = n := by omega
      have HS := Lib.hid (ownI_seen HO.out (stp_length F S j))
      have HIN := Lib.hid (stp_in F S j hF64 hS64 (by omega))
      have HI := Lib.hid (dints_any _ (stp F S j) wr HS.out (by rw [stp_length]; omega) HIN.out)
      have hL := ints_stp F S j hF64 hS64 (by omega) hnp
      obtain ⟨L, hLL⟩ : ∃ L, L = (intsE (stp F S j)).length := ⟨_, rfl⟩
      rw [← hLL] at hL
      obtain ⟨B, hBB⟩ : ∃ B, B = (j + 30) / 32 := ⟨_, rfl⟩
      rw [← hBB] at hL
      have HR := Lib.hid (fun (bv : Value) (wx : World) (hs : Seen wx bv (nv .u8 (intsE (stp F S j)))) => dread_back bv (stp F S j) [] wx (by rw [List.append_nil]; exact hs) (by simp) HIN.out (by rw [stp_length]; omega) (by simp))
      rw [stp_length] at HR
      unfold Made at HI
      rw [← hLL] at HI HR
      obtain ⟨N30, hN30⟩ : ∃ N, N = j + 30 := ⟨_, rfl⟩
      have e1 : IntKind.i64.wrap ((j : Int) + 30) = (N30 : Int) := by rw [show (j : Int) + 30 = (N30 : Int) by omega]; exact IntWalk.i64_in _ (by omega)
      have e2 : (N30 : Int).tdiv 32 = (B : Int) := by rw [Int.tdiv_eq_ediv_of_nonneg (by omega)]; omega
      have e3 : IntKind.i64.wrap (B : Int) = (B : Int) := IntWalk.i64_in _ (by omega)
      obtain ⟨B2, hB2⟩ : ∃ B2, B2 = 2 * B := ⟨_, rfl⟩
      have e4 : IntKind.i64.wrap ((B : Int) * 2) = (B2 : Int) := by rw [show (B : Int) * 2 = (B2 : Int) by omega]; exact IntWalk.i64_in _ (by omega)
      have e5 : IntKind.i64.wrap (1 + (B2 : Int)) = (L : Int) := by rw [show 1 + (B2 : Int) = (L : Int) by omega]; exact IntWalk.i64_in _ (by omega)
      have e6 : ((L : Int) == (L : Int)) = true := by simp
      clear hL hLL hBB hN30 hB2
      go_wp2_with (first
        | (go_at_call 9; (with_reducible refine HI.out.mono ?_); rintro e w3 ⟨bx, rfl, hc3, ho3⟩; obtain ⟨bo, bc, rfl⟩ := own_shape ho3; have HC3 := Lib.hid hc3; have HB3 := Lib.hid (reads_of_own ho3).seen; clear hc3 ho3)
        | (go_at_call 10; (with_reducible refine (HR.out _ w3 HB3.out).mono ?_); rintro e w4 ⟨xv, rfl, hc4, ho4⟩; rw [stp_length] at ho4; obtain ⟨xo, xc, rfl⟩ := own_shape ho4; have HC4 := Lib.hid hc4; have HX4 := Lib.hid (ownI_seen ho4 (stp_length F S j)); clear hc4 ho4)
        | (go_at_call 12; (with_reducible refine (ints12_any _ _ (stp F S j) w4 HX4.out (HS.out.keep (HC3.out.trans HC4.out (by simp)))).mono ?_); rintro e w5 ⟨rfl, hc5⟩; have HC5 := Lib.hid hc5; clear hc5)
        | fail)
      go_ret
      exact ⟨rfl, (((HC.out.trans HC3.out (by simp)).trans HC4.out (by simp)).trans HC5.out (by simp)).below (Nat.le_refl _) (by simp)⟩

end Go.Proofs.Ytohgnbgijleoaaa
