/- The walk of the statement LevelRun. -/
import Derived.Test.YtohibncnhhldhaaKn
import Derived.Test.YtohibncnhhldhaaKo
import Derived.Test.YtohibncnhhldhaaHm
namespace Go.Proofs.Ytohibncnhhldhaa
open Go.RowKit
set_option linter.unusedVariables false
set_option linter.unusedSimpArgs false

theorem lit_seen (w : World) (g : Nat) (C : Array Value) (l : List Nat) (n : Nat) (hg : g = w.heap.size) (hC : C.toList = nv .u8 l) (hn : C.size = n) (hm : n ≤ maxLen) : Seen (w.alloc (.cells C 5)) (.slice (some ⟨g, 0, none⟩) n n) (nv .u8 l) :=
  (reads_of_own (own_lit w g 0 hg (Nat.zero_le _) 5 C (nv .u8 l) n 1 hC (by omega) hm)).seen

set_option maxRecDepth 100000 in
set_option maxHeartbeats 4000000 in
theorem walk_LevelRun (a0 : Int) (a1 : Int) (a2 : Int) (w : World) (w0 : (Lit.int .i64 a0).wf = true) (w1 : (Lit.int .i64 a1).wf = true) (w2 : (Lit.int .i64 a2).wf = true) :
    Calls Try.prog 18 #[.int .i64 a0, .int .i64 a1, .int .i64 a2] w fun e w' => e = .returned (.bool true) ∧ Below w.heap.size w w' := by
  have W0 := Lib.hid w0; have W1 := Lib.hid w1; have W2 := Lib.hid w2
  clear w0 w1 w2
  obtain ⟨p, hp⟩ : ∃ p, p = (a0 % (60 : Nat)).toNat := ⟨_, rfl⟩
  obtain ⟨q, hq⟩ : ∃ q, q = (a2 % (7 : Nat)).toNat := ⟨_, rfl⟩
  obtain ⟨t, ht⟩ : ∃ t, t = (a1 % (3 : Nat)).toNat := ⟨_, rfl⟩
  have hp2 : p < 60 := by rw [hp]; exact within_lt a0 60 (by decide)
  have hq2 : q < 7 := by rw [hq]; exact within_lt a2 7 (by decide)
  have ht2 : t < 3 := by rw [ht]; exact within_lt a1 3 (by decide)
  have HP := Lib.hid (fun wx => w10_int a0 60 60 wx rfl (by decide) (by decide) W0.out)
  have HQ := Lib.hid (fun wx => w10_int a2 7 7 wx rfl (by decide) (by decide) W2.out)
  have HT := Lib.hid (fun wx => w10_int a1 3 3 wx rfl (by decide) (by decide) W1.out)
  rw [← hp] at HP; rw [← hq] at HQ; rw [← ht] at HT
  clear hp hq ht
  obtain ⟨n, hn⟩ : ∃ n, n = p + 1 := ⟨_, rfl⟩
  obtain ⟨W, hW⟩ : ∃ W, W = q + 1 := ⟨_, rfl⟩
  have hni : 1 + (p : Int) = (n : Int) := by omega
  have hWi : 1 + (q : Int) = (W : Int) := by omega
  have hn1 : 1 ≤ n := by omega
  have hn6 : n ≤ 60 := by omega
  have hW1 : 1 ≤ W := by omega
  have hW7 : W ≤ 7 := by omega
  obtain ⟨g, hg⟩ : ∃ g, g = (n + 7) / 8 := ⟨_, rfl⟩
  have hg1 : 1 ≤ g := by omega
  have hg8 : g ≤ 8 := by omega
  obtain ⟨c2, hc2⟩ : ∃ c2, c2 = n + 1 + t := ⟨_, rfl⟩
  have hpw : 2 ^ W ≤ 2 ^ 7 := Nat.pow_le_pow_right (by decide) hW7
  obtain ⟨P, hP⟩ : ∃ P, P = 2 ^ W := ⟨_, rfl⟩
  rw [← hP] at hpw
  have EA := Lib.hid (show decA [0, 0] (n : Int) (W : Int) = (10, []) from dec_err _ n W 10 hn1 (by omega) hW1 (by omega) (by decide) (by rw [show (0 : Nat) = 2 * 0 from rfl, part_even W n 0 _ (by decide)]; unfold runL; rw [if_pos (.inl rfl)]))
  have EB := Lib.hid (show decA [2 * c2, 0] (n : Int) (W : Int) = (10, []) from dec_err _ n W 10 hn1 (by omega) hW1 (by omega) (by decide) (by rw [part_even W n c2 _ (by omega)]; unfold runL; rw [if_pos (.inr (by omega))]))
  have EC := Lib.hid (show decA [2 * n, P] (n : Int) (W : Int) = (10, []) from dec_err _ n W 10 hn1 (by omega) hW1 (by omega) (by decide) (by
    rw [part_even W n n _ (by omega)]
    unfold runL
    rw [if_neg (by omega), show (W + 7) / 8 = 1 by omega, if_neg (by simp), if_pos (by simp [nm]; omega)]))
  have ED := Lib.hid (fun (z : List Nat) => show decA ((2 * (g + 1) + 1) :: z) (n : Int) (W : Int) = (10, []) from dec_err _ n W 10 hn1 (by omega) hW1 (by omega) (by decide) (by rw [part_odd W n (g + 1) _ (by omega)]; unfold grpL; rw [if_pos (.inr (by omega))]))
  have EE := Lib.hid (dec_zeros n W g hn1 (by omega) hW1 (by omega) hg (by omega))
  have hc2i : (n : Int) + 1 + (t : Int) = (c2 : Int) := by omega
  have hb2 : 2 * (c2 : Int) % 256 = ((2 * c2 : Nat) : Int) := by omega
  have hbn : 2 * (n : Int) % 256 = ((2 * n : Nat) : Int) := by omega
  have hgi : ((n : Int) + 7) / 8 = (g : Int) := by omega
  have hg2 : (2 * ((g : Int) + 1) + 1) % 256 = ((2 * (g + 1) + 1 : Nat) : Int) := by omega
  have hg0 : (2 * (g : Int) + 1) % 256 = ((2 * g + 1 : Nat) : Int) := by omega
  have hgg : (g : Int) + 1 - 1 = (g : Int) := by omega
  have hPi : (2 : Int) ^ W = (P : Int) := by rw [hP]; push_cast; rfl
  have hPm : (P : Int) % 256 = (P : Int) := by omega
  have hgw : ((g : Int) + 1) * (W : Int) = (((g + 1) * W : Nat) : Int) := by push_cast; rfl
  have hgw0 : (g : Int) * (W : Int) = ((g * W : Nat) : Int) := by push_cast; rfl
  obtain ⟨z1, hz1⟩ : ∃ z, z = (g + 1) * W := ⟨_, rfl⟩
  obtain ⟨z0, hz0⟩ : ∃ z, z = g * W := ⟨_, rfl⟩
  have hz18 : 1 ≤ z1 ∧ z1 ≤ 63 := by
    have h1 : 1 * 1 ≤ (g + 1) * W := Nat.mul_le_mul (by omega) hW1
    have h2 : (g + 1) * W ≤ 9 * 7 := Nat.mul_le_mul (by omega) hW7
    omega
  have hz08 : 1 ≤ z0 ∧ z0 ≤ 56 := by
    have h1 : 1 * 1 ≤ g * W := Nat.mul_le_mul hg1 hW1
    have h2 : g * W ≤ 8 * 7 := Nat.mul_le_mul hg8 hW7
    omega
  rw [← hz1] at hgw
  rw [← hz0] at hgw0 EE
  have HN := Lib.hid hn; have HW := Lib.hid hW; have HG := Lib.hid hg; have HC2 := Lib.hid hc2; have HPP := Lib.hid hP
  clear hn hW hg hc2 hP hz1 hz0
  go_enter Try.func18, Try.ntmps18
  go_wp2_with fail
  refine (known10_any _).mono ?_
  rintro e wA ⟨rfl, hk⟩
  have HK := Lib.hid hk
  clear hk
  go_wp2_with fail
  refine (HP.out _).mono ?_
  rintro e wB ⟨rfl, rfl⟩
  go_wp2_with fail
  refine (HQ.out _).mono ?_
  rintro e wB ⟨rfl, rfl⟩
  go_wp2_with fail
  refine (decode_any _ [0, 0] (n : Int) (W : Int) _ (lit_seen _ _ _ [0, 0] 2 rfl rfl rfl (by decide)) (by decide)).mono ?_
  rintro e wB ⟨v1, rfl, hk, -⟩
  rw [EA.out]
  have HK1 := Lib.hid ((HK.out.alloc _).trans hk (by simp))
  clear hk
  show (match Ending.returned (Value.tuple #[v1, Value.int .i64 10]), wB with | _, _ => _)
  go_wp2_with fail
  refine (HT.out _).mono ?_
  rintro e wC ⟨rfl, rfl⟩
  go_wp2_with fail
  refine (decode_any _ [2 * c2, 0] (n : Int) (W : Int) _ (lit_seen _ _ _ [2 * c2, 0] 2 rfl (by simp [nv]) rfl (by decide)) (by intro x hx; simp at hx; have := HC2.out; omega)).mono ?_
  rintro e wC ⟨v2, rfl, hk, -⟩
  rw [EB.out]
  have HK2 := Lib.hid ((HK1.out.alloc _).trans hk (by simp))
  clear hk
  show (match Ending.returned (Value.tuple #[v2, Value.int .i64 10]), wC with | _, _ => _)
  go_wp2_with fail
  refine (decode_any _ [2 * n, P] (n : Int) (W : Int) _ (lit_seen _ _ _ [2 * n, P] 2 rfl (by simp [nv]) rfl (by decide)) (by intro x hx; simp at hx; omega)).mono ?_
  rintro e wD ⟨v3, rfl, hk, -⟩
  rw [EC.out]
  have HK3 := Lib.hid ((HK2.out.alloc _).trans hk (by simp))
  clear hk
  show (match Ending.returned (Value.tuple #[v3, Value.int .i64 10]), wD with | _, _ => _)
  go_wp2_with (at_builtin; refine wpList_append_make rfl _ _ rfl ⟨wD.heap.size, 0, none⟩ 1 z1 [2 * (g + 1) + 1] rfl rfl rfl ?c0 hz18.1 ?c1 ?_)
  case c0 => intro j v hj; rw [addr_add, Nat.zero_add, cell_of_row _ wD.heap.size j _ _ _ (hl_new rfl)]; simpa [nv] using hj
  case c1 => omega
  intro v5 w5 hown5 hk5
  obtain ⟨o5, c5, rfl⟩ := own_shape hown5
  have HK5 := Lib.hid ((HK3.out.alloc _).trans hk5 (by simp)); have HS5 := Lib.hid (reads_of_own hown5).seen
  clear hown5 hk5
  go_wp2_with fail
  refine (decode_any _ ((2 * (g + 1) + 1) :: List.replicate z1 0) (n : Int) (W : Int) _ HS5.out (by intro x hx; simp at hx; omega)).mono ?_
  rintro e wE ⟨v4, rfl, hk, -⟩
  rw [ED.out]
  have HK6 := Lib.hid (HK5.out.trans hk (by simp))
  clear hk
  show (match Ending.returned (Value.tuple #[v4, Value.int .i64 10]), wE with | _, _ => _)
  go_wp2_with (at_builtin; refine wpList_append_make rfl _ _ rfl ⟨wE.heap.size, 0, none⟩ 1 z0 [2 * g + 1] rfl rfl rfl ?c0 hz08.1 ?c1 ?_)
  case c0 => intro j v hj; rw [addr_add, Nat.zero_add, cell_of_row _ wE.heap.size j _ _ _ (hl_new rfl)]; simpa [nv] using hj
  case c1 => omega
  intro v7 w7 hown7 hk7
  obtain ⟨o7, c7, rfl⟩ := own_shape hown7
  have HK7 := Lib.hid ((HK6.out.alloc _).trans hk7 (by simp)); have HS7 := Lib.hid (reads_of_own hown7).seen
  clear hown7 hk7
  go_wp2_with fail
  refine (decode_any _ ((2 * g + 1) :: List.replicate z0 0) (n : Int) (W : Int) _ HS7.out (by intro x hx; simp at hx; omega)).mono ?_
  rintro e wF ⟨v8, rfl, hk, ho⟩
  rw [EE.out] at ho ⊢
  rw [List.length_replicate] at ho
  obtain ⟨o8, c8, rfl⟩ := own_shape ho
  have HK8 := Lib.hid (HK7.out.trans hk (by simp))
  clear hk ho
  show (match Ending.returned (Value.tuple #[Value.slice o8 n c8, Value.int .i64 0]), wF with | _, _ => _)
  have hbn2 : ((n : Int) == (n : Int)) = true := by simp
  go_wp2
  go_ret
  exact ⟨by simp, HK8.out.below (Nat.le_refl _) (by simp)⟩

end Go.Proofs.Ytohibncnhhldhaa
