/- The walk of the statement LevelNone. -/
import Derived.Test.YtohibncnhhldhaaKn
namespace Go.Proofs.Ytohibncnhhldhaa
open Go.RowKit
set_option linter.unusedVariables false
set_option linter.unusedSimpArgs false

set_option maxRecDepth 100000 in
set_option maxHeartbeats 2000000 in
theorem walk_LevelNone (a0 : Int) (a1 : Option Addr) (len1 cap1 : Nat) (z1 : List Int) (w : World) (w0 : (Lit.int .i64 a0).wf = true) (w1 : IsRow .u8 w a1 len1 cap1 z1) :
    Calls Try.prog 15 #[.int .i64 a0, .slice a1 len1 cap1] w fun e w' => e = .returned (.bool true) ∧ Below w.heap.size w w' := by
  obtain ⟨i8, hi8, hz08, hz18, hz28⟩ := info_u8
  obtain ⟨b, hb, rfl, hb8⟩ := w1.u8s
  have hlm := w1.len.2
  have W0 := Lib.hid w0; have HB := Lib.hid hb; have HB8 := Lib.hid hb8
  clear w0 w1 hb hb8
  by_cases hlen : 20 < b.length
  · go_enter Try.func15, Try.ntmps15
    go_wp2_with fail
    refine (known10_any _).mono ?_
    rintro e wA ⟨rfl, hk⟩
    have HK := Lib.hid hk
    clear hk
    go_wp2
    go_ret
    exact ⟨rfl, HK.out.below (Nat.le_refl _) (by simp)⟩
  obtain ⟨n, hn⟩ : ∃ n, n = (a0 % (4001 : Nat)).toNat := ⟨_, rfl⟩
  have hn2 : n < 4001 := by rw [hn]; exact within_lt a0 4001 (by decide)
  have HN := Lib.hid (fun wx => w10_int a0 4001 4001 wx rfl (by decide) (by decide) W0.out)
  rw [← hn] at HN
  have E1 := Lib.hid (show decA [] (n : Int) 0 = (0, List.replicate n 0) by unfold decA; rw [if_neg (by omega), if_pos rfl, if_pos rfl, Int.toNat_natCast])
  have E2 := Lib.hid (show decA (1 :: b) (n : Int) 0 = (9, []) by unfold decA; rw [if_neg (by omega), if_pos rfl, if_neg (by simp)])
  clear hn hlm
  go_enter Try.func15, Try.ntmps15
  go_wp2_with fail
  refine (known10_any _).mono ?_
  rintro e wA ⟨rfl, hk⟩
  have HK := Lib.hid hk
  clear hk
  go_wp2_with fail
  refine (HN.out _).mono ?_
  rintro e wB ⟨rfl, rfl⟩
  go_wp2_with fail
  refine (decode_any (.slice none 0 0) [] (n : Int) 0 wA (Seen.nil _) (by simp)).mono ?_
  rintro e wB ⟨v1, rfl, hk, ho⟩
  rw [E1.out] at ho ⊢
  rw [List.length_replicate] at ho
  obtain ⟨o1, c1, rfl⟩ := own_shape ho
  have HK1 := Lib.hid (HK.out.trans hk (by simp)); have HO1 := Lib.hid (show wB.ownsRow wA.heap.size 3 1 (.slice o1 n c1) n (nv .i64 (List.replicate n 0)) from ho)
  clear hk ho
  show (match Ending.returned (Value.tuple #[Value.slice o1 n c1, Value.int .i64 0]), wB with | _, _ => _)
  go_wp2_with (at_builtin; refine wpList_append_reads _ rfl _ _ 65 65 rfl wB.heap.size 5 5 i8 (.int .u8 0) 1 Try.underlying65 Try.underlying65 hi8 hz08 hz18 hz28 rfl (.slice (some ⟨wB.heap.size, 0, none⟩) 1 1) 1 (nv .u8 [1]) rfl (own_lit wB _ _ rfl (Nat.le_refl _) 5 _ _ 1 1 rfl rfl (by decide)) _ (nv .u8 b) rfl (HB.out.keep (HK1.out.alloc _)) (nv_one _ _) ?c1 ?c2 ?c3 ?_)
  case c1 => rw [nv_length]; unfold maxLen; omega
  case c2 => rw [nv_length]; omega
  case c3 => simp
  intro v2 w2 hown2 hgrow2
  have HC2 := Lib.hid (((Chg.refl [] wB).alloc (.cells #[.int .u8 1] 5)).grown hgrow2 (fun k hk => .inr (by simp [Value.ownBlock] at hk; omega)))
  have hs2 : Seen w2 v2 (nv .u8 (1 :: b)) := by
    have h := (reads_of_own hown2).seen
    have e : nv .u8 [1] ++ nv .u8 b = nv .u8 (1 :: b) := rfl
    rwa [e] at h
  have HS2 := Lib.hid hs2
  obtain ⟨o2, c2, rfl⟩ := own_shape hown2
  clear hown2 hgrow2 hs2
  go_wp2_with fail
  refine (decode_any _ (1 :: b) (n : Int) 0 w2 HS2.out (by intro x hx; rcases List.mem_cons.1 hx with rfl | hx; decide; exact HB8.out x hx)).mono ?_
  rintro e wC ⟨v3, rfl, hk, ho⟩
  rw [E2.out] at ho ⊢
  obtain ⟨o3, c3, rfl⟩ := own_shape ho
  have HK3 := Lib.hid (HC2.out.trans hk (by simp))
  clear hk ho
  have hb0 : ((n : Int) != (n : Int)) = false := by simp
  obtain ⟨i0, hi, hz0, hz1, hz2⟩ := info_int
  obtain ⟨w4, hrun, hown4, hg4⟩ := run_make_full (P := Try.prog) wC wC.heap.size 22 3 i0 (.int .i64 0) 1 Try.underlying22 hi hz0 hz1 .i64 .i64 n (by rw [hz2]; omega) (by unfold maxLen; omega) (Nat.le_refl _)
  have HK4 := Lib.hid ((Chg.refl [] wC).grown hg4 (by simp))
  clear hown4 hg4
  go_wp2_with fail
  refine (encode_none _ w4).mono ?_
  rintro e wD ⟨rfl, rfl⟩
  have HW := Lib.hid (show Chg [] wB w4 from HK3.out.trans HK4.out (by simp))
  have HO4 := Lib.hid (own_chg HO1.out HW.out (by simp))
  have HT := Lib.hid (HK1.out.trans HW.out (by simp))
  have hb9 : ((0 : Int) != 0) = false := rfl
  have hb8 : ((9 : Int) != 9) = false := rfl
  go_wp2
  go_loopw [9] (fun i w' => ∃ (j : Nat), j ≤ n ∧ i = .int .i64 (j : Int) ∧ w' = w4) (fun i _ => n - (intOf i).toNat)
  case atStart => exact ⟨0, Nat.zero_le _, rfl, rfl⟩
  case round =>
    obtain ⟨j, hj, rfl, rfl⟩ := hrel
    by_cases hjn : j < n
    · have hlt : decide ((j : Int) < (n : Int)) = true := by simp; omega
      obtain ⟨g, rfl⟩ := own_some HO4.out (by omega)
      have hx := own_cell HO4.out (by simp) j hjn
      rw [getD_rep n 0 j hjn] at hx
      have hx : wr.cell? ⟨g, j, none⟩ = some (.int .i64 0) := hx
      go_wp2
      go_roundw
      case rel => exact ⟨j + 1, hjn, by go_num, by first | rfl | trivial⟩
      case measure => simp [intOf]; omega
    · have hlt : decide ((j : Int) < (n : Int)) = false := by simp; omega
      go_wp2
      go_ret
      exact ⟨rfl, HT.out.below (Nat.le_refl _) (by simp)⟩

end Go.Proofs.Ytohibncnhhldhaa
