/- delta: the reader's part; Read whole. -/
import Derived.Test.YtohgnbgijleoaaaDe
namespace Go.Proofs.Ytohgnbgijleoaaa
open Go.RowKit
set_option linter.unusedVariables false
set_option linter.unusedSimpArgs false

set_option maxRecDepth 100000 in
set_option maxHeartbeats 4000000 in
theorem drpart_any {w0 w : World} {gr B : Nat} {b : List Nat} {l : List Int} (h : DR w0 w gr B b l) (hll : l.length ≤ 5000) (k : Nat) (hk : k ≤ 5000) :
    Calls Try.prog 17 #[.pointer (some ⟨gr, 0, none⟩), .int .i64 (k : Int)] w (BlkOut w0 gr B l (partD k l b)) := by
  have HS := Lib.hid (drsigned_any h)
  obtain ⟨e, he⟩ : ∃ e, e = (gl 0 b).2 := ⟨_, rfl⟩
  rw [← he] at HS
  by_cases he0 : e = 0
  · by_cases hl : l = []
    · have E := Lib.hid (show partD k l b = (0, [zagOf (gv b)], b.drop (gl 0 b).1) by unfold partD; rw [if_neg (by omega), if_pos hl])
      unfold BlkOut
      rw [E.out]
      obtain ⟨v, hv⟩ : ∃ v, v = zagOf (gv b) := ⟨_, rfl⟩
      rw [← hv] at HS ⊢
      obtain ⟨t, ht⟩ : ∃ t, t = b.drop (gl 0 b).1 := ⟨_, rfl⟩
      rw [← ht] at HS ⊢
      subst he0 hl
      obtain ⟨i0, hi, hz0, hz1, hz2⟩ := info_int
      have hb : ((0 : Int) == 0) = true := rfl
      clear h he hv ht
      go_enter Try.func17, Try.ntmps17
      go_wp2_with (first
        | (go_at_call 36; (with_reducible refine HS.out.mono ?_); rintro e w2 ⟨rfl, hd⟩; have HD := Lib.hid hd; clear hd; obtain ⟨bv5, lv5, hb5, hs5, ho5⟩ := HD.out.st; obtain ⟨lo5, lc5, rfl⟩ := own_shape ho5; obtain ⟨c0, c1, f0, f1⟩ := cells2 hb5; have HB5 := Lib.hid hb5; have HS5 := Lib.hid hs5; have HO5 := Lib.hid ho5; simp only [List.length_nil] at c1 HO5 HB5; have hlB := HD.out.lB; clear hb5 hs5 ho5)
        | (at_builtin; refine wpList_append_own _ rfl _ _ 22 rfl B 3 i0 (.int .i64 0) 1 8 Try.underlying22 hi hz0 hz1 hz2 rfl (by decide) _ _ _ rfl (HO5.out.alloc _) ⟨w2.heap.size, 0, none⟩ 1 1 [.int .i64 v] rfl rfl ?c1 ?c2 ?c3 ?c4 ?c5 ?_)
        | fail)
      case c1 => exact cell_one_new _ _ _
      case c2 => simp [Value.oneCell']
      case c3 => unfold maxLen; omega
      case c4 => omega
      case c5 => simp; omega
      intro v6 w6 hown6 hgrow6 _
      obtain ⟨yo, yc, rfl⟩ := own_shape hown6
      obtain ⟨q1, q3, hd6⟩ := HD.out.grow (z := v) HB5.out HS5.out HO5.out hgrow6 hown6
      have HD6 := Lib.hid hd6
      clear hown6 hgrow6 hd6
      go_wp2
      go_ret
      exact ⟨rfl, HD6.out.c0, fun _ => HD6.out⟩
    · have E := Lib.hid (partD_blk k l b (by omega) hl)
      rw [E.out]
      obtain ⟨v, hv⟩ : ∃ v, v = zagOf (gv b) := ⟨_, rfl⟩
      rw [← hv] at HS ⊢
      obtain ⟨t, ht⟩ : ∃ t, t = b.drop (gl 0 b).1 := ⟨_, rfl⟩
      rw [← ht] at HS ⊢
      obtain ⟨m, hm⟩ : ∃ m, m = min 32 k := ⟨_, rfl⟩
      rw [← hm]
      have hrun : ∀ (wx : World) (ts : Array TypeId) (ty : TypeId), (Builtin.min_ ts ty #[.int .i64 32, .int .i64 (k : Int)]).run Try.prog wx = .ok (.int .i64 (m : Int)) wx := fun wx ts ty => by
        rw [run_min_int2, minInt]
        rw [show min (32 : Int) (k : Int) = (m : Int) by omega]
      have hmin : min (32 : Int) (k : Int) = (m : Int) := by omega
      have HB := Lib.hid (fun (wx : World) (hd : DR w0 wx gr B t l) => drblock_any hd hl hll v m (by omega))
      subst he0
      obtain ⟨M, hM⟩ : ∃ M, M = l.length := ⟨_, rfl⟩
      have hM0 : ((M : Int) == 0) = false := by
        have : 0 < l.length := List.length_pos_iff.2 hl
        simp; omega
      have HM := Lib.hid hM
      obtain ⟨p, hp⟩ : ∃ p, p = blkD m l v t := ⟨_, rfl⟩
      rw [← hp] at HB ⊢
      clear h he hv ht hl hm hM hp
      go_enter Try.func17, Try.ntmps17
      go_wp2_with (first
        | (go_at_call 36; (with_reducible refine HS.out.mono ?_); rintro e w2 ⟨rfl, hd⟩; have HD := Lib.hid hd; clear hd; obtain ⟨bv5, lv5, hb5, hs5, ho5⟩ := HD.out.st; obtain ⟨lo5, lc5, rfl⟩ := own_shape ho5; rw [← HM.out] at hb5; obtain ⟨c0, c1, f0, f1⟩ := cells2 hb5; clear hb5 hs5 ho5)
        | (go_at_call 37; (with_reducible refine (HB.out w2 HD.out).mono ?_); rintro e w3 ⟨rfl, hc3, hd3⟩; have HC3 := Lib.hid hc3; have HD3 := Lib.hid hd3; clear hc3 hd3)
        | fail)
      go_ret
      exact ⟨rfl, HC3.out, HD3.out⟩
  · have E := Lib.hid (show partD k l b = ((e : Int), [], []) by unfold partD; rw [if_pos (by omega), he])
    unfold BlkOut
    rw [E.out]
    have hne : ((e : Int) != 0) = true := by simp; omega
    have HE0 := Lib.hid he0
    clear h he he0
    go_enter Try.func17, Try.ntmps17
    go_wp2_with (first
      | (go_at_call 36; (with_reducible refine HS.out.mono ?_); rintro e w2 ⟨rfl, hd⟩; have HD := Lib.hid hd; clear hd)
      | fail)
    go_ret
    exact ⟨rfl, HD.out.c0, fun h => absurd h (by have := HE0.out; simp; omega)⟩

theorem partD_rest (k : Nat) (l : List Int) (b : List Nat) : (partD k l b).2.2.length ≤ b.length := by
  unfold partD
  split
  · simp
  split
  · simp
  split
  · simp
  split
  · simp
  split
  · simp
  · simp

/-- What Read answers, with its memory. -/
def DReadOut (b : List Nat) (n : Int) (w : World) (e : Ending) (w' : World) : Prop :=
  ∃ v, e = .returned (.tuple #[v, .int .i64 ((readD b n).2.1 : Nat), .int .i64 (readD b n).2.2]) ∧ MadeI (readD b n).1 w v w'

theorem dread_args (bv : Value) (n : Int) (w : World) (h : n < 0 ∨ 4000 < n) :
    Calls Try.prog 10 #[bv, .int .i64 n] w fun e w' => e = .returned (.tuple #[.slice none 0 0, .int .i64 0, .int .i64 1]) ∧ w = w' := by
  rcases Int.lt_or_le n 0 with h1 | h1
  · have d1 : decide (n < 0) = true := by simpa using h1
    clear h
    go_enter Try.func10, Try.ntmps10
    go_wp2_with fail
    refine wp_scope_jumps 0 (fun _ _ => False) (fun _ _ => 0) rfl ?_ (fun a' w' h => h.elim)
    go_wp2
    simp only [Exit.jump]
    go_ret3
    exact ⟨rfl, rfl⟩
  · have d1 : decide (n < 0) = false := by simpa using h1
    have d2 : decide (4000 < n) = true := by simp; omega
    clear h
    go_enter Try.func10, Try.ntmps10
    go_wp2_with fail
    refine wp_scope_jumps 0 (fun _ _ => False) (fun _ _ => 0) rfl ?_ (fun a' w' h => h.elim)
    go_wp2
    simp only [Exit.jump]
    go_ret3
    exact ⟨rfl, rfl⟩

set_option maxRecDepth 100000 in
set_option maxHeartbeats 4000000 in
theorem dread_any (bv : Value) (b : List Nat) (n : Int) (w : World) (hS : Seen w bv (nv .u8 b)) (hb : ∀ x ∈ b, x < 2 ^ 8) (hbl : b.length ≤ 1000000000) :
    Calls Try.prog 10 #[bv, .int .i64 n] w (DReadOut b n w) := by
  by_cases hn : n < 0 ∨ 4000 < n
  · refine (dread_args bv n w hn).mono ?_
    rintro e w' ⟨rfl, rfl⟩
    unfold DReadOut readD
    rw [if_pos hn]
    exact ⟨_, rfl, Chg.refl _ _, World.ownsRow_nil _ _ _ _⟩
  obtain ⟨N, hN⟩ : ∃ N : Nat, n = (N : Int) := ⟨n.toNat, by omega⟩
  subst hN
  have hN4 : N ≤ 4000 := by omega
  have hR : readD b (N : Int) = if (decD N [] b).1 ≠ 0 then ([], 0, (decD N [] b).1) else ((decD N [] b).2.1, b.length - (decD N [] b).2.2.length, 0) := by
    unfold readD; rw [if_neg hn, Int.toNat_natCast]
  obtain ⟨ao, cap, rfl, hc1, hc2⟩ := hS.shape
  rw [nv_length] at hc1 hS ⊢
  obtain ⟨D, hD⟩ : ∃ D, D = decD N [] b := ⟨_, rfl⟩
  rw [← hD] at hR
  obtain ⟨R, hRR⟩ : ∃ R, R = readD b (N : Int) := ⟨_, rfl⟩
  unfold DReadOut
  rw [← hRR] at hR ⊢
  have HR := Lib.hid hR; have HDD := Lib.hid hD
  have d1 : decide ((N : Int) < 0) = false := by simp
  have d2 : decide (4000 < (N : Int)) = false := by simp; omega
  obtain ⟨L, hL⟩ : ∃ L, L = b.length := ⟨_, rfl⟩
  rw [← hL] at hc1 hS hbl ⊢
  have HL := Lib.hid hL
  have HS := Lib.hid hS; have HB := Lib.hid hb
  clear hS hb hn hR hD hRR hL
  go_enter Try.func10, Try.ntmps10
  go_wp2_with fail
  refine wp_scope_pre2 0 (fun a' w' => ∃ (l : List Int) (b' : List Nat) (u8 u9 u10 u11 u12 u13 u14 u15 u16 u17 u18 u19 u20 u21 u22 u23 u24 u25 u26 u27 u28 u29 u30 u31 u32 u33 u34 u35 u36 u2 u3 u6 : Value), l.length ≤ N ∧ b'.length ≤ L ∧ decD (N - l.length) l b' = D ∧ a' = { tmps := #[.slice ao L cap, .int .i64 (N : Int), u2, u3, .slice none 0 0, .int .i64 0, u6, .pointer (some ⟨w.heap.size, 0, none⟩), u8, u9, u10, u11, u12, u13, u14, u15, u16, u17, u18, u19, u20, u21, u22, u23, u24, u25, u26, u27, u28, u29, u30, u31, u32, u33, u34, u35, u36], defers := [] } ∧ DR w w' w.heap.size (w.heap.size + 1) b' l) (fun _ w' => N - slen ((w'.cell? ⟨w.heap.size, 1, none⟩).getD undef)) rfl ?_ ?_
  · go_wp2
    refine ⟨[], b, _, _, _, _, _, _, _, _, _, _, _, _, _, _, _, _, _, _, _, _, _, _, _, _, _, _, _, _, _, _, _, _, Nat.zero_le _, by rw [← HL.out]; exact Nat.le_refl _, by rw [HDD.out]; rfl, rfl, ?_⟩
    exact ⟨(Chg.refl [] w).alloc _, Nat.le_refl _, by omega, by simp, HB.out, by rw [← HL.out]; exact hbl, _, _, heap_alloc_new _ _, HS.out, World.ownsRow_nil _ _ _ _⟩
  rintro a' wi ⟨l, b', u8, u9, u10, u11, u12, u13, u14, u15, u16, u17, u18, u19, u20, u21, u22, u23, u24, u25, u26, u27, u28, u29, u30, u31, u32, u33, u34, u35, u36, u2, u3, u6, hlN, hbL, hdec, rfl, hd⟩
  have HD := Lib.hid hd; have HE := Lib.hid hdec
  obtain ⟨bv5, lv5, hb5, hs5, ho5⟩ := hd.st
  obtain ⟨lo5, lc5, rfl⟩ := own_shape ho5
  obtain ⟨bo5, bc5, rfl, -, -⟩ := hs5.shape
  rw [nv_length] at hb5 hs5
  obtain ⟨M, hM⟩ : ∃ M, M = l.length := ⟨_, rfl⟩
  obtain ⟨S, hS⟩ : ∃ S, S = b'.length := ⟨_, rfl⟩
  rw [← hM] at hlN hb5 ho5 HE
  rw [← hS] at hbL hb5
  have HM := Lib.hid hM; have HSS := Lib.hid hS; have HO5 := Lib.hid ho5
  obtain ⟨c0, c1, f0, f1⟩ := cells2 hb5
  have HC1 := Lib.hid c1
  obtain ⟨K, hK⟩ : ∃ K, K = N - M := ⟨_, rfl⟩
  rw [← hK] at HE
  have hsub : IntKind.i64.wrap ((N : Int) - (M : Int)) = (K : Int) := by rw [show (N : Int) - (M : Int) = (K : Int) by omega]; exact IntWalk.i64_in _ (by omega)
  clear hd hdec hb5 hs5 ho5 hM hS
  by_cases hk0 : K = 0
  · have dk : decide (0 < (K : Int)) = false := by simp; omega
    have dk2 : ¬ (0 < (K : Int)) := by omega
    have hsub2 : IntKind.i64.wrap ((L : Int) - (S : Int)) = ((L - S : Nat) : Int) := by rw [show (L : Int) - (S : Int) = ((L - S : Nat) : Int) by omega]; exact IntWalk.i64_in _ (by omega)
    obtain ⟨Q, hQ⟩ : ∃ Q, Q = L - S := ⟨_, rfl⟩
    rw [← hQ] at hsub2
    have HF := Lib.hid (show R = (l, Q, 0) by
      have h := HE.out
      rw [hk0, decD_zero] at h
      rw [HR.out, ← h, hQ, HL.out, HSS.out]
      simp)
    clear hK hk0 hQ
    go_wp2
    go_quiet (fail)
    go_wp2
    simp only [Exit.jump]
    go_ret3
    rw [HF.out]
    refine ⟨_, rfl, HD.out.c0.drewN _, ?_⟩
    have h := own_mono HO5.out (show w.heap.size ≤ w.heap.size + 1 by omega)
    rw [← HM.out]
    exact own_chg h ((Chg.refl [] wi).drewN _) (by simp)
  · have dk : decide (0 < (K : Int)) = true := by simp; omega
    have dk2 : 0 < (K : Int) := by omega
    have HP := Lib.hid (drpart_any HD.out (by rw [← HM.out]; omega) K (by omega))
    obtain ⟨p, hp⟩ : ∃ p, p = partD K l b' := ⟨_, rfl⟩
    rw [← hp] at HP
    have HPP := Lib.hid hp
    have HK := Lib.hid hk0; have HKK := Lib.hid hK
    clear hp hk0 hK
    by_cases hp0 : p.1 = 0
    · have hb0 : (p.1 != 0) = false := by rw [hp0]; rfl
      have HP0 := Lib.hid hp0
      clear hp0
      go_wp2_with (first
        | (go_at_call 17; (with_reducible refine HP.out.mono ?_); rintro e w3 ⟨rfl, hc3, hd3⟩; have HC3 := Lib.hid hc3; have HD3 := Lib.hid hd3; clear hc3 hd3)
        | fail)
      go_step3
      have hd := HD3.out HP0.out
      have hpl := partD_len (k := K) (l := l) (b := b') (by have := HK.out; omega) (by rw [← HPP.out]; exact HP0.out)
      rw [← HPP.out] at hpl
      have hdk := decD_ok (k := K) (l := l) (b := b') HK.out (by rw [← HPP.out]; exact HP0.out)
      rw [← HPP.out] at hdk
      obtain ⟨bv6, lv6, hb6, hs6, ho6⟩ := hd.st
      obtain ⟨lo6, lc6, rfl⟩ := own_shape ho6
      obtain ⟨-, r1, -, -⟩ := cells2 hb6
      have hlen : (l ++ p.2.1).length = M + p.2.1.length := by rw [List.length_append, ← HM.out]
      have hKK := HKK.out
      refine ⟨rfl, ⟨l ++ p.2.1, p.2.2, _, _, _, _, _, _, _, _, _, _, _, _, _, _, _, _, _, _, _, _, _, _, _, _, _, _, _, _, _, _, _, _, by rw [hlen]; omega, ?_, ?_, by rw [HP0.out], hd⟩, ?_⟩
      · have h := partD_rest K l b'
        rw [← HPP.out] at h
        have := HSS.out
        omega
      · rw [hlen, ← HE.out, hdk]
        congr 1
        omega
      · rw [r1, HC1.out]
        simp only [Option.getD_some, slen]
        rw [hlen]
        omega
    · have hb0 : (p.1 != 0) = true := by simpa using hp0
      have HF := Lib.hid (show R = ([], 0, p.1) by
        have h := HE.out
        rw [decD_bad HK.out (by rw [← HPP.out]; exact hp0), ← HPP.out] at h
        rw [HR.out, ← h, if_pos hp0])
      clear hp0
      go_wp2_with (first
        | (go_at_call 17; (with_reducible refine HP.out.mono ?_); rintro e w3 ⟨rfl, hc3, hd3⟩; have HC3 := Lib.hid hc3; have HD3 := Lib.hid hd3; clear hc3 hd3)
        | fail)
      simp only [Exit.jump]
      go_ret3
      rw [HF.out]
      exact ⟨_, rfl, HC3.out, World.ownsRow_nil _ _ _ _⟩

end Go.Proofs.Ytohgnbgijleoaaa
