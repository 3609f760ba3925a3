/- The walk of the statement VarintPuts. -/
import Derived.Test.YtmdnjcgfcofmiaaWReads
import Derived.Deep.RegionHeld3
namespace Go.Proofs.Ytmdnjcgfcofmiaa
open Go.RowKit
set_option linter.unusedVariables false

theorem Reads.ptr {w : World} {ao : Option Addr} {n cap : Nat} {xs : List Value} (h : Reads w (.slice ao n cap) xs) (hn : 0 < n) : ∃ g off, ao = some ⟨g, off, none⟩ := by
  rcases h with ⟨e, _⟩ | ⟨g, off, cap', e, _⟩
  · injection e with e1 e2 e3; omega
  · injection e with e1 e2 e3
    exact ⟨g, off, e1⟩

/-- The back part of a row, by its own address. -/
theorem Reads.back {w : World} {g off n cap : Nat} {k : IntKind} {l r : List Nat} (h : Reads w (.slice (some ⟨g, off, none⟩) n cap) (nv k (l ++ r))) :
    (r ≠ [] → Reads w (.slice (some ⟨g, off + l.length, none⟩) r.length (cap - l.length)) (nv k r) ∧ l.length < cap) ∧ cap ≤ maxLen := by
  rcases h with ⟨e, _⟩ | ⟨g', off', cap', e, h1, h2, h3⟩
  · injection e with e1 e2 e3; cases e1
  · injection e with e1 e2 e3
    injection e1 with e1
    injection e1 with e11 e12 e13
    subst e11 e12 e3
    rw [nv_length, List.length_append] at h1
    refine ⟨fun hr => ?_, h2⟩
    have hr0 : 0 < r.length := List.length_pos_iff.2 hr
    refine ⟨.inr ⟨g, off + l.length, cap - l.length, by rw [nv_length], by rw [nv_length]; omega, by omega, fun j u hu => ?_⟩, by omega⟩
    have hj : j < r.length := by
      have := (List.getElem?_eq_some_iff.1 hu).1
      simpa using this
    have := h3 (l.length + j) u (by
      rw [← hu]
      simp [nv, List.getElem?_append_right])
    rwa [← Nat.add_assoc] at this

theorem cvp {l : List Nat} {n : Nat} {s : ByteArray} {w : World} {ao : Option Addr} {cap : Nat} (h : Seen w (.slice ao n cap) (nv .u8 l)) (hn : n = l.length) (hs : s = str l) (hb : ∀ x ∈ l, x < 2 ^ 8) :
    ∀ w', Hid (Chg [] w w') → (convert 22 9 (.slice ao n cap)).run Try.prog w' = .ok (.string s) w' := fun w' hc => by
  rw [hs]
  exact conv_seen Try.underlying22 Try.underlying5 Try.underlying9 (h.keep hc.out) hn.symm hb

set_option maxRecDepth 100000 in
set_option maxHeartbeats 4000000 in
theorem walk_VarintPuts (a0 : Option Addr) (len0 cap0 : Nat) (z0 : List Int) (a1 : Int) (a2 : Int) (a3 : Option Addr) (len3 cap3 : Nat) (z3 : List Int) (w : World) (w0 : IsRow .u8 w a0 len0 cap0 z0) (w1 : (Lit.int .u64 a1).wf = true) (w2 : (Lit.int .i64 a2).wf = true) (w3 : IsRow .u8 w a3 len3 cap3 z3) :
    Calls Try.prog 3 #[.slice a0 len0 cap0, .int .u64 a1, .int .i64 a2, .slice a3 len3 cap3] w fun e w' => e = .returned (.bool true) ∧ Below w.heap.size w w' := by
  obtain ⟨S, hS, rfl, hSl⟩ := w0.u8s
  obtain ⟨T, hT, rfl, hTl⟩ := w3.u8s
  have hlen := w0.len.2
  have hlen3 := w3.len.2
  have b1 := wf_u64 w1
  have HS := Lib.hid hS; have HSL := Lib.hid hSl; have HT := Lib.hid hT; have HTL := Lib.hid hTl; have W2 := Lib.hid w2
  clear w0 w1 w2 w3 hS hSl hT hTl
  unfold maxLen at hlen hlen3
  obtain ⟨v, rfl⟩ := Int.eq_ofNat_of_zero_le b1.1
  have hv : v < 18446744073709551616 := by omega
  clear b1
  by_cases hbig : 50 < S.length ∨ 50 < T.length
  · go_enter Try.func3, Try.ntmps3
    go_wp2_with fail
    (with_reducible refine (known_any _).mono ?_)
    rintro x w1 ⟨rfl, hk⟩
    have HC := Lib.hid hk; clear hk
    rcases (show 50 < S.length ∨ ¬ 50 < S.length ∧ 50 < T.length by omega) with h | ⟨h, h2⟩
    · clear hbig
      go_wp2
      go_ret
      exact ⟨rfl, HC.out.below (Nat.le_refl _) (by simp)⟩
    · clear hbig
      go_wp2
      go_ret
      exact ⟨rfl, HC.out.below (Nat.le_refl _) (by simp)⟩
  have hs50 : S.length ≤ 50 := by omega
  have ht50 : T.length ≤ 50 := by omega
  clear hbig
  obtain ⟨k, hk⟩ : ∃ n, n = (a2 % (64 : Nat)).toNat := ⟨_, rfl⟩
  have hk64 : k < 64 := by rw [hk]; exact within_lt a2 64 (by decide)
  have HK := Lib.hid hk; clear hk
  obtain ⟨i0, hi, hz0, hz1, hz2⟩ := info_u8
  have hcap2 : cap0 ≤ 2 ^ 63 - 1 := by
    obtain ⟨_, _, e, _, h⟩ := HS.out.shape
    injection e with e1 e2 e3
    unfold maxLen at h
    omega
  have hcap3 : cap3 ≤ 2 ^ 63 - 1 := by
    obtain ⟨_, _, e, _, h⟩ := HT.out.shape
    injection e with e1 e2 e3
    unfold maxLen at h
    omega
  go_enter Try.func3, Try.ntmps3
  go_wp2_with fail
  (with_reducible refine (known_any _).mono ?_)
  rintro x w1 ⟨rfl, hk⟩
  have HC1 := Lib.hid hk; clear hk
  go_wp2_with fail
  (with_reducible refine (within_int a2 64 64 _ rfl (by decide) (by decide) W2.out).mono ?_)
  rintro x w2 ⟨rfl, rfl⟩
  rw [← HK.out]
  go_wp2_with fail
  (with_reducible refine (within_int a2 64 64 _ rfl (by decide) (by decide) W2.out).mono ?_)
  rintro x w2 ⟨rfl, rfl⟩
  rw [← HK.out]
  go_wp2_with fail
  (with_reducible refine (within_int a2 64 64 _ rfl (by decide) (by decide) W2.out).mono ?_)
  rintro x w2 ⟨rfl, rfl⟩
  rw [← HK.out]
  have hp : 2 ^ k < 18446744073709551616 := by
    have : 2 ^ k ≤ 2 ^ 63 := Nat.pow_le_pow_right (by decide) (by omega)
    omega
  have hp0 := Nat.two_pow_pos k
  have hcast : Hid ((2 : Int) ^ k = ((2 ^ k : Nat) : Int)) := Lib.hid (by simp)
  have wrapk : Hid (IntKind.u64.wrap (2 ^ k) = ((2 ^ k : Nat) : Int)) := Lib.hid (by
    rw [hcast.out]
    exact wraps64 _ (by omega) (by omega))
  have wrapk2 : Hid (IntKind.u64.wrap (IntKind.u64.wrap (2 ^ k) - 1) = ((2 ^ k - 1 : Nat) : Int)) := Lib.hid (by
    rw [wrapk.out, wraps64 _ (by omega) (by omega)]
    omega)
  have hdivk : Hid ((v : Int) / 2 ^ k = ((v / 2 ^ k : Nat) : Int)) := Lib.hid (by simp)
  obtain ⟨W, hW⟩ : ∃ W, W = w1.alloc (.cells #[.int .u64 (v : Int), .int .u64 ((v : Int) / 2 ^ k), .int .u64 (IntKind.u64.wrap (2 ^ k)), .int .u64 (IntKind.u64.wrap (IntKind.u64.wrap (2 ^ k) - 1))] 23) := ⟨_, rfl⟩
  have HCW := Lib.hid (show Chg [] w W by rw [hW]; exact HC1.out.alloc _)
  have hc4 := cells4 (show W.heap[w1.heap.size]? = _ by rw [hW]; exact heap_alloc_new w1 _)
  rw [hdivk.out, wrapk2.out, wrapk.out] at hc4
  have HROW := Lib.hid (show ∀ j, j < 4 → ∃ u : Nat, W.cell? ⟨w1.heap.size, j, none⟩ = some (.int .u64 (u : Int)) ∧ u < 18446744073709551616 from fun j hj => by
    have hj4 : j = 0 ∨ j = 1 ∨ j = 2 ∨ j = 3 := by omega
    rcases hj4 with rfl | rfl | rfl | rfl
    · exact ⟨_, hc4.1, hv⟩
    · exact ⟨_, hc4.2.1, Nat.lt_of_le_of_lt (Nat.div_le_self _ _) hv⟩
    · exact ⟨_, hc4.2.2.1, hp⟩
    · exact ⟨_, hc4.2.2.2, by omega⟩)
  have HW := Lib.hid hW
  clear hW hc4 hp0
  go_wp2
  rw [← HW.out]
  go_loopw [10] (fun i wr => ∃ j : Nat, j ≤ 4 ∧ i = .int .i64 (j : Int) ∧ Chg [] W wr) (fun i _ => 4 - (intOf i).toNat)
  case atStart => exact ⟨0, by omega, rfl, Chg.refl _ _⟩
  case round =>
    obtain ⟨j, hj, rfl, hci⟩ := hrel
    have HCI := Lib.hid hci
    clear hci
    by_cases hlt : j < 4
    · obtain ⟨u, hcell, hu⟩ := HROW.out j hlt
      have HCELL := Lib.hid hcell
      have hcr := HCI.out.cell hcell (by simp)
      clear hcell
      have HXB := Lib.hid (show ∀ x ∈ S ++ vb u, x < 2 ^ 8 from fun x hx => by
        rcases List.mem_append.1 hx with h | h
        · exact HSL.out x h
        · exact vb_bytes u x h)
      obtain ⟨n4, hn4⟩ : ∃ n, n = (S ++ vb u).length := ⟨_, rfl⟩
      obtain ⟨s4, hs4⟩ : ∃ s, s = str (S ++ vb u) := ⟨_, rfl⟩
      have HN4 := Lib.hid hn4; have HS4 := Lib.hid hs4
      clear hn4 hs4
      have HSW := Lib.hid (HS.out.keep (HCW.out.trans HCI.out (by simp)))
      have hone := Lib.hid (nv_one .u8 S)
      have hb1 := Lib.hid (show 0 + (nv .u8 S).length ≤ maxLen by rw [nv_length]; unfold maxLen; omega)
      have hb2 := Lib.hid (show (0 + (nv .u8 S).length) * 1 ≤ 140737488355328 by rw [nv_length]; omega)
      have ho : (wr.alloc (.cells #[] 5)).drew.ownsRow wr.heap.size 5 1 (.slice (some ⟨wr.heap.size, 0, none⟩) 0 0) 0 [] := World.ownsRow_made (base := wr.heap.size) (e := 5) (size := 1) wr.drew #[] 0 (Nat.le_refl _) (by simp) rfl
      have HO := Lib.hid ho
      clear ho
      go_wp2
      go_region_held3 (fun w' => w'.cell? ⟨w1.heap.size, j, none⟩ = some (.int .u64 (u : Int))) (first | go_keep | (exact HC4.out.cell HCELL.out (by simp)) | (exact HC3.out.cell HCELL.out (by simp))) (first
        | (refine step_append_reads (by rfl) (.tmp 49) (.tmp 50) 22 22 (by rfl) wr.heap.size 5 5 i0 (.int .u8 0) 1 Try.underlying22 Try.underlying22 hi hz0 hz1 hz2 (by rfl) (.slice (some ⟨wr.heap.size, 0, none⟩) 0 0) 0 [] (by rfl) HO.out (.slice a0 S.length cap0) (nv .u8 S) (by rfl) (HSW.out.keep ((Chg.refl [] _).alloc _).drew) hone.out hb1.out hb2.out (by simp) ?_; intro v3 w3 hown hgrow; rw [nv_length, Nat.zero_add, List.nil_append] at hown; obtain ⟨ao3, cap3', rfl⟩ := own_shape hown; have HC3 := Lib.hid ((HCI.out.alloc (.cells #[] 5)).drew.grown hgrow (fun k hk => .inr (by simp [Value.ownBlock] at hk; have := HCI.out.size; omega))); have HX3 := Lib.hid (reads_of_own hown).seen; clear hown hgrow)
        | (go_at_call 12; (with_reducible refine (put_any _ S u _ HX3.out (by omega) hu).mono ?_); rintro e w4 ⟨x4, rfl, h1, h2⟩; obtain ⟨ao4, cap4, rfl⟩ := own_shape h2; rw [← HN4.out] at h2 ⊢; have HC4 := Lib.hid (HC3.out.trans h1 (by simp)); have HR4 := Lib.hid (reads_of_own h2); clear h1 h2))
      have hcv := cvp HR4.out.seen HN4.out HS4.out HXB.out
      clear HX3 HC3 HO hone hb1 hb2 HSW hcr
      have HQ1 := Lib.hid (Chg.refl [] w4)
      have HQ2 := Lib.hid (Chg.refl [] w4).drew
      have HS5 := Lib.hid (HS.out.keep (HCW.out.trans HC4.out.drew (by simp)))
      have hcr4 := HC4.out.cell HCELL.out (by simp)
      go_wp2
      have hcrd : w4.drew.cell? ⟨w1.heap.size, j, none⟩ = some (.int .u64 (u : Int)) := HQ2.out.cell hcr4 (by simp)
      go_region_law (first
        | (go_simp; go_at_call 13; (with_reducible refine (rput_any _ S u _ HS5.out (by omega) hu).mono ?_); rintro e w5 ⟨x5, rfl, h1, h2⟩; obtain ⟨ao5, cap5, rfl⟩ := own_shape h2; rw [← HN4.out] at h2 ⊢; have HC5 := Lib.hid (HQ2.out.trans h1 (by simp)); have HQ5 := Lib.hid (Chg.refl [] w5); have hcv5 := cvp (reads_of_own h2).seen HN4.out HS4.out HXB.out; clear h1 h2))
      all_goals
        clear hcv hcv5 HQ1 HQ2 HQ5 HS5 hcr4 hcrd
        have hq10 := vb_len64 hu
        obtain ⟨q, hq⟩ : ∃ q, q + 1 = (vb u).length := ⟨(vb u).length - 1, by omega⟩
        have hnq : n4 = S.length + (q + 1) := by rw [HN4.out, List.length_append, hq]
        subst hnq
        have hq9 : q ≤ 9 := by omega
        clear hq10
        obtain ⟨g4, off4, rfl⟩ := HR4.out.ptr (by omega)
        obtain ⟨hbk, hcm⟩ := HR4.out.back
        obtain ⟨hy, hlt4⟩ := hbk (vb_ne u)
        rw [← hq] at hy
        unfold maxLen at hcm
        have hne4 : ¬ cap4 = S.length := by omega
        have hqr : S.length + (q + 1) ≤ cap4 := by
          obtain ⟨_, _, e, h, _⟩ := HR4.out.shape
          injection e with e1 e2 e3
          rw [← e2, ← e3] at h
          exact h
        have HY := Lib.hid hy; have HQ := Lib.hid hq
        clear hy hq hbk
        have HCA := Lib.hid ((Chg.refl [] w5).alloc (.cells #[] 5))
        have ho := World.ownsRow_made (base := w5.heap.size) (e := 5) (size := 1) w5 #[] 0 (Nat.le_refl _) (by simp) rfl
        have HO := Lib.hid ho
        have hone := Lib.hid (nv_one .u8 (vb u))
        have hone3 := Lib.hid (nv_one .u8 T)
        clear ho
        go_wp2_with (at_builtin; refine wpList_append_reads _ rfl (.tmp 72) (.tmp 73) 22 22 rfl w5.heap.size 5 5 i0 (.int .u8 0) 1 Try.underlying22 Try.underlying22 hi hz0 hz1 hz2 rfl _ 0 [] rfl HO.out _ (nv .u8 (vb u)) rfl (HY.out.keep (HC5.out.trans HCA.out (by simp)) (by simp)).seen hone.out ?c1 ?c2 ?c3 ?_)
        case c1 => rw [nv_length, ← HQ.out]; unfold maxLen; omega
        case c2 => rw [nv_length, ← HQ.out]; omega
        case c3 => simp
        intro v6 w6 hown hgrow
        rw [← HQ.out] at hown
        have HC6 := Lib.hid (HCA.out.grown hgrow (fun k hk => .inr (by simp [Value.ownBlock] at hk; omega)))
        have HO6 := Lib.hid hown
        have HT6 := Lib.hid (HT.out.keep (((HCW.out.trans HC4.out (by simp)).trans HC5.out (by simp)).trans HC6.out (by simp)))
        have hs6 := HC6.out.size
        obtain ⟨ao6, cap6, rfl⟩ := own_shape hown
        clear hown hgrow HO HCA
        go_wp2_with (at_builtin; refine wpList_append_reads _ rfl (.tmp 74) (.tmp 75) 22 22 rfl w5.heap.size 5 5 i0 (.int .u8 0) 1 Try.underlying22 Try.underlying22 hi hz0 hz1 hz2 rfl _ _ _ rfl HO6.out _ (nv .u8 T) rfl HT6.out hone3.out ?c1 ?c2 ?c3 ?_)
        case c1 => rw [nv_length]; unfold maxLen; omega
        case c2 => rw [nv_length]; omega
        case c3 => omega
        intro v7 w7 hown hgrow
        have HC7 := Lib.hid (HC6.out.grown hgrow (fun k hk => .inr (own_ge HO6.out k hk)))
        obtain ⟨ao7, cap7, rfl⟩ := own_shape hown
        have HR7 : Hid (Reads w7 (.slice ao7 (q + 1 + T.length) cap7) (nv .u8 (vb u ++ T))) := Lib.hid (by
          have h := reads_of_own hown
          simpa [nv] using h)
        have HB7 := Lib.hid (show ∀ x ∈ vb u ++ T, x < 2 ^ 8 from fun x hx => by
          rcases List.mem_append.1 hx with h | h
          · exact vb_bytes u x h
          · exact HTL.out x h)
        clear hown hgrow HO6 HT6
        go_wp2_with fail
        (with_reducible refine (get_any _ (vb u ++ T) _ HR7.out.seen HB7.out).mono ?_)
        rintro x w8 ⟨rfl, hc8⟩
        rw [(gv_vb u T hu).1, (gv_vb u T hu).2, ← HQ.out]
        have HC8 := Lib.hid ((HC5.out.trans HC7.out (by simp)).trans hc8 (by simp))
        clear hc8 HR7
        have HYF := Lib.hid (show Seen w8 (.slice (some ⟨g4, off4 + S.length, none⟩) q (cap4 - S.length)) (nv .u8 ((vb u).take q)) from by
          exact (HY.out.keep HC8.out (by simp)).seen.front HQ.out.symm q (by omega))
        have HG := Lib.hid (show gl 0 ((vb u).take q) = (0, 8) by
          have := vb_cut u hu
          rwa [← HQ.out] at this)
        go_wp2_with fail
        (with_reducible refine (get_any _ ((vb u).take q) _ HYF.out (fun x hx => vb_bytes u x (List.mem_of_mem_take hx))).mono ?_)
        rintro x w9 ⟨rfl, hc9⟩
        rw [HG.out]
        have HC9 := Lib.hid ((HC4.out.trans HC8.out (by simp)).trans hc9 (by simp))
        have hc := HC9.out.cell HCELL.out (by simp)
        clear hc9
        go_wp2
        go_roundw
        case rel => exact ⟨j + 1, hlt, by go_num, HC9.out⟩
        case measure => simp [intOf]; omega
    · go_wp2
      go_ret
      exact ⟨rfl, (HCW.out.trans HCI.out (by simp)).below (Nat.le_refl _) (by simp)⟩

end Go.Proofs.Ytmdnjcgfcofmiaa
