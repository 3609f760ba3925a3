/- Di, Ds, Dt: texts of one group, one behind the other. -/
import Derived.Test.YtohgnbgijleoaaaDoorE2
import Derived.Test.YtohgnbgijleoaaaDoorX1
import Derived.Test.YtohgnbgijleoaaaDoorRf
import Derived.BigQuiet
import Derived.Test.YtohgnbgijleoaaaDoorE6
import Derived.Test.YtohgnbgijleoaaaDoorU3
namespace Go.Proofs.YtohgnbgijleoaaaDoor
open Go.RowKit
set_option linter.unusedVariables false
set_option linter.unusedSimpArgs false

/-- How reading n numbers of b stands: a bytes are gone, the error is e, l was read. -/
def JD (n : Nat) (b : List Nat) (a : Nat) (e : Int) (l : List Int) : Prop :=
  (e = 0 → l ≠ [] ∧ l.length ≤ n ∧ decD n [] b = decD (n - l.length) l (b.drop a)) ∧ (e ≠ 0 → (decD n [] b).1 = e)

theorem JD.done {n : Nat} {b : List Nat} {a : Nat} {l : List Int} (h : JD n b a 0 l) (hl : l.length = n) : decD n [] b = (0, l, b.drop a) := by
  obtain ⟨-, -, h3⟩ := h.1 rfl
  rw [h3, hl, Nat.sub_self, decD_zero]

theorem JD.step {n : Nat} {b : List Nat} {a a' : Nat} {l X : List Int} (h : JD n b a 0 l) (hl : l.length < n) (hp : partD (n - l.length) l (b.drop a) = (0, X, b.drop a')) : JD n b a' 0 (l ++ X) := by
  obtain ⟨h1, h2, h3⟩ := h.1 rfl
  have hx := partD_len (k := n - l.length) (l := l) (b := b.drop a) (by omega) (by rw [hp])
  rw [hp] at hx
  have hx : 1 ≤ X.length ∧ X.length ≤ n - l.length := hx
  refine ⟨fun _ => ⟨by simp [h1], by rw [List.length_append]; omega, ?_⟩, fun h => absurd rfl h⟩
  rw [h3, decD_ok (by omega) (by rw [hp]), hp, List.length_append]
  show decD (n - l.length - X.length) (l ++ X) (b.drop a') = _
  rw [Nat.sub_sub]

theorem JD.fail {n : Nat} {b : List Nat} {a a' : Nat} {e : Int} {l l' : List Int} (h : JD n b a 0 l) (hl : l.length < n) (hp : (partD (n - l.length) l (b.drop a)).1 = e) (he : e ≠ 0) : JD n b a' e l' := by
  obtain ⟨h1, h2, h3⟩ := h.1 rfl
  refine ⟨fun h => absurd h he, fun _ => ?_⟩
  rw [h3, decD_bad (by omega) (by rw [hp]; exact he), hp]

/-- The reader and the row of numbers, where the reference reads. -/
structure RJ (w w' : World) (x M n : Nat) (b : List Nat) (lv : Value) (a : Nat) (e : Int) (l : List Int) : Prop where
  c0 : Chg [] w w'
  xs : XS w' x M b a e
  hx : w.heap.size ≤ x
  hM : M ≤ w'.heap.size
  ow : w'.ownsRow M 3 1 lv l.length (iv l)
  jd : JD n b a e l

/-- The reader did something: the row stands. -/
theorem RJ.rd {w w1 w2 : World} {x M n : Nat} {b : List Nat} {lv : Value} {a a' : Nat} {e e' : Int} {l : List Int} (h : RJ w w1 x M n b lv a e l) (hc : Chg [x] w1 w2) (hs : XS w2 x M b a' e') (hj : JD n b a' e' l) : RJ w w2 x M n b lv a' e' l :=
  ⟨h.c0.trans hc (fun t ht => .inr (by simp at ht; have := h.hx; omega)), hs, h.hx, Nat.le_trans h.hM hc.size, own_chg h.ow hc (own_notin h.ow h.xs.xM), hj⟩

theorem xsGet_err {w : World} {x M : Nat} {b : List Nat} {a : Nat} {e : Int} (h : XS w x M b a e) (he : e ≠ 0) (n : Int) :
    Calls Tryd.prog 46 #[.pointer (some ⟨x, 0, none⟩), .int .i64 n] w fun y w' => y = .returned (.int .u64 0) ∧ w = w' := by
  refine (xget_none x n e w (zi b) a h.xr (.inl he)).mono ?_
  rintro y w' ⟨rfl, h2⟩
  exact ⟨rfl, by first | exact h2 | exact h2.symm⟩

theorem xsTake_err2 {w : World} {x M : Nat} {b : List Nat} {a : Nat} {e : Int} (h : XS w x M b a e) (he : e ≠ 0) (n : Int) :
    Calls Tryd.prog 48 #[.pointer (some ⟨x, 0, none⟩), .int .i64 n] w fun y w' => y = .returned (.slice none 0 0) ∧ w = w' := by
  refine (xtake_none x n e w (zi b) a h.xr (.inl he)).mono ?_
  rintro y w' ⟨rfl, h2⟩
  exact ⟨rfl, by first | exact h2 | exact h2.symm⟩

theorem xsFail {w : World} {x M : Nat} {b : List Nat} {a : Nat} (h : XS w x M b a 0) (e : Int) :
    Calls Tryd.prog 47 #[.pointer (some ⟨x, 0, none⟩), .int .i64 e] w fun y w' => y = .returned (.tuple #[]) ∧ Chg [x] w w' ∧ XS w' x M b a e := by
  refine (xfail_set x e w (zi b) a h.xr).mono ?_
  rintro y w' ⟨rfl, hc, hr⟩
  exact ⟨rfl, hc, ⟨hr, h.by', h.bl, h.xM, h.aL⟩⟩

theorem gl_gv0 (l : List Nat) (h : (gl 0 l).2 ≠ 0) : gv l = 0 := by unfold gv; rw [if_neg h]

theorem xsVRead2 {w : World} {x M : Nat} {b : List Nat} {a : Nat} (h : XS w x M b a 0) :
    Calls Tryd.prog 51 #[.pointer (some ⟨x, 0, none⟩)] w fun y w' => ∃ a' : Nat, y = .returned (.int .u64 ((gv (b.drop a) : Nat) : Int)) ∧ Chg [x] w w' ∧ XS w' x M b a' ((gl 0 (b.drop a)).2 : Nat) ∧ ((gl 0 (b.drop a)).2 = 0 → a' = a + (gl 0 (b.drop a)).1) := by
  refine (xsVRead h).mono ?_
  intro y w' hy
  by_cases he : (gl 0 (b.drop a)).2 = 0
  · rw [if_neg (by omega)] at hy
    obtain ⟨rfl, hc, hs⟩ := hy
    exact ⟨_, rfl, hc, by rw [he]; exact hs, fun _ => rfl⟩
  · rw [if_pos he] at hy
    obtain ⟨rfl, hc, hs⟩ := hy
    exact ⟨_, by rw [gl_gv0 _ he]; rfl, hc, hs, fun h => absurd h he⟩

/-- The error that a reader holds. -/
def errAt (w : World) (x : Nat) : Nat := if intOf ((w.cell? ⟨x, 2, none⟩).getD undef) = 0 then 1 else 0
theorem errAt_of {w : World} {x M : Nat} {b : List Nat} {a : Nat} {e : Int} (h : XS w x M b a e) : errAt w x = if e = 0 then 1 else 0 := by
  unfold errAt
  rw [h.err]
  by_cases he : e = 0 <;> simp [intOf, he]

theorem xsGet_nil {w : World} {x M : Nat} {b : List Nat} {a : Nat} (h : XS w x M b a 0) (hr : b.drop a = []) :
    Calls Tryd.prog 46 #[.pointer (some ⟨x, 0, none⟩), .int .i64 1] w fun y w' => y = .returned (.int .u64 0) ∧ Chg [x] w w' ∧ XS w' x M b a 8 := by
  refine (xsGet h 1 (by decide) (by decide)).mono ?_
  intro y w' hy
  rw [if_pos (by rw [hr]; simp)] at hy
  exact hy

theorem xsGet_one {w : World} {x M : Nat} {b : List Nat} {a : Nat} (h : XS w x M b a 0) (hr : b.drop a ≠ []) :
    Calls Tryd.prog 46 #[.pointer (some ⟨x, 0, none⟩), .int .i64 1] w fun y w' => y = .returned (.int .u64 (((b.drop a).getD 0 0 : Nat) : Int)) ∧ Chg [x] w w' ∧ XS w' x M b (a + 1) 0 := by
  have hp : 0 < (b.drop a).length := List.length_pos_iff.2 hr
  refine (xsGet h 1 (by decide) (by decide)).mono ?_
  intro y w' hy
  rw [if_neg (by omega)] at hy
  have e : nm ((b.drop a).take 1) = (b.drop a).getD 0 0 := by
    cases h : b.drop a with
    | nil => exact absurd h hr
    | cons y r => simp [nm]
  rw [e] at hy
  exact hy

theorem xsTake_cut2 {w : World} {x M : Nat} {b : List Nat} {a : Nat} (h : XS w x M b a 0) (n : Nat) (hn : (b.drop a).length < n) :
    Calls Tryd.prog 48 #[.pointer (some ⟨x, 0, none⟩), .int .i64 (n : Int)] w fun y w' => y = .returned (.slice none 0 0) ∧ Chg [x] w w' ∧ XS w' x M b a 8 := by
  refine (xsTake h n).mono ?_
  rintro y w' ⟨v, rfl, hc, hv⟩
  rw [if_pos hn] at hv
  exact ⟨by rw [hv.1], hc, hv.2⟩

theorem xsTake_ok2 {w : World} {x M : Nat} {b : List Nat} {a : Nat} (h : XS w x M b a 0) (n : Nat) (hn : n ≤ (b.drop a).length) :
    Calls Tryd.prog 48 #[.pointer (some ⟨x, 0, none⟩), .int .i64 (n : Int)] w fun y w' => ∃ v, y = .returned v ∧ Chg [x] w w' ∧ Seen w' v (nv .u8 ((b.drop a).take n)) ∧ XS w' x M b (a + n) 0 := by
  refine (xsTake h n).mono ?_
  rintro y w' ⟨v, rfl, hc, hv⟩
  rw [if_neg (by omega)] at hv
  exact ⟨v, rfl, hc, hv⟩

theorem u64_mod (x : Int) : IntKind.u64.wrap x = x % 18446744073709551616 := by simp [IntKind.wrap, IntKind.bits, IntKind.signed]

theorem ref_wrap (v z a : Int) : wrp (v + wrp ((z % 18446744073709551616 + a) % 18446744073709551616)) = wrp (v + (z + a)) := by unfold wrp; omega

theorem rread_args (bv : Value) (n : Int) (w : World) (h : n < 0 ∨ 4000 < n) :
    Calls Tryd.prog 25 #[bv, .int .i64 n] w fun e w' => e = .returned (.tuple #[.slice none 0 0, .int .i64 0, .int .i64 1]) ∧ w = w' := by
  rcases Int.lt_or_le n 0 with h1 | h1
  · have d1 : decide (n < 0) = true := by simpa using h1
    clear h
    go_enter Tryd.func25, Tryd.ntmps25
    go_wp2
    go_ret3
    exact ⟨rfl, rfl⟩
  · have d1 : decide (n < 0) = false := by simpa using h1
    have d2 : decide (4000 < n) = true := by simp; omega
    clear h
    go_enter Tryd.func25, Tryd.ntmps25
    go_wp2
    go_ret3
    exact ⟨rfl, rfl⟩

theorem rread_zero (bv : Value) (w : World) :
    Calls Tryd.prog 25 #[bv, .int .i64 0] w fun e w' => e = .returned (.tuple #[.slice none 0 0, .int .i64 0, .int .i64 0]) ∧ w = w' := by
  have d3 : ((0 : Int) == 0) = true := rfl
  go_enter Tryd.func25, Tryd.ntmps25
  go_wp2
  go_ret3
  exact ⟨rfl, rfl⟩

set_option maxRecDepth 100000 in
set_option maxHeartbeats 8000000 in
theorem rread12_any (bv : Value) (b : List Nat) (n : Int) (w : World) (hS : Seen w bv (nv .u8 b)) (hb : ∀ x ∈ b, x < 2 ^ 8) (hbl : b.length ≤ 1000000000) :
    Calls Tryd.prog 25 #[bv, .int .i64 n] w (DReadOut b n w) := by
  by_cases hn : n < 0 ∨ 4000 < n
  · refine (rread_args bv n w hn).mono ?_
    rintro e w' ⟨rfl, rfl⟩
    unfold DReadOut readD
    rw [if_pos hn]
    exact ⟨_, rfl, Chg.refl _ _, World.ownsRow_nil _ _ _ _⟩
  obtain ⟨N, hN⟩ : ∃ N : Nat, n = (N : Int) := ⟨n.toNat, by omega⟩
  subst hN
  have hN4 : N ≤ 4000 := by omega
  have hR : readD b (N : Int) = if (decD N [] b).1 ≠ 0 then ([], 0, (decD N [] b).1) else ((decD N [] b).2.1, b.length - (decD N [] b).2.2.length, 0) := by
    unfold readD; rw [if_neg hn, Int.toNat_natCast]
  by_cases hN0 : N = 0
  · subst hN0
    refine (rread_zero bv w).mono ?_
    rintro e w' ⟨rfl, rfl⟩
    unfold DReadOut
    rw [hR, decD_zero]
    simp only [ne_eq, not_true_eq_false, if_false, Nat.sub_self]
    exact ⟨_, rfl, Chg.refl _ _, World.ownsRow_nil _ _ _ _⟩
  obtain ⟨R, hRR⟩ : ∃ R, R = readD b (N : Int) := ⟨_, rfl⟩
  unfold DReadOut
  rw [← hRR] at hR ⊢
  have HR := Lib.hid hR
  have d1 : decide ((N : Int) < 0) = false := by simp
  have d2 : decide (4000 < (N : Int)) = false := by simp; omega
  have d3 : ((N : Int) == 0) = false := by simp; omega
  have HNEW := Lib.hid (xsNew bv b w hS hb hbl)
  obtain ⟨i0, hi, hz0, hz1, hz2⟩ := info_int
  have HEND := Lib.hid (show ∀ (w' : World) (x M : Nat) (lv : Value) (a : Nat) (e : Int) (l : List Int), RJ w w' x M N b lv a e l → (e ≠ 0 → R = ([], 0, e)) ∧ (e = 0 → l.length = N → R = (l, a, 0)) from fun w' x M lv a e l h => by
    refine ⟨fun he => ?_, fun he hl => ?_⟩
    · have := h.jd.2 he
      rw [HR.out, if_pos (by rw [this]; exact he), this]
    · have hjd := h.jd
      rw [he] at hjd
      have := hjd.done hl
      rw [HR.out, this]
      have ha := h.xs.aL
      simp only [ne_eq, not_true_eq_false, if_false, List.length_drop]
      congr 2
      omega)
  have HB8 := Lib.hid hb
  have HN0 := Lib.hid hN0
  clear hS hb hn hR hRR hN0
  go_enter Tryd.func25, Tryd.ntmps25
  go_wp2_with (first
    | (go_at_call 45; (with_reducible refine HNEW.out.mono ?_); rintro e w1 ⟨x, rfl, hc1, hx1, hs1⟩; have HC1 := Lib.hid hc1; have HX1 := Lib.hid hs1; have HXG := Lib.hid hx1; have HV1 := Lib.hid (xsVRead2 hs1); rw [List.drop_zero, Nat.zero_add] at HV1; clear hc1 hs1 hx1)
    | (go_at_call 51; (with_reducible refine HV1.out.mono ?_); rintro e w2 ⟨a', rfl, hc2, hs2, ha2⟩; have HC2 := Lib.hid hc2; have HX2 := Lib.hid hs2; have HA2 := Lib.hid ha2; clear hc2 hs2 ha2)
    | (go_at_call 50; (with_reducible refine (rzag_any _ _ (gv_lt b HB8.out)).mono ?_); rintro e w3 ⟨rfl, rfl⟩)
    | fail)
  obtain ⟨M, hM⟩ : ∃ M, M = w1.heap.size := ⟨_, rfl⟩
  rw [← hM] at HX2
  have HMM := Lib.hid hM
  have hMB : M ≤ w2.heap.size := by rw [hM]; exact HC2.out.size
  obtain ⟨v0, hv0⟩ : ∃ v, v = zagOf (gv b) := ⟨_, rfl⟩
  have HV0 := Lib.hid hv0
  rw [← hv0]
  have HRJ := Lib.hid (show RJ w (w2.alloc (.cells #[.int .i64 v0] 3)) x M N b (.slice (some ⟨w2.heap.size, 0, none⟩) 1 1) a' ((gl 0 b).2 : Nat) [v0] from by
    refine ⟨(HC1.out.trans HC2.out (fun t ht => .inr (by simp at ht; have := HXG.out; omega))).alloc _, HX2.out.keep ((Chg.refl [] w2).alloc _), HXG.out, by simp; omega, own_lit w2 _ _ rfl hMB 3 _ _ 1 1 rfl rfl (by decide), ?_, ?_⟩
    · intro he
      have he : (gl 0 b).2 = 0 := by omega
      have hp : partD N [] b = (0, [v0], b.drop (gl 0 b).1) := by unfold partD; rw [if_neg (by omega), if_pos rfl, hv0]
      refine ⟨by simp, by simp; have := HN0.out; omega, ?_⟩
      rw [decD_ok HN0.out (by rw [hp]), hp, HA2.out he]
      rfl
    · intro he
      have he : (gl 0 b).2 ≠ 0 := by omega
      have hp : partD N [] b = ((((gl 0 b).2 : Nat) : Int), [], []) := by unfold partD; rw [if_pos he]
      rw [decD_bad HN0.out (by rw [hp]; exact Int.natCast_ne_zero.2 he), hp])
  obtain ⟨wS, hwS⟩ : ∃ x, x = w2.alloc (.cells #[.int .i64 v0] 3) := ⟨_, rfl⟩
  rw [← hwS] at HRJ ⊢
  clear hM hv0 hwS
  go_loopw [8] (fun lv w' => ∃ (a : Nat) (e : Int) (l : List Int), l.length ≤ N ∧ RJ w w' x M N b lv a e l) (fun lv w' => 2 * (N - slen lv) + errAt w' x)
  case atStart => exact ⟨a', _, [v0], by simp; have := HN0.out; omega, HRJ.out⟩
  case round =>
    obtain ⟨a, e, l, hlN, hrj⟩ := hrel
    have HRJ := Lib.hid hrj
    obtain ⟨lo, lc, rfl⟩ := own_shape hrj.ow
    obtain ⟨m, hm⟩ : ∃ m, m = l.length := ⟨_, rfl⟩
    rw [← hm] at HRJ hlN ⊢
    have HM := Lib.hid hm
    have hx2 := hrj.xs.err
    obtain ⟨vx, hvx, -⟩ := hrj.xs.xr
    obtain ⟨x0, x1, -, -⟩ := cells3 hvx
    clear hrj hm hvx
    by_cases hlt : m < N
    · have d4 : decide ((m : Int) < (N : Int)) = true := by simp; omega
      have d4' : (m : Int) < (N : Int) := by omega
      by_cases he0 : e = 0
      · subst he0
        obtain ⟨K, hK⟩ : ∃ K, K = N - m := ⟨_, rfl⟩
        obtain ⟨k, hk⟩ : ∃ k, k = min 32 K := ⟨_, rfl⟩
        have hk1 : 1 ≤ k := by omega
        have hk32 : k ≤ 32 := by omega
        have hsub : IntKind.i64.wrap ((N : Int) - (m : Int)) = (K : Int) := by rw [show (N : Int) - (m : Int) = (K : Int) by omega]; exact IntWalk.i64_in _ (by omega)
        have hmin : min (32 : Int) (K : Int) = (k : Int) := by omega
        have hsubK : (N : Int) - (m : Int) = (K : Int) := by omega
        have HV := Lib.hid (xsVRead2 HRJ.out.xs)
        have HZ := Lib.hid (fun wx => rzag_any (gv (b.drop a)) wx (gv_lt _ (fun y hy => HB8.out y (List.mem_of_mem_drop hy))))
        have HKN := Lib.hid (show N - l.length = K by rw [← HM.out, hK])
        have HLM := Lib.hid (show l.length < N by rw [← HM.out]; exact hlt)
        have HJD := Lib.hid HRJ.out.jd
        have hlne : l ≠ [] := (HJD.out.1 rfl).1
        have HLNE := Lib.hid hlne
        obtain ⟨E, hE⟩ : ∃ E, E = (gl 0 (b.drop a)).2 := ⟨_, rfl⟩
        obtain ⟨z, hz⟩ : ∃ z, z = zagOf (gv (b.drop a)) := ⟨_, rfl⟩
        obtain ⟨V, hV⟩ : ∃ V, V = gv (b.drop a) := ⟨_, rfl⟩
        rw [← hE, ← hV] at HV
        rw [← hV] at hz HZ
        rw [← hz] at HZ
        have HEE := Lib.hid hE; have HZZ := Lib.hid hz; have HVV := Lib.hid hV; have HKK := Lib.hid hk; have HK0 := Lib.hid hK
        clear hE hz hV hK hk hlne
        by_cases hE0 : E = 0
        · subst hE0
          obtain ⟨a1, ha1⟩ : ∃ a1, a1 = a + (gl 0 (b.drop a)).1 := ⟨_, rfl⟩
          have hrest : (b.drop a).drop (gl 0 (b.drop a)).1 = b.drop a1 := by rw [List.drop_drop, ha1]
          have HPD := Lib.hid (show partD (N - l.length) l (b.drop a) = blkD k l z (b.drop a1) by
            rw [HKN.out, partD_blk K l (b.drop a) HEE.out.symm HLNE.out, hrest, ← HKK.out, ← HVV.out, ← HZZ.out])
          have HV2 := Lib.hid (show Calls Tryd.prog 51 #[.pointer (some ⟨x, 0, none⟩)] wr fun y w' => y = .returned (.int .u64 ((V : Nat) : Int)) ∧ Chg [x] wr w' ∧ XS w' x M b a1 0 by
            refine HV.out.mono ?_
            rintro y w' ⟨a4, rfl, hc4, hs4, h4⟩
            rw [h4 rfl, ← ha1] at hs4
            exact ⟨rfl, hc4, hs4⟩)
          clear HV ha1 hrest
          obtain ⟨r1, hr1⟩ : ∃ r, r = b.drop a1 := ⟨_, rfl⟩
          rw [← hr1] at HPD
          by_cases hn1 : r1 = []
          · have HP8 := Lib.hid (show (partD (N - l.length) l (b.drop a)).1 = 8 by rw [HPD.out]; unfold blkD; rw [if_pos hn1])
            have HRN := Lib.hid (show b.drop a1 = [] by rw [← hr1]; exact hn1)
            have hEi : ((8 : Int) != 0) = true := rfl
            clear hr1 hn1
            go_wp2_with (first
              | (go_at_call 51; (with_reducible refine HV2.out.mono ?_); rintro e' w4 ⟨rfl, hc4, hs4⟩; have HC4 := Lib.hid hc4; have HS4 := Lib.hid hs4; clear hc4 hs4)
              | (go_at_call 50; (with_reducible refine (HZ.out _).mono ?_); rintro e' w5 ⟨rfl, rfl⟩)
              | (go_at_call 46; (with_reducible refine (xsGet_nil HS4.out HRN.out).mono ?_); rintro e' w5 ⟨rfl, hc5, hs5⟩; have HJ5 := Lib.hid (HRJ.out.rd (HC4.out.trans hc5 (by simp)) hs5 (HJD.out.fail HLM.out HP8.out (by decide))); have y2 := hs5.err; clear hc5 hs5)
              | (go_at_call 48; (with_reducible refine (xsTake_err2 HJ5.out.xs (by decide) _).mono ?_); rintro e' w6 ⟨rfl, rfl⟩)
              | fail)
            go_quiet (fail)
            go_wp2
            go_ret3
            rw [(HEND.out _ _ _ _ _ _ _ HJ5.out).1 (by decide)]
            exact ⟨_, rfl, HJ5.out.c0.drewN _, World.ownsRow_nil _ _ _ _⟩
          have HRN := Lib.hid (show b.drop a1 ≠ [] by rw [← hr1]; exact hn1)
          obtain ⟨W, hW⟩ : ∃ W, W = r1.getD 0 0 := ⟨_, rfl⟩
          have hW256 : W < 256 := by
            rw [hW]
            have hp := List.length_pos_iff.2 hn1
            exact HB8.out _ (List.mem_of_mem_drop (by rw [← hr1]; exact getD_mem hp))
          have HWE := Lib.hid (show (b.drop a1).getD 0 0 = W by rw [hW, hr1])
          have hcW : IntKind.i64.wrap (W : Int) = (W : Int) := IntWalk.i64_in _ (by omega)
          obtain ⟨T, hT⟩ : ∃ T, T = (k * W + 7) / 8 := ⟨_, rfl⟩
          obtain ⟨kw, hkw⟩ : ∃ kw, kw = k * W := ⟨_, rfl⟩
          have hkw2 : kw ≤ 32 * 256 := by rw [hkw]; exact Nat.mul_le_mul hk32 (by omega)
          have hmul : IntKind.i64.wrap ((k : Int) * (W : Int)) = (kw : Int) := by
            rw [show (k : Int) * (W : Int) = (kw : Int) by rw [hkw]; push_cast; rfl]
            exact IntWalk.i64_in _ (by omega)
          obtain ⟨k7, hk7⟩ : ∃ k7, k7 = kw + 7 := ⟨_, rfl⟩
          have hadd : IntKind.i64.wrap ((kw : Int) + 7) = (k7 : Int) := by rw [show (kw : Int) + 7 = (k7 : Int) by omega]; exact IntWalk.i64_in _ (by omega)
          have hT2 : T = k7 / 8 := by rw [hT, hk7, hkw]
          have hquo : (k7 : Int).tdiv 8 = (T : Int) := by rw [Int.tdiv_eq_ediv_of_nonneg (by omega)]; omega
          have hTw : IntKind.i64.wrap (T : Int) = (T : Int) := IntWalk.i64_in _ (by omega)
          by_cases h64 : 64 < W
          · have HP10 := Lib.hid (show (partD (N - l.length) l (b.drop a)).1 = 10 by rw [HPD.out]; unfold blkD; rw [if_neg hn1, ← hW, if_pos h64])
            have d6 : decide ((64 : Int) < (W : Int)) = true := by simp; omega
            have hEi : ((10 : Int) != 0) = true := rfl
            clear hr1 hn1 hW hT hkw hk7 hT2
            go_wp2_with (first
              | (go_at_call 51; (with_reducible refine HV2.out.mono ?_); rintro e' w4 ⟨rfl, hc4, hs4⟩; have HC4 := Lib.hid hc4; have HS4 := Lib.hid hs4; clear hc4 hs4)
              | (go_at_call 50; (with_reducible refine (HZ.out _).mono ?_); rintro e' w5 ⟨rfl, rfl⟩)
              | (go_at_call 46; (with_reducible refine (xsGet_one HS4.out HRN.out).mono ?_); rintro e' w5 ⟨rfl, hc5, hs5⟩; rw [HWE.out]; have HC5 := Lib.hid (HC4.out.trans hc5 (by simp)); have HS5 := Lib.hid hs5; clear hc5 hs5)
              | (go_at_call 47; (with_reducible refine (xsFail HS5.out 10).mono ?_); rintro e' w6 ⟨rfl, hc6, hs6⟩; have HJ6 := Lib.hid (HRJ.out.rd (HC5.out.trans hc6 (by simp)) hs6 (HJD.out.fail HLM.out HP10.out (by decide))); have y2 := hs6.err; clear hc6 hs6)
              | (go_at_call 48; (with_reducible refine (xsTake_err2 HJ6.out.xs (by decide) _).mono ?_); rintro e' w7 ⟨rfl, rfl⟩)
              | fail)
            go_quiet (fail)
            go_wp2
            go_ret3
            rw [(HEND.out _ _ _ _ _ _ _ HJ6.out).1 (by decide)]
            exact ⟨_, rfl, HJ6.out.c0.drewN _, World.ownsRow_nil _ _ _ _⟩
          have d6 : decide ((64 : Int) < (W : Int)) = false := by simp; omega
          obtain ⟨a2, ha2⟩ : ∃ a2, a2 = a1 + 1 := ⟨_, rfl⟩
          have hr2 : r1.drop 1 = b.drop a2 := by rw [hr1, List.drop_drop, ha2]
          obtain ⟨r2, hr2'⟩ : ∃ r, r = r1.drop 1 := ⟨_, rfl⟩
          have HR2 := Lib.hid (show b.drop a2 = r2 by rw [hr2', hr2])
          by_cases hcut : r2.length < T
          · have HP8 := Lib.hid (show (partD (N - l.length) l (b.drop a)).1 = 8 by
              rw [HPD.out]; unfold blkD
              have hf : faultOf ((r1.drop 1).take ((k * W + 7) / 8)) (W * k) = 8 := by
                unfold faultOf
                rw [← hr2', ← hT, List.take_of_length_le (by omega), if_pos (by rw [Nat.mul_comm W k, ← hT]; exact hcut)]
              rw [if_neg hn1, ← hW, if_neg h64, hf, if_pos (by decide)])
            have hEi : ((8 : Int) != 0) = true := rfl
            have HCUT := Lib.hid (show (b.drop a2).length < T by rw [HR2.out]; exact hcut)
            have HA2' := Lib.hid ha2
            clear hr1 hn1 hW hT hkw hk7 hT2 hr2 hr2' ha2
            go_wp2_with (first
              | (go_at_call 51; (with_reducible refine HV2.out.mono ?_); rintro e' w4 ⟨rfl, hc4, hs4⟩; have HC4 := Lib.hid hc4; have HS4 := Lib.hid hs4; clear hc4 hs4)
              | (go_at_call 50; (with_reducible refine (HZ.out _).mono ?_); rintro e' w5 ⟨rfl, rfl⟩)
              | (go_at_call 46; (with_reducible refine (xsGet_one HS4.out HRN.out).mono ?_); rintro e' w5 ⟨rfl, hc5, hs5⟩; rw [HWE.out]; rw [← HA2'.out] at hs5; have HC5 := Lib.hid (HC4.out.trans hc5 (by simp)); have HS5 := Lib.hid hs5; clear hc5 hs5)
              | (go_at_call 48; (with_reducible refine (xsTake_cut2 HS5.out T HCUT.out).mono ?_); rintro e' w6 ⟨rfl, hc6, hs6⟩; have HJ6 := Lib.hid (HRJ.out.rd (HC5.out.trans hc6 (by simp)) hs6 (HJD.out.fail HLM.out HP8.out (by decide))); have y2 := hs6.err; clear hc6 hs6)
              | fail)
            go_quiet (fail)
            go_wp2
            go_ret3
            rw [(HEND.out _ _ _ _ _ _ _ HJ6.out).1 (by decide)]
            exact ⟨_, rfl, HJ6.out.c0.drewN _, World.ownsRow_nil _ _ _ _⟩
          obtain ⟨s, hs⟩ : ∃ s, s = r2.take T := ⟨_, rfl⟩
          have HSS := Lib.hid (show (b.drop a2).take T = s by rw [HR2.out, hs])
          have hsb : ∀ y ∈ s, y < 2 ^ 8 := fun y hy => HB8.out y (List.mem_of_mem_drop (List.mem_of_mem_take (by rw [HSS.out]; exact hy)))
          have hsl : s.length ≤ 1000000 := by rw [hs, List.length_take]; omega
          have HU := Lib.hid (fun (sv : Value) (wx : World) (hS : Seen wx sv (nv .u8 s)) => runpack_any sv s k W wx (by omega) (by omega) (by omega) hS hsb)
          obtain ⟨f, hf⟩ : ∃ f, f = faultOf s (W * k) := ⟨_, rfl⟩
          unfold UnpackOut at HU
          rw [← hf] at HU
          obtain ⟨a3, ha3⟩ : ∃ a3, a3 = a2 + T := ⟨_, rfl⟩
          have hr3 : r2.drop T = b.drop a3 := by rw [← HR2.out, List.drop_drop, ha3]
          have hPB : blkD k l z r1 = if f ≠ 0 then (f, [], []) else (0, runS (lastI 0 l) z (unpacked s k W), b.drop a3) := by
            unfold blkD
            rw [if_neg hn1, ← hW, if_neg h64, ← hr2', ← hT, ← hs, ← hf, hr3]
          have HTL := Lib.hid (show T ≤ (b.drop a2).length by rw [HR2.out]; omega)
          have HA2' := Lib.hid ha2; have HA3 := Lib.hid ha3
          by_cases hf0 : f = 0
          · subst hf0
            rw [if_neg (by simp)] at hPB
            obtain ⟨A, hA⟩ : ∃ A, A = unpacked s k W := ⟨_, rfl⟩
            have hout : outU s k W = A := by unfold outU; rw [if_pos (by rw [← hf]), hA]
            have HAL := Lib.hid (show A.length = k by rw [hA]; exact unpacked_length _ _ _)
            rw [hout] at HU
            rw [← hA] at hPB
            have HPF := Lib.hid (show partD (N - l.length) l (b.drop a) = (0, runS (lastI 0 l) z A, b.drop a3) by rw [HPD.out, hPB])
            have hEi : ((0 : Int) != 0) = false := rfl
            clear hr1 hn1 hW hT hkw hk7 hT2 hr2 hr2' ha2 hs hsb hf ha3 hr3 hPB hA hout
            go_wp2_with (first
              | (go_at_call 51; (with_reducible refine HV2.out.mono ?_); rintro e' w4 ⟨rfl, hc4, hs4⟩; have HC4 := Lib.hid hc4; have HS4 := Lib.hid hs4; clear hc4 hs4)
              | (go_at_call 50; (with_reducible refine (HZ.out _).mono ?_); rintro e' w5 ⟨rfl, rfl⟩)
              | (go_at_call 46; (with_reducible refine (xsGet_one HS4.out HRN.out).mono ?_); rintro e' w5 ⟨rfl, hc5, hs5⟩; rw [HWE.out]; rw [← HA2'.out] at hs5; have HC5 := Lib.hid (HC4.out.trans hc5 (by simp)); have HS5 := Lib.hid hs5; clear hc5 hs5)
              | (go_at_call 48; (with_reducible refine (xsTake_ok2 HS5.out T HTL.out).mono ?_); rintro e' w6 ⟨sv, rfl, hc6, hsv, hs6⟩; rw [HSS.out] at hsv; have HC6 := Lib.hid (HC5.out.trans hc6 (by simp)); have HS6 := Lib.hid hs6; have y2 := hs6.err; have HSV := Lib.hid hsv; clear hc6 hs6 hsv)
              | (go_at_call 52; (with_reducible refine (HU.out _ w6 HSV.out).mono ?_); rintro e' w7 ⟨gv', rfl, hc7, ho7⟩; rw [HAL.out] at ho7; obtain ⟨go, gc, rfl⟩ := own_shape ho7; have HC7 := Lib.hid (HC6.out.trans hc7 (by simp)); have HS7 := Lib.hid (HS6.out.keep hc7); have HB7 := Lib.hid (Nat.le_trans HRJ.out.hM HC6.out.size); have HG7 := Lib.hid (own_mono ho7 HB7.out); clear hc7 ho7)
              | fail)
            have HC0 := Lib.hid (HRJ.out.c0.trans HC7.out (fun t ht => .inr (by simp at ht; have := HRJ.out.hx; omega)))
            have HM7 := Lib.hid (Nat.le_trans HRJ.out.hM HC7.out.size)
            have HL7 := Lib.hid (own_chg HRJ.out.ow HC7.out (own_notin HRJ.out.ow HRJ.out.xs.xM))
            rw [← HA3.out] at HS7
            rw [← HM.out] at HL7
            obtain ⟨u0, hu0⟩ : ∃ u, u = lastI 0 l := ⟨_, rfl⟩
            have HU0 := Lib.hid hu0
            rw [← hu0] at HPF
            clear hu0
            rename World => w7
            go_loopw [8, 15] (fun lv i w' => ∃ j : Nat, j ≤ k ∧ i = .int .i64 (j : Int) ∧ Chg [] w w' ∧ XS w' x M b a3 0 ∧ M ≤ w'.heap.size ∧ w'.ownsRow M 3 1 lv (m + j) (iv (l ++ runS u0 z (A.take j))) ∧ w'.ownsRow M 67 1 (.slice go k gc) k (nv .u64 A)) (fun _ i _ => k - (intOf i).toNat)
            case atStart => exact ⟨0, Nat.zero_le _, rfl, HC0.out, HS7.out, HM7.out, by
              rw [List.take_zero, show runS u0 z [] = [] from rfl, List.append_nil]
              exact HL7.out, HG7.out⟩
            case round =>
              obtain ⟨j, hj, rfl, hcj, hsj, hmj, hlj, hgj⟩ := hrel
              have HCJ := Lib.hid hcj; have HSJ := Lib.hid hsj; have HLJ := Lib.hid hlj; have HGJ := Lib.hid hgj
              obtain ⟨jo, jc, rfl⟩ := own_shape hlj
              clear hcj hsj hlj hgj y2
              by_cases hjk : j < k
              · have d8 : decide ((j : Int) < (k : Int)) = true := by simp; omega
                obtain ⟨ga, hga, hage, -, -, hacl⟩ := own_ptr HGJ.out (by omega)
                have z1 := hacl j (.int .u64 ((A.getD j 0 : Nat) : Int)) (nv_get .u64 A j (by rw [HAL.out]; exact hjk))
                subst hga
                have HSTEP := Lib.hid (runS_step u0 z A j (by rw [HAL.out]; exact hjk))
                obtain ⟨y, hy⟩ : ∃ y, y = A.getD j 0 := ⟨_, rfl⟩
                rw [← hy] at z1 HSTEP
                obtain ⟨X, hX⟩ : ∃ X, X = runS u0 z (A.take j) := ⟨_, rfl⟩
                rw [← hX] at HSTEP HLJ
                have hXl : X.length = j := by rw [hX, runS_length, List.length_take, HAL.out]; omega
                have HXL := Lib.hid hXl
                have hm0 : 0 < m := by rw [HM.out]; exact List.length_pos_iff.2 HLNE.out
                have hlast : lastI u0 X = (l ++ X).getD (m + j - 1) 0 := by
                  rw [HU0.out, ← lastI_app, lastI_get 0 (l ++ X) (by simp [HLNE.out]), List.length_append, ← HM.out, hXl]
                have hll : (iv (l ++ X))[m + j - 1]? = some (.int .i64 ((l ++ X).getD (m + j - 1) 0)) := by
                  unfold iv
                  rw [List.getElem?_map, List.getD, List.getElem?_eq_getElem (by rw [List.length_append, ← HM.out, hXl]; omega)]
                  rfl
                rw [← hlast] at hll
                obtain ⟨gl', hgl, -, -, -, hcl⟩ := own_ptr HLJ.out (by omega)
                have z2 := hcl (m + j - 1) _ hll
                subst hgl
                obtain ⟨v, hv⟩ : ∃ v, v = lastI u0 X := ⟨_, rfl⟩
                rw [← hv] at z2 HSTEP
                obtain ⟨p1, hp1⟩ : ∃ p, p = m + j - 1 := ⟨_, rfl⟩
                rw [← hp1] at z2
                obtain ⟨mj, hmj'⟩ : ∃ q, q = m + j := ⟨_, rfl⟩
                rw [← hmj'] at HLJ ⊢
                have hwl : IntKind.i64.wrap ((mj : Int) - 1) = (p1 : Int) := by rw [show (mj : Int) - 1 = (p1 : Int) by omega]; exact IntWalk.i64_in _ (by omega)
                obtain ⟨U1, hU1⟩ : ∃ u, IntKind.u64.wrap z = u := ⟨_, rfl⟩
                obtain ⟨U2, hU2⟩ : ∃ u, IntKind.u64.wrap (U1 + (y : Int)) = u := ⟨_, rfl⟩
                obtain ⟨U3, hU3⟩ : ∃ u, IntKind.i64.wrap U2 = u := ⟨_, rfl⟩
                have hU3' : Go.RowKit.wrap64 U2 = U3 := by rw [wr64, ← wr_wrap, hU3]
                obtain ⟨q, hq⟩ : ∃ q, q = wrp (v + (z + (y : Int))) := ⟨_, rfl⟩
                have hfin : IntKind.i64.wrap (v + U3) = q := by
                  rw [wr_wrap, hq, ← ref_wrap, ← hU3, ← hU2, ← hU1, wr_wrap, u64_mod, u64_mod]
                have hfin' : Go.RowKit.wrap64 (v + U3) = q := by rw [wr64, ← wr_wrap, hfin]
                rw [← hq] at HSTEP
                have e1 : p1 < mj := by omega
                have e2 : (p1 : Int) < (mj : Int) := by omega
                have e3 : ¬ ((p1 : Int) < 0) := by omega
                have hmj1 : mj ≤ m + j := by omega
                have hmj2 : m + j ≤ mj := by omega
                have HMJ := Lib.hid hmj'
                have HM1 := Lib.hid (show mj + 1 ≤ maxLen by unfold maxLen; omega)
                have HM2 := Lib.hid (show (mj + 1) * 8 ≤ 140737488355328 by omega)
                have HMB := Lib.hid (show M ≤ (wr.drew.alloc (.cells #[.int .i64 q] 3)).heap.size from Nat.le_trans hmj ((Chg.refl [] wr).drew.alloc _).size)
                clear hy hX hXl hlast hll hcl hacl hv hp1 hmj' hq hm0
                go_wp2
                go_region_law (first
                  | (refine step_append_cells (by rfl) (.tmp 86) (.tmp 102) 33 (by rfl) M 3 i0 (.int .i64 0) 1 8 Tryd.underlying33 hi hz0 hz1 hz2 (by rfl) (by decide) (.slice (some ⟨gl', 0, none⟩) mj jc) mj (iv (l ++ X)) (by rfl) (own_chg HLJ.out ((Chg.refl [] wr).drew.alloc (.cells #[.int .i64 q] 3)) (by simp)) ⟨wr.heap.size, 0, none⟩ 1 1 [.int .i64 q] (by rfl) (by rfl) (new_cells (C := #[.int .i64 q]) wr.heap.size rfl) (by simp [Value.oneCell']) HM1.out HM2.out HMB.out ?_; intro v3 w3 hown3 hgrow3; obtain ⟨qo, qc, rfl⟩ := own_shape hown3; have hcd : Chg (Value.slice (some ⟨gl', 0, none⟩) mj jc).ownBlock.toList wr w3 := ((Chg.refl _ wr).drew.alloc _).grown hgrow3 (fun g hg => .inl (by simp [hg])); have HO3 := Lib.hid hown3; have HC3 := Lib.hid hcd; clear hown3 hgrow3 hcd))
                all_goals
                  have hgeL := own_ge HLJ.out
                  have HCF := Lib.hid (HCJ.out.trans HC3.out (fun t ht => .inr (by
                    have h1 := hgeL t (by simpa using ht)
                    have h2 := HMM.out
                    have h3 := HC1.out.size
                    omega)))
                  have HSF := Lib.hid (HSJ.out.above HC3.out (fun t ht => hgeL t (by simpa using ht)))
                  have HGF := Lib.hid (own_chg HGJ.out HC3.out (own_apart2 HGJ.out HLJ.out (by decide)))
                  have hmF := Nat.le_trans hmj HC3.out.size
                  clear hgeL
                  go_wp2
                  go_roundw
                  case rel => exact ⟨j + 1, hjk, by go_num, HCF.out, HSF.out, hmF, by
                    have h := HO3.out
                    rw [show iv (l ++ X) ++ [Value.int .i64 q] = iv (l ++ (X ++ [q])) by simp [iv], ← HSTEP.out] at h
                    rw [show m + (j + 1) = mj + 1 by omega]
                    exact h, HGF.out⟩
                  case measure => simp [intOf]; omega
              · have d8 : decide ((j : Int) < (k : Int)) = false := by simp; omega
                obtain rfl : j = k := by omega
                have HAT := Lib.hid (show A.take j = A by rw [← HAL.out, List.take_length])
                have HJF := Lib.hid (HJD.out.step HLM.out (by rw [HPF.out]))
                have HLL := Lib.hid (show (l ++ runS u0 z A).length = m + j by rw [List.length_append, runS_length, HAL.out, ← HM.out])
                rw [HAT.out] at HLJ
                have HRF := Lib.hid (show RJ w wr x M N b (.slice jo (m + j) jc) a3 0 (l ++ runS u0 z A) from ⟨HCJ.out, HSJ.out, HRJ.out.hx, hmj, by rw [HLL.out]; exact HLJ.out, HJF.out⟩)
                go_wp2
                go_roundw
                case rel => exact ⟨a3, 0, l ++ runS u0 z A, by rw [HLL.out]; have := HKK.out; have := HK0.out; omega, HRF.out⟩
                case measure =>
                  have h1 := errAt_of HRF.out.xs
                  have h2 := errAt_of HRJ.out.xs
                  rw [if_pos rfl] at h1 h2
                  simp only [slen]
                  omega
          · rw [if_pos hf0] at hPB
            have hout : outU s k W = [] := by unfold outU; rw [if_neg (by rw [← hf]; exact hf0)]
            rw [hout] at HU
            have HPF := Lib.hid (show (partD (N - l.length) l (b.drop a)).1 = f by rw [HPD.out, hPB])
            have hfi : (f != 0) = true := by simpa using hf0
            have HF0 := Lib.hid hf0
            have hEi : ((0 : Int) != 0) = false := rfl
            clear hr1 hn1 hW hT hkw hk7 hT2 hr2 hr2' ha2 hs hsb hf ha3 hr3 hPB hout
            go_wp2_with (first
              | (go_at_call 51; (with_reducible refine HV2.out.mono ?_); rintro e' w4 ⟨rfl, hc4, hs4⟩; have HC4 := Lib.hid hc4; have HS4 := Lib.hid hs4; clear hc4 hs4)
              | (go_at_call 50; (with_reducible refine (HZ.out _).mono ?_); rintro e' w5 ⟨rfl, rfl⟩)
              | (go_at_call 46; (with_reducible refine (xsGet_one HS4.out HRN.out).mono ?_); rintro e' w5 ⟨rfl, hc5, hs5⟩; rw [HWE.out]; rw [← HA2'.out] at hs5; have HC5 := Lib.hid (HC4.out.trans hc5 (by simp)); have HS5 := Lib.hid hs5; clear hc5 hs5)
              | (go_at_call 48; (with_reducible refine (xsTake_ok2 HS5.out T HTL.out).mono ?_); rintro e' w6 ⟨sv, rfl, hc6, hsv, hs6⟩; rw [HSS.out] at hsv; have HC6 := Lib.hid (HC5.out.trans hc6 (by simp)); have HS6 := Lib.hid hs6; have y2 := hs6.err; have HSV := Lib.hid hsv; clear hc6 hs6 hsv)
              | (go_at_call 52; (with_reducible refine (HU.out _ w6 HSV.out).mono ?_); rintro e' w7 ⟨gv', rfl, hc7, ho7⟩; simp only [List.length_nil] at ho7; obtain ⟨go, gc, rfl⟩ := own_shape ho7; have HC7 := Lib.hid (HC6.out.trans hc7 (by simp)); have HS7 := Lib.hid (HS6.out.keep hc7); clear hc7 ho7)
              | (go_at_call 47; (with_reducible refine (xsFail HS7.out f).mono ?_); rintro e' w8 ⟨rfl, hc8, hs8⟩; have HJ8 := Lib.hid (HRJ.out.rd (HC7.out.trans hc8 (by simp)) hs8 (HJD.out.fail HLM.out HPF.out HF0.out)); clear hc8 hs8)
              | fail)
            go_loopw [8, 15] (fun lv i w' => lv = .slice lo m lc ∧ i = .int .i64 0 ∧ w' = w8) (fun _ _ _ => 0)
            case atStart => exact ⟨rfl, rfl, rfl⟩
            case round =>
              obtain ⟨rfl, rfl, rfl⟩ := hrel
              have d9 : decide ((0 : Int) < 0) = false := rfl
              go_wp2
              go_roundw
              case rel => exact ⟨_, f, l, by rw [← HM.out]; exact hlN, HJ8.out⟩
              case measure =>
                have h1 := errAt_of HJ8.out.xs
                have h2 := errAt_of HRJ.out.xs
                rw [if_neg HF0.out] at h1
                rw [if_pos rfl] at h2
                simp only [slen]
                omega
        · have hEi : ((E : Int) != 0) = true := by simp; omega
          have hEn : (E : Int) ≠ 0 := by omega
          have hEn' : ¬ ((E : Int) = 0) := by omega
          go_wp2_with (first
            | (go_at_call 51; (with_reducible refine HV.out.mono ?_); rintro e' w4 ⟨a4, rfl, hc4, hs4, -⟩; have HJ4 := Lib.hid (HRJ.out.rd hc4 hs4 (HJD.out.fail HLM.out (by rw [HKN.out]; unfold partD; rw [← HEE.out, if_pos (by omega)]) hEn)); have y2 := hs4.err; clear hc4 hs4)
            | (go_at_call 50; (with_reducible refine (HZ.out _).mono ?_); rintro e' w5 ⟨rfl, rfl⟩)
            | (go_at_call 46; (with_reducible refine (xsGet_err HJ4.out.xs hEn 1).mono ?_); rintro e' w5 ⟨rfl, rfl⟩)
            | (go_at_call 48; (with_reducible refine (xsTake_err2 HJ4.out.xs hEn _).mono ?_); rintro e' w5 ⟨rfl, rfl⟩)
            | fail)
          go_quiet (fail)
          go_wp2
          go_ret3
          rw [(HEND.out _ _ _ _ _ _ _ HJ4.out).1 hEn]
          exact ⟨_, rfl, HJ4.out.c0.drewN _, World.ownsRow_nil _ _ _ _⟩
      · have hb0 : (e == 0) = false := by simpa using he0
        have hne : (e != 0) = true := by simpa using he0
        have HE0 := Lib.hid he0
        go_wp2
        go_quiet (fail)
        go_wp2
        go_ret3
        rw [(HEND.out _ _ _ _ _ _ _ HRJ.out).1 HE0.out]
        exact ⟨_, rfl, HRJ.out.c0.drewN _, World.ownsRow_nil _ _ _ _⟩
    · have d4 : decide ((m : Int) < (N : Int)) = false := by simp; omega
      have d4' : ¬ (m : Int) < (N : Int) := by omega
      by_cases he0 : e = 0
      · subst he0
        have hb0 : ((0 : Int) == 0) = true := rfl
        have HMN := Lib.hid (show l.length = N by rw [← HM.out]; omega)
        go_wp2
        go_quiet (fail)
        go_wp2
        go_ret3
        rw [(HEND.out _ _ _ _ _ _ _ HRJ.out).2 rfl HMN.out]
        refine ⟨_, rfl, HRJ.out.c0.drewN _, ?_⟩
        have h := own_mono HRJ.out.ow (show w.heap.size ≤ M by have h1 := HMM.out; have h2 := HC1.out.size; omega)
        exact own_chg h ((Chg.refl [] wr).drewN _) (by simp)
      · have hne : (e != 0) = true := by simpa using he0
        have HE0 := Lib.hid he0
        go_wp2
        go_quiet (fail)
        go_wp2
        go_ret3
        rw [(HEND.out _ _ _ _ _ _ _ HRJ.out).1 HE0.out]
        exact ⟨_, rfl, HRJ.out.c0.drewN _, World.ownsRow_nil _ _ _ _⟩

end Go.Proofs.YtohgnbgijleoaaaDoor

namespace Go.Proofs.YtohgnbgijleoaaaDoor
open Go.RowKit
set_option linter.unusedVariables false
set_option linter.unusedSimpArgs false

def in32 (v : Int) : Bool := decide (-2147483648 ≤ v) && decide (v ≤ 2147483647)

/-- What the reference's numbers answers. -/
def rnE (k : Nat) (N : List Int) (U bl : Nat) : List V × Int := if k = 2 ∧ ¬ N.all in32 = true then ([], 14) else if U < bl then ([], 9) else (nV N, 0)

theorem nV_snoc (N : List Int) (j : Nat) (h : j < N.length) : nV (N.take (j + 1)) = nV (N.take j) ++ [⟨N.getD j 0, e0⟩] := by
  unfold nV
  rw [List.take_add_one, List.getElem?_eq_getElem h, List.map_append]
  simp [List.getD, h]

set_option maxRecDepth 100000 in
set_option maxHeartbeats 4000000 in
theorem rnumbers_any (k : Nat) (hk : k = 2 ∨ k = 3) (bv lv : Value) (b : List Nat) (N : List Int) (U : Nat) (w : World) (hS : Seen w bv (nv .u8 b)) (hN : SeenI w lv N) (hl : N.length ≤ 4000) :
    Calls Tryd.prog 26 #[.int .i64 (k : Int), bv, lv, .int .i64 (U : Int)] w (DDecR (rnE k N U b.length) w) := by
  obtain ⟨i0, hi, hz0, hz1, hz2⟩ := info_value
  obtain ⟨ao, ac, rfl, ha1, ha2⟩ := hS.shape
  obtain ⟨lo, lc, rfl, hl1, hl2⟩ := hN.shape
  rw [nv_length] at *
  obtain ⟨m, hm⟩ : ∃ m, m = N.length := ⟨_, rfl⟩
  rw [← hm] at hN hl hl1 ⊢
  have HM := Lib.hid hm
  have HN := Lib.hid hN
  obtain ⟨A, hA⟩ : ∃ A, A = rnE k N U b.length := ⟨_, rfl⟩
  rw [← hA]
  have HA := Lib.hid hA
  obtain ⟨bl', hbl⟩ : ∃ n, n = b.length := ⟨_, rfl⟩
  rw [← hbl] at HA ⊢
  clear hS hN hm hA ha1 hbl
  go_enter Tryd.func26, Tryd.ntmps26
  go_wp2
  go_loopw [10, 11] (fun x i w' => ∃ j : Nat, j ≤ m ∧ i = .int .i64 (j : Int) ∧ (k = 2 → (N.take j).all in32 = true) ∧ Chg [] w w' ∧ w'.ownsRow w.heap.size 39 2 x j ((nV (N.take j)).flatMap V.cs)) (fun _ i _ => m - (intOf i).toNat)
  case atStart => exact ⟨0, Nat.zero_le _, rfl, fun _ => rfl, Chg.refl _ _, World.ownsRow_nil _ _ _ _⟩
  case round =>
    obtain ⟨j, hj, rfl, hal, hc, ho⟩ := hrel
    obtain ⟨xo, xc, rfl⟩ := own_shape ho
    have HC := Lib.hid hc; have HO := Lib.hid ho; have HAL := Lib.hid hal
    have hB := hc.size
    clear hc ho hal
    by_cases hlt : j < m
    · have d1 : decide ((j : Int) < (m : Int)) = true := by simp; omega
      have hjN : j < N.length := by rw [← HM.out]; exact hlt
      obtain ⟨g, off, rfl, hcell⟩ := SeenI.get (show SeenI wr _ N from HN.out.keep HC.out) (by omega) HM.out.symm
      have x0 := hcell j hlt
      have HSN := Lib.hid (nV_snoc N j hjN)
      have HTK := Lib.hid (show in32 (N.getD j 0) = true → k = 2 → (N.take (j + 1)).all in32 = true from fun h h2 => by
        rw [List.take_add_one, List.getElem?_eq_getElem hjN, List.all_append, HAL.out h2]
        rw [List.getD, List.getElem?_eq_getElem hjN] at h
        simpa using h)
      have HBD := Lib.hid (show ¬ in32 (N.getD j 0) = true → k = 2 → A = ([], 14) from fun h h2 => by
        rw [HA.out]
        unfold rnE
        rw [if_pos ⟨h2, fun ha => h (by
          rw [List.all_eq_true] at ha
          exact ha _ (by rw [List.getD, List.getElem?_eq_getElem hjN]; exact List.getElem_mem _))⟩])
      obtain ⟨v, hv⟩ : ∃ v, v = N.getD j 0 := ⟨_, rfl⟩
      rw [← hv] at x0 HSN HTK HBD
      have b2 : (j : Int) < (m : Int) := by omega
      have b3 : ¬ ((j : Int) < 0) := by omega
      clear hcell hv hjN
      by_cases hbad : k = 2 ∧ (v < -2147483648 ∨ 2147483647 < v)
      · obtain ⟨rfl, hb⟩ := hbad
        have HE := Lib.hid (HBD.out (by unfold in32; simp; omega) rfl)
        rw [show ((2 : Nat) : Int) = 2 from rfl]
        rcases hb with hb | hb
        · have d2 : decide (v < -2147483648) = true := by simp; omega
          go_wp2
          go_ret2
          rw [HE.out]
          exact ⟨_, rfl, HC.out, World.ownsRow_nil _ _ _ _⟩
        · have d2 : decide (v < -2147483648) = false := by simp; omega
          have d3 : decide (2147483647 < v) = true := by simp; omega
          go_wp2
          go_ret2
          rw [HE.out]
          exact ⟨_, rfl, HC.out, World.ownsRow_nil _ _ _ _⟩
      · have hstep : Hid (k = 2 → (N.take (j + 1)).all in32 = true) := Lib.hid fun h2 => HTK.out (by unfold in32; simp; omega) h2
        go_upto_region 5 with fail
        go_cut [33] (fun s wx => s = .bool false ∧ wx = wr)
        case first =>
          rcases hk with rfl | rfl
          · have d2 : decide (v < -2147483648) = false := by simp; omega
            have d3 : decide (2147483647 < v) = false := by simp; omega
            have q2 : ¬ v < -2147483648 := by omega
            have q3 : ¬ 2147483647 < v := by omega
            rw [show ((2 : Nat) : Int) = 2 from rfl]
            go_wp2_with fail
            go_meet
            case rel => exact ⟨rfl, rfl⟩
          · rw [show ((3 : Nat) : Int) = 3 from rfl]
            go_wp2_with fail
            go_meet
            case rel => exact ⟨rfl, rfl⟩
        case rest =>
          obtain ⟨rfl, hwx⟩ := hcut
          subst hwx
          clear hbad
          go_wp2_with (first
            | (at_builtin; refine wpList_append_own _ rfl _ _ 22 rfl w.heap.size 39 i0 (.agg #[.int .i64 0, .string ByteArray.empty]) 2 24 Tryd.underlying22 hi hz0 hz1 hz2 rfl (by decide) _ _ _ rfl (HO.out.alloc _) ⟨wc.heap.size, 0, none⟩ 1 1 (V.cs ⟨v, e0⟩) rfl rfl (new_cells (C := #[.int .i64 v, .string e0]) _ rfl) (V.one _) (by unfold maxLen; omega) (by omega) (by simp; omega) ?_)
            | fail)
          intro v' w3 hown' hgrow _
          have HG3 := Lib.hid ((HC.out.alloc (.cells #[.int .i64 v, .string e0] 39)).grown hgrow (fun g hg => .inr (HO.out.lt g hg).1))
          have HO3 := Lib.hid (show w3.ownsRow w.heap.size 39 2 v' (j + 1) ((nV (N.take (j + 1))).flatMap V.cs) by rw [HSN.out, List.flatMap_append]; simpa using hown')
          clear hgrow hown'
          go_wp2
          go_roundw
          case rel => first | exact ⟨j + 1, hlt, by go_num, hstep.out, HG3.out, HO3.out⟩ | ((repeat apply Exists.intro); exact ⟨⟨j + 1, hlt, by go_num, hstep.out, HG3.out, HO3.out⟩, rfl⟩)
          case measure => simp [intOf]; omega
    · have d1 : decide ((j : Int) < (m : Int)) = false := by simp; omega
      obtain rfl : j = m := by omega
      have hLT : N.take j = N := by rw [HM.out, List.take_length]
      rw [hLT] at HO HAL
      have HE := Lib.hid (show A = if U < bl' then ([], 9) else (nV N, 0) by
        rw [HA.out]; unfold rnE
        rw [if_neg (fun h => h.2 (HAL.out h.1))])
      by_cases hU : U < bl'
      · have d2 : decide ((U : Int) < (bl' : Int)) = true := by simp; omega
        go_wp2
        go_ret2
        rw [HE.out, if_pos hU]
        exact ⟨_, rfl, HC.out, World.ownsRow_nil _ _ _ _⟩
      · have d2 : decide ((U : Int) < (bl' : Int)) = false := by simp; omega
        go_wp2
        go_ret2
        rw [HE.out, if_neg hU]
        exact ⟨_, rfl, HC.out, by rw [nV_length, ← HM.out]; exact HO.out⟩

end Go.Proofs.YtohgnbgijleoaaaDoor

namespace Go.Proofs.YtohgnbgijleoaaaDoor
open Go.RowKit
set_option linter.unusedVariables false
set_option linter.unusedSimpArgs false

theorem dec12_err {k n : Int} (hk : k = 2 ∨ k = 3 ∨ k = 4) {b : List Nat} (h : (readD b n).2.2 ≠ 0) : decD12 k n b = ([], (readD b n).2.2) := by
  have hp : ∀ g S, g = 115 ∨ g = 108 ∨ g = 110 → frD (g :: S) n [] b = ((readD b n).2.2, [], []) := fun g S hg => by
    have e : (dpE g n [] b).1 = (readD b n).2.2 := by
      unfold dpE numE
      rcases hg with rfl | rfl | rfl
      · rw [if_pos rfl]; exact if_pos h
      · rw [if_neg (by decide), if_pos rfl]; exact if_pos h
      · rw [if_neg (by decide), if_neg (by decide), if_neg (by decide)]; exact if_pos h
    simp only [frD]
    rw [e, if_neg h]
  have hs : ∃ g S, sg12 k.toNat = g :: S ∧ (g = 115 ∨ g = 108 ∨ g = 110) := by
    rcases hk with rfl | rfl | rfl
    · exact ⟨115, [], rfl, .inl rfl⟩
    · exact ⟨110, [], rfl, .inr (.inr rfl)⟩
    · exact ⟨108, [116], rfl, .inr (.inl rfl)⟩
  obtain ⟨g, S, h1, h2⟩ := hs
  unfold decD12
  rw [if_pos hk, h1, hp g S h2]
  exact if_pos h

theorem readD_bad {b : List Nat} {n : Int} (h : n < 0 ∨ 4000 < n) : readD b n = ([], 0, 1) := by unfold readD; rw [if_pos h]

theorem dec12_args {k n : Int} (h : k < 1 ∨ 4 < k ∨ n < 0 ∨ 4000 < n) (b : List Nat) : decD12 k n b = ([], 1) := by
  by_cases hk : k = 2 ∨ k = 3 ∨ k = 4
  · have hr := readD_bad (b := b) (show n < 0 ∨ 4000 < n by omega)
    rw [dec12_err hk (by rw [hr]; decide), hr]
  · unfold decD12
    rw [if_neg hk]
    unfold decP
    rw [if_pos h]

theorem dec12_num {k : Nat} (hk : k = 2 ∨ k = 3) {n : Int} {b : List Nat} (hb : ∀ x ∈ b, x < 2 ^ 8) (h : (readD b n).2.2 = 0) : decD12 (k : Int) n b = rnE k (readD b n).1 (readD b n).2.1 b.length := by
  have hin := readD_in (n := n) hb
  obtain ⟨hU, hN⟩ := readD_ok h
  obtain ⟨R, hR⟩ : ∃ R, R = readD b n := ⟨_, rfl⟩
  rw [← hR] at hin hU hN h ⊢
  obtain ⟨N, U, e⟩ := R
  simp only at h hU hin hN ⊢
  subst h
  have hdz : (b.drop U = [] ↔ ¬ U < b.length) := by
    rw [List.drop_eq_nil_iff]; omega
  have fin : ∀ g, sg12 k = [g] → (¬ (k = 2 ∧ ¬ N.all in32 = true) → dpE g n [] b = (0, nV N, b.drop U)) → ((k = 2 ∧ ¬ N.all in32 = true) → (dpE g n [] b).1 = 14) → decD12 (k : Int) n b = rnE k N U b.length := fun g hg h1 h2 => by
    unfold decD12 rnE
    rw [if_pos (by omega), Int.toNat_natCast, hg]
    by_cases hc : k = 2 ∧ ¬ N.all in32 = true
    · have hf : frD [g] n [] b = (14, [], []) := by
        simp only [frD]; rw [h2 hc]; rfl
      rw [if_pos hc, hf]; rfl
    · have hf : frD [g] n [] b = (0, nV N, b.drop U) := by
        simp only [frD]; rw [h1 hc]; rfl
      rw [if_neg hc, hf, if_neg (by simp)]
      by_cases hu : U < b.length
      · rw [if_pos hu, if_neg (fun h => hdz.1 h hu)]
      · rw [if_neg hu, if_pos (hdz.2 hu)]
  rcases hk with rfl | rfl
  · refine fin 115 rfl (fun hc => ?_) (fun hc => ?_)
    · unfold dpE
      rw [if_pos rfl, ← hR]
      have ha : N.all in32 = true := by
        by_cases h : N.all in32 = true
        · exact h
        · exact absurd ⟨rfl, h⟩ hc
      rw [numE_good ha]
    · unfold dpE
      rw [if_pos rfl, ← hR]
      exact numE_bad hc.2
  · refine fin 110 rfl (fun hc => ?_) (fun hc => absurd hc.1 (by decide))
    unfold dpE
    rw [if_neg (by decide), if_neg (by decide), if_neg (by decide), ← hR, numE_good (by
      rw [List.all_eq_true]
      intro x hx
      have := hin x hx
      unfold In64 at this
      simp only [Bool.and_eq_true, decide_eq_true_eq]
      exact this)]

def inL (v : Int) : Bool := decide (0 ≤ v) && decide (v ≤ 100)

/-- Kind four, where numbers were read. -/
def rtE (N : List Int) (c : List Nat) : List V × Int := if ¬ N.all inL = true then ([], 5) else if (txS (nV N) c).1 ≠ 0 then ([], (txS (nV N) c).1) else if (txS (nV N) c).2.2 = [] then ((txS (nV N) c).2.1, 0) else ([], 9)

theorem dec12_txt {n : Int} {b : List Nat} (h : (readD b n).2.2 = 0) : decD12 4 n b = rtE (readD b n).1 (b.drop (readD b n).2.1) := by
  obtain ⟨R, hR⟩ : ∃ R, R = readD b n := ⟨_, rfl⟩
  rw [← hR] at h ⊢
  obtain ⟨N, U, e⟩ := R
  simp only at h ⊢
  subst h
  unfold decD12 rtE
  rw [if_pos (by omega), show sg12 (4 : Int).toNat = [108, 116] from rfl]
  have hd : dpE 108 n [] b = (numE 0 100 5 (N, U, 0), nV N, b.drop U) := by
    unfold dpE
    rw [if_neg (by decide), if_pos rfl, ← hR]
  by_cases ha : N.all inL = true
  · rw [numE_good ha] at hd
    have ht : dpE 116 n (nV N) (b.drop U) = txS (nV N) (b.drop U) := by
      unfold dpE
      rw [if_neg (by decide), if_neg (by decide), if_pos rfl]
    have hf : frD [108, 116] n [] b = if (txS (nV N) (b.drop U)).1 = 0 then (0, (txS (nV N) (b.drop U)).2.1, (txS (nV N) (b.drop U)).2.2) else ((txS (nV N) (b.drop U)).1, [], []) := by
      rw [frD, hd, if_pos rfl, frD, ht]
      rfl
    rw [hf, if_neg (show ¬ ¬ N.all inL = true from fun h => h ha)]
    by_cases h0 : (txS (nV N) (b.drop U)).1 = 0
    · rw [if_pos h0, if_neg (show ¬ (txS (nV N) (b.drop U)).1 ≠ 0 from fun h => h h0), if_neg (by simp)]
    · rw [if_neg h0, if_pos h0, if_pos h0]
  · rw [numE_bad ha] at hd
    have hf : frD [108, 116] n [] b = (5, [], []) := by
      rw [frD, hd, if_neg (by simp)]
    rw [hf, if_pos ha, if_pos (by simp)]

theorem run_mid {w : World} {ao : Option Addr} {len cap : Nat} {l : List Nat} (h : Seen w (.slice ao len cap) (nv .u8 l)) (hc : len ≤ cap) (lo hi : Nat) (h1 : lo ≤ hi) (h2 : hi ≤ len) :
    ∃ ao' cap', Seen w (.slice ao' (hi - lo) cap') (nv .u8 ((l.take hi).drop lo)) ∧ ∀ wx, (Instr.slice 26 (.slice ao len cap) (some (.int .i64 (lo : Int))) (some (.int .i64 (hi : Int))) none).run Tryd.prog wx = .ok (.slice ao' (hi - lo) cap') wx := by
  have hs := h.sliced lo hi h1 h2
  rw [nv_take_drop] at hs
  refine ⟨_, _, hs, fun wx => ?_⟩
  obtain ⟨i0, hi0, _, hz1, _⟩ := info_u8
  rw [run_slice_lh wx 26 ao len cap (by rw [elem_bytes]; exact Tryd.underlying26) .i64 .i64 lo hi (by omega) (by omega) (by omega), elem_bytes]
  simp [sizeOf, typeInfo, hi0, hz1, Go.sliced]

theorem nV_get (N : List Int) (j : Nat) (h : j < N.length) : (nV N)[j]? = some ⟨N.getD j 0, e0⟩ := by
  unfold nV
  simp [List.getD, h]

set_option maxRecDepth 100000 in
set_option maxHeartbeats 8000000 in
theorem rdecode12_txt (n : Int) (hn : 0 ≤ n ∧ n ≤ 4000) (bv : Value) (b : List Nat) (w : World) (hS : Seen w bv (nv .u8 b)) (hb : ∀ x ∈ b, x < 2 ^ 8) (hbl : b.length ≤ 1000000000) :
    Calls Tryd.prog 14 #[.int .i64 4, bv, .int .i64 n] w (DDecR (decD12 4 n b) w) := by
  obtain ⟨iV, hiV, hv0, hv1, hv2⟩ := info_value
  have HR := Lib.hid (rread12_any bv b n w hS hb hbl)
  have hok := @readD_ok b n
  have hde := @dec12_err 4 n (.inr (.inr rfl)) b
  have hdt := @dec12_txt n b
  unfold DReadOut MadeI at HR
  obtain ⟨R, hR⟩ : ∃ R, R = readD b n := ⟨_, rfl⟩
  rw [← hR] at HR hok hde hdt
  obtain ⟨A, hA⟩ : ∃ A, A = decD12 4 n b := ⟨_, rfl⟩
  rw [← hA] at hde hdt ⊢
  obtain ⟨N, U, e⟩ := R
  simp only at HR hok hde hdt
  obtain ⟨m, hm⟩ : ∃ m, m = N.length := ⟨_, rfl⟩
  rw [← hm] at HR
  have HM := Lib.hid hm
  obtain ⟨ao, ac, rfl, ha1, ha2⟩ := hS.shape
  rw [nv_length] at *
  obtain ⟨k1, hk1⟩ := hn
  have hn0 : ¬ n < 0 := by omega
  have hn4 : ¬ 4000 < n := by omega
  clear hR hA
  by_cases he : e = 0
  · subst he
    obtain ⟨hU, hN4⟩ := hok rfl
    rw [← hm] at hN4
    have HA := Lib.hid (hdt rfl)
    have HS := Lib.hid hS
    have HB := Lib.hid hb
    clear hok hde hdt hS hb hm
    go_enter Tryd.func14, Tryd.ntmps14
    go_wp2_with (first
      | (go_at_call 25; (with_reducible refine HR.out.mono ?_); rintro e w1 ⟨v, rfl, hc, ho⟩; obtain ⟨lo, lc, rfl⟩ := own_shape ho; have HC1 := Lib.hid hc; have HL := Lib.hid (ownI_seen ho HM.out.symm); clear hc ho)
      | fail)
    go_loopw [11] (fun i w' => ∃ j : Nat, j ≤ m ∧ i = .int .i64 (j : Int) ∧ (N.take j).all inL = true ∧ w' = w1) (fun i _ => m - (intOf i).toNat)
    case atStart => exact ⟨0, Nat.zero_le _, rfl, rfl, rfl⟩
    case round =>
      obtain ⟨j, hj, rfl, hal, hw⟩ := hrel
      subst hw
      have HAL := Lib.hid hal
      clear hal
      by_cases hlt : j < m
      · have d1 : decide ((j : Int) < (m : Int)) = true := by simp; omega
        have hjN : j < N.length := by rw [← HM.out]; exact hlt
        obtain ⟨g, off, rfl, hcell⟩ := SeenI.get HL.out (by omega) HM.out.symm
        have x0 := hcell j hlt
        have HTK := Lib.hid (show inL (N.getD j 0) = true → (N.take (j + 1)).all inL = true from fun h => by
          rw [List.take_add_one, List.getElem?_eq_getElem hjN, List.all_append, HAL.out]
          rw [List.getD, List.getElem?_eq_getElem hjN] at h
          simpa using h)
        have HBD := Lib.hid (show ¬ inL (N.getD j 0) = true → A = ([], 5) from fun h => by
          rw [HA.out]
          unfold rtE
          rw [if_pos (fun ha => h (by
            rw [List.all_eq_true] at ha
            exact ha _ (by rw [List.getD, List.getElem?_eq_getElem hjN]; exact List.getElem_mem _)))])
        obtain ⟨v, hv⟩ : ∃ v, v = N.getD j 0 := ⟨_, rfl⟩
        rw [← hv] at x0 HTK HBD
        have b2 : (j : Int) < (m : Int) := by omega
        have b3 : ¬ ((j : Int) < 0) := by omega
        clear hcell hv hjN
        by_cases hb0 : v < 0
        · have d2 : decide (v < 0) = true := by simp; omega
          have HE := Lib.hid (HBD.out (by unfold inL; simp; omega))
          go_wp2
          go_ret2
          rw [HE.out]
          exact ⟨_, rfl, HC1.out, World.ownsRow_nil _ _ _ _⟩
        · have d2 : decide (v < 0) = false := by simp; omega
          by_cases hb1 : 100 < v
          · have d3 : decide (100 < v) = true := by simp; omega
            have HE := Lib.hid (HBD.out (by unfold inL; simp; omega))
            go_wp2
            go_ret2
            rw [HE.out]
            exact ⟨_, rfl, HC1.out, World.ownsRow_nil _ _ _ _⟩
          · have d3 : decide (100 < v) = false := by simp; omega
            have HT1 := Lib.hid (HTK.out (by unfold inL; simp; omega))
            go_wp2
            go_roundw
            case rel => exact ⟨j + 1, hlt, by go_num, HT1.out, trivial⟩
            case measure => simp [intOf]; omega
      · have d1 : decide ((j : Int) < (m : Int)) = false := by simp; omega
        obtain rfl : j = m := by omega
        have hLT : N.take j = N := by rw [HM.out, List.take_length]
        rw [hLT] at HAL
        have HINL := Lib.hid (show ∀ v ∈ N, 0 ≤ v ∧ v ≤ 100 from fun v hv => by
          have h := HAL.out
          rw [List.all_eq_true] at h
          have := h v hv
          unfold inL at this
          simpa using this)
        have HE := Lib.hid (show A = if (txS (nV N) (b.drop U)).1 ≠ 0 then ([], (txS (nV N) (b.drop U)).1) else if (txS (nV N) (b.drop U)).2.2 = [] then ((txS (nV N) (b.drop U)).2.1, 0) else ([], 9) by
          rw [HA.out]; unfold rtE
          rw [if_neg (fun h => h HAL.out)])
        clear hLT hlt d1 hj
        go_wp2
        obtain ⟨w2, rfl⟩ : ∃ w2 : World, w2 = wr := ⟨_, rfl⟩
        go_loopw [9, 12, 13] (fun us x i w' => ∃ (q u : Nat) (LJ : List V), q ≤ j ∧ i = .int .i64 (q : Int) ∧ us = .int .i64 (u : Int) ∧ u ≤ b.length ∧ TxJ (nV N) (b.drop U) q LJ (b.drop u) ∧ Chg [] w2 w' ∧ w'.ownsRow w2.heap.size 39 2 x q (LJ.flatMap V.cs)) (fun _ _ i _ => j - (intOf i).toNat)
        case atStart => exact ⟨0, U, [], Nat.zero_le _, rfl, rfl, hU, TxJ.zero _ _, Chg.refl _ _, World.ownsRow_nil _ _ _ _⟩
        case round =>
          obtain ⟨q, u, LJ, hq, rfl, rfl, hu, hT, hc, ho⟩ := hrel
          obtain ⟨xo, xc, rfl⟩ := own_shape ho
          have HC := Lib.hid hc; have HO := Lib.hid ho; have HT := Lib.hid hT
          have HCW := Lib.hid (HC1.out.trans hc (by simp))
          have hB := hc.size
          have hBw := HC1.out.size
          clear hc ho hT
          by_cases hlt : q < j
          · have d1 : decide ((q : Int) < (j : Int)) = true := by simp; omega
            have hjN : q < N.length := by rw [← HM.out]; exact hlt
            obtain ⟨g, off, rfl, hcell⟩ := SeenI.get (show SeenI wr _ N from HL.out.keep HC.out) (by omega) HM.out.symm
            have x0 := hcell q hlt
            have hvn := HINL.out (N.getD q 0) (by rw [List.getD, List.getElem?_eq_getElem hjN]; exact List.getElem_mem _)
            have HG := Lib.hid (nV_get N q hjN)
            obtain ⟨Vn, hVn⟩ : ∃ Vn : Nat, N.getD q 0 = (Vn : Int) := ⟨(N.getD q 0).toNat, by omega⟩
            rw [hVn] at x0 HG hvn
            have hV100 : Vn ≤ 100 := by omega
            have b2 : (q : Int) < (j : Int) := by omega
            have b3 : ¬ ((q : Int) < 0) := by omega
            obtain ⟨r, hr⟩ : ∃ r, r = b.length - u := ⟨_, rfl⟩
            have hw1 : IntKind.i64.wrap ((b.length : Int) - (u : Int)) = (r : Int) := by rw [show (b.length : Int) - (u : Int) = (r : Int) by omega]; exact IntWalk.i64_in _ (by omega)
            have hwz1 : Go.RowKit.wrap64 ((b.length : Int) - (u : Int)) = (r : Int) := by rw [show (b.length : Int) - (u : Int) = (r : Int) by omega]; exact IntWalk.wrap64_in _ (by omega)
            clear hcell hVn hjN hvn
            by_cases hbad : r < Vn
            · have d2 : decide ((r : Int) < (Vn : Int)) = true := by simp; omega
              have HE8 := Lib.hid (show A = ([], 8) by
                have h8 := HT.out.bad HG.out (by rw [List.length_drop]; show ((b.length - u : Nat) : Int) < (Vn : Int); omega)
                rw [HE.out, h8, if_pos (by decide)])
              clear hr
              go_wp2
              go_ret2
              rw [HE8.out]
              exact ⟨_, rfl, HCW.out, World.ownsRow_nil _ _ _ _⟩
            · have d2 : decide ((r : Int) < (Vn : Int)) = false := by simp; omega
              obtain ⟨u2, hu2⟩ : ∃ t, t = u + Vn := ⟨_, rfl⟩
              have hu2b : u2 ≤ b.length := by omega
              have hw2 : IntKind.i64.wrap ((u : Int) + (Vn : Int)) = (u2 : Int) := by rw [show (u : Int) + (Vn : Int) = (u2 : Int) by omega]; exact IntWalk.i64_in _ (by omega)
              have hwz2 : Go.RowKit.wrap64 ((u : Int) + (Vn : Int)) = (u2 : Int) := by rw [show (u : Int) + (Vn : Int) = (u2 : Int) by omega]; exact IntWalk.wrap64_in _ (by omega)
              obtain ⟨mo, mc, hms, hmr⟩ := run_mid HS.out ha1 u u2 (by omega) hu2b
              rw [show u2 - u = Vn by omega] at hms hmr
              have emid : (b.take u2).drop u = (b.drop u).take Vn := by rw [List.drop_take, show u2 - u = Vn by omega]
              rw [emid] at hms
              obtain ⟨st, hst⟩ : ∃ st, st = str ((b.drop u).take Vn) := ⟨_, rfl⟩
              have hcv := cvp (hms.keep HCW.out) (by rw [List.length_take, List.length_drop]; omega) hst (fun x hx => HB.out x (List.mem_of_mem_drop (List.mem_of_mem_take hx))) wr (Lib.hid (Chg.refl [] wr))
              have HNX := Lib.hid (show TxJ (nV N) (b.drop U) (q + 1) (LJ ++ [⟨0, st⟩]) (b.drop u2) by
                have h := HT.out.step HG.out rfl (show Vn ≤ (b.drop u).length by rw [List.length_drop]; omega)
                rw [List.drop_drop] at h
                rw [hst, hu2]
                first | exact h | (rw [Nat.add_comm]; exact h))
              clear hr hu2 hms emid hst
              go_wp2_with (first
                | (at_builtin; refine wpList_append_own _ rfl _ _ 22 rfl w2.heap.size 39 iV (.agg #[.int .i64 0, .string ByteArray.empty]) 2 24 Tryd.underlying22 hiV hv0 hv1 hv2 rfl (by decide) _ _ _ rfl (HO.out.alloc _) ⟨wr.heap.size, 0, none⟩ 1 1 (V.cs ⟨0, st⟩) rfl rfl (new_cells (C := #[.int .i64 0, .string st]) _ rfl) (V.one _) (by unfold maxLen; omega) (by omega) (by simp; omega) ?_)
                | fail)
              intro v' w3 hown' hgrow _
              have HG3 := Lib.hid ((HC.out.alloc (.cells #[.int .i64 0, .string st] 39)).grown hgrow (fun g hg => .inr (HO.out.lt g hg).1))
              have HO3 := Lib.hid (show w3.ownsRow w2.heap.size 39 2 v' (q + 1) ((LJ ++ [(⟨0, st⟩ : V)]).flatMap V.cs) by rw [List.flatMap_append]; simpa using hown')
              have y0 := HG3.out.cell (show w2.cell? ⟨g, off + q, none⟩ = some (.int .i64 (Vn : Int)) from by
                obtain ⟨g', off', he', hc'⟩ := SeenI.get HL.out (by omega) HM.out.symm
                injection he' with he'
                injection he' with h1 h2
                subst h1 h2
                have h := hc' q hlt
                have hg := HG.out
                have hjN : q < N.length := by rw [← HM.out]; exact hlt
                rw [nV_get N q hjN] at hg
                injection hg with hg
                injection hg with hg
                rw [hg] at h
                exact h) (by simp)
              clear hgrow hown' x0
              go_wp2
              go_roundw
              case rel => exact ⟨q + 1, u2, LJ ++ [⟨0, st⟩], hlt, by go_num, by first | rfl | go_num, hu2b, HNX.out, HG3.out, HO3.out⟩
              case measure => simp [intOf]; omega
          · have d1 : decide ((q : Int) < (j : Int)) = false := by simp; omega
            obtain rfl : q = j := by omega
            have HDN := Lib.hid (HT.out.done (by rw [nV_length, ← HM.out]; exact Nat.le_refl _))
            have hl := HT.out.1
            by_cases hz : u < b.length
            · have d2 : decide ((u : Int) < (b.length : Int)) = true := by simp; omega
              have HE9 := Lib.hid (show A = ([], 9) by
                rw [HE.out, HDN.out, if_neg (by simp), if_neg (by show ¬ b.drop u = []; rw [List.drop_eq_nil_iff]; omega)])
              go_wp2
              go_ret2
              rw [HE9.out]
              exact ⟨_, rfl, HCW.out, World.ownsRow_nil _ _ _ _⟩
            · have d2 : decide ((u : Int) < (b.length : Int)) = false := by simp; omega
              have HE0 := Lib.hid (show A = (LJ, 0) by
                rw [HE.out, HDN.out, if_neg (by simp), if_pos (by show b.drop u = []; rw [List.drop_eq_nil_iff]; omega)])
              go_wp2
              go_ret2
              rw [HE0.out]
              exact ⟨_, rfl, HCW.out, by rw [hl]; exact own_mono HO.out hBw⟩
  · have HE := Lib.hid (hde he)
    have hne : (e != 0) = true := by simpa using he
    clear hok hde hdt he hS hb hm
    go_enter Tryd.func14, Tryd.ntmps14
    go_wp2_with (first
      | (go_at_call 25; (with_reducible refine HR.out.mono ?_); rintro e w1 ⟨v, rfl, hc, ho⟩; have HC1 := Lib.hid hc; clear hc ho)
      | fail)
    go_ret2
    rw [HE.out]
    exact ⟨_, rfl, HC1.out, World.ownsRow_nil _ _ _ _⟩

set_option maxRecDepth 100000 in
set_option maxHeartbeats 4000000 in
theorem rdecode12_num (k : Nat) (hk : k = 2 ∨ k = 3) (n : Int) (hn : 0 ≤ n ∧ n ≤ 4000) (bv : Value) (b : List Nat) (w : World) (hS : Seen w bv (nv .u8 b)) (hb : ∀ x ∈ b, x < 2 ^ 8) (hbl : b.length ≤ 1000000000) :
    Calls Tryd.prog 14 #[.int .i64 (k : Int), bv, .int .i64 n] w (DDecR (decD12 (k : Int) n b) w) := by
  have HR := Lib.hid (rread12_any bv b n w hS hb hbl)
  have hok := @readD_ok b n
  have hde := @dec12_err (k : Int) n (by omega) b
  have hdt := @dec12_num k hk n b hb
  unfold DReadOut MadeI at HR
  obtain ⟨R, hR⟩ : ∃ R, R = readD b n := ⟨_, rfl⟩
  rw [← hR] at HR hok hde hdt
  obtain ⟨A, hA⟩ : ∃ A, A = decD12 (k : Int) n b := ⟨_, rfl⟩
  rw [← hA] at hde hdt ⊢
  obtain ⟨N, U, e⟩ := R
  simp only at HR hok hde hdt
  obtain ⟨m, hm⟩ : ∃ m, m = N.length := ⟨_, rfl⟩
  rw [← hm] at HR
  have HM := Lib.hid hm
  obtain ⟨k1, hk1⟩ := hn
  have hn0 : ¬ n < 0 := by omega
  have hn4 : ¬ 4000 < n := by omega
  have q1 : ¬ (k : Int) < 1 := by omega
  have q4 : ¬ 4 < (k : Int) := by omega
  have q1' : ¬ (k : Int) = 1 := by omega
  have q4' : ¬ (k : Int) = 4 := by omega
  have q1n : ¬ k = 1 := by omega
  have q4n : ¬ k = 4 := by omega
  have q1b : ¬ k < 1 := by omega
  have q4b : ¬ 4 < k := by omega
  clear hR hA
  by_cases he : e = 0
  · subst he
    obtain ⟨hU, hN4⟩ := hok rfl
    have HA := Lib.hid (hdt rfl)
    have HS := Lib.hid hS
    have HNU := Lib.hid (fun (wx : World) (lv : Value) (hc : Chg [] w wx) (hl : SeenI wx lv N) => rnumbers_any k hk bv lv b N U wx (HS.out.keep hc) hl hN4)
    rw [← HA.out] at HNU
    unfold DDecR at HNU ⊢
    clear hok hde hdt hS hb hm hk
    go_enter Tryd.func14, Tryd.ntmps14
    go_wp2_with (first
      | (go_at_call 25; (with_reducible refine HR.out.mono ?_); rintro e w1 ⟨v, rfl, hc, ho⟩; have HC1 := Lib.hid hc; have HL := Lib.hid (ownI_seen ho HM.out.symm); clear hc ho)
      | (go_at_call 26; (with_reducible refine (HNU.out _ _ HC1.out HL.out).mono ?_); rintro e w2 ⟨x, rfl, hc, ho⟩; have HC2 := Lib.hid (HC1.out.trans hc (by simp)); have HO2 := Lib.hid (own_mono ho HC1.out.size); clear hc ho)
      | fail)
    go_ret2
    exact ⟨_, rfl, HC2.out, HO2.out⟩
  · have HE := Lib.hid (hde he)
    have hne : (e != 0) = true := by simpa using he
    clear hok hde hdt he hS hb hm hk
    go_enter Tryd.func14, Tryd.ntmps14
    go_wp2_with (first
      | (go_at_call 25; (with_reducible refine HR.out.mono ?_); rintro e w1 ⟨v, rfl, hc, ho⟩; have HC1 := Lib.hid hc; clear hc ho)
      | fail)
    go_ret2
    rw [HE.out]
    exact ⟨_, rfl, HC1.out, World.ownsRow_nil _ _ _ _⟩

set_option maxRecDepth 100000 in
set_option maxHeartbeats 4000000 in
theorem rdecode12_any (k n : Int) (bv : Value) (b : List Nat) (w : World) (hk : (Lit.int .i64 k).wf = true) (hn : (Lit.int .i64 n).wf = true) (hS : Seen w bv (nv .u8 b)) (hb : ∀ x ∈ b, x < 2 ^ 8) (hbl : b.length ≤ 1000000000) :
    Calls Tryd.prog 14 #[.int .i64 k, bv, .int .i64 n] w (DDecR (decD12 k n b) w) := by
  have hk1 := wf_i64 hk
  have hn1 := wf_i64 hn
  by_cases hbad : k < 1 ∨ 4 < k ∨ n < 0 ∨ 4000 < n
  · rw [dec12_args hbad]
    unfold DDecR
    by_cases h1 : k < 1
    · go_enter Tryd.func14, Tryd.ntmps14
      go_wp2
      go_ret2
      exact ⟨_, rfl, Chg.refl _ _, World.ownsRow_nil _ _ _ _⟩
    by_cases h2 : 4 < k
    · go_enter Tryd.func14, Tryd.ntmps14
      go_wp2
      go_ret2
      exact ⟨_, rfl, Chg.refl _ _, World.ownsRow_nil _ _ _ _⟩
    by_cases h3 : n < 0
    · go_enter Tryd.func14, Tryd.ntmps14
      go_wp2
      go_ret2
      exact ⟨_, rfl, Chg.refl _ _, World.ownsRow_nil _ _ _ _⟩
    have h4 : 4000 < n := by omega
    clear hbad
    go_enter Tryd.func14, Tryd.ntmps14
    go_wp2
    go_ret2
    exact ⟨_, rfl, Chg.refl _ _, World.ownsRow_nil _ _ _ _⟩
  · by_cases h1 : k = 1
    · subst h1
      have HT := Lib.hid (rdecode11_any 1 n bv b w hk hn hS hb hbl)
      have hn0 : ¬ (n < 0) := by omega
      have hn2 : ¬ (4000 < n) := by omega
      have E : decD12 1 n b = decP 1 b n := by unfold decD12; rw [if_neg (by decide)]
      rw [E]
      unfold PDecOut at HT
      unfold DDecR
      obtain ⟨q, hq⟩ : ∃ q, q = decP 1 b n := ⟨_, rfl⟩
      rw [← hq] at HT ⊢
      clear hS hbad hb hq E
      go_enter Tryd.func14, Tryd.ntmps14
      go_wp2_with (first
        | (go_at_call 24; (with_reducible refine HT.out.mono ?_); rintro e w2 ⟨x, rfl, hc, ho⟩; have HC := Lib.hid hc; have HO := Lib.hid ho; clear hc ho)
        | fail)
      go_ret2
      exact ⟨_, rfl, HC.out, HO.out⟩
    · by_cases h4 : k = 4
      · subst h4
        exact rdecode12_txt n (by omega) bv b w hS hb hbl
      · have h := rdecode12_num k.toNat (by omega) n (by omega) bv b w hS hb hbl
        rw [show ((k.toNat : Nat) : Int) = k by omega] at h
        exact h

/-- What both Decodes answer, the row at a slice. -/
def DlOut (k : Int) (b : List Nat) (n : Int) (w : World) (e : Ending) (w' : World) : Prop :=
  ∃ ao cap, e = .returned (.tuple #[.slice ao (decD12 k n b).1.length cap, .int .i64 (decD12 k n b).2]) ∧ Chg [] w w' ∧ SeenV w' (.slice ao (decD12 k n b).1.length cap) (decD12 k n b).1
theorem DDecR.out {k n : Int} {b : List Nat} {w : World} {e : Ending} {w' : World} (h : DDecR (decD12 k n b) w e w') : DlOut k b n w e w' := by
  obtain ⟨x, rfl, hc, ho⟩ := h
  obtain ⟨xo, xc, rfl⟩ := own_shape ho
  exact ⟨xo, xc, rfl, hc, SeenK.own V.cs_len ho rfl⟩
theorem dlz (k n : Int) (bv : Value) (b : List Nat) (w : World) (hk : (Lit.int .i64 k).wf = true) (hn : (Lit.int .i64 n).wf = true) (hL : Laid w) (hS : Seen w bv (nv .u8 b)) (hb : ∀ x ∈ b, x < 2 ^ 8) (hbl : b.length < 1000000) :
    Calls Tryd.prog 11 #[.int .i64 k, bv, .int .i64 n] w (DlOut k b n w) :=
  (ddecode_any k n bv b w hk hn hL hS hb (by omega)).mono fun _ _ h => DDecR.out h
theorem rdlz (k n : Int) (bv : Value) (b : List Nat) (w : World) (hk : (Lit.int .i64 k).wf = true) (hn : (Lit.int .i64 n).wf = true) (hS : Seen w bv (nv .u8 b)) (hb : ∀ x ∈ b, x < 2 ^ 8) (hbl : b.length < 1000000) :
    Calls Tryd.prog 14 #[.int .i64 k, bv, .int .i64 n] w (DlOut k b n w) :=
  (rdecode12_any k n bv b w hk hn hS hb (by omega)).mono fun _ _ h => DDecR.out h

end Go.Proofs.YtohgnbgijleoaaaDoor
