/- Dh, Dr: texts of one group, one behind the other. -/
import Derived.Test.YtohgnbgijleoaaaDoorE1
import Derived.Test.YtohgnbgijleoaaaDoorRf
import Derived.BigQuiet
import Derived.Deep.DeepCutAuto
import Derived.Deep.RegionLaw
import Derived.Test.YtohgnbgijleoaaaDoorE4
import Derived.Test.YtohgnbgijleoaaaDoorU4
namespace Go.Proofs.YtohgnbgijleoaaaDoor
open Go.RowKit
set_option linter.unusedVariables false
set_option linter.unusedSimpArgs false

set_option maxRecDepth 100000 in
set_option maxHeartbeats 1000000 in
theorem rwd_any (v : Nat) (w : World) (hv : v < 18446744073709551616) :
    Calls Tryd.prog 43 #[.int .u64 (v : Int)] w fun e w' => e = .returned (.int .i64 (blen v : Nat)) ∧ w = w' := by
  obtain ⟨b1, b2, b3⟩ := blen_spec v hv
  obtain ⟨b, hb⟩ : ∃ b, b = blen v := ⟨_, rfl⟩
  rw [← hb] at b1 b2 b3 ⊢
  have B3 := Lib.hid b3
  have B2 := Lib.hid b2
  clear hb b3 b2
  go_enter Tryd.func43, Tryd.ntmps43
  go_wp2
  go_loopw [0, 3] (fun x n w' => ∃ k : Nat, k ≤ b ∧ x = .int .u64 ((v / 2 ^ k : Nat) : Int) ∧ n = .int .i64 (k : Int) ∧ w' = w) (fun _ n _ => b - (intOf n).toNat)
  case atStart => exact ⟨0, Nat.zero_le _, by simp, rfl, rfl⟩
  case round =>
    obtain ⟨k, hk, rfl, rfl, rfl⟩ := hrel
    have hdd : v / 2 ^ k / 2 = v / 2 ^ (k + 1) := by rw [Nat.div_div_eq_div_mul, Nat.pow_succ]
    have hz0 : v / 2 ^ k = 0 ∨ 0 < v / 2 ^ k := Nat.eq_zero_or_pos _
    have hle : v / 2 ^ k ≤ v := Nat.div_le_self _ _
    have hlow : 0 < v / 2 ^ k → k < b := fun h => by
      have h1 : 2 ^ k ≤ v := by
        rcases Nat.lt_or_ge v (2 ^ k) with h2 | h2
        · rw [Nat.div_eq_of_lt h2] at h; omega
        · exact h2
      have h2 := B2.out
      exact (Nat.pow_lt_pow_iff_right (by decide)).1 (Nat.lt_of_le_of_lt h1 h2)
    have hend : v / 2 ^ k = 0 → k = b := fun h => by
      have h1 : v < 2 ^ k := by
        rcases Nat.lt_or_ge v (2 ^ k) with h2 | h2
        · exact h2
        · have := Nat.div_pos h2 (Nat.two_pow_pos k); omega
      rcases B3.out with ⟨-, h2⟩ | ⟨h2, h3⟩
      · omega
      · have := (Nat.pow_lt_pow_iff_right (by decide)).1 (Nat.lt_of_le_of_lt h3 h1)
        omega
    obtain ⟨x, hx⟩ : ∃ x, x = v / 2 ^ k := ⟨_, rfl⟩
    rw [← hx] at hdd hz0 hle hlow hend ⊢
    have HDD := Lib.hid hdd
    clear hdd hx
    rcases hz0 with h0 | h0
    · have e := hend h0
      subst h0
      subst e
      clear hlow hend
      go_wp2
      go_ret
      exact ⟨rfl, rfl⟩
    · have hkb := hlow h0
      have d1 : decide ((0 : Int) < (x : Int)) = true := by simp; omega
      have hsh : (x : Int).fdiv (2 ^ min (Int.toNat 1) IntKind.u64.bits) = ((x / 2 : Nat) : Int) := by
        rw [show (2 : Int) ^ min (Int.toNat 1) IntKind.u64.bits = 2 from rfl, Int.fdiv_eq_ediv_of_nonneg _ (by decide)]
        omega
      clear hlow hend
      go_wp2
      go_roundw
      case rel => exact ⟨k + 1, hkb, by rw [← HDD.out]; go_num, by go_num, by first | rfl | trivial⟩
      case measure => simp [intOf]; omega

theorem blen_mono {a b : Nat} (h : a ≤ b) (hb : b < 18446744073709551616) : blen a ≤ blen b := by
  obtain ⟨-, a2, a3⟩ := blen_spec a (by omega)
  obtain ⟨-, b2, b3⟩ := blen_spec b hb
  rcases a3 with ⟨-, h0⟩ | ⟨h1, h2⟩
  · omega
  · have := (Nat.pow_lt_pow_iff_right (by decide)).1 (Nat.lt_of_le_of_lt (Nat.le_trans h2 h) b2)
    omega

theorem blen_max {a b : Nat} (ha : a < 18446744073709551616) (hb : b < 18446744073709551616) : blen (max a b) = max (blen a) (blen b) := by
  rcases Nat.le_total a b with h | h
  · rw [Nat.max_eq_right h, Nat.max_eq_right (blen_mono h hb)]
  · rw [Nat.max_eq_left h, Nat.max_eq_left (blen_mono h ha)]

theorem mn_dup (d : List Int) (h : d ≠ []) : mn (d.getD 0 0 :: d) = mn d := by
  cases d with
  | nil => exact absurd rfl h
  | cons x r => show (x :: r).foldl min x = r.foldl min x; rw [List.foldl_cons, show min x x = x by omega]

theorem mn_dstep (x : Int) (d : List Int) (j : Nat) (h : j < d.length) : mn (x :: d.take (j + 1)) = min (mn (x :: d.take j)) (d.getD j 0) := by
  rw [List.take_add_one, List.getElem?_eq_getElem h]
  show mn ((x :: d.take j) ++ [d[j]]) = _
  rw [mn_snoc _ (by simp), List.getD, List.getElem?_eq_getElem h]
  rfl


theorem nv_take_snoc (k : IntKind) (A : List Nat) (q : Nat) (h : q < A.length) : nv k (A.take q) ++ [.int k ((A.getD q 0 : Nat) : Int)] = nv k (A.take (q + 1)) := by
  rw [List.take_add_one, List.getElem?_eq_getElem h]
  unfold nv
  rw [List.map_append]
  congr 1
  simp [List.getD, h]

theorem rints_none (w : World) (ao : Option Addr) (cap : Nat) : Calls Tryd.prog 23 #[.slice ao 0 cap] w fun e w' => e = .returned (.slice none 0 0) ∧ w = w' := by
  have hb : ((0 : Int) == 0) = true := rfl
  go_enter Tryd.func23, Tryd.ntmps23
  go_wp2
  go_ret
  exact ⟨rfl, rfl⟩

theorem rzig_int (v : Int) (w : World) (h : In64 v) :
    Calls Tryd.prog 42 #[.int .i64 v] w fun e w' => e = .returned (.int .u64 (zigOf v : Nat)) ∧ w = w' := rzig_any v w (wf64_of v h)

set_option maxRecDepth 100000 in
set_option maxHeartbeats 8000000 in
theorem rints12_any (lv : Value) (l : List Int) (w : World) (hS : SeenI w lv l) (hm : l.length ≤ 100000) (hin : ∀ x ∈ l, In64 x) :
    Calls Tryd.prog 23 #[lv] w fun e w' => ∃ x, e = .returned x ∧ Made 5 .u8 (intsE l) w x w' := by
  obtain ⟨i8, hi8, hz08, hz18, hz28⟩ := info_u8
  obtain ⟨i0, hi, hz0, hz1, hz2⟩ := info_u64
  obtain ⟨ao, cap, rfl, hc1, hc2⟩ := hS.shape
  by_cases hl0 : l = []
  · subst hl0
    refine (rints_none w ao cap).mono ?_
    rintro e w' ⟨rfl, rfl⟩
    exact ⟨_, rfl, Chg.refl _ _, World.ownsRow_nil _ _ _ _⟩
  obtain ⟨n, hn⟩ : ∃ n, n = l.length - 1 := ⟨_, rfl⟩
  have hl1 : 0 < l.length := List.length_pos_iff.2 hl0
  have hn1 : l.length = n + 1 := by omega
  obtain ⟨g0, off0, rfl, hcs⟩ := SeenI.get hS hl1 rfl
  have hx0 := hcs 0 hl1
  rw [Nat.add_zero] at hx0
  obtain ⟨x, hx⟩ : ∃ x, x = l.getD 0 0 := ⟨_, rfl⟩
  rw [← hx] at hx0
  have hxin : In64 x := by
    rw [hx, List.getD, List.getElem?_eq_getElem hl1]
    exact hin _ (List.getElem_mem _)
  have hlE : (intsE l).length ≤ 1900000 := by have := intsE_len l hin; omega
  obtain ⟨E, hE⟩ : ∃ E, E = intsE l := ⟨_, rfl⟩
  have HE0 := Lib.hid (show vb (zigOf x) ++ blksE (difs l) = E by
    rw [hE, hx]
    cases l with
    | nil => exact absurd rfl hl0
    | cons y r => rfl)
  rw [← hE] at hlE ⊢
  have HDG := Lib.hid (difs_get l)
  have HDI := Lib.hid (difs_in l)
  have hdl := difs_length l
  rw [hn1] at hc1 hm hS hcs HDG ⊢
  rw [hn1] at hdl
  have HDL := Lib.hid (show (difs l).length = n by omega)
  have HCS := Lib.hid hcs; have HN := Lib.hid hn1
  obtain ⟨D, hD⟩ : ∃ D, D = difs l := ⟨_, rfl⟩
  rw [← hD] at HDG HDI HDL HE0
  have HZ0 := Lib.hid (rzig_int x w hxin)
  have hbn : (((n + 1 : Nat) : Int) == 0) = false := by simp; omega
  have HP0 := Lib.hid (rput_any (.slice none 0 0) [] (zigOf x) w (Seen.nil w) (by decide) (zig_lt hxin))
  unfold PutOut Made at HP0
  rw [List.nil_append] at HP0
  clear hS hin hl0 hn hl1 hn1 hcs hx hE hxin hdl hD
  go_enter Tryd.func23, Tryd.ntmps23
  go_wp2_with (first
    | (go_at_call 42; (with_reducible refine HZ0.out.mono ?_); rintro e w1 ⟨rfl, rfl⟩)
    | (go_at_call 41; (with_reducible refine HP0.out.mono ?_); rintro e w1 ⟨bv, rfl, hc1, ho1⟩; obtain ⟨bo, bc, rfl⟩ := own_shape ho1; have HC1 := Lib.hid hc1; have HO1 := Lib.hid ho1; clear hc1 ho1)
    | fail)
  go_loopw [3, 4] (fun bv at' w' => ∃ (p : Nat) (X : List Nat), p ≤ n + 40 ∧ at' = .int .i64 ((p + 1 : Nat) : Int) ∧ X ++ blksE (D.drop p) = E ∧ Chg [] w w' ∧ w'.ownsRow w.heap.size 5 1 bv X.length (nv .u8 X)) (fun _ a _ => n + 41 - (intOf a).toNat)
  case atStart => exact ⟨0, vb (zigOf x), by omega, rfl, by rw [List.drop_zero]; exact HE0.out, HC1.out, HO1.out⟩
  case round =>
    rename World => wA
    obtain ⟨p, X, hp, rfl, hX, hc, ho⟩ := hrel
    obtain ⟨bo, bc, rfl⟩ := own_shape ho
    obtain ⟨m, hm'⟩ : ∃ m, m = X.length := ⟨_, rfl⟩
    rw [← hm'] at ho ⊢
    have HC := Lib.hid hc; have HO := Lib.hid ho; have HX := Lib.hid hX; have HM := Lib.hid hm'
    have hXl : m ≤ 1900000 := by have := congrArg List.length hX; rw [List.length_append] at this; omega
    have hB := hc.size
    clear hc ho hX hm'
    by_cases hpn : p < n
    · have d1 : decide (((p + 1 : Nat) : Int) < ((n + 1 : Nat) : Int)) = true := by simp; omega
      obtain ⟨k, hk⟩ : ∃ k, k = min 32 (n - p) := ⟨_, rfl⟩
      have hk1 : 1 ≤ k := by omega
      have hk32 : k ≤ 32 := by omega
      have hkn : p + k ≤ n := by omega
      obtain ⟨a, ha⟩ : ∃ a, a = p + 1 := ⟨_, rfl⟩
      obtain ⟨e, he⟩ : ∃ e, e = a + k := ⟨_, rfl⟩
      rw [← ha] at d1 ⊢
      have d1' : decide ((a : Int) < (n : Int) + 1) = true := by simp; omega
      have hw33 : IntKind.i64.wrap ((a : Int) + 32) = ((a + 32 : Nat) : Int) := by rw [show (a : Int) + 32 = ((a + 32 : Nat) : Int) by omega]; exact IntWalk.i64_in _ (by omega)
      have hmin : min ((a + 32 : Nat) : Int) ((n + 1 : Nat) : Int) = (e : Int) := by omega
      have hmin' : min ((a : Int) + 32) ((n : Int) + 1) = (e : Int) := by omega
      have hwp : IntKind.i64.wrap ((a : Int) - 1) = (p : Int) := by rw [show (a : Int) - 1 = (p : Int) by omega]; exact IntWalk.i64_in _ (by omega)
      have HCW := Lib.hid (fun (wx : World) (hcx : Chg [] wA wx) (q : Nat) (hq : q < n + 1) => (HC.out.trans hcx (by simp)).cell (HCS.out q hq) (by simp))
      obtain ⟨d, hd⟩ : ∃ d, d = (D.drop p).take 32 := ⟨_, rfl⟩
      have hdk : d.length = k := by rw [hd, List.length_take, List.length_drop, HDL.out, hk]
      have HDK := Lib.hid hdk
      have HDGET := Lib.hid (show ∀ j, j < k → d.getD j 0 = wrp (l.getD (p + j + 1) 0 - l.getD (p + j) 0) from fun j hj => by
        rw [← HDG.out (p + j) (by omega), hd]
        rw [List.getD, List.getD, List.getElem?_take, if_pos (by omega), List.getElem?_drop])
      have HDIN := Lib.hid (show ∀ v ∈ d, In64 v from fun v hv => HDI.out v (by rw [hd] at hv; exact List.mem_of_mem_drop (List.mem_of_mem_take hv)))
      have hdne : d ≠ [] := fun h => by rw [h] at hdk; simp at hdk; omega
      have HDNE := Lib.hid hdne
      have HXN := Lib.hid (show X ++ blkE d ++ blksE (D.drop (p + 32)) = E by
        rw [← HX.out, blksE_cons (d := D.drop p) (fun h => by have := congrArg List.length h; rw [List.length_drop, HDL.out] at this; simp at this; omega), ← hd, List.drop_drop, List.append_assoc])
      have x0 := HCW.out wA.drew (Chg.refl [] wA).drew p (by omega)
      have x1 := HCW.out wA.drew (Chg.refl [] wA).drew a (by omega)
      have x0' := HCW.out wA (Chg.refl [] wA) p (by omega)
      have x1' := HCW.out wA (Chg.refl [] wA) a (by omega)
      have hd0 := HDGET.out 0 (by omega)
      simp only [Nat.add_zero] at hd0
      rw [← ha] at hd0
      obtain ⟨y, hy⟩ : ∃ y, y = l.getD a 0 := ⟨_, rfl⟩
      obtain ⟨x', hx'⟩ : ∃ y, y = l.getD p 0 := ⟨_, rfl⟩
      obtain ⟨z0, hz0'⟩ : ∃ z, z = d.getD 0 0 := ⟨_, rfl⟩
      rw [← hx'] at x0 x0' hd0
      rw [← hy] at x1 x1' hd0
      rw [← hz0'] at hd0
      have hwz : IntKind.i64.wrap (y - x') = z0 := by rw [wr_wrap, hd0]
      have hwz' : Go.RowKit.wrap64 (y - x') = z0 := by rw [wr64, hd0]
      have HZ0' := Lib.hid hz0'
      have b1 : a < n + 1 := by omega
      have b2 : p < n + 1 := by omega
      have b3 : (a : Int) < ((n + 1 : Nat) : Int) := by omega
      have b4 : (p : Int) < ((n + 1 : Nat) : Int) := by omega
      have ha1 : a ≤ p + 1 := by omega
      have ha2 : p + 1 ≤ a := by omega
      have he1 : e ≤ a + k := by omega
      have he2 : a + k ≤ e := by omega
      have HA := Lib.hid ha; have HEE := Lib.hid he
      clear hy hx' hz0' hd0 hd hdk hdne ha he hk
      go_wp2
      go_quiet (fail)
      go_wp2
      go_loopw [6, 7] (fun lv i w' => ∃ j : Nat, j ≤ k ∧ lv = .int .i64 (mn (z0 :: d.take j)) ∧ i = .int .i64 ((a + j : Nat) : Int) ∧ Chg [] wA w') (fun _ i _ => e - (intOf i).toNat)
      case atStart => exact ⟨0, Nat.zero_le _, rfl, by go_num, (Chg.refl [] wA).drewN _⟩
      case round =>
        obtain ⟨j, hj, rfl, rfl, hcj⟩ := hrel
        have HCJ := Lib.hid hcj
        clear hcj x0 x1 x0' x1' hwz hwz'
        obtain ⟨c, hc⟩ : ∃ c, c = a + j := ⟨_, rfl⟩
        rw [← hc]
        have hc1' : c ≤ a + j := by omega
        have hc2' : a + j ≤ c := by omega
        have HCC := Lib.hid hc
        by_cases hjk : j < k
        · have d2 : decide ((c : Int) < (e : Int)) = true := by simp; omega
          have hwc : IntKind.i64.wrap ((c : Int) - 1) = ((p + j : Nat) : Int) := by rw [show (c : Int) - 1 = ((p + j : Nat) : Int) by omega]; exact IntWalk.i64_in _ (by omega)
          obtain ⟨c', hc'⟩ : ∃ c', c' = p + j := ⟨_, rfl⟩
          have x0 := HCW.out wr HCJ.out c' (by omega)
          have x1 := HCW.out wr HCJ.out c (by omega)
          have hdj := HDGET.out j hjk
          rw [show p + j + 1 = c by omega, ← hc'] at hdj
          rw [← hc'] at hwc
          have HMS := Lib.hid (mn_dstep z0 d j (by rw [HDK.out]; exact hjk))
          obtain ⟨y, hy⟩ : ∃ y, y = l.getD c 0 := ⟨_, rfl⟩
          obtain ⟨x', hx'⟩ : ∃ y, y = l.getD c' 0 := ⟨_, rfl⟩
          obtain ⟨z, hz⟩ : ∃ z, z = d.getD j 0 := ⟨_, rfl⟩
          rw [← hx'] at x0 hdj
          rw [← hy] at x1 hdj
          rw [← hz] at hdj HMS
          have hwz : IntKind.i64.wrap (y - x') = z := by rw [wr_wrap, hdj]
          have hwz' : Go.RowKit.wrap64 (y - x') = z := by rw [wr64, hdj]
          obtain ⟨v, hv⟩ : ∃ v, v = mn (z0 :: d.take j) := ⟨_, rfl⟩
          rw [← hv] at HMS ⊢
          have b5 : c < n + 1 := by omega
          have b6 : c' < n + 1 := by omega
          have b7 : (c : Int) < ((n + 1 : Nat) : Int) := by omega
          have b8 : (c' : Int) < ((n + 1 : Nat) : Int) := by omega
          have b9 : c < e := by omega
          clear hy hx' hz hdj hv hc hc'
          go_wp2
          go_quiet (fail)
          go_wp2
          go_roundw
          case rel => exact ⟨j + 1, hjk, by rw [HMS.out], by rw [HCC.out]; go_num, HCJ.out.drewN _⟩
          case measure => simp [intOf]; omega
        · have d2 : decide ((c : Int) < (e : Int)) = false := by simp; omega
          have b9 : ¬ c < e := by omega
          obtain rfl : j = k := by omega
          have HMN := Lib.hid (show mn (z0 :: d.take j) = mn d by rw [show d.take j = d by rw [← HDK.out, List.take_length], HZ0'.out, mn_dup d HDNE.out])
          rw [HMN.out]
          have HNM := Lib.hid (mn_in HDIN.out)
          have HLE := Lib.hid (fun v (hv : v ∈ d) => mn_le v hv)
          have HAG := Lib.hid (fun q (hq : q < j) => abv_get d q (by rw [HDK.out]; exact hq))
          have HAL := Lib.hid (show (abv d).length = j by rw [abv_length, HDK.out])
          have HAB := Lib.hid (abv_lt HDIN.out)
          have HWB := Lib.hid (show blkE d = vb (zigOf (mn d)) ++ (blen (mx (abv d)) :: packed (blen (mx (abv d))) (abv d)) from rfl)
          have hW64 : blen (mx (abv d)) ≤ 64 := wdB_le HDIN.out
          obtain ⟨A, hA⟩ : ∃ A, A = abv d := ⟨_, rfl⟩
          rw [← hA] at HAG HAL HAB HWB hW64
          obtain ⟨L, hL⟩ : ∃ L, L = mn d := ⟨_, rfl⟩
          rw [← hL] at HNM HLE HAG HWB ⊢
          have hkE : (blkE d).length ≤ 1900000 := by have := congrArg List.length HXN.out; simp only [List.length_append] at this; omega
          rename World => wB
          clear hc HMN hA hL HZ0'
          go_wp2
          go_loopw [8, 9, 10] (fun wv gv i w' => ∃ q : Nat, q ≤ j ∧ wv = .int .i64 ((blen (mx (A.take q)) : Nat) : Int) ∧ i = .int .i64 ((a + q : Nat) : Int) ∧ Chg [] wA w' ∧ w'.ownsRow wA.heap.size 67 1 gv q (nv .u64 (A.take q))) (fun _ _ i _ => e - (intOf i).toNat)
          case atStart => exact ⟨0, Nat.zero_le _, by rw [List.take_zero, show mx [] = 0 from rfl, blen_of 0 0 (by decide) (by decide) (.inl rfl)]; rfl, by go_num, HCJ.out, World.ownsRow_nil _ _ _ _⟩
          case round =>
            obtain ⟨q, hq, rfl, rfl, hcq, hoq⟩ := hrel
            obtain ⟨go, gc, rfl⟩ := own_shape hoq
            have HCQ := Lib.hid hcq; have HOQ := Lib.hid hoq
            have hBq := hcq.size
            clear hcq hoq
            obtain ⟨c, hc⟩ : ∃ c, c = a + q := ⟨_, rfl⟩
            rw [← hc]
            have hc3' : c ≤ a + q := by omega
            have hc4' : a + q ≤ c := by omega
            have HCC := Lib.hid hc
            by_cases hqk : q < j
            · have d3 : decide ((c : Int) < (e : Int)) = true := by simp; omega
              have hwc : IntKind.i64.wrap ((c : Int) - 1) = ((p + q : Nat) : Int) := by rw [show (c : Int) - 1 = ((p + q : Nat) : Int) by omega]; exact IntWalk.i64_in _ (by omega)
              obtain ⟨c', hc'⟩ : ∃ c', c' = p + q := ⟨_, rfl⟩
              have x0 := HCW.out wr HCQ.out c' (by omega)
              have x1 := HCW.out wr HCQ.out c (by omega)
              have hdj := HDGET.out q hqk
              rw [show p + q + 1 = c by omega, ← hc'] at hdj
              rw [← hc'] at hwc
              have hmem : d.getD q 0 ∈ d := by rw [List.getD, List.getElem?_eq_getElem (by rw [HDK.out]; exact hqk)]; exact List.getElem_mem _
              have hag := HAG.out q hqk
              have hsub := sub64 (d.getD q 0) L (HDIN.out _ hmem) HNM.out (HLE.out _ hmem)
              rw [← hag] at hsub
              have hub : A.getD q 0 < 18446744073709551616 := HAB.out _ (getD_mem (by rw [HAL.out]; exact hqk))
              have HMS := Lib.hid (mx_step A q (by rw [HAL.out]; exact hqk))
              have HTK := Lib.hid (nv_take_snoc .u64 A q (by rw [HAL.out]; exact hqk))
              have hmb : mx (A.take q) < 18446744073709551616 := mx_lt (by decide) (fun v hv => HAB.out v (List.mem_of_mem_take hv))
              obtain ⟨y, hy⟩ : ∃ y, y = l.getD c 0 := ⟨_, rfl⟩
              obtain ⟨x', hx'⟩ : ∃ y, y = l.getD c' 0 := ⟨_, rfl⟩
              obtain ⟨z, hz⟩ : ∃ z, z = d.getD q 0 := ⟨_, rfl⟩
              obtain ⟨u, hu⟩ : ∃ u, u = A.getD q 0 := ⟨_, rfl⟩
              rw [← hx'] at x0 hdj
              rw [← hy] at x1 hdj
              rw [← hz] at hdj hsub
              rw [← hu] at hsub hub HMS HTK
              have hwz : IntKind.i64.wrap (y - x') = z := by rw [wr_wrap, hdj]
              have hwz' : Go.RowKit.wrap64 (y - x') = z := by rw [wr64, hdj]
              obtain ⟨u1, hu1⟩ : ∃ u, IntKind.u64.wrap z = u := ⟨_, rfl⟩
              obtain ⟨u2, hu2⟩ : ∃ u, IntKind.u64.wrap L = u := ⟨_, rfl⟩
              rw [hu1, hu2] at hsub
              have HBM := Lib.hid (blen_max hmb hub)
              have HRW := Lib.hid (fun wx => rwd_any u wx hub)
              obtain ⟨M, hM⟩ : ∃ M, M = mx (A.take q) := ⟨_, rfl⟩
              rw [← hM] at HMS HBM ⊢
              obtain ⟨W1, hW1⟩ : ∃ W, W = blen M := ⟨_, rfl⟩
              obtain ⟨W2, hW2⟩ : ∃ W, W = blen u := ⟨_, rfl⟩
              rw [← hW1, ← hW2] at HBM
              rw [← hW2] at HRW
              rw [← hW1]
              obtain ⟨W3, hW3⟩ : ∃ W, W = max W1 W2 := ⟨_, rfl⟩
              rw [← hW3] at HBM
              have hmax : max (W1 : Int) (W2 : Int) = (W3 : Int) := by omega
              have b5 : c < n + 1 := by omega
              have b6 : c' < n + 1 := by omega
              have b7 : (c : Int) < ((n + 1 : Nat) : Int) := by omega
              have b8 : (c' : Int) < ((n + 1 : Nat) : Int) := by omega
              have b9 : c < e := by omega
              clear hy hx' hz hdj hu hc hc' hmem hag hM hW1 hW2 hW3 hmb
              go_wp2
              go_quiet (fail)
              have HCD := Lib.hid (HCQ.out.drewN nq)
              have HOD := Lib.hid (own_chg HOQ.out ((Chg.refl [] wr).drewN nq) (by simp))
              obtain ⟨wD, hwD⟩ : ∃ x, x = wr.drewN nq := ⟨_, rfl⟩
              rw [← hwD] at HCD HOD ⊢
              have hBD := HCD.out.size
              clear hwD x0 x1
              go_wp2_with (first
                | (go_at_call 43; (with_reducible refine (HRW.out _).mono ?_); rintro e' w5 ⟨rfl, rfl⟩)
                | (at_builtin; refine wpList_append_own _ rfl _ _ 55 rfl wA.heap.size 67 i0 (.int .u64 0) 1 8 Tryd.underlying55 hi hz0 hz1 hz2 rfl (by decide) _ _ _ rfl (HOD.out.alloc _) ⟨wD.heap.size, 0, none⟩ 1 1 [.int .u64 ((u : Nat) : Int)] rfl rfl ?c1 ?c2 ?c3 ?c4 ?c5 ?_)
                | fail)
              case c1 => exact cell_one_new _ _ _
              case c2 => simp [Value.oneCell']
              case c3 => unfold maxLen; omega
              case c4 => omega
              case c5 => simp; omega
              intro v6 w6 hown6 hgrow6 _
              rw [HTK.out] at hown6
              have HC6 := Lib.hid ((HCD.out.alloc _).grown hgrow6 (fun k hk => .inr (own_ge HOD.out k hk)))
              have HO6 := Lib.hid hown6
              clear hown6 hgrow6
              go_wp2
              go_roundw
              case rel => exact ⟨q + 1, hqk, by rw [HMS.out, HBM.out], by rw [HCC.out]; go_num, HC6.out, HO6.out⟩
              case measure => simp [intOf]; omega
            · have d3 : decide ((c : Int) < (e : Int)) = false := by simp; omega
              have b10 : ¬ c < e := by omega
              obtain rfl : q = j := by omega
              have HOA := Lib.hid (show wr.ownsRow wA.heap.size 67 1 (.slice go q gc) q (nv .u64 A) by
                have h := HOQ.out
                rw [show A.take q = A by rw [← HAL.out, List.take_length]] at h
                exact h)
              rw [show A.take q = A by rw [← HAL.out, List.take_length]]
              obtain ⟨W, hW⟩ : ∃ W, W = blen (mx A) := ⟨_, rfl⟩
              rw [← hW] at HWB hW64 ⊢
              have HZG := Lib.hid (rzig_int L wr HNM.out)
              have HOX := Lib.hid (own_chg HO.out HCQ.out (by simp))
              have HPT := Lib.hid (rput_any (.slice bo m bc) X (zigOf L) wr (reads_of_own HOX.out).seen (by rw [← HM.out]; omega) (zig_lt HNM.out))
              unfold PutOut Made at HPT
              obtain ⟨s, hs⟩ : ∃ s, s = (X ++ vb (zigOf L)).length := ⟨_, rfl⟩
              rw [← hs] at HPT
              have hsl : s ≤ 1900010 := by have := (vb_len64 (zig_lt HNM.out)).2; rw [hs, List.length_append, ← HM.out]; omega
              have hw8 : IntKind.u8.wrap (W : Int) = (W : Int) := by simp [IntKind.wrap, IntKind.bits, IntKind.signed]; omega
              have HS' := Lib.hid hs
              have HAS := Lib.hid (reads_of_own HOA.out).seen
              have HPK := Lib.hid (fun (wx : World) (hcx : Chg [] wr wx) => rpack_yes (.slice go q gc) A W wx hW64 (by rw [HAL.out]; omega) (HAS.out.keep hcx) HAB.out)
              have hPl : (packed W A).length ≤ 256 := by
                rw [packed_length, HAL.out]
                have : W * q ≤ 64 * 32 := Nat.mul_le_mul hW64 hk32
                omega
              have HPN := Lib.hid (nv_one .u8 (packed W A))
              obtain ⟨P, hP⟩ : ∃ P, P = packed W A := ⟨_, rfl⟩
              rw [← hP] at HPK hPl HPN HWB
              clear hW hs hP hc
              go_wp2_with (first
                | (go_at_call 42; (with_reducible refine HZG.out.mono ?_); rintro e' w5 ⟨rfl, rfl⟩)
                | (go_at_call 41; (with_reducible refine HPT.out.mono ?_); rintro e' w3 ⟨pv, rfl, hc3, ho3⟩; obtain ⟨so, sc, rfl⟩ := own_shape ho3; have HC3 := Lib.hid hc3; have HO3 := Lib.hid ho3; have hB3 := hc3.size; clear hc3 ho3)
                | (at_builtin; refine wpList_append_own _ rfl _ _ 26 rfl wr.heap.size 5 i8 (.int .u8 0) 1 1 Tryd.underlying26 hi8 hz08 hz18 hz28 rfl (by decide) _ _ _ rfl (HO3.out.alloc _) ⟨w3.heap.size, 0, none⟩ 1 1 [.int .u8 (W : Int)] rfl rfl ?c1 ?c2 ?c3 ?c4 ?c5 ?_)
                | fail)
              case c1 => exact cell_one_new _ _ _
              case c2 => simp [Value.oneCell']
              case c3 => unfold maxLen; omega
              case c4 => omega
              case c5 => simp; omega
              intro v4 w4 hown4 hgrow4 _
              have HC4 := Lib.hid ((HC3.out.alloc _).grown hgrow4 (fun k hk => .inr (HO3.out.lt k hk).1))
              rw [show nv .u8 (X ++ vb (zigOf L)) ++ [Value.int .u8 (W : Int)] = nv .u8 (X ++ vb (zigOf L) ++ [W]) by simp [nv]] at hown4
              have HO4 := Lib.hid hown4
              obtain ⟨o4, c4, rfl⟩ := own_shape HO4.out
              have hB4 := HC4.out.size
              clear hown4 hgrow4
              go_wp2_with (first
                | (go_at_call 40; (with_reducible refine (HPK.out w4 HC4.out).mono ?_); rintro e' w5 ⟨gp, rfl, hc5, ho5⟩; have HC5 := Lib.hid hc5; have HP5 := Lib.hid (reads_of_own ho5).seen; have HO5 := Lib.hid (own_chg HO4.out hc5 (by simp)); have hB5 := hc5.size; clear hc5 ho5)
                | (at_builtin; refine wpList_append_reads _ rfl _ _ 26 26 rfl wr.heap.size 5 5 i8 (.int .u8 0) 1 Tryd.underlying26 Tryd.underlying26 hi8 hz08 hz18 hz28 rfl _ _ _ rfl HO5.out _ (nv .u8 P) rfl HP5.out HPN.out ?c1 ?c2 ?c3 ?_)
                | fail)
              case c1 => rw [nv_length]; unfold maxLen; omega
              case c2 => rw [nv_length]; omega
              case c3 => omega
              intro v6 w6 hown6 hgrow6
              have HC6 := Lib.hid ((HC4.out.trans HC5.out (by simp)).grown hgrow6 (fun k hk => .inr (HO5.out.lt k hk).1))
              first
                | rw [show nv .u8 (X ++ vb (zigOf L) ++ [W]) ++ nv .u8 P = nv .u8 (X ++ (vb (zigOf L) ++ (W :: P))) by simp [nv]] at hown6
                | rw [show nv .u8 (X ++ (vb (zigOf L) ++ [W])) ++ nv .u8 P = nv .u8 (X ++ (vb (zigOf L) ++ (W :: P))) by simp [nv]] at hown6
              have HO6 := Lib.hid hown6
              clear hown6 hgrow6
              go_wp2
              go_roundw
              case rel => exact ⟨p + 32, X ++ blkE d, by omega, by rw [HA.out]; go_num, HXN.out, (HC.out.trans HCQ.out (by simp)).trans HC6.out (by simp), by
                have h := own_mono HO6.out (show w.heap.size ≤ wr.heap.size by omega)
                rw [HWB.out, show (X ++ (vb (zigOf L) ++ W :: P)).length = s + 1 + P.length by rw [HS'.out]; simp [List.length_append]; omega]
                exact h⟩
              case measure => simp [intOf]; omega
    · have d1 : decide (((p + 1 : Nat) : Int) < ((n + 1 : Nat) : Int)) = false := by simp; omega
      have HX1 := Lib.hid (show X = E by
        have h1 := HX.out
        rw [List.drop_eq_nil_of_le (by rw [HDL.out]; omega), blksE_nil, List.append_nil] at h1
        exact h1)
      go_wp2
      go_ret
      refine ⟨_, rfl, HC.out, ?_⟩
      rw [← HX1.out, ← HM.out]
      exact HO.out

end Go.Proofs.YtohgnbgijleoaaaDoor

namespace Go.Proofs.YtohgnbgijleoaaaDoor
open Go.RowKit
set_option linter.unusedVariables false
set_option linter.unusedSimpArgs false

theorem str_app12' (a b : List Nat) : str (a ++ b) = str a ++ str b := by
  unfold str
  apply ByteArray.ext
  simp
theorem map_snoc12' {β : Type} (f : V → β) (l : List V) (j : Nat) (v : V) (h : l[j]? = some v) : (l.take (j + 1)).map f = (l.take j).map f ++ [f v] := by
  rw [List.take_add_one, h]
  simp

set_option maxRecDepth 100000 in
set_option maxHeartbeats 4000000 in
theorem rencode12_num (k : Nat) (hk : k = 2 ∨ k = 3) (lv : Value) (L : List V) (w : World) (hS : SeenV w lv L) (hl : L.length ≤ 1000) (hok : ∀ v ∈ L, okV k v) :
    Calls Tryd.prog 12 #[.int .i64 (k : Int), lv] w fun e w' => ∃ x, e = .returned x ∧ Made 5 .u8 (encD12 k L) w x w' := by
  obtain ⟨i0, hi, hz0, hz1, hz2⟩ := info_int
  obtain ⟨lo, lc, rfl, hc1, hc2⟩ := hS.shape
  obtain ⟨n, hn⟩ : ∃ n, n = L.length := ⟨_, rfl⟩
  rw [← hn] at hS hl hc1 ⊢
  have HN := Lib.hid hn
  have HL := Lib.hid hS
  have HIN := Lib.hid (show ∀ x ∈ L.map V.n, In64 x from fun x hx => by
    obtain ⟨v, hv, rfl⟩ := List.mem_map.1 hx
    exact (okV_in k (by omega) v (hok v hv)).1)
  have E := Lib.hid (show encD12 k L = intsE (L.map V.n) by unfold encD12; rw [if_neg (by omega), if_neg (by omega)])
  rw [E.out]
  have HLE := intsE_len _ HIN.out
  rw [List.length_map, ← HN.out] at HLE
  obtain ⟨I, hI⟩ : ∃ I, I = intsE (L.map V.n) := ⟨_, rfl⟩
  rw [← hI] at HLE ⊢
  obtain ⟨b1, hb1⟩ : ∃ b, b = I.length := ⟨_, rfl⟩
  unfold Made
  rw [← hb1] at HLE ⊢
  have HI := Lib.hid hI; have HB1 := Lib.hid hb1
  clear hI hb1
  have hk1 : ((k : Int) == 1) = false := by rcases hk with rfl | rfl <;> rfl
  have hk4 : ((k : Int) == 4) = false := by rcases hk with rfl | rfl <;> rfl
  have hk1' : ¬ k = 1 := by omega
  have hk4' : ¬ k = 4 := by omega
  have hk1'' : ¬ (k : Int) = 1 := by omega
  have hk4'' : ¬ (k : Int) = 4 := by omega
  clear hS hn hok hk
  go_enter Tryd.func12, Tryd.ntmps12
  go_wp2
  go_loopw [5, 6, 7] (fun nv' sv i w' => ∃ j : Nat, j ≤ n ∧ i = .int .i64 (j : Int) ∧ sv = .string e0 ∧ Chg [] w w' ∧ w'.ownsRow w.heap.size 3 1 nv' j (iv ((L.take j).map V.n))) (fun _ _ i _ => n - (intOf i).toNat)
  case atStart => exact ⟨0, Nat.zero_le _, rfl, rfl, Chg.refl _ _, World.ownsRow_nil _ _ _ _⟩
  case round =>
    obtain ⟨j, hj, rfl, rfl, hc, ho⟩ := hrel
    obtain ⟨no, nc, rfl⟩ := own_shape ho
    have HC := Lib.hid hc; have HO := Lib.hid ho
    have hB := hc.size
    clear hc ho
    by_cases hlt : j < n
    · have d1 : decide ((j : Int) < (n : Int)) = true := by simp; omega
      obtain ⟨v, hv⟩ : ∃ v, L[j]? = some v := ⟨_, List.getElem?_eq_getElem (by rw [← HN.out]; exact hlt)⟩
      obtain ⟨g, off, rfl, hcell⟩ := SeenV.get HL.out (by omega)
      obtain ⟨q0, q1⟩ := hcell j v hv
      have x0 := HC.out.cell q0 (by simp)
      have HMS := Lib.hid (map_snoc12' V.n L j v hv)
      obtain ⟨X, hX⟩ : ∃ X, X = (L.take j).map V.n := ⟨_, rfl⟩
      rw [← hX] at HMS HO
      have b1 : (j : Int) < (n : Int) := by omega
      clear hcell hv hX q0 q1
      go_wp2_with (first
        | (at_builtin; refine wpList_append_own _ rfl _ _ 33 rfl w.heap.size 3 i0 (.int .i64 0) 1 8 Tryd.underlying33 hi hz0 hz1 hz2 rfl (by decide) _ _ _ rfl (HO.out.alloc _) ⟨wr.heap.size, 0, none⟩ 1 1 [.int .i64 v.n] rfl rfl ?c1 ?c2 ?c3 ?c4 ?c5 ?_)
        | fail)
      case c1 => exact cell_one_new _ _ _
      case c2 => simp [Value.oneCell']
      case c3 => unfold maxLen; omega
      case c4 => omega
      case c5 => simp; omega
      intro v6 w6 hown6 hgrow6 _
      have HC6 := Lib.hid ((HC.out.alloc _).grown hgrow6 (fun k hk => .inr (own_ge HO.out k hk)))
      rw [show iv X ++ [Value.int .i64 v.n] = iv (X ++ [v.n]) by simp [iv], ← HMS.out] at hown6
      have HO6 := Lib.hid hown6
      clear hown6 hgrow6 x0
      go_wp2
      go_roundw
      case rel => exact ⟨j + 1, hlt, by go_num, rfl, HC6.out, HO6.out⟩
      case measure => simp [intOf]; omega
    · have d1 : decide ((j : Int) < (n : Int)) = false := by simp; omega
      obtain rfl : j = n := by omega
      have hLT : L.take j = L := by rw [HN.out, List.take_length]
      rw [hLT] at HO
      have HSI := Lib.hid (ownI_seen HO.out (by rw [List.length_map]; exact HN.out.symm))
      have HIT := Lib.hid (rints12_any (.slice no j nc) _ wr HSI.out (by rw [List.length_map, ← HN.out]; omega) HIN.out)
      unfold Made at HIT
      rw [← HI.out, ← HB1.out] at HIT
      clear hLT
      go_wp2_with (first
        | (go_at_call 23; (with_reducible refine HIT.out.mono ?_); rintro e w2 ⟨x, rfl, hc, ho⟩; have HC2 := Lib.hid (HC.out.trans hc (by simp)); have HO2 := Lib.hid ho; have hB2 := hc.size; clear hc ho)
        | (at_builtin; refine wpList_append_txt rfl _ _ rfl wr.heap.size _ b1 _ rfl HO2.out e0 rfl ?c1 ?c2 ?_)
        | fail)
      case c1 => show b1 + 0 ≤ _; omega
      case c2 => exact hB2
      intro v6 w6 hown6 hgrow6
      have HO6 := Lib.hid (show w6.ownsRow w.heap.size 5 1 v6 b1 (nv .u8 I) from own_mono (by
        have h := hown6
        rw [show bl e0 = [] from rfl, show nv .u8 ([] : List Nat) = [] from rfl, List.append_nil] at h
        exact h) hB)
      have HC6 := Lib.hid (HC2.out.grown hgrow6 (fun k hk => .inr (by have := own_ge HO2.out k hk; omega)))
      clear hown6 hgrow6
      go_wp2
      go_ret
      exact ⟨_, rfl, HC6.out, HO6.out⟩

set_option maxRecDepth 100000 in
set_option maxHeartbeats 4000000 in
theorem rencode12_txt (lv : Value) (L : List V) (w : World) (hS : SeenV w lv L) (hl : L.length ≤ 1000) (hok : ∀ v ∈ L, okV 4 v) :
    Calls Tryd.prog 12 #[.int .i64 4, lv] w fun e w' => ∃ x, e = .returned x ∧ Made 5 .u8 (encD12 4 L) w x w' := by
  obtain ⟨i0, hi, hz0, hz1, hz2⟩ := info_int
  obtain ⟨lo, lc, rfl, hc1, hc2⟩ := hS.shape
  obtain ⟨n, hn⟩ : ∃ n, n = L.length := ⟨_, rfl⟩
  rw [← hn] at hS hl hc1 ⊢
  have HN := Lib.hid hn
  have HL := Lib.hid hS
  have HOK := Lib.hid hok
  have HIN := Lib.hid (show ∀ x ∈ (L.map fun v => (v.s.size : Int)), In64 x from fun x hx => by
    obtain ⟨v, hv, rfl⟩ := List.mem_map.1 hx
    have := (okV_in 4 (by omega) v (hok v hv)).2
    unfold In64; omega)
  have E := Lib.hid (show encD12 4 L = intsE (L.map fun v => (v.s.size : Int)) ++ txt12 L by unfold encD12; rw [if_neg (by decide), if_pos rfl])
  rw [E.out]
  have HLE := intsE_len _ HIN.out
  rw [List.length_map, ← HN.out] at HLE
  have HTL := txt12_len L (fun v hv => (okV_in 4 (by omega) v (hok v hv)).2)
  rw [← hn] at HTL
  have HTB := Lib.hid (show bl (str (txt12 L)) = txt12 L from bl_str (fun c hc => by
    obtain ⟨v, -, hv⟩ := List.mem_flatMap.1 hc
    exact bl_lt _ c hv))
  have HTZ := Lib.hid (str_size (txt12 L))
  obtain ⟨I, hI⟩ : ∃ I, I = intsE (L.map fun v => (v.s.size : Int)) := ⟨_, rfl⟩
  rw [← hI] at HLE ⊢
  obtain ⟨T, hT⟩ : ∃ T, T = txt12 L := ⟨_, rfl⟩
  rw [← hT] at HTL HTB HTZ ⊢
  obtain ⟨b1, hb1⟩ : ∃ b, b = I.length := ⟨_, rfl⟩
  obtain ⟨b2, hb2⟩ : ∃ b, b = (I ++ T).length := ⟨_, rfl⟩
  unfold Made
  rw [← hb1] at HLE
  rw [← hb2]
  have HI := Lib.hid hI; have HB1 := Lib.hid hb1; have HT := Lib.hid hT; have HB2 := Lib.hid hb2
  clear hI hb1 hT hb2
  clear hS hn hok
  go_enter Tryd.func12, Tryd.ntmps12
  go_wp2
  go_loopw [5, 6, 7] (fun nv' sv i w' => ∃ j : Nat, j ≤ n ∧ i = .int .i64 (j : Int) ∧ sv = .string (str (txt12 (L.take j))) ∧ Chg [] w w' ∧ w'.ownsRow w.heap.size 3 1 nv' j (iv ((L.take j).map fun v => (v.s.size : Int)))) (fun _ _ i _ => n - (intOf i).toNat)
  case atStart => exact ⟨0, Nat.zero_le _, rfl, rfl, Chg.refl _ _, World.ownsRow_nil _ _ _ _⟩
  case round =>
    obtain ⟨j, hj, rfl, rfl, hc, ho⟩ := hrel
    obtain ⟨no, nc, rfl⟩ := own_shape ho
    have HC := Lib.hid hc; have HO := Lib.hid ho
    have hB := hc.size
    clear hc ho
    by_cases hlt : j < n
    · have d1 : decide ((j : Int) < (n : Int)) = true := by simp; omega
      obtain ⟨v, hv⟩ : ∃ v, L[j]? = some v := ⟨_, List.getElem?_eq_getElem (by rw [← HN.out]; exact hlt)⟩
      obtain ⟨g, off, rfl, hcell⟩ := SeenV.get HL.out (by omega)
      obtain ⟨q0, q1⟩ := hcell j v hv
      have HQ1 := Lib.hid q1
      have x0 := HC.out.cell q0 (by simp)
      have x1 := HC.out.cell q1 (by simp)
      clear q0 q1
      have hvs := (okV_in 4 (by omega) v (HOK.out v (List.mem_of_getElem? hv))).2
      have HMS := Lib.hid (map_snoc12' (fun v : V => (v.s.size : Int)) L j v hv)
      have HTS := Lib.hid (show str (txt12 (L.take (j + 1))) = str (txt12 (L.take j)) ++ v.s by rw [txt12_snoc L j v hv, str_app12', str_bl'])
      have htl := txt12_len (L.take j) (fun x hx => (okV_in 4 (by omega) x (HOK.out x (List.mem_of_mem_take hx))).2)
      rw [List.length_take] at htl
      have hts : (str (txt12 (L.take j))).size ≤ 100000 := by rw [str_size]; omega
      obtain ⟨Tj, hTT⟩ : ∃ T, T = str (txt12 (L.take j)) := ⟨_, rfl⟩
      rw [← hTT] at HTS hts ⊢
      obtain ⟨X, hX⟩ : ∃ X, X = (L.take j).map fun v => (v.s.size : Int) := ⟨_, rfl⟩
      rw [← hX] at HMS HO
      have hsum : ¬ (9223372036854775807 < Tj.size + v.s.size) := by omega
      have b1 : (j : Int) < (n : Int) := by omega
      clear hcell hv hTT hX htl
      go_wp2_with (first
        | (at_builtin; refine wpList_append_own _ rfl _ _ 33 rfl w.heap.size 3 i0 (.int .i64 0) 1 8 Tryd.underlying33 hi hz0 hz1 hz2 rfl (by decide) _ _ _ rfl (HO.out.alloc _) ⟨wr.heap.size, 0, none⟩ 1 1 [.int .i64 (v.s.size : Int)] rfl rfl ?c1 ?c2 ?c3 ?c4 ?c5 ?_)
        | fail)
      case c1 => exact cell_one_new _ _ _
      case c2 => simp [Value.oneCell']
      case c3 => unfold maxLen; omega
      case c4 => omega
      case c5 => simp; omega
      intro v6 w6 hown6 hgrow6 _
      have HC6 := Lib.hid ((HC.out.alloc _).grown hgrow6 (fun k hk => .inr (own_ge HO.out k hk)))
      rw [show iv X ++ [Value.int .i64 (v.s.size : Int)] = iv (X ++ [(v.s.size : Int)]) by simp [iv], ← HMS.out] at hown6
      have HO6 := Lib.hid hown6
      have y1 := HC6.out.cell HQ1.out (by simp)
      clear hown6 hgrow6 x0 x1
      go_wp2
      go_roundw
      case rel => exact ⟨j + 1, hlt, by go_num, by rw [HTS.out], HC6.out, HO6.out⟩
      case measure => simp [intOf]; omega
    · have d1 : decide ((j : Int) < (n : Int)) = false := by simp; omega
      obtain rfl : j = n := by omega
      have hLT : L.take j = L := by rw [HN.out, List.take_length]
      rw [hLT] at HO ⊢
      rw [← HT.out]
      have HSI := Lib.hid (ownI_seen HO.out (by rw [List.length_map]; exact HN.out.symm))
      have HIT := Lib.hid (rints12_any (.slice no j nc) _ wr HSI.out (by rw [List.length_map, ← HN.out]; omega) HIN.out)
      unfold Made at HIT
      rw [← HI.out, ← HB1.out] at HIT
      clear hLT
      have htz := HTZ.out
      obtain ⟨sT, hsT⟩ : ∃ s, s = str T := ⟨_, rfl⟩
      rw [← hsT] at HTB htz ⊢
      have HTZ2 := Lib.hid htz
      have htz3 : sT.size ≤ 100000 := by omega
      clear hsT htz
      go_wp2_with (first
        | (go_at_call 23; (with_reducible refine HIT.out.mono ?_); rintro e w2 ⟨x, rfl, hc, ho⟩; have HC2 := Lib.hid (HC.out.trans hc (by simp)); have HO2 := Lib.hid ho; have hB2 := hc.size; clear hc ho)
        | (at_builtin; refine wpList_append_txt rfl _ _ rfl wr.heap.size _ b1 _ rfl HO2.out sT rfl ?c1 ?c2 ?_)
        | fail)
      case c1 => omega
      case c2 => exact hB2
      intro v6 w6 hown6 hgrow6
      have HO6 := Lib.hid (show w6.ownsRow w.heap.size 5 1 v6 b2 (nv .u8 (I ++ T)) from own_mono (by
        have h := hown6
        rw [HTB.out, show nv .u8 I ++ nv .u8 T = nv .u8 (I ++ T) by simp [nv], HTZ2.out, HB1.out, ← List.length_append, ← HB2.out] at h
        exact h) hB)
      have HC6 := Lib.hid (HC2.out.grown hgrow6 (fun k hk => .inr (by have := own_ge HO2.out k hk; omega)))
      clear hown6 hgrow6
      go_wp2
      go_ret
      exact ⟨_, rfl, HC6.out, HO6.out⟩

set_option maxRecDepth 100000 in
set_option maxHeartbeats 1000000 in
theorem rencode12_any (k : Nat) (hk : 1 ≤ k ∧ k ≤ 4) (lv : Value) (L : List V) (w : World) (hS : SeenV w lv L) (hl : L.length ≤ 1000) (hok : ∀ v ∈ L, okV k v) :
    Calls Tryd.prog 12 #[.int .i64 (k : Int), lv] w fun e w' => ∃ x, e = .returned x ∧ Made 5 .u8 (encD12 k L) w x w' := by
  by_cases h1 : k = 1
  · subst h1
    have HE := Lib.hid (rencode11_any 1 (by omega) lv L w hS (by omega) (fun v hv => by
      obtain ⟨h, -⟩ := hok v hv
      rw [(h rfl).2]; decide))
    unfold Made at HE
    rw [show ((1 : Nat) : Int) = 1 from rfl] at HE ⊢
    show Calls Tryd.prog 12 #[.int .i64 1, lv] w fun e w' => ∃ x, e = .returned x ∧ Made 5 .u8 (encP 1 L) w x w'
    clear hS hok
    go_enter Tryd.func12, Tryd.ntmps12
    go_wp2_with (first
      | (go_at_call 22; (with_reducible refine HE.out.mono ?_); rintro e w2 ⟨x, rfl, hc, ho⟩; have HC := Lib.hid hc; have HO := Lib.hid ho; clear hc ho)
      | fail)
    go_ret
    exact ⟨_, rfl, HC.out, HO.out⟩
  · by_cases h4 : k = 4
    · subst h4
      exact rencode12_txt lv L w hS hl hok
    · exact rencode12_num k (by omega) lv L w hS hl hok

theorem nV_map (L : List V) (h : ∀ v ∈ L, v.s = e0) : nV (L.map V.n) = L := by
  unfold nV
  rw [List.map_map]
  conv => rhs; rw [← List.map_id L]
  apply List.map_congr_left
  intro v hv
  have := h v hv
  cases v
  simp at this
  simp [this]

theorem txS_back : ∀ (L : List V), (∀ v ∈ L, v.n = 0) → txS (nV (L.map fun v => (v.s.size : Int))) (txt12 L) = (0, L, [])
  | [], _ => rfl
  | v :: l, h => by
    have ih := txS_back l fun x hx => h x (by simp [hx])
    have e1 : txt12 (v :: l) = bl v.s ++ txt12 l := by simp [txt12]
    have e2 : nV ((v :: l).map fun v => (v.s.size : Int)) = (⟨(v.s.size : Int), e0⟩ : V) :: nV (l.map fun v => (v.s.size : Int)) := rfl
    have hb := bl_length v.s
    rw [e1, e2]
    simp only [txS]
    rw [if_neg (by rw [List.length_append]; omega), Int.toNat_natCast, show (bl v.s ++ txt12 l).drop v.s.size = txt12 l by rw [← hb]; simp, show (bl v.s ++ txt12 l).take v.s.size = bl v.s by rw [← hb]; simp, ih, str_bl']
    have := h v (by simp)
    cases v
    simp at this
    simp [this]

theorem dec12_back (k : Nat) (hk : 1 ≤ k ∧ k ≤ 4) (L : List V) (hl : L.length ≤ 1000) (hok : ∀ v ∈ L, okV k v) : decD12 (k : Int) (L.length : Int) (encD12 k L) = (L, 0) := by
  by_cases h1 : k = 1
  · subst h1
    show decP ((1 : Nat) : Int) (encP 1 L) (L.length : Int) = (L, 0)
    exact dec_enc 1 (by omega) L (by omega) hok
  have hin := fun v hv => okV_in k (by omega) v (hok v hv)
  by_cases h4 : k = 4
  · subst h4
    have hI : ∀ x ∈ (L.map fun v => (v.s.size : Int)), In64 x := fun x hx => by
      obtain ⟨v, hv, rfl⟩ := List.mem_map.1 hx
      have := (hin v hv).2
      unfold In64; omega
    have h := read_ints (L.map fun v => (v.s.size : Int)) hI (by rw [List.length_map]; omega) (txt12 L)
    rw [List.length_map] at h
    unfold decD12
    rw [if_pos (by omega), show sg12 ((4 : Nat) : Int).toNat = [108, 116] from rfl, show encD12 4 L = intsE (L.map fun v => (v.s.size : Int)) ++ txt12 L by unfold encD12; rw [if_neg (by decide), if_pos rfl]]
    have hf : frD [108, 116] (L.length : Int) [] (intsE (L.map fun v => (v.s.size : Int)) ++ txt12 L) = (0, L, []) := by
      have hd : dpE 108 (L.length : Int) [] (intsE (L.map fun v => (v.s.size : Int)) ++ txt12 L) = (0, nV (L.map fun v => (v.s.size : Int)), txt12 L) := by
        unfold dpE
        rw [if_neg (by decide), if_pos rfl, h, numE_good (by
          rw [List.all_eq_true]
          intro x hx
          obtain ⟨v, hv, rfl⟩ := List.mem_map.1 hx
          have := (hin v hv).2
          simp only [Bool.and_eq_true, decide_eq_true_eq]
          omega)]
        simp
      have ht : dpE 116 (L.length : Int) (nV (L.map fun v => (v.s.size : Int))) (txt12 L) = (0, L, []) := by
        unfold dpE
        rw [if_neg (by decide), if_neg (by decide), if_pos rfl]
        exact txS_back L fun v hv => ((hok v hv).2.2.2 rfl).1
      rw [frD, hd, if_pos rfl, frD, ht, if_pos rfl]
      rfl
    rw [hf]
    rfl
  · have hs : ∀ v ∈ L, v.s = e0 := fun v hv => by
      obtain ⟨-, h2, h3, -⟩ := hok v hv
      have : k = 2 ∨ k = 3 := by omega
      rcases this with rfl | rfl
      · exact (h2 rfl).2
      · exact (h3 rfl).2
    have hI : ∀ x ∈ L.map V.n, In64 x := fun x hx => by
      obtain ⟨v, hv, rfl⟩ := List.mem_map.1 hx
      exact (hin v hv).1
    have h := read_ints (L.map V.n) hI (by rw [List.length_map]; omega) []
    rw [List.length_map, List.append_nil] at h
    have hE : encD12 k L = intsE (L.map V.n) := by unfold encD12; rw [if_neg h1, if_neg h4]
    have hnV := nV_map L hs
    have hk2 : k = 2 ∨ k = 3 := by omega
    have fin : ∀ g, sg12 k = [g] → dpE g (L.length : Int) [] (intsE (L.map V.n)) = (0, L, []) → decD12 (k : Int) (L.length : Int) (encD12 k L) = (L, 0) := fun g hg hd => by
      unfold decD12
      rw [if_pos (by omega), Int.toNat_natCast, hg, hE]
      have hf : frD [g] (L.length : Int) [] (intsE (L.map V.n)) = (0, L, []) := by
        rw [frD, hd, if_pos rfl]
        rfl
      rw [hf]
      rfl
    rcases hk2 with rfl | rfl
    · refine fin 115 rfl ?_
      unfold dpE
      rw [if_pos rfl, h, numE_good (by
        rw [List.all_eq_true]
        intro x hx
        obtain ⟨v, hv, rfl⟩ := List.mem_map.1 hx
        have := ((hok v hv).2.1 rfl).1
        simp only [Bool.and_eq_true, decide_eq_true_eq]
        omega)]
      simp [hnV]
    · refine fin 110 rfl ?_
      unfold dpE
      rw [if_neg (by decide), if_neg (by decide), if_neg (by decide), h, numE_good (by
        rw [List.all_eq_true]
        intro x hx
        obtain ⟨v, hv, rfl⟩ := List.mem_map.1 hx
        have := ((hok v hv).2.2.1 rfl).1
        simp only [Bool.and_eq_true, decide_eq_true_eq]
        omega)]
      simp [hnV]

theorem encD12_len {k : Nat} (hk : 1 ≤ k ∧ k ≤ 4) {L : List V} (hl : L.length ≤ 60) (hok : ∀ v ∈ L, okV k v) : (encD12 k L).length ≤ 20000 := by
  unfold encD12
  split
  · rename_i h1
    subst h1
    have := encP_len hk hok
    omega
  · rename_i h1
    have hin := fun v hv => okV_in k (by omega) v (hok v hv)
    split
    · have h1 := intsE_len (L.map fun v => (v.s.size : Int)) (fun x hx => by
        obtain ⟨v, hv, rfl⟩ := List.mem_map.1 hx
        have := (hin v hv).2
        unfold In64; omega)
      have h2 := txt12_len L (fun v hv => (hin v hv).2)
      rw [List.length_map] at h1
      rw [List.length_append]
      omega
    · have h1 := intsE_len (L.map V.n) (fun x hx => by
        obtain ⟨v, hv, rfl⟩ := List.mem_map.1 hx
        exact (hin v hv).1)
      rw [List.length_map] at h1
      omega

theorem encD12_bytes (k : Nat) (L : List V) : ∀ x ∈ encD12 k L, x < 2 ^ 8 := by
  unfold encD12
  split
  · exact encP_bytes 1 L
  split
  · intro x hx
    rcases List.mem_append.1 hx with h | h
    · exact intsE_bytes _ x h
    · obtain ⟨v, -, hv⟩ := List.mem_flatMap.1 h
      exact bl_lt _ x hv
  · exact intsE_bytes _

end Go.Proofs.YtohgnbgijleoaaaDoor
