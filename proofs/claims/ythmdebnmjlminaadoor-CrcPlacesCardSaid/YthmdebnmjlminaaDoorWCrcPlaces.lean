/- The walk of the statement CrcPlaces. -/
import Derived.Test.YthmdebnmjlminaaDoorDr
import Derived.Deep.RegionHeld3
namespace Go.Proofs.YthmdebnmjlminaaDoor
open Go.RowKit
set_option linter.unusedVariables false

/-- Two bytes near one another, changed about: the sum is the same just where they are alike. -/
theorem crc_swap (l : List Nat) (hb : ∀ x ∈ l, x < 2 ^ 8) (i d : Nat) (hd : 1 ≤ d) (hd3 : d ≤ 3) (hl : i + d < l.length) :
    crc l = crc ((l.set i (l.getD (i + d) 0)).set (i + d) (l.getD i 0)) ↔ l.getD i 0 = l.getD (i + d) 0 := by
  have h1 := num_set l i (l.getD (i + d) 0) (by omega)
  have h2 := num_set (l.set i (l.getD (i + d) 0)) (i + d) (l.getD i 0) (by simp; omega)
  have hg : (l.set i (l.getD (i + d) 0)).getD (i + d) 0 = l.getD (i + d) 0 := by
    simp only [List.getD, List.getElem?_set, if_neg (show ¬ i = i + d by omega)]
  rw [hg] at h2
  obtain ⟨a, ha⟩ : ∃ a, a = l.getD i 0 := ⟨_, rfl⟩
  obtain ⟨b, hb2⟩ : ∃ b, b = l.getD (i + d) 0 := ⟨_, rfl⟩
  have ha8 : a < 2 ^ 8 := by rw [ha]; exact hb _ (getD_mem (by omega))
  have hb8 : b < 2 ^ 8 := by rw [hb2]; exact hb _ (getD_mem (by omega))
  rw [← ha, ← hb2] at h1 h2 ⊢
  have hx := xor_lt 8 hb8 ha8
  rw [Nat.xor_comm a b] at h2
  obtain ⟨x, hxx⟩ : ∃ x, x = b ^^^ a := ⟨_, rfl⟩
  rw [← hxx] at h1 h2 hx
  have e : num ((l.set i b).set (i + d) a) ^^^ num l = 2 ^ (8 * i) * (2 ^ (8 * d) * x ^^^ x) := by
    have e1 : num ((l.set i b).set (i + d) a) ^^^ num l = (num ((l.set i b).set (i + d) a) ^^^ num (l.set i b)) ^^^ (num (l.set i b) ^^^ num l) := by
      rw [Nat.xor_assoc, ← Nat.xor_assoc (num (l.set i b)), Nat.xor_self, Nat.zero_xor]
    rw [e1, h2, h1, show 8 * (i + d) = 8 * i + 8 * d by omega, Nat.pow_add, Nat.mul_assoc]
    rw [Nat.mul_comm (2 ^ (8 * i)) (2 ^ (8 * d) * x), Nat.mul_comm (2 ^ (8 * i)) x, Nat.mul_comm (2 ^ (8 * i)), ← Nat.shiftLeft_eq _ (8 * i), ← Nat.shiftLeft_eq _ (8 * i), ← Nat.shiftLeft_eq _ (8 * i), Nat.shiftLeft_xor_distrib]
  have hp : 2 ^ (8 * d) ≤ 2 ^ 24 := Nat.pow_le_pow_right (by decide) (by omega)
  have hp8 : 2 ^ 8 ≤ 2 ^ (8 * d) := Nat.pow_le_pow_right (by decide) (by omega)
  have hadd : 2 ^ (8 * d) * x ^^^ x = 2 ^ (8 * d) * x + x := xor_add (8 * d) x x (by omega)
  have hm : 2 ^ (8 * d) * x ^^^ x < 2 ^ 32 := by
    rw [hadd]
    have : 2 ^ (8 * d) * x ≤ 2 ^ 24 * 255 := Nat.mul_le_mul hp (by omega)
    omega
  have key := crc_near ((l.set i b).set (i + d) a) l (by simp) _ (8 * i) hm (by simp; omega) e
  constructor
  · intro h
    have := key.1 h.symm
    rw [hadd] at this
    have hx0 : x = 0 := by omega
    rw [hx0] at hxx
    exact ((xor_zero_iff _ _).1 hxx.symm).symm
  · intro h
    refine (key.2 ?_).symm
    rw [hadd, hxx, h, Nat.xor_self, Nat.mul_zero]

set_option maxRecDepth 100000 in
set_option maxHeartbeats 2000000 in
theorem walk_CrcPlaces (a0 : Option Addr) (len0 cap0 : Nat) (z0 : List Int) (a1 : Int) (a2 : Int) (w : World) (hT : Laid w) (w0 : IsRow .u8 w a0 len0 cap0 z0) (w1 : (Lit.int .i64 a1).wf = true) (w2 : (Lit.int .i64 a2).wf = true) :
    Calls Tryd.prog 8 #[.slice a0 len0 cap0, .int .i64 a1, .int .i64 a2] w fun e w' => e = .returned (.bool true) ∧ Below w.heap.size w w' := by
  obtain ⟨S, hS, rfl, hSl⟩ := w0.u8s
  have hlen := w0.len.2
  have HS := Lib.hid hS; have HSL := Lib.hid hSl; have HT := Lib.hid hT; have W1 := Lib.hid w1; have W2 := Lib.hid w2
  clear w0 w1 w2 hS hSl hT
  unfold maxLen at hlen
  go_enter Tryd.func8, Tryd.ntmps8
  go_wp2_with fail
  (with_reducible refine (known_any _ HT.out).mono ?_)
  rintro x w1 ⟨rfl, hk⟩
  have HC := Lib.hid hk; clear hk
  by_cases h0 : S.length < 4
  · have hb0 : decide ((S.length : Int) < 4) = true := by simp; omega
    go_wp2
    go_ret
    exact ⟨rfl, HC.out.below (Nat.le_refl _) (by simp)⟩
  have hb0 : decide ((S.length : Int) < 4) = false := by simp; omega
  by_cases hgt : 200 < S.length
  · have hg2 : decide ((200 : Int) < (S.length : Int)) = true := by simp; omega
    go_wp2
    go_ret
    exact ⟨rfl, HC.out.below (Nat.le_refl _) (by simp)⟩
  have hg2 : decide ((200 : Int) < (S.length : Int)) = false := by simp; omega
  obtain ⟨i0, hi, hz0, hz1, hz2⟩ := info_u8
  have hone := Lib.hid (nv_one .u8 S)
  go_wp2_with fail
  (with_reducible refine (within_int a1 _ (S.length - 3) _ (by omega) (by omega) (by omega) W1.out).mono ?_)
  rintro x w2 ⟨rfl, rfl⟩
  have hil := within_lt a1 (S.length - 3) (by omega)
  obtain ⟨i, hi1⟩ : ∃ k, k = (a1 % ((S.length - 3 : Nat) : Int)).toNat := ⟨_, rfl⟩
  rw [← hi1] at hil ⊢
  clear hi1
  go_wp2_with fail
  (with_reducible refine (within_int a2 3 3 _ rfl (by omega) (by omega) W2.out).mono ?_)
  rintro x w2 ⟨rfl, rfl⟩
  have hdl := within_lt a2 3 (by omega)
  obtain ⟨d, hd1⟩ : ∃ k, k = (a2 % ((3 : Nat) : Int)).toNat := ⟨_, rfl⟩
  rw [← hd1] at hdl ⊢
  clear hd1
  have HO := Lib.hid (World.ownsRow_made (base := w1.heap.size) (e := 5) (size := 1) w1 #[] 0 (Nat.le_refl _) (by simp) rfl)
  go_wp2_with (at_builtin; refine wpList_append_reads _ rfl _ _ 24 24 rfl w1.heap.size 5 5 i0 (.int .u8 0) 1 Tryd.underlying24 Tryd.underlying24 hi hz0 hz1 hz2 rfl _ 0 [] rfl HO.out _ (nv .u8 S) rfl (HS.out.keep (HC.out.alloc _)) hone.out ?c1 ?c2 ?c3 ?_)
  case c1 => rw [nv_length]; unfold maxLen; omega
  case c2 => rw [nv_length]; omega
  case c3 => simp
  intro v2 w2 hown2 hgrow2
  have HC2 := Lib.hid ((HC.out.alloc _).grown hgrow2 (fun k hk => .inr (by
    simp only [Value.ownBlock, Option.some.injEq] at hk
    have := HC.out.size
    omega)))
  obtain ⟨ao, cap, rfl⟩ := own_shape hown2
  obtain ⟨g, rfl⟩ := own_some hown2 (by omega)
  have hgb := own_ge hown2 g rfl
  have HO2 := Lib.hid hown2
  clear hgrow2 hown2 HO
  have hs1 := HC.out.size
  obtain ⟨k, hk⟩ : ∃ k, k = i + 1 + d := ⟨_, rfl⟩
  have hkl : k < S.length := by omega
  have hci := own_cell HO2.out rfl i (by omega)
  have hck := own_cell HO2.out rfl k hkl
  have hfi := HO2.out.frozenAt i
  have hfk := HO2.out.frozenAt k
  go_wp2_with fail
  obtain ⟨a, ha⟩ : ∃ a, a = S.getD i 0 := ⟨_, rfl⟩
  obtain ⟨b, hb⟩ : ∃ b, b = S.getD k 0 := ⟨_, rfl⟩
  rw [← ha] at hci
  rw [← hb] at hck
  have hkk : ((i : Int) + 1 + (d : Int)) = (k : Int) := by omega
  have HK := Lib.hid hk; have HA := Lib.hid ha; have HB := Lib.hid hb
  clear hk ha hb
  have hst1 := (HO2.out.stored i (.int .u8 (b : Int))).1
  rw [nv_set] at hst1
  have hst2 := (hst1.stored k (.int .u8 (a : Int))).1
  rw [nv_set] at hst2
  have hge : ∀ j : Nat, (⟨g, j, none⟩ : Addr).block ∈ ([] : List Nat) ∨ w.heap.size ≤ (⟨g, j, none⟩ : Addr).block := fun j => .inr (by simp; omega)
  have hc3 := ((HC2.out.setCell (hge i) (.int .u8 (b : Int))).setCell (hge k) (.int .u8 (a : Int))).drew
  have hs3 := (reads_of_own hst2).seen.keep ((Chg.refl [] _).drew)
  have HSW := Lib.hid (crc_swap S HSL.out i (1 + d) (by omega) (by omega) (by omega))
  rw [show i + (1 + d) = k by rw [HK.out]; omega, ← HA.out, ← HB.out] at HSW
  have ha8 : a < 2 ^ 8 := by rw [HA.out]; exact HSL.out _ (getD_mem (by omega))
  have hb8 : b < 2 ^ 8 := by rw [HB.out]; exact HSL.out _ (getD_mem (by omega))
  have HBY := Lib.hid (set_lt (set_lt HSL.out hb8 i) ha8 k)
  clear hst1 hst2 hge hs1
  go_region
  generalize ((w2.setCell ⟨g, i, none⟩ (.int .u8 (b : Int))).setCell ⟨g, k, none⟩ (.int .u8 (a : Int))).drew = w3 at *
  obtain ⟨S2, hS2⟩ : ∃ S2, S2 = (S.set i b).set k a := ⟨_, rfl⟩
  rw [← hS2] at HSW HBY hs3
  obtain ⟨g0, off0, rfl, hcell⟩ := HS.out.at0 rfl (by omega)
  have HCA := Lib.hid (hcell i (by omega)); have HCB := Lib.hid (hcell k hkl)
  rw [← HA.out] at HCA
  rw [← HB.out] at HCB
  have HRS := Lib.hid (Row.mk HS.out HSL.out)
  have HR2 := Lib.hid (Row.mk hs3 HBY.out)
  have HC3 := Lib.hid hc3
  obtain ⟨c1, hc1⟩ : ∃ c, c = crc S := ⟨_, rfl⟩
  obtain ⟨c2, hc2⟩ : ∃ c, c = crc S2 := ⟨_, rfl⟩
  have H1 := Lib.hid hc1; have H2 := Lib.hid hc2
  have HF := Lib.hid (show (((c1 : Int) == (c2 : Int)) == ((a : Int) == (b : Int))) = true by
    have h := HSW.out
    rw [← hc1, ← hc2] at h
    by_cases e : a = b
    · rw [h.2 e, e]; simp
    · have : ¬ c1 = c2 := fun x => e (h.1 x)
      have e1 : ((c1 : Int) == (c2 : Int)) = false := by simp; omega
      have e2 : ((a : Int) == (b : Int)) = false := by simp; omega
      rw [e1, e2]; rfl)
  have hisl : i < S.length := by omega
  have hA0 := HC3.out.cell HCA.out (by simp)
  have hB0 := HC3.out.cell HCB.out (by simp)
  clear hci hck hfi hfk hc3 hs3 hS2 hcell hc1 hc2 HO2 hone HSW ha8 hb8
  go_wp2_with fail
  go_region_held3 (fun w' => w'.cell? ⟨g0, off0 + i, none⟩ = some (.int .u8 (a : Int)) ∧ w'.cell? ⟨g0, off0 + k, none⟩ = some (.int .u8 (b : Int))) (refine ⟨Chg.cell (w := w) (S := []) ?_ HCA.out (by simp), Chg.cell (w := w) (S := []) ?_ HCB.out (by simp)⟩ <;> (with_reducible repeat (first | exact HC5.out | exact HC4.out | exact HC3.out | apply Chg.drew | apply Chg.alloc))) (first
    | (go_at_call 11; (with_reducible apply sum_row_k); (case hb => (with_reducible repeat (first | (apply hl_new; simp; done) | apply hl_drew | apply hl_old | apply hl_chg HK4.out | apply hl_chg HK5.out))); (case hS => with_reducible exact HRS.out.keep (by (with_reducible repeat (first | exact HC5.out | exact HC4.out | exact HC3.out | apply Chg.drew | apply Chg.alloc)))); (case hT => exact HT.out.keep (by (with_reducible repeat (first | exact HC5.out | exact HC4.out | exact HC3.out | apply Chg.drew | apply Chg.alloc)))); (refine fun w4 hk => ?_); rw [← H1.out]; have HK4 := Lib.hid hk; have HR4 := Lib.hid (Chg.trans (a := w3) (S := []) (T := []) (by (with_reducible repeat (first | exact HR5.out | exact HR4.out | exact Chg.refl _ _ | apply Chg.drew | apply Chg.alloc))) hk (by simp)); have HC4 := Lib.hid (Chg.trans (a := w) (S := []) (T := []) (by (with_reducible repeat (first | exact HC5.out | exact HC4.out | exact HC3.out | apply Chg.drew | apply Chg.alloc))) hk (by simp)); clear hk)
    | (go_at_call 11; (with_reducible apply sum_row_k); (case hb => (with_reducible repeat (first | (apply hl_new; simp; done) | apply hl_drew | apply hl_old | apply hl_chg HK4.out | apply hl_chg HK5.out))); (case hS => with_reducible exact HR2.out.keep (by (with_reducible repeat (first | exact HR5.out | exact HR4.out | exact Chg.refl _ _ | apply Chg.drew | apply Chg.alloc)))); (case hT => exact HT.out.keep (by (with_reducible repeat (first | exact HC5.out | exact HC4.out | exact HC3.out | apply Chg.drew | apply Chg.alloc)))); (refine fun w5 hk => ?_); rw [← H2.out]; have HK5 := Lib.hid hk; have HR5 := Lib.hid (Chg.trans (a := w3) (S := []) (T := []) (by (with_reducible repeat (first | exact HR5.out | exact HR4.out | exact Chg.refl _ _ | apply Chg.drew | apply Chg.alloc))) hk (by simp)); have HC5 := Lib.hid (Chg.trans (a := w) (S := []) (T := []) (by (with_reducible repeat (first | exact HC5.out | exact HC4.out | exact HC3.out | apply Chg.drew | apply Chg.alloc))) hk (by simp)); clear hk))
  all_goals
    go_wp2
    go_ret
    refine ⟨congrArg (fun b => Ending.returned (Value.bool b)) HF.out, Chg.below (w := w) (S := []) ?_ (Nat.le_refl _) (by simp)⟩
    (with_reducible repeat (first | exact HC5.out | exact HC4.out | exact HC3.out | apply Chg.drew | apply Chg.alloc))

end Go.Proofs.YthmdebnmjlminaaDoor
