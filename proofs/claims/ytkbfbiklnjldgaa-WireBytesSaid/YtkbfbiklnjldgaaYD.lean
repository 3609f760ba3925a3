/- Yl, Ym: texts of one group, one behind the other. -/
import Derived.Test.YtkbfbiklnjldgaaYA
import Derived.BigQuiet
namespace Go.Proofs.Ytkbfbiklnjldgaa
open Go.RowKit
set_option linter.unusedVariables false

mutual
/-- How many values there are. -/
def szT : Tr → Nat
  | .mk _ _ k => 1 + szK k
def szK : List (List Tr) → Nat
  | [] => 0
  | x :: r => szL x + szK r
def szL : List Tr → Nat
  | [] => 0
  | t :: r => szT t + szL r
end

theorem szT_eq (t : Tr) : szT t = 1 + szK t.k := by cases t with | mk n s k => rw [szT]; rfl

theorem szK_drop {k : List (List Tr)} {i : Nat} {x : List Tr} (h : k[i]? = some x) : szK (k.drop i) = szL x + szK (k.drop (i + 1)) := by
  have hl := (List.getElem?_eq_some_iff.1 h).1
  rw [List.getElem?_eq_getElem hl] at h
  injection h with h
  rw [List.drop_eq_getElem_cons hl, szK, h]

theorem szL_drop {x : List Tr} {i : Nat} {t : Tr} (h : x[i]? = some t) : szL (x.drop i) = szT t + szL (x.drop (i + 1)) := by
  have hl := (List.getElem?_eq_some_iff.1 h).1
  rw [List.getElem?_eq_getElem hl] at h
  injection h with h
  rw [List.drop_eq_getElem_cons hl, szL, h]

end Go.Proofs.Ytkbfbiklnjldgaa

namespace Go.Proofs.Ytkbfbiklnjldgaa
open Go.RowKit
set_option linter.unusedVariables false

theorem Tr.ext' {a b : Tr} (h1 : a.n = b.n) (h2 : a.s = b.s) (h3 : a.k = b.k) : a = b := by
  cases a; cases b
  simp only [Tr.n_mk, Tr.s_mk, Tr.k_mk] at h1 h2 h3
  subst h1 h2 h3
  rfl

/-- What Same answers. -/
def SmOut (a b : Tr) (e : Ending) : Prop := ∃ r, e = .returned (.bool r) ∧ (r = true ↔ a = b)

theorem take_eq_succ {α : Type} {a b : List α} {i : Nat} {x : α} (h : a.take i = b.take i) (ha : a[i]? = some x) (hb : b[i]? = some x) : a.take (i + 1) = b.take (i + 1) := by
  rw [List.take_add_one, List.take_add_one, h, ha, hb]

set_option maxRecDepth 100000 in
set_option maxHeartbeats 2000000 in
theorem rsame8_any : ∀ (d : Nat) (a b : Tr) (av bv : Value) (w : World), KidsAt w d a.k av → KidsAt w d b.k bv →
    Calls Try.prog 29 #[tv a.n a.s av, tv b.n b.s bv] w fun e w' => SmOut a b e ∧ Chg [] w w' := by
  intro d
  induction d with
  | zero => intro a b av bv w h; exact h.elim
  | succ d ih =>
    intro a b av bv w hA hB
    obtain ⟨ko, kcap, rfl, hl1, hl2⟩ := hA.shape
    obtain ⟨ko2, kcap2, rfl, hm1, hm2⟩ := hB.shape
    have HA := Lib.hid hA; have HB := Lib.hid hB; have IH := Lib.hid ih
    obtain ⟨K, hK⟩ : ∃ K, K = a.k := ⟨_, rfl⟩
    obtain ⟨K2, hK2⟩ : ∃ K, K = b.k := ⟨_, rfl⟩
    obtain ⟨na, han⟩ : ∃ n, n = a.n := ⟨_, rfl⟩
    obtain ⟨sa, has⟩ : ∃ s, s = a.s := ⟨_, rfl⟩
    obtain ⟨nb, hbn⟩ : ∃ n, n = b.n := ⟨_, rfl⟩
    obtain ⟨sb, hbs⟩ : ∃ s, s = b.s := ⟨_, rfl⟩
    have HE := Lib.hid (show a = b ↔ na = nb ∧ sa = sb ∧ K = K2 from by
      rw [han, has, hbn, hbs, hK, hK2]
      exact ⟨fun h => by rw [h]; exact ⟨rfl, rfl, rfl⟩, fun h => Tr.ext' h.1 h.2.1 h.2.2⟩)
    rw [← hK] at hl1 HA
    rw [← hK2] at hm1 HB
    rw [← han, ← has, ← hbn, ← hbs, ← hK, ← hK2]
    obtain ⟨m, hm⟩ : ∃ m, m = K.length := ⟨_, rfl⟩
    obtain ⟨m2, hmm2⟩ : ∃ m, m = K2.length := ⟨_, rfl⟩
    rw [← hm] at hl1 HA ⊢
    rw [← hmm2] at hm1 HB ⊢
    have HM := Lib.hid hm; have HM2 := Lib.hid hmm2
    have hmx : m ≤ 9223372036854775807 := by unfold maxLen at hl2; omega
    have HBX := Lib.hid (show ((w.alloc (.cells #[.int .i64 na, .string sa, .slice ko m kcap] 44)).alloc (.cells #[.int .i64 nb, .string sb, .slice ko2 m2 kcap2] 44)).cell? ⟨w.heap.size, 2, none⟩ = some (.slice ko m kcap) ∧ ((w.alloc (.cells #[.int .i64 na, .string sa, .slice ko m kcap] 44)).alloc (.cells #[.int .i64 nb, .string sb, .slice ko2 m2 kcap2] 44)).cell? ⟨w.heap.size + 1, 2, none⟩ = some (.slice ko2 m2 kcap2) from ⟨by rw [World.cell?_alloc_lt _ _ _ (by simp)]; simp, by simp⟩)
    have HC1 := Lib.hid (((Chg.refl [] w).alloc (.cells #[.int .i64 na, .string sa, .slice ko m kcap] 44)).alloc (.cells #[.int .i64 nb, .string sb, .slice ko2 m2 kcap2] 44))
    clear hA hB ih hK hK2 han has hbn hbs hm hmm2
    by_cases h1 : na = nb
    case neg =>
      have d1 : (na != nb) = true := by simpa using h1
      have E := Lib.hid (show false = true ↔ a = b from ⟨(fun h => by cases h), fun h => absurd (HE.out.1 h).1 h1⟩)
      go_enter Try.func29, Try.ntmps29
      go_wp2
      go_ret
      exact ⟨⟨false, rfl, E.out⟩, HC1.out⟩
    have d1 : (na != nb) = false := by simpa using h1
    by_cases h2 : sa = sb
    case neg =>
      have d2 : (sa.toList == sb.toList) = false := by
        cases h : (sa.toList == sb.toList)
        · rfl
        · exact absurd (bytes_ext h) h2
      have E := Lib.hid (show false = true ↔ a = b from ⟨(fun h => by cases h), fun h => absurd (HE.out.1 h).2.1 h2⟩)
      clear h1 h2
      go_enter Try.func29, Try.ntmps29
      go_wp2
      go_ret
      exact ⟨⟨false, rfl, E.out⟩, HC1.out⟩
    have d2 : (sa.toList == sb.toList) = true := by rw [h2]; simp
    by_cases h3 : m = m2
    case neg =>
      have d3 : ((m : Int) != (m2 : Int)) = true := by simp; omega
      have d4 : ¬ ((m : Int) = (m2 : Int)) := by omega
      have E := Lib.hid (show false = true ↔ a = b from ⟨(fun h => by cases h), fun h => absurd (by rw [HM.out, HM2.out, (HE.out.1 h).2.2]) h3⟩)
      clear h1 h2
      go_enter Try.func29, Try.ntmps29
      go_wp2
      go_ret
      exact ⟨⟨false, rfl, E.out⟩, HC1.out⟩
    have HE2 := Lib.hid (show a = b ↔ K = K2 from ⟨fun h => (HE.out.1 h).2.2, fun h => HE.out.2 ⟨h1, h2, h⟩⟩)
    subst h3
    have d3 : ((m : Int) != (m : Int)) = false := by simp
    clear HE h1 h2
    go_enter Try.func29, Try.ntmps29
    go_wp2
    obtain ⟨w1, hw1⟩ : ∃ w1, w1 = (w.alloc (.cells #[.int .i64 na, .string sa, .slice ko m kcap] 44)).alloc (.cells #[.int .i64 nb, .string sb, .slice ko2 m kcap2] 44) := ⟨_, rfl⟩
    rw [← hw1] at HBX HC1 ⊢
    clear hw1 d1 d2
    go_loopw [5] (fun x wx => ∃ i : Nat, x = .int .i64 (i : Int) ∧ i ≤ m ∧ K.take i = K2.take i ∧ Chg [] w1 wx) (fun x _ => m - (intOf x).toNat)
    case atStart => exact ⟨0, rfl, Nat.zero_le _, rfl, Chg.refl _ _⟩
    case round =>
      obtain ⟨i, rfl, him, he, hC⟩ := hrel
      have HEQ := Lib.hid he; have HC := Lib.hid hC
      have ht2 := hC.cell HBX.out.1 (by simp)
      have ht3 := hC.cell HBX.out.2 (by simp)
      clear he hC
      by_cases hlt : i < m
      · have hli : (i : Int) < (m : Int) := by omega
        obtain ⟨x, hx⟩ : ∃ x, K[i]? = some x := ⟨_, List.getElem?_eq_getElem (by rw [← HM.out]; exact hlt)⟩
        obtain ⟨y, hy⟩ : ∃ x, K2[i]? = some x := ⟨_, List.getElem?_eq_getElem (by rw [← HM2.out]; exact hlt)⟩
        obtain ⟨d', gk, koff, hd, rfl, hck⟩ := KidsAt.get (HA.out.keep (HC1.out.trans HC.out (by simp))) (by omega)
        obtain ⟨d2', gk2, koff2, hd2, rfl, hck2⟩ := KidsAt.get (HB.out.keep (HC1.out.trans HC.out (by simp))) (by omega)
        obtain ⟨lv, hlc, hll⟩ := hck i x hx
        obtain ⟨lv2, hlc2, hll2⟩ := hck2 i y hy
        have e : d = d' := by omega
        subst e
        have e : d = d2' := by omega
        subst e
        obtain ⟨lo, lcap, rfl, hq1, hq2⟩ := hll.shape
        obtain ⟨lo2, lcap2, rfl, hq3, hq4⟩ := hll2.shape
        obtain ⟨q, hq⟩ : ∃ q, q = x.length := ⟨_, rfl⟩
        obtain ⟨q2, hqq2⟩ : ∃ q, q = y.length := ⟨_, rfl⟩
        rw [← hq] at hlc hll hq1
        rw [← hqq2] at hlc2 hll2 hq3
        have HQ := Lib.hid hq; have HQ2 := Lib.hid hqq2
        have HLL := Lib.hid hll; have HLL2 := Lib.hid hll2
        have HXY := Lib.hid (And.intro hx hy)
        have HLC := Lib.hid (And.intro ht2 (And.intro hlc (And.intro ht3 hlc2)))
        have hqx : q ≤ 9223372036854775807 := by unfold maxLen at hq2; omega
        clear hck hck2 hll hll2 hx hy hd hd2 hq hqq2
        by_cases hqe : q = q2
        case neg =>
          have d5 : ((q : Int) != (q2 : Int)) = true := by simp; omega
          have d6 : ¬ ((q : Int) = (q2 : Int)) := by omega
          have E := Lib.hid (show false = true ↔ a = b from ⟨(fun h => by cases h), fun h => absurd (by
            have h1 := HE2.out.1 h
            have h2 := HXY.out.1
            rw [h1, HXY.out.2] at h2
            injection h2 with h2
            rw [HQ.out, HQ2.out, h2]) hqe⟩)
          clear hqe
          go_wp2_with fail
          go_quiet (fail)
          go_wp2
          go_ret
          exact ⟨⟨false, rfl, E.out⟩, HC1.out.trans (HC.out.drewN _) (by simp)⟩
        subst hqe
        have d5 : ((q : Int) != (q : Int)) = false := by simp
        go_wp2_with fail
        go_quiet (fail)
        go_wp2
        clear ht2 ht3 hlc hlc2
        go_loopw [6] (fun x' wx => ∃ j : Nat, x' = .int .i64 (j : Int) ∧ j ≤ q ∧ x.take j = y.take j ∧ Chg [] wr wx) (fun x _ => q - (intOf x).toNat)
        case atStart => exact ⟨0, rfl, Nat.zero_le _, rfl, (Chg.refl _ _).drewN _⟩
        case round =>
          obtain ⟨j, rfl, hjq, he2, hC2⟩ := hrel
          have HEQ2 := Lib.hid he2; have HC2 := Lib.hid hC2
          have ht2 := hC2.cell HLC.out.1 (by simp)
          have hlc := hC2.cell HLC.out.2.1 (by simp)
          have ht3 := hC2.cell HLC.out.2.2.1 (by simp)
          have hlc2 := hC2.cell HLC.out.2.2.2 (by simp)
          clear he2 hC2
          by_cases hlt2 : j < q
          · have hlj : (j : Int) < (q : Int) := by omega
            obtain ⟨t4, ht4⟩ : ∃ t, x[j]? = some t := ⟨_, List.getElem?_eq_getElem (by rw [← HQ.out]; exact hlt2)⟩
            obtain ⟨t5, ht5⟩ : ∃ t, y[j]? = some t := ⟨_, List.getElem?_eq_getElem (by rw [← HQ2.out]; exact hlt2)⟩
            obtain ⟨gl, loff, rfl, hcl⟩ := ListAt.get (HLL.out.keep HC2.out) (by omega)
            obtain ⟨gl2, loff2, rfl, hcl2⟩ := ListAt.get (HLL2.out.keep HC2.out) (by omega)
            obtain ⟨kv4, b1, b2, b3, hkv⟩ := hcl j t4 ht4
            obtain ⟨kv5, b4, b5, b6, hkv5⟩ := hcl2 j t5 ht5
            obtain ⟨ko4, kc4, rfl, -, -⟩ := hkv.shape
            obtain ⟨ko5, kc5, rfl, -, -⟩ := hkv5.shape
            have HIV := Lib.hid (fun wx (hk : Chg [] _ wx) => IH.out t4 t5 _ _ wx (hkv.keep hk) (hkv5.keep hk))
            have HTT := Lib.hid (And.intro ht4 ht5)
            obtain ⟨tn4, htn⟩ : ∃ n, n = t4.n := ⟨_, rfl⟩
            obtain ⟨ts4, hts⟩ : ∃ s, s = t4.s := ⟨_, rfl⟩
            obtain ⟨tn5, htn5⟩ : ∃ n, n = t5.n := ⟨_, rfl⟩
            obtain ⟨ts5, hts5⟩ : ∃ s, s = t5.s := ⟨_, rfl⟩
            rw [← htn, ← hts, ← htn5, ← hts5] at HIV
            rw [← htn] at b1
            rw [← hts] at b2
            rw [← htn5] at b4
            rw [← hts5] at b5
            clear hcl hcl2 hkv hkv5 ht4 ht5 htn hts htn5 hts5
            go_upto_region 11 with fail
            go_still_tail 16, (by kernel_rfl)
            change wpList _ _ _ _ _ _
            go_wp2_with (first
              | (go_at_call 29; (with_reducible refine (HIV.out _ (Chg.refl [] _).drew).mono ?_); rintro e w4 ⟨⟨r, rfl, hr⟩, hk4⟩; have HC4 := Lib.hid (HC2.out.trans ((Chg.refl [] _).drew.trans hk4 (by simp)) (by simp)); clear hk4; have hor : (r = true ∧ Hid (t4 = t5)) ∨ (r = false ∧ Hid (¬ t4 = t5)) := (by by_cases h : t4 = t5; exact .inl ⟨hr.2 h, Lib.hid h⟩; exact .inr ⟨(by cases hb : r; rfl; exact absurd (hr.1 hb) h), Lib.hid h⟩); clear hr; rcases hor with ⟨rfl, HT5⟩ | ⟨rfl, HT5⟩)
              | fail)
            · go_roundw
              case rel => exact ⟨j + 1, by go_num, by omega, take_eq_succ HEQ2.out HTT.out.1 (by rw [HTT.out.2, HT5.out]), HC4.out⟩
              case measure => simp [intOf]; omega
            · have E := Lib.hid (show false = true ↔ a = b from ⟨(fun h => by cases h), fun h => absurd (by
                have h1 := HE2.out.1 h
                have h2 := HXY.out.1
                rw [h1, HXY.out.2] at h2
                injection h2 with h2
                have h3 := HTT.out.1
                rw [← h2, HTT.out.2] at h3
                injection h3 with h3
                exact h3.symm) HT5.out⟩)
              go_wp2
              go_ret
              exact ⟨⟨false, rfl, E.out⟩, HC1.out.trans (HC.out.trans HC4.out (by simp)) (by simp)⟩
          · have hje : j = q := by omega
            have E := Lib.hid (show K.take (i + 1) = K2.take (i + 1) from by
              have h := HEQ2.out
              rw [hje] at h
              have h1 : x = y := by
                rw [← List.take_length (l := x), ← List.take_length (l := y), ← HQ.out, ← HQ2.out]
                exact h
              exact take_eq_succ HEQ.out HXY.out.1 (by rw [HXY.out.2, h1]))
            clear hje
            go_wp2
            go_roundw
            case rel => exact ⟨i + 1, by go_num, by omega, E.out, HC.out.trans HC2.out (by simp)⟩
            case measure => simp [intOf]; omega
      · have hie : i = m := by omega
        have E := Lib.hid (show a = b from HE2.out.2 (by
          have h := HEQ.out
          rw [hie] at h
          rw [← List.take_length (l := K), ← List.take_length (l := K2), ← HM.out, ← HM2.out]
          exact h))
        clear hie
        go_wp2
        go_ret
        exact ⟨⟨true, rfl, ⟨fun _ => E.out, fun _ => rfl⟩⟩, HC1.out.trans HC.out (by simp)⟩

end Go.Proofs.Ytkbfbiklnjldgaa
