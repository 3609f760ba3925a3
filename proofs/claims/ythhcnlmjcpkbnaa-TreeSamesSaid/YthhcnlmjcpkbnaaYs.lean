/- Whether two values are alike. -/
import Derived.Test.YthhcnlmjcpkbnaaYb
import Derived.BigQuiet
namespace Go.Proofs.Ythhcnlmjcpkbnaa
open Go.RowKit
set_option linter.unusedVariables false

/-- Lists as long. -/
def lensE (a b : List (List Tr)) : Bool := decide (a.map List.length = b.map List.length)

/-- Alike, but for what is in the lists. -/
def alikeB (a b : Tr) : Bool := decide (a.n = b.n ∧ a.s = b.s ∧ a.k.map List.length = b.k.map List.length)

set_option maxHeartbeats 400000 in
theorem alike1_any (a b : Option Addr) (n m c1 c2 : Nat) (w : World) (h1 : n ≤ 9223372036854775807) (h2 : m ≤ 9223372036854775807) :
    Calls Try.prog 100 #[.slice a n c1, .slice b m c2] w fun e w' => e = .returned (.bool (decide (n = m))) ∧ Chg [] w w' := by
  by_cases h : n = m
  · have E := Lib.hid (show decide (n = m) = true by simp [h])
    have hq : ((n : Int) == (m : Int)) = true := by simp [h]
    clear h
    go_enter Try.func100, Try.ntmps100
    go_wp2
    go_ret
    exact ⟨ret_bool E.out.symm, Chg.refl _ _⟩
  · have E := Lib.hid (show decide (n = m) = false by simp [h])
    have hq : ((n : Int) == (m : Int)) = false := by simp; omega
    clear h
    go_enter Try.func100, Try.ntmps100
    go_wp2
    go_ret
    exact ⟨ret_bool E.out.symm, Chg.refl _ _⟩

/-- What EqualFunc answers. -/
def EqOut (a b : List (List Tr)) (e : Ending) : Prop := ∃ r, e = .returned (.bool r) ∧ (r = true ↔ a.map List.length = b.map List.length)

theorem take_len_succ {a b : List (List Tr)} {i : Nat} {x y : List Tr} (h : (a.take i).map List.length = (b.take i).map List.length) (ha : a[i]? = some x) (hb : b[i]? = some y) (hxy : x.length = y.length) : (a.take (i + 1)).map List.length = (b.take (i + 1)).map List.length := by
  rw [List.take_add_one, List.take_add_one, List.map_append, List.map_append, h, ha, hb]
  simp [hxy]

theorem lens_at {a b : List (List Tr)} {i : Nat} {x y : List Tr} (h : a.map List.length = b.map List.length) (ha : a[i]? = some x) (hb : b[i]? = some y) : x.length = y.length := by
  have h1 : (a.map List.length)[i]? = some x.length := by rw [List.getElem?_map, ha]; rfl
  have h2 : (b.map List.length)[i]? = some y.length := by rw [List.getElem?_map, hb]; rfl
  rw [h, h2] at h1
  injection h1 with h1
  exact h1.symm

set_option maxRecDepth 100000 in
set_option maxHeartbeats 1000000 in
theorem equalFunc_any (d : Nat) (a b : List (List Tr)) (av bv : Value) (w : World) (hA : KidsAt w d a av) (hB : KidsAt w d b bv) :
    Calls Try.prog 101 #[av, bv, .func (.func 100) #[] #[]] w fun e w' => EqOut a b e ∧ Chg [] w w' := by
  have eg : ∀ args w, (callFunc 100 args).run Try.prog w = .ok (.enter 100 args) w := Go.Proofs.enters_of Try.func100 (by kernel_rfl) rfl
  obtain ⟨ao, ac, rfl, hc1, hc2⟩ := hA.shape
  obtain ⟨bo, bc, rfl, hd1, hd2⟩ := hB.shape
  have HA := Lib.hid hA; have HB := Lib.hid hB
  clear hA hB
  obtain ⟨n, hn⟩ : ∃ n, n = a.length := ⟨_, rfl⟩
  obtain ⟨m, hm⟩ : ∃ m, m = b.length := ⟨_, rfl⟩
  rw [← hn] at hc1 HA ⊢
  rw [← hm] at hd1 HB ⊢
  have hnm : n ≤ 9223372036854775807 := by unfold maxLen at hc2; omega
  have hmm : m ≤ 9223372036854775807 := by unfold maxLen at hd2; omega
  have HN := Lib.hid hn; have HM := Lib.hid hm
  clear hn hm
  by_cases h : n = m
  case neg =>
    have hq : ((n : Int) != (m : Int)) = true := by simp; omega
    have E := Lib.hid (show false = true ↔ a.map List.length = b.map List.length from ⟨(fun h => by cases h), fun h1 => by
      have h2 := congrArg List.length h1
      rw [List.length_map, List.length_map, ← HN.out, ← HM.out] at h2
      exact absurd h2 h⟩)
    clear h
    go_enter Try.func101, Try.ntmps101
    go_wp2
    go_ret
    exact ⟨⟨false, rfl, E.out⟩, Chg.refl _ _⟩
  subst h
  go_enter Try.func101, Try.ntmps101
  go_wp2
  go_loopw [17] (fun x w' => ∃ k : Nat, x = .int .i64 (k : Int) ∧ k ≤ n ∧ Chg [] w w' ∧ (a.take k).map List.length = (b.take k).map List.length) (fun x _ => n - (intOf x).toNat)
  case atStart => exact ⟨0, rfl, Nat.zero_le _, Chg.refl _ _, rfl⟩
  case round =>
    obtain ⟨k, rfl, hk, hc, he⟩ := hrel
    have HC := Lib.hid hc; have HE := Lib.hid he
    clear hc he
    by_cases hlt : k < n
    · obtain ⟨x, hx⟩ : ∃ x, a[k]? = some x := ⟨_, List.getElem?_eq_getElem (by rw [← HN.out]; exact hlt)⟩
      obtain ⟨y, hy⟩ : ∃ y, b[k]? = some y := ⟨_, List.getElem?_eq_getElem (by rw [← HM.out]; exact hlt)⟩
      obtain ⟨d1, gk, off, -, rfl, hcs⟩ := KidsAt.get (HA.out.keep HC.out) (by omega)
      obtain ⟨d2, gk2, off2, -, rfl, hcs2⟩ := KidsAt.get (HB.out.keep HC.out) (by omega)
      obtain ⟨lv, hl, hll⟩ := hcs k x hx
      obtain ⟨lv2, hl2, hll2⟩ := hcs2 k y hy
      obtain ⟨lo, lc, rfl, q1, q2⟩ := hll.shape
      obtain ⟨lo2, lc2, rfl, q3, q4⟩ := hll2.shape
      have HX := Lib.hid hx; have HY := Lib.hid hy
      have g1 : x.length ≤ 9223372036854775807 := by unfold maxLen at q2; omega
      have g2 : y.length ≤ 9223372036854775807 := by unfold maxLen at q4; omega
      clear hcs hcs2 hx hy hll hll2 q1 q2 q3 q4
      go_wp2_with fail
      refine (alike1_any _ _ _ _ _ _ _ g1 g2).mono ?_
      rintro e w3 ⟨rfl, hk3⟩
      have HC3 := Lib.hid (HC.out.trans hk3 (by simp))
      clear hk3
      by_cases hxy : x.length = y.length
      · have E := Lib.hid (take_len_succ HE.out HX.out HY.out hxy)
        have hq : decide (x.length = y.length) = true := by simp [hxy]
        rw [hq]
        clear hxy hq
        go_wp2
        go_roundw
        case rel => exact ⟨k + 1, by go_num, by omega, HC3.out, E.out⟩
        case measure => simp [intOf]; omega
      · have E := Lib.hid (show false = true ↔ a.map List.length = b.map List.length from ⟨(fun h => by cases h), fun h1 => absurd (lens_at h1 HX.out HY.out) hxy⟩)
        have hq : decide (x.length = y.length) = false := by simp [hxy]
        rw [hq]
        clear hxy hq
        go_wp2
        go_ret
        exact ⟨⟨false, rfl, E.out⟩, HC3.out⟩
    · have E := Lib.hid (show a.map List.length = b.map List.length from by
        have h1 := HE.out
        rw [List.take_of_length_le (by rw [← HN.out]; omega), List.take_of_length_le (by rw [← HM.out]; omega)] at h1
        exact h1)
      go_wp2
      go_ret
      exact ⟨⟨true, rfl, fun _ => E.out, fun _ => rfl⟩, HC.out⟩

/-- What alike answers. -/
def AkOut (a b : Tr) (e : Ending) : Prop := ∃ r, e = .returned (.bool r) ∧ (r = true ↔ a.n = b.n ∧ a.s = b.s ∧ a.k.map List.length = b.k.map List.length)

set_option maxRecDepth 100000 in
set_option maxHeartbeats 1000000 in
theorem alike_any (d : Nat) (a b : Tr) (av bv : Value) (w : World) (hA : KidsAt w d a.k av) (hB : KidsAt w d b.k bv) :
    Calls Try.prog 75 #[tv a.n a.s av, tv b.n b.s bv] w fun e w' => AkOut a b e ∧ Chg [] w w' := by
  obtain ⟨ao, ac, rfl, hc1, hc2⟩ := hA.shape
  obtain ⟨bo, bc, rfl, hd1, hd2⟩ := hB.shape
  have HEQ := Lib.hid (fun (w' : World) (hk : Chg [] w w') => equalFunc_any d a.k b.k _ _ w' (hA.keep hk) (hB.keep hk))
  have hmf : ∀ (fn : Fn) (first cap : Array Value) (w : World), (Instr.makeFunc fn first cap).run Try.prog w = .ok (.func fn first cap) w := fun _ _ _ _ => rfl
  clear hA hB
  obtain ⟨K, hK⟩ : ∃ K, K = a.k := ⟨_, rfl⟩
  obtain ⟨K2, hK2⟩ : ∃ K, K = b.k := ⟨_, rfl⟩
  obtain ⟨na, han⟩ : ∃ n, n = a.n := ⟨_, rfl⟩
  obtain ⟨sa, has⟩ : ∃ s, s = a.s := ⟨_, rfl⟩
  obtain ⟨nb, hbn⟩ : ∃ n, n = b.n := ⟨_, rfl⟩
  obtain ⟨sb, hbs⟩ : ∃ s, s = b.s := ⟨_, rfl⟩
  have HO := Lib.hid (show ∀ e, (∃ r, e = .returned (.bool r) ∧ (r = true ↔ na = nb ∧ sa = sb ∧ K.map List.length = K2.map List.length)) → AkOut a b e from by
    rw [han, has, hbn, hbs, hK, hK2]
    exact fun e h => h)
  rw [← hK, ← hK2] at HEQ
  rw [← han, ← has, ← hbn, ← hbs, ← hK, ← hK2]
  obtain ⟨n, hn⟩ : ∃ n, n = K.length := ⟨_, rfl⟩
  obtain ⟨m, hm⟩ : ∃ m, m = K2.length := ⟨_, rfl⟩
  rw [← hn, ← hm] at HEQ ⊢
  have HC1 := Lib.hid (((Chg.refl [] w).alloc (.cells #[.int .i64 na, .string sa, .slice ao n ac] 30)).alloc (.cells #[.int .i64 nb, .string sb, .slice bo m bc] 30))
  have HBX := Lib.hid (show ((w.alloc (.cells #[.int .i64 na, .string sa, .slice ao n ac] 30)).alloc (.cells #[.int .i64 nb, .string sb, .slice bo m bc] 30)).cell? ⟨w.heap.size, 2, none⟩ = some (.slice ao n ac) ∧ ((w.alloc (.cells #[.int .i64 na, .string sa, .slice ao n ac] 30)).alloc (.cells #[.int .i64 nb, .string sb, .slice bo m bc] 30)).cell? ⟨w.heap.size + 1, 2, none⟩ = some (.slice bo m bc) from ⟨by rw [World.cell?_alloc_lt _ _ _ (by simp)]; simp, by simp⟩)
  clear hK hK2 han has hbn hbs hn hm
  by_cases h1 : na = nb
  case neg =>
    have d1 : (na == nb) = false := by simpa using h1
    have E := Lib.hid (HO.out (.returned (.bool false)) ⟨false, rfl, (fun h => by cases h), fun h => absurd h.1 h1⟩)
    clear h1
    go_enter Try.func75, Try.ntmps75
    go_wp2
    go_ret
    exact ⟨E.out, HC1.out⟩
  by_cases h2 : sa = sb
  case neg =>
    have d1 : (na == nb) = true := by simpa using h1
    have d2 : (sa.toList == sb.toList) = false := by
      cases h : (sa.toList == sb.toList)
      · rfl
      · exact absurd (bytes_ext h) h2
    have E := Lib.hid (HO.out (.returned (.bool false)) ⟨false, rfl, (fun h => by cases h), fun h => absurd h.2.1 h2⟩)
    clear h1 h2
    go_enter Try.func75, Try.ntmps75
    go_wp2
    go_ret
    exact ⟨E.out, HC1.out⟩
  have d1 : (na == nb) = true := by simpa using h1
  have d2 : (sa.toList == sb.toList) = true := by rw [h2]; simp
  have HO2 := Lib.hid (show ∀ r, (r = true ↔ K.map List.length = K2.map List.length) → AkOut a b (.returned (.bool r)) from fun r h => HO.out _ ⟨r, rfl, fun hr => ⟨h1, h2, h.1 hr⟩, fun hr => h.2 hr.2.2⟩)
  clear h1 h2
  go_enter Try.func75, Try.ntmps75
  go_wp2_with (first
    | (go_at_call 101; (with_reducible refine (HEQ.out _ (by first | exact HC1.out | exact HC1.out.drewN _ | exact HC1.out.drew)).mono ?_); rintro e w4 ⟨⟨r, rfl, hr⟩, hk4⟩; have HR := Lib.hid (HO2.out r hr); have HC4 := Lib.hid hk4; clear hr hk4)
    | fail)
  go_ret
  exact ⟨HR.out, HC1.out.trans HC4.out (by simp)⟩

end Go.Proofs.Ythhcnlmjcpkbnaa
