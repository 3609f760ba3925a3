/- The reference's Size. -/
import Derived.Test.YthhcnlmjcpkbnaaYb
namespace Go.Proofs.Ythhcnlmjcpkbnaa
open Go.RowKit
set_option linter.unusedVariables false

mutual
/-- How many values there are. -/
def szT : Tr → Nat
  | .mk _ _ k => 1 + szK k
def szK : List (List Tr) → Nat
  | [] => 0
  | x :: r => szL x + szK r
def szL : List Tr → Nat
  | [] => 0
  | t :: r => szT t + szL r
end

theorem szT_eq (t : Tr) : szT t = 1 + szK t.k := by cases t with | mk n s k => rw [szT]; rfl

theorem szK_drop {k : List (List Tr)} {i : Nat} {x : List Tr} (h : k[i]? = some x) : szK (k.drop i) = szL x + szK (k.drop (i + 1)) := by
  have hl := (List.getElem?_eq_some_iff.1 h).1
  rw [List.getElem?_eq_getElem hl] at h
  injection h with h
  rw [List.drop_eq_getElem_cons hl, szK, h]

theorem szL_drop {x : List Tr} {i : Nat} {t : Tr} (h : x[i]? = some t) : szL (x.drop i) = szT t + szL (x.drop (i + 1)) := by
  have hl := (List.getElem?_eq_some_iff.1 h).1
  rw [List.getElem?_eq_getElem hl] at h
  injection h with h
  rw [List.drop_eq_getElem_cons hl, szL, h]

set_option maxRecDepth 100000 in
set_option maxHeartbeats 1000000 in
theorem rsize_any : ∀ (d : Nat) (t : Tr) (kv : Value) (w : World), KidsAt w d t.k kv → szT t ≤ 1000000 →
    Calls Try.prog 42 #[tv t.n t.s kv] w fun e w' => e = .returned (.int .i64 (szT t : Int)) ∧ Chg [] w w' := by
  intro d
  induction d with
  | zero => intro t kv w h; exact h.elim
  | succ d ih =>
    intro t kv w hT hz
    obtain ⟨ko, kcap, rfl, hl1, hl2⟩ := hT.shape
    have HT := Lib.hid hT; have IH := Lib.hid ih
    obtain ⟨K, hK⟩ : ∃ K, K = t.k := ⟨_, rfl⟩
    have HZ := Lib.hid (show szT t = 1 + szK K by rw [hK]; exact szT_eq t)
    rw [← hK] at hl1 HT ⊢
    obtain ⟨Z, hZ⟩ : ∃ Z, Z = szT t := ⟨_, rfl⟩
    rw [← hZ] at hz HZ ⊢
    obtain ⟨tn, htn⟩ : ∃ n, n = t.n := ⟨_, rfl⟩
    obtain ⟨ts, hts⟩ : ∃ s, s = t.s := ⟨_, rfl⟩
    rw [← htn, ← hts]
    obtain ⟨m, hm⟩ : ∃ m, m = K.length := ⟨_, rfl⟩
    rw [← hm] at hl1 HT ⊢
    have HM := Lib.hid hm
    have hmx : m ≤ 9223372036854775807 := by unfold maxLen at hl2; omega
    have HB := Lib.hid (show (w.alloc (.cells #[.int .i64 tn, .string ts, .slice ko m kcap] 30)).cell? ⟨w.heap.size, 2, none⟩ = some (.slice ko m kcap) by simp)
    have HC1 := Lib.hid ((Chg.refl [] w).alloc (.cells #[.int .i64 tn, .string ts, .slice ko m kcap] 30))
    clear hT ih hK hZ htn hts hm
    go_enter Try.func42, Try.ntmps42
    go_wp2
    obtain ⟨w1, hw1⟩ : ∃ w1, w1 = w.alloc (.cells #[.int .i64 tn, .string ts, .slice ko m kcap] 30) := ⟨_, rfl⟩
    rw [← hw1] at HB HC1 ⊢
    clear hw1
    go_loopw [3, 4] (fun s x wx => ∃ (nv i : Nat), s = .int .i64 (nv : Int) ∧ x = .int .i64 (i : Int) ∧ i ≤ m ∧ Z = nv + szK (K.drop i) ∧ Chg [] w1 wx) (fun _ x _ => m - (intOf x).toNat)
    case atStart => exact ⟨1, 0, rfl, rfl, Nat.zero_le _, HZ.out, Chg.refl _ _⟩
    case round =>
      obtain ⟨nv, i, rfl, rfl, him, he, hC⟩ := hrel
      have HE := Lib.hid he; have HC := Lib.hid hC
      have ht2 := hC.cell HB.out (by simp)
      clear he hC
      by_cases hlt : i < m
      · obtain ⟨x, hx⟩ : ∃ x, K[i]? = some x := ⟨_, List.getElem?_eq_getElem (by rw [← HM.out]; exact hlt)⟩
        obtain ⟨d', gk, koff, hd, rfl, hck⟩ := KidsAt.get (HT.out.keep (HC1.out.trans HC.out (by simp))) (by omega)
        obtain ⟨lv, hlc, hll⟩ := hck i x hx
        have e : d = d' := by omega
        subst e
        obtain ⟨lo, lcap, rfl, hq1, hq2⟩ := hll.shape
        obtain ⟨q, hq⟩ : ∃ q, q = x.length := ⟨_, rfl⟩
        rw [← hq] at hlc hll hq1
        have HQ := Lib.hid hq; have HLL := Lib.hid hll
        have HLC := Lib.hid (And.intro ht2 hlc)
        have HD := Lib.hid (szK_drop hx)
        have hqx : q ≤ 9223372036854775807 := by unfold maxLen at hq2; omega
        clear hck hll hx hd hq
        go_wp2
        go_loopw [3, 5] (fun s x' wx => ∃ (nv j : Nat), s = .int .i64 (nv : Int) ∧ x' = .int .i64 (j : Int) ∧ j ≤ q ∧ Z = nv + (szL (x.drop j) + szK (K.drop (i + 1))) ∧ Chg [] wr wx) (fun _ x _ => q - (intOf x).toNat)
        case atStart => exact ⟨nv, 0, rfl, rfl, Nat.zero_le _, by rw [HE.out, HD.out]; rfl, Chg.refl _ _⟩
        case round =>
          obtain ⟨nv2, j, rfl, rfl, hjq, he2, hC2⟩ := hrel
          have HE2 := Lib.hid he2; have HC2 := Lib.hid hC2
          have ht2 := hC2.cell HLC.out.1 (by simp)
          have hlc := hC2.cell HLC.out.2 (by simp)
          have hnz : nv2 ≤ Z := by omega
          clear he2 hC2
          by_cases hlt2 : j < q
          · obtain ⟨t4, ht4⟩ : ∃ t, x[j]? = some t := ⟨_, List.getElem?_eq_getElem (by rw [← HQ.out]; exact hlt2)⟩
            obtain ⟨gl, loff, rfl, hcl⟩ := ListAt.get (HLL.out.keep HC2.out) (by omega)
            obtain ⟨kv4, b1, b2, b3, hkv⟩ := hcl j t4 ht4
            obtain ⟨ko4, kc4, rfl, -, -⟩ := hkv.shape
            have HD2 := Lib.hid (szL_drop ht4)
            have hz4 : szT t4 ≤ Z := by rw [HE2.out, HD2.out]; omega
            have HIV := Lib.hid (IH.out t4 _ _ hkv (by omega))
            obtain ⟨z4, hzz⟩ : ∃ z, z = szT t4 := ⟨_, rfl⟩
            rw [← hzz] at HIV HD2 hz4
            obtain ⟨tn4, htn⟩ : ∃ n, n = t4.n := ⟨_, rfl⟩
            obtain ⟨ts4, hts⟩ : ∃ s, s = t4.s := ⟨_, rfl⟩
            rw [← htn, ← hts] at HIV
            rw [← htn] at b1
            rw [← hts] at b2
            have hsum : nv2 + z4 ≤ Z := by rw [HE2.out, HD2.out]; omega
            have hwz : IntKind.i64.wrap ((nv2 : Int) + (z4 : Int)) = (nv2 : Int) + (z4 : Int) := IntWalk.i64_in _ (by omega)
            clear hcl hkv ht4 hzz htn hts
            go_wp2_with (first
              | (go_at_call 42; (with_reducible refine HIV.out.mono ?_); rintro e w4 ⟨rfl, hk4⟩; have HC4 := Lib.hid (HC2.out.trans hk4 (by simp)); clear hk4)
              | fail)
            go_roundw
            case rel => exact ⟨nv2 + z4, j + 1, by go_num, by go_num, by omega, by rw [HE2.out, HD2.out]; omega, HC4.out⟩
            case measure => simp [intOf]; omega
          · have hje : j = q := by omega
            have E := Lib.hid (show Z = nv2 + szK (K.drop (i + 1)) by
              rw [HE2.out, hje, HQ.out, List.drop_of_length_le (Nat.le_refl _), szL]; omega)
            clear hje
            go_wp2
            go_roundw
            case rel => exact ⟨nv2, i + 1, rfl, by go_num, by omega, E.out, HC.out.trans HC2.out (by simp)⟩
            case measure => simp [intOf]; omega
      · have hie : i = m := by omega
        have E := Lib.hid (show (Z : Int) = (nv : Int) by
          have h := HE.out
          rw [hie, HM.out, List.drop_of_length_le (Nat.le_refl _), szK] at h
          omega)
        clear hie
        go_wp2
        go_ret
        exact ⟨ret_int E.out.symm, HC1.out.trans HC.out (by simp)⟩

end Go.Proofs.Ythhcnlmjcpkbnaa
