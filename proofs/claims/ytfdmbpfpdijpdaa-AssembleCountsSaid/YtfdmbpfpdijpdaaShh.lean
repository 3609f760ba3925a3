/- shred.fault. -/
import Derived.Test.YtfdmbpfpdijpdaaShp
namespace Go.Proofs.Ytfdmbpfpdijpdaa
open Go.RowKit
set_option linter.unusedVariables false
set_option linter.unusedSimpArgs false

/-- What is wrong with the first tree that is no record. -/
def faultT (l : List F) (L : List Tr) : Int := orE (chk l) (fitL l 0 L)

theorem fitsT_ok {l : List F} (h : chk l = 0) (t : Tr) : fitsT l t = fitV l 0 t := by unfold fitsT; rw [h]; rfl

set_option maxRecDepth 100000 in
set_option maxHeartbeats 1000000 in
theorem sfault_any (sv lv : Value) (l : List F) (L : List Tr) (d : Nat) (w : World) (hS : SeenF w sv l) (hL : ListAt w d L lv) (hw : ∀ f ∈ l, f.c ≤ 9223372036854775807) (hn : ∀ f ∈ l, f.n.size ≤ 1000) :
    Calls Try.prog 58 #[sv, lv] w fun e w' => e = .returned (.int .i64 (faultT l L)) ∧ Chg [] w w' := by
  obtain ⟨lo, lc, rfl, hl1, hl2⟩ := hL.shape
  have HS := Lib.hid hS; have HX := Lib.hid hL
  have HCK := Lib.hid (check_any sv l w hS hw (fun f hf => Nat.le_trans (hn f hf) (by omega)))
  have HFT := Lib.hid (fun (t : Tr) kv wx (hc : Chg [] w wx) (hT : KidsAt wx d t.k kv) => fits_any sv kv l t d wx (hS.keep hc) hT hw hn)
  have HF0 := Lib.hid (fun h => fitsT_ok (l := l) h)
  have HE := Lib.hid (show faultT l L = orE (chk l) (fitL l 0 L) from rfl)
  obtain ⟨c, hc⟩ : ∃ c, c = chk l := ⟨_, rfl⟩
  rw [← hc] at HCK HE HF0
  obtain ⟨m, hm⟩ : ∃ m, m = L.length := ⟨_, rfl⟩
  have HM := Lib.hid hm
  rw [← hm] at hl1 HX ⊢
  have hmx : m ≤ 9223372036854775807 := by unfold maxLen at hl2; omega
  clear hS hL hw hn hc hm
  go_enter Try.func58, Try.ntmps58
  go_wp2_with fail
  (with_reducible refine HCK.out.mono ?_)
  rintro e w2 ⟨rfl, hk⟩
  have HC2 := Lib.hid hk
  clear hk
  by_cases hv0 : c = 0
  · subst hv0
    have HE2 := Lib.hid (show faultT l L = fitL l 0 L by rw [HE.out]; rfl)
    have HF1 := Lib.hid (HF0.out rfl)
    clear HE HF0
    go_wp2
    go_loopw [16] (fun s wx => ∃ j : Nat, s = .int .i64 (j : Int) ∧ j ≤ m ∧ Chg [] w2 wx ∧ faultT l L = fitL l 0 (L.drop j)) (fun s _ => m - (intOf s).toNat)
    case atStart => exact ⟨0, rfl, Nat.zero_le _, Chg.refl _ _, HE2.out⟩
    case round =>
      obtain ⟨j, rfl, hj, hC, hE⟩ := hrel
      have HC := Lib.hid hC; have HE := Lib.hid hE
      clear hC hE
      by_cases hlt : j < m
      · obtain ⟨t, ht⟩ : ∃ t, L[j]? = some t := ⟨_, List.getElem?_eq_getElem (by rw [← HM.out]; exact hlt)⟩
        have HCW := Lib.hid (HC2.out.trans HC.out (by simp))
        obtain ⟨gl, loff, rfl, hcl⟩ := ListAt.get (HX.out.keep HCW.out) (by omega)
        obtain ⟨kv, b1, b2, b3, hkv⟩ := hcl j t ht
        have HD := Lib.hid (fitL_drop (l := l) (f := 0) ht)
        have HKV := Lib.hid hkv
        have HVT := Lib.hid (fun wx hk => HFT.out t kv wx (HCW.out.trans hk (by simp)) (HKV.out.keep hk))
        simp only [HF1.out] at HVT
        obtain ⟨tn, htn⟩ : ∃ n, n = t.n := ⟨_, rfl⟩
        obtain ⟨ts, hts⟩ : ∃ s, s = t.s := ⟨_, rfl⟩
        obtain ⟨ko, kcap, rfl, -, -⟩ := hkv.shape
        unfold tv at HVT
        rw [← htn, ← hts] at HVT
        rw [← htn] at b1
        rw [← hts] at b2
        clear hcl hkv htn hts ht
        go_wp2_with fail
        (with_reducible refine (HVT.out _ ((Chg.refl [] _).alloc _)).mono ?_)
        rintro e w3 ⟨rfl, hk3⟩
        have HC3 := Lib.hid (HC.out.trans (((Chg.refl [] _).alloc _).trans hk3 (by simp)) (by simp))
        obtain ⟨u, hu⟩ : ∃ u, u = fitV l 0 t := ⟨_, rfl⟩
        rw [← hu] at HD ⊢
        clear hk3 hu
        by_cases hu0 : u = 0
        · subst hu0
          go_wp2
          go_roundw
          case rel => exact ⟨j + 1, by go_num, by omega, HC3.out, by rw [HE.out, HD.out]; rfl⟩
          case measure => simp [intOf]; omega
        · have e1 : (u != 0) = true := by simpa using hu0
          have E := Lib.hid (show faultT l L = u by rw [HE.out, HD.out]; unfold orE; rw [if_pos hu0])
          go_wp2
          go_ret
          exact ⟨ret_int E.out.symm, HC2.out.trans HC3.out (by simp)⟩
      · have ej : j = m := by omega
        have E := Lib.hid (show faultT l L = 0 by rw [HE.out, ej, HM.out]; exact fitL_end _ _ _)
        clear ej
        go_wp2
        go_ret
        exact ⟨ret_int E.out.symm, HC2.out.trans HC.out (by simp)⟩
  · have e1 : (c != 0) = true := by simpa using hv0
    have E := Lib.hid (show faultT l L = c by rw [HE.out]; unfold orE; rw [if_pos hv0])
    go_wp2
    go_ret
    exact ⟨ret_int E.out.symm, HC2.out⟩

end Go.Proofs.Ytfdmbpfpdijpdaa
