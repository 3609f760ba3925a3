/- The walk of the statement CrcNone. -/
import Derived.Test.YthmdebnmjlminaaDoorDr
namespace Go.Proofs.YthmdebnmjlminaaDoor
open Go.RowKit
set_option linter.unusedVariables false

set_option maxRecDepth 100000 in
set_option maxHeartbeats 2000000 in
theorem walk_CrcNone (a0 : Option Addr) (len0 cap0 : Nat) (z0 : List Int) (a1 : Int) (w : World) (hT : Laid w) (w0 : IsRow .u8 w a0 len0 cap0 z0) (w1 : (Lit.int .i64 a1).wf = true) :
    Calls Tryd.prog 9 #[.slice a0 len0 cap0, .int .i64 a1] w fun e w' => e = .returned (.bool true) ∧ Below w.heap.size w w' := by
  obtain ⟨S, hS, rfl, hSl⟩ := w0.u8s
  have hlen := w0.len.2
  have hcap := hS.room.1
  have HS := Lib.hid hS; have HSL := Lib.hid hSl; have HT := Lib.hid hT; have W1 := Lib.hid w1
  clear w0 w1 hS hSl hT
  unfold maxLen at hlen
  go_enter Tryd.func9, Tryd.ntmps9
  go_wp2_with fail
  (with_reducible refine (known_any _ HT.out).mono ?_)
  rintro x w1 ⟨rfl, hk⟩
  have HC := Lib.hid hk; clear hk
  by_cases hgt : 200 < S.length
  · have hg2 : decide ((200 : Int) < (S.length : Int)) = true := by simp; omega
    go_wp2
    go_ret
    exact ⟨rfl, HC.out.below (Nat.le_refl _) (by simp)⟩
  have hg2 : decide ((200 : Int) < (S.length : Int)) = false := by simp; omega
  go_wp2_with fail
  (with_reducible refine (within_int a1 _ (S.length + 1) _ (by omega) (by omega) (by omega) W1.out).mono ?_)
  rintro x w2 ⟨rfl, rfl⟩
  have hkl := within_lt a1 (S.length + 1) (by omega)
  obtain ⟨k, hk⟩ : ∃ k, k = (a1 % ((S.length + 1 : Nat) : Int)).toNat := ⟨_, rfl⟩
  rw [← hk] at hkl ⊢
  clear hk
  obtain ⟨af, cf, hsf, hrf⟩ := run_front HS.out hcap k (by omega)
  obtain ⟨ab, cb, hsb, hrb⟩ := run_back HS.out rfl hcap k (by omega)
  have HF := Lib.hid hsf; have HBk := Lib.hid hsb; clear hsf hsb
  obtain ⟨c, hc⟩ : ∃ c, c = crc S := ⟨_, rfl⟩
  have H1 := Lib.hid hc; clear hc
  have HSR := Lib.hid (Row.mk HS.out HSL.out); have H0 := Lib.hid crc_nil
  have hee : ((c : Int) == (c : Int)) = true := by simp
  go_wp2_with fail
  go_region_law (first
    | (go_simp; go_at_call 11; (with_reducible apply sum_five_k S k HSL.out); (case hb => (with_reducible repeat (first | exact hl_new (by simp) | apply hl_drew | apply hl_old | apply hl_chg HK3.out | apply hl_chg HK4.out | apply hl_chg HK5.out))); (case hf => exact HF.out.keep (by (with_reducible repeat (first | exact HC4.out | exact HC3.out | exact HC.out | apply Chg.drew | apply Chg.alloc)))); (case hbk => exact HBk.out.keep (by (with_reducible repeat (first | exact HC4.out | exact HC3.out | exact HC.out | apply Chg.drew | apply Chg.alloc)))); (case hT => exact HT.out.keep (by (with_reducible repeat (first | exact HC4.out | exact HC3.out | exact HC.out | apply Chg.drew | apply Chg.alloc)))); (refine fun w3 hk => ?_); rw [← H1.out]; have HK3 := Lib.hid hk; have HC3 := Lib.hid (Chg.trans (a := w) (S := []) (T := []) (by (with_reducible repeat (first | exact HC4.out | exact HC3.out | exact HC.out | apply Chg.drew | apply Chg.alloc))) hk (by simp)); clear hk)
    | (go_simp; go_at_call 11; (with_reducible apply sum_row_k); (case hb => (with_reducible repeat (first | exact hl_new (by simp) | apply hl_drew | apply hl_old | apply hl_chg HK3.out | apply hl_chg HK4.out | apply hl_chg HK5.out))); (case hS => with_reducible first | exact HSR.out.keep (by (with_reducible repeat (first | exact HC4.out | exact HC3.out | exact HC.out | apply Chg.drew | apply Chg.alloc))) | exact Row.nil _); (case hT => exact HT.out.keep (by (with_reducible repeat (first | exact HC4.out | exact HC3.out | exact HC.out | apply Chg.drew | apply Chg.alloc)))); (refine fun w4 hk => ?_); (try rw [← H1.out]); (try rw [H0.out]); have HK4 := Lib.hid hk; have HC4 := Lib.hid (Chg.trans (a := w) (S := []) (T := []) (by (with_reducible repeat (first | exact HC4.out | exact HC3.out | exact HC.out | apply Chg.drew | apply Chg.alloc))) hk (by simp)); clear hk))
  all_goals (go_wp2; go_ret; exact ⟨rfl, HC4.out.below (Nat.le_refl _) (by simp)⟩)

end Go.Proofs.YthmdebnmjlminaaDoor
