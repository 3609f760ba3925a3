/- The statements' Trees. -/
import Derived.Test.YthhcnlmjcpkbnaaHx
import Derived.Test.YthhcnlmjcpkbnaaYD
import Derived.Deep.RegionHeld3
namespace Go.Proofs.Ythhcnlmjcpkbnaa
open Go.RowKit
set_option linter.unusedVariables false
set_option linter.unusedSimpArgs false

def SmL (a b : List Tr) (e : Ending) : Prop := ∃ r, e = .returned (.bool r) ∧ (r = true ↔ a = b)

set_option maxRecDepth 100000 in
set_option maxHeartbeats 4000000 in
theorem rtrees_any (d : Nat) (A B : List Tr) (av bv : Value) (w : World) (hA : ListAt w d A av) (hB : ListAt w d B bv) :
    Calls Try.prog 48 #[av, bv] w fun e w' => SmL A B e ∧ Chg [] w w' := by
  obtain ⟨ao, ac, rfl, ha1, ha2⟩ := hA.shape
  obtain ⟨bo, bc, rfl, hb1, hb2⟩ := hB.shape
  obtain ⟨n, hn⟩ : ∃ n, n = A.length := ⟨_, rfl⟩
  obtain ⟨m, hm⟩ : ∃ m, m = B.length := ⟨_, rfl⟩
  rw [← hn] at hA ha1 ⊢
  rw [← hm] at hB hb1 ⊢
  have HA := Lib.hid hA; have HB := Lib.hid hB; have HN := Lib.hid hn; have HM := Lib.hid hm
  unfold maxLen at ha2 hb2
  clear hA hB hn hm
  by_cases hnm : n = m
  · subst hnm
    have d0 : ((n : Int) != (n : Int)) = false := by simp
    go_enter Try.func48, Try.ntmps48
    go_wp2
    go_loopw [5] (fun x w' => ∃ i : Nat, x = .int .i64 (i : Int) ∧ i ≤ n ∧ Hid (A.take i = B.take i) ∧ Chg [] w w') (fun x _ => n - (intOf x).toNat)
    case atStart => exact ⟨0, rfl, Nat.zero_le _, Lib.hid rfl, Chg.refl _ _⟩
    case round =>
      obtain ⟨i, rfl, hi, HTK, hc⟩ := hrel
      have HC := Lib.hid hc
      clear hc
      by_cases hlt : i < n
      · have hd : decide ((i : Int) < (n : Int)) = true := by simp; omega
        obtain ⟨a, ha⟩ : ∃ a, A[i]? = some a := ⟨_, List.getElem?_eq_getElem (by rw [← HN.out]; exact hlt)⟩
        obtain ⟨b, hb⟩ : ∃ b, B[i]? = some b := ⟨_, List.getElem?_eq_getElem (by rw [← HM.out]; exact hlt)⟩
        obtain ⟨ga, oa, rfl, hca⟩ := HA.out.get (by omega)
        obtain ⟨gb, ob, rfl, hcb⟩ := HB.out.get (by omega)
        obtain ⟨ka, a0, a1, a2, hka⟩ := hca i a ha
        obtain ⟨kb, b0, b1, b2, hkb⟩ := hcb i b hb
        have HPR := Lib.hid (show wr.cell? ⟨ga, oa + i * 3, none⟩ = some (.int .i64 a.n) ∧ wr.cell? ⟨ga, oa + i * 3 + 1, none⟩ = some (.string a.s) ∧ wr.cell? ⟨ga, oa + i * 3 + 2, none⟩ = some ka ∧ wr.cell? ⟨gb, ob + i * 3, none⟩ = some (.int .i64 b.n) ∧ wr.cell? ⟨gb, ob + i * 3 + 1, none⟩ = some (.string b.s) ∧ wr.cell? ⟨gb, ob + i * 3 + 2, none⟩ = some kb from
          ⟨HC.out.cell a0 (by simp), HC.out.cell a1 (by simp), HC.out.cell a2 (by simp), HC.out.cell b0 (by simp), HC.out.cell b1 (by simp), HC.out.cell b2 (by simp)⟩)
        have HSM := Lib.hid (fun (wx : World) (hk : Chg [] wr wx) => rsame8_any d a b ka kb wx ((hka.keep HC.out).keep hk) ((hkb.keep HC.out).keep hk))
        have HC0 := Lib.hid (Chg.refl [] wr)
        have HE := Lib.hid (show ∀ r : Bool, (r = true ↔ a = b) → (r = true → A.take (i + 1) = B.take (i + 1)) ∧ (r = false → A ≠ B) from fun r hr => ⟨fun h => take_eq_succ HTK.out (by rw [ha, hr.1 h]) (by rw [hb]), fun h e => by
          subst e
          rw [ha] at hb
          injection hb with hb
          rw [h] at hr
          exact absurd (hr.2 hb) (by decide)⟩)
        obtain ⟨ka1, ka2, rfl, -, -⟩ := hka.shape
        obtain ⟨kb1, kb2, rfl, -, -⟩ := hkb.shape
        clear hca hcb a0 a1 a2 b0 b1 b2 hka hkb ha hb
        go_upto_region 6 with fail
        go_region_held3 (fun w' => w'.cell? ⟨ga, oa + i * 3, none⟩ = some (.int .i64 a.n) ∧ w'.cell? ⟨ga, oa + i * 3 + 1, none⟩ = some (.string a.s) ∧ w'.cell? ⟨ga, oa + i * 3 + 2, none⟩ = some (.slice ka1 a.k.length ka2) ∧ w'.cell? ⟨gb, ob + i * 3, none⟩ = some (.int .i64 b.n) ∧ w'.cell? ⟨gb, ob + i * 3 + 1, none⟩ = some (.string b.s) ∧ w'.cell? ⟨gb, ob + i * 3 + 2, none⟩ = some (.slice kb1 b.k.length kb2)) (first | exact HPR.out | exact HPR3.out) (first
          | (go_at_call 25; (with_reducible refine (HSM.out _ (by first | exact HC0.out | exact HC0.out.drew | exact HC0.out.drewN _)).mono ?_); rintro e wz ⟨⟨r, rfl, hr⟩, hkz⟩; have HKZ := Lib.hid (show Chg [] wr wz from by first | exact hkz | exact (Chg.refl [] wr).drew.trans hkz (by simp) | exact ((Chg.refl [] wr).drewN _).trans hkz (by simp)); have HR := Lib.hid (HE.out r hr); have HPR3 := Lib.hid (show wz.cell? ⟨ga, oa + i * 3, none⟩ = some (.int .i64 a.n) ∧ wz.cell? ⟨ga, oa + i * 3 + 1, none⟩ = some (.string a.s) ∧ wz.cell? ⟨ga, oa + i * 3 + 2, none⟩ = some (.slice ka1 a.k.length ka2) ∧ wz.cell? ⟨gb, ob + i * 3, none⟩ = some (.int .i64 b.n) ∧ wz.cell? ⟨gb, ob + i * 3 + 1, none⟩ = some (.string b.s) ∧ wz.cell? ⟨gb, ob + i * 3 + 2, none⟩ = some (.slice kb1 b.k.length kb2) from ⟨HKZ.out.cell HPR.out.1 (by simp), HKZ.out.cell HPR.out.2.1 (by simp), HKZ.out.cell HPR.out.2.2.1 (by simp), HKZ.out.cell HPR.out.2.2.2.1 (by simp), HKZ.out.cell HPR.out.2.2.2.2.1 (by simp), HKZ.out.cell HPR.out.2.2.2.2.2 (by simp)⟩); clear hkz hr))
        cases r
        · have E := Lib.hid (HR.out.2 rfl)
          go_wp2
          go_ret
          exact ⟨⟨false, rfl, ⟨fun h => (by cases h), fun h => absurd h E.out⟩⟩, HC.out.trans HKZ.out (by simp)⟩
        · have E := Lib.hid (HR.out.1 rfl)
          go_wp2
          go_roundw
          case rel => exact ⟨i + 1, by go_num, hlt, E, HC.out.trans HKZ.out (by simp)⟩
          case measure => simp [intOf]; omega
      · have hd : decide ((i : Int) < (n : Int)) = false := by simp; omega
        have E := Lib.hid (show A = B by
          have h := HTK.out
          rw [List.take_of_length_le (by rw [← HN.out]; omega), List.take_of_length_le (by rw [← HM.out]; omega)] at h
          exact h)
        go_wp2
        go_ret
        exact ⟨⟨true, rfl, ⟨fun _ => E.out, fun _ => rfl⟩⟩, HC.out⟩
  · have hne : ¬ ((n : Int) = (m : Int)) := by omega
    have d0 : ((n : Int) != (m : Int)) = true := by simp; omega
    have E := Lib.hid (show A ≠ B from fun e => hnm (by rw [HN.out, HM.out, e]))
    go_enter Try.func48, Try.ntmps48
    go_wp2
    go_ret
    exact ⟨⟨false, rfl, ⟨fun h => (by cases h), fun h => absurd h E.out⟩⟩, Chg.refl _ _⟩

end Go.Proofs.Ythhcnlmjcpkbnaa
