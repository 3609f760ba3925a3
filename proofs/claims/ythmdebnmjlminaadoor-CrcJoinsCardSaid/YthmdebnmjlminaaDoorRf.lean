/- Contracts: the reference's Sum, known, Sum of one part. -/
import Derived.Test.YthmdebnmjlminaaDoorSm
import Derived.Test.YthmdebnmjlminaaDoorWithin
import Derived.Lib.SlBytesConst
namespace Go.Proofs.YthmdebnmjlminaaDoor
open Go.RowKit
set_option linter.unusedVariables false

theorem and1_32 (n : Nat) (h : n < 4294967296) : bits BinOp.and IntKind.u32 (n : Int) 1 = ((n % 2 : Nat) : Int) := by
  have := u32_and_nat n 1 h (by decide)
  rw [Nat.and_one_is_mod] at this
  exact this

set_option maxRecDepth 100000 in
set_option maxHeartbeats 1000000 in
theorem ref_any (bv : Value) (l : List Nat) (w : World) (hS : Seen w bv (nv .u8 l)) (hb : ∀ x ∈ l, x < 2 ^ 8) :
    Calls Tryd.prog 12 #[bv] w fun e w' => e = .returned (.int .u32 ((crc l : Nat) : Int)) ∧ w = w' := by
  obtain ⟨ao, cap, rfl, hc1, hc2⟩ := hS.shape
  rw [nv_length] at hc1 hS
  rw [nv_length]
  have HS := Lib.hid hS; have HB := Lib.hid hb; clear hS hb
  unfold maxLen at hc2
  have hsg : IntKind.u32.signed = false := rfl
  go_enter Tryd.func12, Tryd.ntmps12
  go_wp2
  go_loop [3, 4] (fun c i => ∃ s j : Nat, j ≤ l.length ∧ s < 4294967296 ∧ i = .int .i64 (j : Int) ∧ c = .int .u32 (s : Int) ∧ Hid (reg s (l.drop j) = reg ones l)) (fun _ i => l.length - (intOf i).toNat)
  case atStart => exact ⟨ones, 0, Nat.zero_le _, by decide, rfl, rfl, Lib.hid rfl⟩
  case round =>
    obtain ⟨s, j, hj, hs, rfl, rfl, HR⟩ := hrel
    by_cases hlt : j < l.length
    · obtain ⟨x, rfl, hx0⟩ := HS.out.at rfl (by omega)
      have hx := hx0 j hlt
      clear hx0
      obtain ⟨v, hv⟩ : ∃ v, v = l.getD j 0 := ⟨_, rfl⟩
      rw [← hv] at hx
      have hv8 : v < 256 := by rw [hv]; exact HB.out _ (getD_mem hlt)
      have HD := Lib.hid (show l.drop j = v :: l.drop (j + 1) by rw [hv, List.drop_eq_getElem_cons hlt]; simp [List.getD, hlt])
      clear hv
      have hxx := u32_xor_nat s v hs (by omega)
      have hxl : s ^^^ v < 4294967296 := xor_lt 32 hs (by omega)
      have hlt2 : decide (j < l.length) = true := by simpa using hlt
      go_wp2
      go_loop [3, 5] (fun c k => ∃ m n : Nat, n ≤ 8 ∧ m < 4294967296 ∧ k = .int .i64 (n : Int) ∧ c = .int .u32 (m : Int) ∧ Hid (sts (8 - n) m = sts 8 (s ^^^ v))) (fun _ k => 8 - (intOf k).toNat)
      case atStart => exact ⟨s ^^^ v, 0, by omega, hxl, rfl, rfl, Lib.hid rfl⟩
      case round =>
        obtain ⟨m, n, hn, hm, rfl, rfl, HM⟩ := hrel
        clear hxx hlt2 hx
        by_cases hn8 : n < 8
        · have hlt3 : decide (n < 8) = true := by simpa using hn8
          have HN := Lib.hid (show sts (8 - (n + 1)) (st m) = sts 8 (s ^^^ v) by
            have h := HM.out
            rwa [show 8 - n = (8 - (n + 1)) + 1 by omega, sts] at h)
          have ha := and1_32 m hm
          have hst := st_lt hm
          by_cases hb : m % 2 = 1
          · rw [hb] at ha
            have hx2 := u32_xor_nat (m / 2) 3988292384 (by omega) (by decide)
            have he : st m = m / 2 ^^^ 3988292384 := by unfold st poly; rw [if_pos hb]
            go_wp2
            go_round
            case rel => exact ⟨st m, n + 1, by omega, hst, by go_num, by rw [he]; exact congrArg _ hx2, HN⟩
            case measure => simp [intOf]; omega
          · rw [show m % 2 = 0 by omega] at ha
            have he : st m = m / 2 := by unfold st; rw [if_neg hb, Nat.xor_zero]
            go_wp2
            go_round
            case rel => exact ⟨st m, n + 1, by omega, hst, by go_num, by rw [he]; rfl, HN⟩
            case measure => simp [intOf]; omega
        · have hlt3 : decide (n < 8) = false := by simpa using hn8
          have HN := Lib.hid (show m = sts 8 (s ^^^ v) by
            have h := HM.out
            rwa [show 8 - n = 0 by omega, sts] at h)
          go_wp2
          go_round
          case rel => exact ⟨m, j + 1, hlt, hm, by go_num, rfl, Lib.hid (by
            have h := HR.out
            rwa [HD.out, reg, ← HN.out] at h)⟩
          case measure => simp [intOf]; omega
    · have hlt2 : decide (j < l.length) = false := by simpa using hlt
      have E := Lib.hid (show crc l = ones ^^^ s by
        have h := HR.out
        rw [show j = l.length by omega, List.drop_length] at h
        exact (reg_done _ _ h).symm)
      have hx := u32_xor_nat 4294967295 s (by decide) hs
      go_wp2
      go_ret
      exact ⟨ret_int (by rw [E.out]; exact hx), rfl⟩

theorem parts_one {w : World} {bv : Value} {l : List Nat} (T : TypeId) (h : Seen w bv (nv .u8 l)) (hb : ∀ x ∈ l, x < 2 ^ 8) : Parts (w.alloc (.cells #[bv] T)) (.slice (some ⟨w.heap.size, 0, none⟩) 1 1) [bv] [l] := by
  refine ⟨.inr ⟨⟨w.heap.size, 0, none⟩, 1, rfl, by simp, by decide, fun j u hu => ?_⟩, rfl, fun i hi => ?_, fun y hy => ?_⟩
  · have hj : j < 1 := (List.getElem?_eq_some_iff.1 hu).1
    exact cell_one_new w bv T j u hu
  · obtain rfl : i = 0 := by simpa using hi
    exact h.keep ((Chg.refl [] w).alloc _)
  · simp at hy
    subst hy
    exact hb

/-- Sum of one part. -/
theorem sum_one (bv : Value) (l : List Nat) (w : World) (T : TypeId) (hS : Seen w bv (nv .u8 l)) (hb : ∀ x ∈ l, x < 2 ^ 8) (hT : Laid w) :
    Calls Tryd.prog 11 #[.slice (some ⟨w.heap.size, 0, none⟩) 1 1] (w.alloc (.cells #[bv] T)) fun e w' => e = .returned (.int .u32 ((crc l : Nat) : Int)) ∧ Chg [] w w' := by
  refine (sum_any _ [bv] [l] _ (parts_one T hS hb) (hT.keep ((Chg.refl [] w).alloc _))).mono ?_
  rintro e w' ⟨rfl, hc⟩
  exact ⟨by simp, ((Chg.refl [] w).alloc _).trans hc (by simp)⟩

/-- The same, the part's own block by any name. -/
theorem sum_at (g : Nat) (bv : Value) (l : List Nat) (w : World) (T : TypeId) (hg : g = w.heap.size) (hS : Seen w bv (nv .u8 l)) (hb : ∀ x ∈ l, x < 2 ^ 8) (hT : Laid w) :
    Calls Tryd.prog 11 #[.slice (some ⟨g, 0, none⟩) 1 1] (w.alloc (.cells #[bv] T)) fun e w' => e = .returned (.int .u32 ((crc l : Nat) : Int)) ∧ Chg [] w w' := by
  subst hg; exact sum_one bv l w T hS hb hT

def nine : List Nat := [49, 50, 51, 52, 53, 54, 55, 56, 57]
theorem crc_nine : crc nine = 3421780262 := by
  have h : sts (8 * nine.length) (ones ^^^ num nine) = 873187033 := by decide +kernel
  unfold crc
  rw [reg_eq, h]
  decide
theorem nine_bytes : ∀ x ∈ nine, x < 2 ^ 8 := by decide

theorem nine_seen (w : World) (T : TypeId) (fr : Nat × Nat) : Seen (w.alloc (.cells #[.int .u8 49, .int .u8 50, .int .u8 51, .int .u8 52, .int .u8 53, .int .u8 54, .int .u8 55, .int .u8 56, .int .u8 57] T fr)) (.slice (some ⟨w.heap.size, 0, none⟩) 9 9) (nv .u8 nine) :=
  .inr ⟨⟨w.heap.size, 0, none⟩, 9, rfl, Nat.le_refl _, by decide, fun j u hu => by
    rw [addr_add, World.cell?_alloc_mark, Nat.zero_add, ← hu]
    simp [nv, nine]⟩

set_option maxRecDepth 100000 in
theorem known_any (w : World) (hT : Laid w) : Calls Tryd.prog 10 #[] w fun e w' => e = .returned (.bool true) ∧ Chg [] w w' := by
  have HT := Lib.hid hT; clear hT
  have kc := fun (w : World) (C : Array Value) (n c : Nat) => Lib.run_convert_bytes_const (P := Tryd.prog) w 24 5 C n c Tryd.underlying24 Tryd.underlying5
  have HN := Lib.hid crc_nine
  go_enter Tryd.func10, Tryd.ntmps10
  go_wp2_with fail
  (with_reducible refine (sum_at _ _ nine _ _ (by simp) (nine_seen w _ _) nine_bytes (HT.out.keep ((Chg.refl [] w).alloc _))).mono ?_)
  rintro e w' ⟨rfl, hc⟩
  rw [HN.out]
  have HC := Lib.hid (((Chg.refl [] w).alloc _).trans hc (by simp))
  clear hc
  go_wp2
  go_ret
  exact ⟨rfl, HC.out⟩

end Go.Proofs.YthmdebnmjlminaaDoor
