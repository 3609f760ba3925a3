/- The walk of the statement CrcEnds. -/
import Derived.Test.YthmdebnmjlminaaDoorRf
namespace Go.Proofs.YthmdebnmjlminaaDoor
open Go.RowKit
set_option linter.unusedVariables false

/-- A list of parts, laid at once. -/
theorem parts_lit {w : World} (g : Nat) (hg : g = w.heap.size) (T : TypeId) (C : Array Value) (ls : List (List Nat)) (n : Nat) (hn : C.toList.length = n) (hl : ls.length = n) (hm : n ≤ maxLen)
    (he : ∀ i, i < n → Seen w (C.toList.getD i undef) (nv .u8 (ls.getD i []))) (hb : ∀ l ∈ ls, ∀ x ∈ l, x < 2 ^ 8) : Parts (w.alloc (.cells C T)) (.slice (some ⟨g, 0, none⟩) n n) C.toList ls := by
  subst hg
  refine ⟨.inr ⟨⟨w.heap.size, 0, none⟩, n, by rw [hn], by omega, hm, fun j u hu => ?_⟩, by omega, fun i hi => ?_, hb⟩
  · rw [addr_add, World.cell?_alloc_mark, Nat.zero_add, ← hu]
    simp
  · exact (he i (by omega)).keep ((Chg.refl [] w).alloc _)

/-- A number's four bytes, the lowest first. -/
def four (c : Nat) : List Nat := [c % 256, c / 256 % 256, c / 65536 % 256, c / 16777216 % 256]

theorem four_bytes (c : Nat) : ∀ x ∈ four c, x < 2 ^ 8 := by
  intro x hx
  simp [four] at hx
  omega

theorem num_four (c : Nat) (h : c < 2 ^ 32) : num (four c) = c := by
  unfold four num num num num num
  rw [xor_add 8 0 _ (by omega), xor_add 8 _ _ (by omega), xor_add 8 _ _ (by omega), xor_add 8 _ _ (by omega)]
  omega

theorem sts_ones : sts 32 4294967295 = 3736805603 := by decide +kernel

theorem crc_ends (l : List Nat) (hb : ∀ x ∈ l, x < 2 ^ 8) : crc (l ++ four (crc l)) = 558161692 := by
  have h := reg_lt (s := ones) (l := l) (by decide) hb
  have hc := crc_lt hb
  have e : crc (l ++ four (crc l)) = ones ^^^ reg (reg ones l) (four (crc l)) := by
    rw [← reg_append]; rfl
  rw [e, reg_eq _ (four _), num_four _ hc, crc, Nat.xor_comm ones (reg ones l), ← Nat.xor_assoc, Nat.xor_self, Nat.zero_xor]
  show ones ^^^ sts 32 ones = _
  unfold ones
  rw [sts_ones]
  decide

theorem four_seen (w : World) (T : TypeId) (c : Nat) (x0 x1 x2 x3 : Int) (h0 : x0 = ((c % 256 : Nat) : Int)) (h1 : x1 = ((c / 256 % 256 : Nat) : Int)) (h2 : x2 = ((c / 65536 % 256 : Nat) : Int)) (h3 : x3 = ((c / 16777216 % 256 : Nat) : Int)) :
    Seen (w.alloc (.cells #[.int .u8 x0, .int .u8 x1, .int .u8 x2, .int .u8 x3] T)) (.slice (some ⟨w.heap.size, 0, none⟩) 4 4) (nv .u8 (four c)) :=
  .inr ⟨⟨w.heap.size, 0, none⟩, 4, rfl, Nat.le_refl _, by decide, fun j u hu => by
    rw [addr_add, World.cell?_alloc_mark, Nat.zero_add, ← hu]
    simp [nv, four, h0, h1, h2, h3]⟩

set_option maxRecDepth 100000 in
set_option maxHeartbeats 1000000 in
theorem walk_CrcEnds (a0 : Option Addr) (len0 cap0 : Nat) (z0 : List Int) (w : World) (hT : Laid w) (w0 : IsRow .u8 w a0 len0 cap0 z0) :
    Calls Tryd.prog 7 #[.slice a0 len0 cap0] w fun e w' => e = .returned (.bool true) ∧ Below w.heap.size w w' := by
  obtain ⟨S, hS, rfl, hSl⟩ := w0.u8s
  have hlen := w0.len.2
  have HS := Lib.hid hS; have HSL := Lib.hid hSl; have HT := Lib.hid hT
  clear w0 hS hSl hT
  unfold maxLen at hlen
  go_enter Tryd.func7, Tryd.ntmps7
  go_wp2_with fail
  (with_reducible refine (known_any _ HT.out).mono ?_)
  rintro x w1 ⟨rfl, hk⟩
  have HC := Lib.hid hk; clear hk
  by_cases hgt : 300 < S.length
  · have hg2 : decide ((300 : Int) < (S.length : Int)) = true := by simp; omega
    go_wp2
    go_ret
    exact ⟨rfl, HC.out.below (Nat.le_refl _) (by simp)⟩
  have hg2 : decide ((300 : Int) < (S.length : Int)) = false := by simp; omega
  go_wp2_with fail
  (with_reducible refine (sum_at _ _ S _ _ rfl (HS.out.keep HC.out) HSL.out (HT.out.keep HC.out)).mono ?_)
  rintro x w2 ⟨rfl, hk⟩
  have HC2 := Lib.hid (HC.out.trans hk (by simp)); clear hk
  have HE := Lib.hid (crc_ends S HSL.out)
  have hcl := crc_lt HSL.out
  obtain ⟨c, hc⟩ : ∃ c, c = crc S := ⟨_, rfl⟩
  rw [← hc] at HE hcl ⊢
  clear hc
  go_wp2_with fail
  have hP := parts_lit (w := w2.alloc (.cells #[.int .u8 ((c : Int) % 256), .int .u8 ((c : Int) / 256 % 256), .int .u8 ((c : Int) / 65536 % 256), .int .u8 ((c : Int) / 16777216)] 5)) (w2.heap.size + 1) (by simp) 24 #[.slice a0 S.length cap0, .slice (some ⟨w2.heap.size, 0, none⟩) 4 4] [S, four c] 2 rfl rfl (by decide)
    (fun i hi => by
      have h : i = 0 ∨ i = 1 := by omega
      rcases h with rfl | rfl
      · exact HS.out.keep (HC2.out.alloc _)
      · exact four_seen w2 _ c _ _ _ _ (by omega) (by omega) (by omega) (by omega))
    (fun l hl => by
      simp at hl
      rcases hl with rfl | rfl
      · exact HSL.out
      · exact four_bytes c)
  (with_reducible refine (sum_any _ _ _ _ hP (HT.out.keep ((HC2.out.alloc _).alloc _))).mono ?_)
  rintro x w3 ⟨rfl, hk⟩
  have HC3 := Lib.hid (((HC2.out.alloc _).alloc _).trans hk (by simp)); clear hk hP
  have HE2 := Lib.hid (show crc [S, four c].flatten = 558161692 by simpa using HE.out)
  rw [HE2.out]
  go_wp2
  go_ret
  exact ⟨rfl, HC3.out.below (Nat.le_refl _) (by simp)⟩

end Go.Proofs.YthmdebnmjlminaaDoor
