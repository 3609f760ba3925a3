/- The walk of the statement BitsPack. -/
import Derived.Test.YtkjgebijhhfknaaStr
import Derived.Test.YtkjgebijhhfknaaWBack
namespace Go.Proofs.Ytkjgebijhhfknaa
open Go.RowKit
set_option linter.unusedVariables false

/-- What packing makes, of whatever width. -/
def pz (S : List Nat) (width : Int) : List Nat := if 0 ≤ width ∧ width ≤ 64 then packed width.toNat S else []

def PackOut (S : List Nat) (width : Int) (w : World) (e : Ending) (w' : World) : Prop :=
  ∃ ao cap, e = .returned (.slice ao (pz S width).length cap) ∧ Chg [] w w' ∧ Seen w' (.slice ao (pz S width).length cap) (nv .u8 (pz S width))

theorem pz_bytes (S : List Nat) (width : Int) : ∀ x ∈ pz S width, x < 2 ^ 8 := by
  unfold pz
  split
  · exact packed_bytes _ _
  · simp

theorem packz (sv : Value) (S : List Nat) (width : Int) (w : World) (hl : S.length ≤ 1000000) (hS : Seen w sv (nv .u64 S)) (hSl : ∀ x ∈ S, x < 2 ^ 64) :
    Calls Try.prog 13 #[sv, .int .i64 width] w (PackOut S width w) := by
  by_cases h : 0 ≤ width ∧ width ≤ 64
  · obtain ⟨k, rfl⟩ := Int.eq_ofNat_of_zero_le h.1
    refine (pack_yes sv S k w (by omega) hl hS hSl).mono ?_
    rintro e w' ⟨g, rfl, h1, h2⟩
    have e : pz S (k : Int) = packed k S := by unfold pz; rw [if_pos h, Int.toNat_natCast]
    refine ⟨_, _, by rw [e], h1, ?_⟩
    rw [e]
    exact (reads_of_own h2).seen
  · refine (pack_no sv width w (by omega)).mono ?_
    rintro e w' ⟨rfl, rfl⟩
    have e : pz S width = [] := by unfold pz; rw [if_neg h]
    refine ⟨none, 0, by rw [e]; rfl, Chg.refl _ _, ?_⟩
    rw [e]
    exact Seen.nil _

theorem rpackz (sv : Value) (S : List Nat) (width : Int) (w : World) (hl : S.length ≤ 1000000) (hS : Seen w sv (nv .u64 S)) (hSl : ∀ x ∈ S, x < 2 ^ 64) :
    Calls Try.prog 14 #[sv, .int .i64 width] w (PackOut S width w) := by
  by_cases h : 0 ≤ width ∧ width ≤ 64
  · obtain ⟨k, rfl⟩ := Int.eq_ofNat_of_zero_le h.1
    refine (rpack_yes sv S k w (by omega) hl hS hSl).mono ?_
    rintro e w' ⟨g, rfl, h1, h2⟩
    have e : pz S (k : Int) = packed k S := by unfold pz; rw [if_pos h, Int.toNat_natCast]
    refine ⟨_, _, by rw [e], h1, ?_⟩
    rw [e]
    exact (reads_of_own h2).seen
  · refine (rpack_no sv width w (by omega)).mono ?_
    rintro e w' ⟨rfl, rfl⟩
    have e : pz S width = [] := by unfold pz; rw [if_neg h]
    refine ⟨none, 0, by rw [e]; rfl, Chg.refl _ _, ?_⟩
    rw [e]
    exact Seen.nil _

theorem cvz {S : List Nat} {width : Int} {n : Nat} {s : ByteArray} {w : World} {ao : Option Addr} {cap : Nat} (h : Seen w (.slice ao n cap) (nv .u8 (pz S width))) (hn : n = (pz S width).length) (hs : s = str (pz S width)) :
    ∀ w', Hid (Chg [] w w') → (convert 25 9 (.slice ao n cap)).run Try.prog w' = .ok (.string s) w' := fun w' hc => by
  rw [hs]
  exact conv_seen Try.underlying25 Try.underlying5 Try.underlying9 (h.keep hc.out) hn.symm (pz_bytes _ _)

set_option maxRecDepth 100000 in
set_option maxHeartbeats 20000000 in
theorem walk_BitsPack (a0 : Option Addr) (len0 cap0 : Nat) (z0 : List Int) (a1 : Int) (w : World) (w0 : IsRow .u64 w a0 len0 cap0 z0) (w1 : (Lit.int .i64 a1).wf = true) :
    Calls Try.prog 3 #[.slice a0 len0 cap0, .int .i64 a1] w fun e w' => e = .returned (.bool true) ∧ Below w.heap.size w w' := by
  obtain ⟨S, hS, rfl, hSl⟩ := w0.u64s
  have HS := Lib.hid hS; have HSL := Lib.hid hSl; have W1 := Lib.hid w1
  clear w0 w1 hS hSl
  by_cases hlen : 60 < S.length
  · go_enter Try.func3, Try.ntmps3
    go_wp2_with fail
    refine (known_any _).mono ?_
    rintro x w1 ⟨rfl, hk⟩
    have HC := Lib.hid hk; clear hk
    go_wp2
    go_ret
    exact ⟨rfl, HC.out.below (Nat.le_refl _) (by simp)⟩
  obtain ⟨k, hk⟩ : ∃ n, n = (a1 % (65 : Nat)).toNat := ⟨_, rfl⟩
  have hk2 : k < 65 := by rw [hk]; exact within_lt a1 65 (by decide)
  have HK := Lib.hid hk; clear hk
  obtain ⟨i0, hi, hz0, hz1, hz2⟩ := info_u64
  have hl6 : S.length ≤ 1000000 := by omega
  have hone := Lib.hid (nv_one .u64 S)
  go_enter Try.func3, Try.ntmps3
  go_wp2_with fail
  refine (known_any _).mono ?_
  rintro x w1 ⟨rfl, hk⟩
  have HC0 := Lib.hid hk; clear hk
  go_wp2_with fail
  refine (within_nat a1 65 _ (by decide) (by decide) W1.out).mono ?_
  rintro x w2 ⟨rfl, rfl⟩
  rw [← HK.out]
  go_wp2
  have ho : (w1.alloc (.cells #[] 37)).drew.ownsRow w1.heap.size 37 1 (.slice (some ⟨w1.heap.size, 0, none⟩) 0 0) 0 [] := World.ownsRow_made (base := w1.heap.size) (e := 37) (size := 1) w1.drew #[] 0 (Nat.le_refl _) (by simp) rfl
  have HO := Lib.hid ho; clear ho
  have HC1 : Hid (Chg [] w (w1.alloc (.cells #[] 37)).drew) := Lib.hid (HC0.out.alloc _).drew
  have HS1 := Lib.hid (HS.out.keep HC1.out)
  have hb1 : 0 + (nv .u64 S).length ≤ maxLen := by rw [nv_length]; unfold maxLen; omega
  have hb2 : (0 + (nv .u64 S).length) * 8 ≤ 140737488355328 := by rw [nv_length]; omega
  have hb3 : w1.heap.size ≤ (w1.alloc (.cells #[] 37)).drew.heap.size := by simp
  have HB1 := Lib.hid hb1; have HB2 := Lib.hid hb2; have HB3 := Lib.hid hb3
  clear hb1 hb2 hb3
  obtain ⟨n1, hn1⟩ : ∃ n, n = (pz S a1).length := ⟨_, rfl⟩
  obtain ⟨n2, hn2⟩ : ∃ n, n = (pz S (k : Int)).length := ⟨_, rfl⟩
  obtain ⟨s1, hs1⟩ : ∃ s, s = str (pz S a1) := ⟨_, rfl⟩
  obtain ⟨s2, hs2⟩ : ∃ s, s = str (pz S (k : Int)) := ⟨_, rfl⟩
  have HN1 := Lib.hid hn1; have HN2 := Lib.hid hn2; have HS3 := Lib.hid hs1; have HS4 := Lib.hid hs2
  clear hn1 hn2 hs1 hs2
  go_region_law (first
    | (refine step_append_reads (by rfl) (.tmp 13) (.tmp 14) 22 22 (by rfl) w1.heap.size 37 37 i0 (.int .u64 0) 8 Try.underlying22 Try.underlying22 hi hz0 hz1 hz2 (by rfl) (.slice (some ⟨w1.heap.size, 0, none⟩) 0 0) 0 [] (by rfl) HO.out (.slice a0 S.length cap0) (nv .u64 S) (by rfl) HS1.out hone.out HB1.out HB2.out HB3.out ?_; intro v3 w3 hown hgrow; rw [nv_length, Nat.zero_add, List.nil_append] at hown; obtain ⟨ao3, cap3, rfl⟩ := own_shape hown; have HC3 := Lib.hid (HC1.out.grown hgrow (fun k hk => .inr (by simp [Value.ownBlock] at hk; have := HC0.out.size; omega))); have HX := Lib.hid (reads_of_own hown).seen; clear hown hgrow)
    | (go_simp; go_at_call 13; (with_reducible refine (packz _ S a1 _ hl6 HX.out HSL.out).mono ?_); rintro e w4 ⟨ao4, cap4, rfl, h1, h2⟩; rw [← HN1.out] at h2 ⊢; have hcv4 := cvz h2 HN1.out HS3.out; have HC4 := Lib.hid (HC3.out.trans h1 (by simp)); have HR4 := Lib.hid (Chg.refl [] w4); have HP4 := Lib.hid h1; clear h1 h2)
    | (go_simp; go_at_call 14; (with_reducible refine (rpackz _ S a1 _ hl6 (HS.out.keep HC4.out) HSL.out).mono ?_); rintro e w5 ⟨ao5, cap5, rfl, h1, h2⟩; rw [← HN1.out] at h2 ⊢; have hcv5 := cvz h2 HN1.out HS3.out; have HC5 := Lib.hid (HC4.out.trans h1 (by simp)); have HR5 := Lib.hid (Chg.refl [] w5); have HP5 := Lib.hid h1; clear h1 h2)
    | (go_simp; go_at_call 13; (with_reducible refine (packz _ S k _ hl6 (HS.out.keep HC5.out) HSL.out).mono ?_); rintro e w6 ⟨ao6, cap6, rfl, h1, h2⟩; rw [← HN2.out] at h2 ⊢; have hcv6 := cvz h2 HN2.out HS4.out; have HC6 := Lib.hid (HC5.out.trans h1 (by simp)); have HR6 := Lib.hid (Chg.refl [] w6); have HP6 := Lib.hid h1; clear h1 h2)
    | (go_simp; go_at_call 14; (with_reducible refine (rpackz _ S k _ hl6 (HS.out.keep HC6.out) HSL.out).mono ?_); rintro e w7 ⟨ao7, cap7, rfl, h1, h2⟩; rw [← HN2.out] at h2 ⊢; have hcv7 := cvz h2 HN2.out HS4.out; have HC7 := Lib.hid (HC6.out.trans h1 (by simp)); have HR7 := Lib.hid (Chg.refl [] w7); have HP7 := Lib.hid h1; clear h1 h2))
  all_goals (go_wp2; go_ret; exact ⟨rfl, HC7.out.below (Nat.le_refl _) (by simp)⟩)

end Go.Proofs.Ytkjgebijhhfknaa
