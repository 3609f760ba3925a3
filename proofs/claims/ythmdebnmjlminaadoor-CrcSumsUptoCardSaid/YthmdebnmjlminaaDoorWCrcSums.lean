/- The walk of the statement CrcSums, for parts of a bounded sum. -/
import Derived.Test.YthmdebnmjlminaaDoorDr
namespace Go.Proofs.YthmdebnmjlminaaDoor
open Go.RowKit
set_option linter.unusedVariables false

theorem Parts.at {w : World} {ao : Option Addr} {n cap : Nat} {ps : List Value} {ls : List (List Nat)} (h : Parts w (.slice ao n cap) ps ls) (j : Nat) (hj : j < ps.length) :
    ∃ x lo lc l, ao = some x ∧ l = ls.getD j [] ∧ w.cell? (x.add j) = some (.slice lo l.length lc) ∧ Seen w (.slice lo l.length lc) (nv .u8 l) ∧ (∀ y ∈ l, y < 2 ^ 8) := by
  have hs := h.each j hj
  obtain ⟨lo, lc, e, _, _⟩ := hs.shape
  have hg : ps[j]? = some (ps.getD j undef) := by simp [List.getD, hj]
  have hl : j < ls.length := by rw [h.len]; exact hj
  have hb : ∀ y ∈ ls.getD j [], y < 2 ^ 8 := h.byte _ (by simp only [List.getD, List.getElem?_eq_getElem hl]; exact List.getElem_mem hl)
  rcases h.seen with ⟨_, e0⟩ | ⟨x, cap', e1, _, _, hc⟩
  · subst e0; simp at hj
  · injection e1 with e1 e2 e3
    have hcell := hc j _ hg
    rw [nv_length] at e
    rw [e] at hcell hs
    exact ⟨x, lo, lc, ls.getD j [], e1, rfl, hcell, hs, hb⟩

theorem Parts.nil (w : World) : Parts w (.slice none 0 0) [] [] := ⟨Seen.nil w, rfl, fun i hi => by simp at hi, by simp⟩

theorem flat_snoc (ls : List (List Nat)) (j : Nat) (hj : j < ls.length) : (ls.take (j + 1)).flatten = (ls.take j).flatten ++ ls.getD j [] := by
  have e : ls.take (j + 1) = ls.take j ++ [ls.getD j []] := by
    rw [List.take_add_one, List.getElem?_eq_getElem hj]
    simp [List.getD, hj]
  rw [e]; simp

theorem flat_le (ls : List (List Nat)) (j : Nat) : (ls.take j).flatten.length ≤ ls.flatten.length := by
  have h : ls.flatten = (ls.take j).flatten ++ (ls.drop j).flatten := by rw [← List.flatten_append, List.take_append_drop]
  rw [h, List.length_append]; omega

theorem flat_bytes {ls : List (List Nat)} (h : ∀ l ∈ ls, ∀ x ∈ l, x < 2 ^ 8) : ∀ x ∈ ls.flatten, x < 2 ^ 8 := by
  intro x hx
  obtain ⟨l, hl, hxl⟩ := List.mem_flatten.1 hx
  exact h l hl x hxl

set_option maxRecDepth 100000 in
set_option maxHeartbeats 2000000 in
theorem walk_Sums (a0 : Option Addr) (len0 cap0 : Nat) (ps : List Value) (ls : List (List Nat)) (w : World) (hT : Laid w) (hP : Parts w (.slice a0 len0 cap0) ps ls) (hn : len0 = ps.length) (hB : ls.flatten.length + ps.length ≤ 1048576) :
    Calls Tryd.prog 3 #[.slice a0 len0 cap0] w fun e w' => e = .returned (.bool true) ∧ Below w.heap.size w w' := by
  subst hn
  have HP := Lib.hid hP; have HT := Lib.hid hT
  have HL := Lib.hid hP.len; have HBY := Lib.hid (flat_bytes hP.byte)
  have HPB := Lib.hid hP.byte
  clear hP hT
  have hpl : ps.length ≤ 1048576 := by omega
  obtain ⟨i0, hi, hz0, hz1, hz2⟩ := info_u8
  go_enter Tryd.func3, Tryd.ntmps3
  go_wp2_with fail
  (with_reducible refine (known_any _ HT.out).mono ?_)
  rintro x w1 ⟨rfl, hk⟩
  have HC := Lib.hid hk; clear hk
  have hs1 := HC.out.size
  go_wp2
  go_loopw [3, 4] (fun x i wr => ∃ (j m : Nat) (xo : Option Addr) (xc : Nat), j ≤ ps.length ∧ i = .int .i64 (j : Int) ∧ x = .slice xo m xc ∧ Hid (m = (ls.take j).flatten.length) ∧ m ≤ 1048576 ∧ Hid (Chg [] w wr) ∧ Hid (wr.ownsRow w1.heap.size 5 1 (.slice xo m xc) m (nv .u8 (ls.take j).flatten)) ∧ w1.heap.size ≤ wr.heap.size) (fun x i _ => ps.length - (intOf i).toNat)
  case atStart => exact ⟨0, 0, none, 0, Nat.zero_le _, rfl, rfl, Lib.hid (by simp), by omega, HC, Lib.hid (World.ownsRow_nil _ _ _ _), Nat.le_refl _⟩
  case round =>
    obtain ⟨j, m, xo, xc, hj, rfl, rfl, HM, hm, HCR, HOR, hsr⟩ := hrel
    by_cases hlt : j < ps.length
    · have hlt2 : decide (j < ps.length) = true := by simpa using hlt
      obtain ⟨x, lo, lc, l, rfl, hl, hcell, hseen, hby⟩ := (HP.out.keep HCR.out).at j hlt
      have HS := Lib.hid hseen
      have hone := Lib.hid (nv_one .u8 l)
      have HFS := Lib.hid (flat_snoc ls j (by rw [HL.out]; exact hlt))
      have hfl := flat_le ls (j + 1)
      rw [HFS.out, List.length_append, ← HM.out, ← hl] at hfl
      have hml : m + l.length ≤ 1048576 := by omega
      have HLL := Lib.hid hl
      clear hseen hby hl hfl
      go_wp2_with (at_builtin; refine wpList_append_reads _ rfl _ _ 24 24 rfl w1.heap.size 5 5 i0 (.int .u8 0) 1 Tryd.underlying24 Tryd.underlying24 hi hz0 hz1 hz2 rfl _ m _ rfl HOR.out _ (nv .u8 l) rfl HS.out hone.out ?c1 ?c2 ?c3 ?_)
      case c1 => rw [nv_length]; unfold maxLen; omega
      case c2 => rw [nv_length]; omega
      case c3 => exact hsr
      intro v2 w2 hown2 hgrow2
      have HC2 := Lib.hid (HCR.out.grown hgrow2 (fun k hk => .inr (Nat.le_trans hs1 (own_ge HOR.out k hk))))
      obtain ⟨xo2, xc2, rfl⟩ := own_shape hown2
      have e : nv .u8 (ls.take j).flatten ++ nv .u8 l = nv .u8 (ls.take (j + 1)).flatten := by rw [HFS.out, ← HLL.out]; simp [nv]
      rw [e] at hown2
      have HO2 := Lib.hid hown2
      have HM2 := Lib.hid (show m + l.length = (ls.take (j + 1)).flatten.length by rw [HFS.out, List.length_append, ← HM.out, ← HLL.out])
      have hsr2 : w1.heap.size ≤ w2.heap.size := Nat.le_trans hsr hgrow2.size
      clear hown2 hgrow2 e
      go_wp2
      go_roundw
      case rel => exact ⟨j + 1, m + l.length, xo2, xc2, hlt, by go_num, rfl, HM2, hml, HC2, HO2, hsr2⟩
      case measure => simp [intOf]; omega
    · have hlt2 : decide (j < ps.length) = false := by simpa using hlt
      have e : (ls.take j).flatten = ls.flatten := by rw [show j = ps.length by omega, ← HL.out, List.take_length]
      rw [e] at HM HOR
      by_cases h5 : 500 < m
      · have hb5 : decide ((500 : Int) < (m : Int)) = true := by simp; omega
        go_wp2
        go_ret
        exact ⟨rfl, HCR.out.below (Nat.le_refl _) (by simp)⟩
      have hb5 : decide ((500 : Int) < (m : Int)) = false := by simp; omega
      by_cases h20 : 20 < ps.length
      · have hb2 : decide ((20 : Int) < (ps.length : Int)) = true := by simp; omega
        go_wp2
        go_ret
        exact ⟨rfl, HCR.out.below (Nat.le_refl _) (by simp)⟩
      have hb2 : decide ((20 : Int) < (ps.length : Int)) = false := by simp; omega
      have HR := Lib.hid (Row.mk (reads_of_own HOR.out).seen HBY.out)
      obtain ⟨c, hc⟩ : ∃ c, c = crc ls.flatten := ⟨_, rfl⟩
      have H1 := Lib.hid hc
      have hee : ((c : Int) == (c : Int)) = true := by simp
      clear e hc HM HOR
      go_wp2_with fail
      (with_reducible refine (sum_any _ ps ls _ (HP.out.keep HCR.out) (HT.out.keep HCR.out)).mono ?_)
      rintro x w2 ⟨rfl, hk⟩
      have HC2 := Lib.hid (HCR.out.trans hk (by simp)); have HK2 := Lib.hid hk; clear hk
      rw [← H1.out]
      go_wp2_with fail
      (with_reducible refine (ref_any _ ls.flatten _ (HR.out.keep HK2.out).seen HBY.out).mono ?_)
      rintro x w3 ⟨rfl, rfl⟩
      rw [← H1.out]
      go_wp2_with fail
      (with_reducible refine (sum_at _ _ ls.flatten _ _ rfl (HR.out.keep HK2.out).seen HBY.out (HT.out.keep HC2.out)).mono ?_)
      rintro x w3 ⟨rfl, hk⟩
      have HC3 := Lib.hid (HC2.out.trans hk (by simp)); have HK3 := Lib.hid (HK2.out.trans hk (by simp)); clear hk
      rw [← H1.out]
      go_wp2_with fail
      (with_reducible refine (ref_any _ ls.flatten _ (HR.out.keep HK3.out).seen HBY.out).mono ?_)
      rintro x w4 ⟨rfl, rfl⟩
      rw [← H1.out]
      go_wp2_with fail
      (with_reducible refine (sum_any _ [] [] _ (Parts.nil _) (HT.out.keep HC3.out)).mono ?_)
      rintro x w4 ⟨rfl, hk⟩
      have HC4 := Lib.hid (HC3.out.trans hk (by simp)); clear hk
      rw [show ([] : List (List Nat)).flatten = [] from rfl, crc_nil]
      go_wp2
      go_ret
      exact ⟨rfl, HC4.out.below (Nat.le_refl _) (by simp)⟩

end Go.Proofs.YthmdebnmjlminaaDoor
