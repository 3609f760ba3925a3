/- Contract of schema.count, whatever it counts. -/
import Derived.Test.YtofnpcfclcfgfaaPa
namespace Go.Proofs.Ytofnpcfclcfgfaa
open Go.RowKit
set_option linter.unusedVariables false

theorem rep_split (n k : Nat) (h : k < n) : List.replicate (n - k) (0 : Int) = 0 :: List.replicate (n - (k + 1)) 0 := by
  rw [show n - k = (n - (k + 1)) + 1 from by omega, List.replicate_succ]

theorem set_at {X : List Int} {n k : Nat} (hk : X.length = k) (h : k < n) (v : Int) : (X ++ List.replicate (n - k) 0).set k v = X ++ [v] ++ List.replicate (n - (k + 1)) 0 := by
  rw [rep_split n k h, List.set_append, if_neg (by omega), hk, Nat.sub_self]
  simp

theorem set_last (X Y : List Int) (v u : Int) : (X ++ [v] ++ Y).set X.length u = X ++ [u] ++ Y := by
  rw [List.append_assoc, List.set_append, if_neg (by omega), Nat.sub_self]
  simp

set_option maxRecDepth 100000 in
set_option maxHeartbeats 1000000 in
theorem count_any (g : Nat) (lb : Array Value) (b : Nat → Bool) (sv : Value) (l : List F) (w : World) (hS : SeenF w sv l) (hl : l.length ≤ 1000000) (hw : ∀ f ∈ l, f.c ≤ 9223372036854775807)
    (eg : ∀ args w, (callFunc g args).run Try.prog w = .ok (.enter g args) w)
    (hp : ∀ w', Chg [] w w' → ∀ i : Nat, i < l.length → Calls Try.prog g (#[.int .i64 (i : Int)] ++ lb) w' fun e w'' => e = .returned (.bool (b i)) ∧ Chg [] w' w'') :
    Calls Try.prog 71 #[sv, .func (.func g) #[] lb] w fun e w' => e = .returned (.slice (some ⟨w.heap.size, 0, none⟩) l.length l.length) ∧ BlkI w' w.heap.size (cntL b (parents l)) ∧ Chg [] w w' := by
  obtain ⟨i0, hi, hz0, hz1, hz2⟩ := info_int
  obtain ⟨ao, cap, rfl, hc1, hc2⟩ := hS.shape
  have HS := Lib.hid hS; have HW := Lib.hid hw; have HP := Lib.hid hp
  clear hS hw hp
  obtain ⟨n, hn⟩ : ∃ n, n = l.length := ⟨_, rfl⟩
  rw [← hn] at hc1 HS HP ⊢
  have hnm : n ≤ maxLen := by unfold maxLen; omega
  have hn2 : n ≤ 1000000 := by omega
  have HN := Lib.hid hn; have HL := Lib.hid hl
  clear hl
  obtain ⟨ps, hps⟩ : ∃ ps, ps = parents l := ⟨_, rfl⟩
  have HPL := Lib.hid (show ∀ (j : Nat) (x : Int), ps[j]? = some x → x = -1 ∨ 0 ≤ x ∧ x < j from fun j x h => parents_lt (l := l) (by rw [← hps]; exact h))
  have HLN := Lib.hid (show ps.length = n by rw [hps, parents_length, hn])
  have HPS := Lib.hid hps
  rw [← hps]
  clear hps hn
  go_enter Try.func71, Try.ntmps71
  go_wp2_with (at_make; refine wpList_make_full _ rfl _ _ 22 rfl w.heap.size 3 i0 (.int .i64 0) 1 Try.underlying22 hi hz0 hz1 .i64 .i64 _ _ n rfl rfl rfl rfl ?c1 ?c2 (Nat.le_refl _) ?_)
  case c1 => rw [hz2]; omega
  case c2 => exact hnm
  intro w1 hown1 hg1
  have hlt1 : w.heap.size < w1.heap.size := (hown1.lt w.heap.size rfl).2
  rw [cells_zeroi] at hown1
  have HB1 := Lib.hid (blkI_of_own hown1 rfl)
  have HC1 := Lib.hid ((Chg.refl [] w).grown hg1 (by simp))
  clear hown1 hg1
  go_wp2_with fail
  (with_reducible refine (parents_any _ l w1 (HS.out.keep HC1.out) HL.out HW.out).mono ?_)
  rw [← HN.out]
  rintro e w2 ⟨rfl, hb2, hk⟩
  rw [← HPS.out] at hb2
  have HB2 := Lib.hid hb2
  have HBn := Lib.hid (HB1.out.chg hk (by simp))
  have HC2 := Lib.hid (HC1.out.trans hk (by simp))
  clear hb2 hk HB1 HC1
  obtain ⟨B2, hB2⟩ : ∃ B2, B2 = w1.heap.size := ⟨_, rfl⟩
  rw [← hB2] at HB2 hlt1 ⊢
  clear hB2
  go_wp2
  go_loopw [14] (fun x w' => ∃ k : Nat, x = .int .i64 (k : Int) ∧ k ≤ n ∧ Chg [] w w' ∧ BlkI w' B2 ps ∧ BlkI w' w.heap.size (cntL b (ps.take k) ++ List.replicate (n - k) 0)) (fun x w' => n - (intOf x).toNat)
  case atStart => exact ⟨0, rfl, Nat.zero_le _, HC2.out, HB2.out, by simpa [cntL] using HBn.out⟩
  case round =>
    obtain ⟨k, rfl, hk, hc, hbp, hbn⟩ := hrel
    have HC := Lib.hid hc; have HBP := Lib.hid hbp; have HBN := Lib.hid hbn
    clear hc hbp hbn HBn
    by_cases hlt : k < n
    · obtain ⟨p, hp⟩ : ∃ p, ps[k]? = some p := ⟨_, List.getElem?_eq_getElem (by rw [HLN.out]; exact hlt)⟩
      have hpr := HPL.out k p hp
      have hpc : wr.cell? ⟨B2, k, none⟩ = some (.int .i64 p) := HBP.out.cell hp
      obtain ⟨X, hX⟩ : ∃ X, X = cntL b (ps.take k) := ⟨_, rfl⟩
      have hXl : X.length = k := by rw [hX, cntL_length, List.length_take, HLN.out]; omega
      have HXL := Lib.hid hXl
      have HST := Lib.hid (show cntL b (ps.take (k + 1)) = X ++ [(if p = -1 then 0 else X.getD p.toNat 0) + (if b k then 1 else 0)] by rw [cntL_take b ps k p hp, hX])
      have HBD := Lib.hid (show ∀ (j : Nat) (x : Int), X[j]? = some x → 0 ≤ x ∧ x ≤ j + 1 by rw [hX]; exact cntL_bound b ps HPL.out k (by rw [HLN.out]; omega))
      rw [← hX] at HBN
      clear hX hp hXl
      have hfr : wr.frozen? ⟨w.heap.size, k, none⟩ = false := HBN.out.frozen k
      have hne : B2 ≠ w.heap.size := by omega
      by_cases hp1 : p = -1
      case' pos =>
        subst hp1
        clear hpr
        obtain ⟨base, hbase⟩ : ∃ base : Int, base = 0 := ⟨_, rfl⟩
        have HBX := Lib.hid (show BlkI wr w.heap.size (X ++ [base] ++ List.replicate (n - (k + 1)) 0) by rw [hbase]; have h := HBN.out; rw [rep_split n k hlt] at h; simpa using h)
        have HCX := HC
        have HTX := Lib.hid (show ∀ c : Int, c = (if b k then 1 else 0) → cntL b (ps.take (k + 1)) = X ++ [base + c] from fun c hc => by rw [HST.out, hc, hbase]; simp)
        have hb1 : 0 ≤ base := by omega
        have hb2 : base ≤ k := by omega
        clear hbase
        go_wp2_with fail
      case' neg =>
        have hq : 0 ≤ p ∧ p < k := by
          rcases hpr with h | h
          · contradiction
          · exact h
        clear hpr
        obtain ⟨q, rfl⟩ : ∃ q : Nat, p = q := ⟨p.toNat, by omega⟩
        obtain ⟨base, hbase⟩ : ∃ base, X[q]? = some base := ⟨_, List.getElem?_eq_getElem (by rw [HXL.out]; omega)⟩
        have hqc : wr.cell? ⟨w.heap.size, q, none⟩ = some (.int .i64 base) := HBN.out.cell (by rw [List.getElem?_append_left (by rw [HXL.out]; omega)]; exact hbase)
        have hkc : wr.cell? ⟨w.heap.size, k, none⟩ = some (.int .i64 0) := HBN.out.cell (by rw [List.getElem?_append_right (by rw [HXL.out]; omega), HXL.out, Nat.sub_self, rep_split n k hlt]; rfl)
        have hbd := HBD.out q base hbase
        have hb1 : 0 ≤ base := hbd.1
        have hb2 : base ≤ k := by omega
        have HBX := Lib.hid (show BlkI (wr.setCell ⟨w.heap.size, k, none⟩ (.int .i64 base)) w.heap.size (X ++ [base] ++ List.replicate (n - (k + 1)) 0) by have h := HBN.out.set k base; rw [set_at HXL.out hlt] at h; exact h)
        have HCX := Lib.hid (HC.out.setCell (p := ⟨w.heap.size, k, none⟩) (by simp) (.int .i64 base))
        have HTX := Lib.hid (show ∀ c : Int, c = (if b k then 1 else 0) → cntL b (ps.take (k + 1)) = X ++ [base + c] from fun c hc => by rw [HST.out, hc, if_neg hp1]; simp [List.getD, hbase])
        have hn1 : ((q : Int) != -1) = true := by simp
        clear hbase hbd hp1
        go_wp2_with fail
      all_goals
        refine (HP.out _ HCX.out k hlt).mono ?_
        rintro e w3 ⟨rfl, hk3⟩
        have HBY := Lib.hid (HBX.out.chg hk3 (by simp))
        have HCY := Lib.hid (HCX.out.trans hk3 (by simp))
        have HBP3 := Lib.hid (show BlkI w3 B2 ps from by
          have h1 : BlkI w3 B2 ps := by
            refine BlkI.chg ?_ hk3 (by simp)
            first
              | exact HBP.out
              | exact HBP.out.far (by simp; omega) _
          exact h1)
        clear hk3
        have hyc : w3.cell? ⟨w.heap.size, k, none⟩ = some (.int .i64 base) := HBY.out.cell (by rw [List.append_assoc, List.getElem?_append_right (by rw [HXL.out]; omega), HXL.out, Nat.sub_self]; rfl)
        have hfr3 : w3.frozen? ⟨w.heap.size, k, none⟩ = false := HBY.out.frozen k
        cases hbk : b k
        · have E := Lib.hid (HTX.out 0 (by rw [hbk]; rfl))
          clear hbk
          go_wp2
          go_roundw
          case rel => exact ⟨k + 1, by go_num, by omega, HCY.out, HBP3.out, by rw [E.out]; simpa using HBY.out⟩
          case measure => simp [intOf]; omega
        · have E := Lib.hid (HTX.out 1 (by rw [hbk]; rfl))
          clear hbk
          go_wp2
          go_roundw
          case rel => exact ⟨k + 1, by go_num, by omega, HCY.out.setCell (by simp) _, HBP3.out.far (by simp; omega) _, by rw [E.out]; have h := HBY.out.set k (base + 1); rw [← HXL.out, set_last, HXL.out] at h; exact h⟩
          case measure => simp [intOf]; omega
    · have e : k = n := by omega
      have E := Lib.hid (show cntL b (ps.take k) ++ List.replicate (n - k) 0 = cntL b ps by rw [e, List.take_of_length_le (by rw [HLN.out]; omega)]; simp)
      clear e
      go_wp2
      go_ret
      exact ⟨rfl, by rw [← E.out]; exact HBN.out, HC.out⟩

end Go.Proofs.Ytofnpcfclcfgfaa
