/- Contract of schema.lacks. -/
import Derived.Test.YtofnpcfclcfgfaaTk
namespace Go.Proofs.Ytofnpcfclcfgfaa
open Go.RowKit
set_option linter.unusedVariables false

/-- How many fields each of n groups has. -/
def hasL (n : Nat) (qs : List Int) : List Int := (List.range n).map fun (i : Nat) => ((qs.count (i : Int) : Nat) : Int)
@[simp] theorem hasL_length (n : Nat) (qs : List Int) : (hasL n qs).length = n := by simp [hasL]
theorem hasL_get (n : Nat) (qs : List Int) (i : Nat) (h : i < n) : (hasL n qs)[i]? = some ((qs.count (i : Int) : Nat) : Int) := by simp [hasL, h]
theorem hasL_nil (n : Nat) : hasL n [] = List.replicate n 0 := by
  apply List.ext_getElem?
  intro i
  by_cases h : i < n
  · rw [hasL_get n [] i h]; simp [h]
  · rw [List.getElem?_eq_none (by simp; omega), List.getElem?_eq_none (by simp; omega)]
theorem hasL_snoc (n : Nat) (qs : List Int) (g : Nat) (h : g < n) : hasL n (qs ++ [(g : Int)]) = (hasL n qs).set g (((qs.count (g : Int) : Nat) : Int) + 1) := by
  apply List.ext_getElem?
  intro i
  by_cases hi : i < n
  · rw [hasL_get n _ i hi]
    by_cases e : g = i
    · subst e
      rw [List.getElem?_set_self (by simpa using h)]
      simp
    · rw [List.getElem?_set_ne e, hasL_get n _ i hi]
      have hne : ((g : Int) == (i : Int)) = false := by simp; omega
      simp only [List.count_append, List.count_singleton, hne]
      simp
  · rw [List.getElem?_eq_none (by simp; omega), List.getElem?_eq_none (by simp; omega)]

def fewB (l : List F) (ps : List Int) (i : Nat) : Bool := decide ((((ps.drop 1).count (i : Int) : Nat) : Int) < (l.getD i default).c)
def lacksB (l : List F) (ps : List Int) : Bool := (List.range l.length).any (fewB l ps)

set_option maxRecDepth 100000 in
set_option maxHeartbeats 1000000 in
theorem lacks_any (sv : Value) (B : Nat) (l : List F) (ps : List Int) (w : World) (hS : SeenF w sv l) (hP : BlkI w B ps) (hl : ps.length = l.length) (hl0 : l.length ≤ 1000000) (h1 : 1 ≤ l.length) (hps : ∀ p ∈ ps.drop 1, 0 ≤ p ∧ p < l.length) :
    Calls Try.prog 74 #[sv, .slice (some ⟨B, 0, none⟩) l.length l.length] w fun e w' => e = .returned (.bool (lacksB l ps)) ∧ Chg [] w w' := by
  obtain ⟨i0, hi, hz0, hz1, hz2⟩ := info_int
  obtain ⟨ao, cap, rfl, hc1, hc2⟩ := hS.shape
  have HS := Lib.hid hS; have HP := Lib.hid hP
  have hBw : B < w.heap.size := hP.lt
  clear hS hP
  obtain ⟨m, hm⟩ : ∃ m, m + 1 = l.length := ⟨l.length - 1, by omega⟩
  rw [← hm] at hc1 HS ⊢
  rw [← hm] at hps hl hl0
  have HPS := Lib.hid hps
  have hnm : m + 1 ≤ maxLen := by unfold maxLen; omega
  obtain ⟨qs, hqs⟩ : ∃ qs, qs = ps.drop 1 := ⟨_, rfl⟩
  have HQL := Lib.hid (show qs.length = m by rw [hqs]; simp; omega)
  have HQ := Lib.hid (show ∀ (j : Nat) (p : Int), qs[j]? = some p → ps[j + 1]? = some p by intro j p h; rw [hqs, List.getElem?_drop, Nat.add_comm] at h; exact h)
  have HQB := Lib.hid (show ∀ (j : Nat) (p : Int), qs[j]? = some p → 0 ≤ p ∧ p < ((m + 1 : Nat) : Int) by intro j p h; rw [hqs] at h; exact hps p (List.mem_of_getElem? h))
  have HLK := Lib.hid (show lacksB l ps = (List.range (m + 1)).any (fun i => decide (((qs.count (i : Int) : Nat) : Int) < (l.getD i default).c)) by unfold lacksB fewB; rw [hqs, hm])
  have HM := Lib.hid hm
  clear hps hl hqs h1 hm
  go_enter Try.func74, Try.ntmps74
  go_wp2_with (at_make; refine wpList_make_full _ rfl _ _ 22 rfl w.heap.size 3 i0 (.int .i64 0) 1 Try.underlying22 hi hz0 hz1 .i64 .i64 _ _ (m + 1) rfl rfl rfl rfl ?c1 ?c2 (Nat.le_refl _) ?_)
  case c1 => rw [hz2]; omega
  case c2 => exact hnm
  intro w1 hown1 hg1
  have hlt1 : w.heap.size < w1.heap.size := (hown1.lt w.heap.size rfl).2
  rw [cells_zeroi, ← hasL_nil] at hown1
  have HB1 := Lib.hid (blkI_of_own hown1 rfl)
  have HC1 := Lib.hid ((Chg.refl [] w).grown hg1 (by simp))
  clear hown1 hg1
  rcases Nat.eq_zero_or_pos m with h0 | h0
  case' inl =>
    have hm1 : m = 0 := h0
  case' inr =>
    have hm1 : ¬ m = 0 := by omega
  all_goals
    go_wp2
    go_loopw [16] (fun x w' => ∃ k : Nat, x = .int .i64 (k : Int) ∧ k ≤ m ∧ Chg [] w w' ∧ BlkI w' w.heap.size (hasL (m + 1) (qs.take k))) (fun x w' => m - (intOf x).toNat)
    case atStart => exact ⟨0, rfl, Nat.zero_le _, HC1.out, HB1.out⟩
    case round =>
      obtain ⟨k, rfl, hk, hc, hb⟩ := hrel
      have HC := Lib.hid hc; have HB := Lib.hid hb
      clear hc hb
      by_cases hlt : k < m
      · by_cases hz : m = 0 <;> try omega
        all_goals
          obtain ⟨p, hp⟩ : ∃ p, qs[k]? = some p := ⟨_, List.getElem?_eq_getElem (by rw [HQL.out]; exact hlt)⟩
          have hpr := HQB.out k p hp
          obtain ⟨q, rfl⟩ : ∃ q : Nat, p = q := ⟨p.toNat, by omega⟩
          have hpc : wr.cell? ⟨B, 1 + k, none⟩ = some (.int .i64 (q : Int)) := HC.out.cell (HP.out.cell (by rw [Nat.add_comm]; exact HQ.out k _ hp)) (by simp)
          have hqm : q < m + 1 := by omega
          obtain ⟨c, hcc⟩ : ∃ c, c = (qs.take k).count (q : Int) := ⟨_, rfl⟩
          have hqc : wr.cell? ⟨w.heap.size, q, none⟩ = some (.int .i64 (c : Int)) := by rw [hcc]; exact HB.out.cell (hasL_get _ _ _ hqm)
          have hcb : c ≤ k := by rw [hcc]; exact Nat.le_trans List.count_le_length (List.length_take_le _ _)
          have hfr : wr.frozen? ⟨w.heap.size, q, none⟩ = false := HB.out.frozen q
          have E := Lib.hid (show hasL (m + 1) (qs.take (k + 1)) = (hasL (m + 1) (qs.take k)).set q ((c : Int) + 1) by
            rw [List.take_add_one, hp, hcc]
            exact hasL_snoc _ _ _ hqm)
          clear hp hpr hcc
          go_wp2
          go_roundw
          case rel => exact ⟨k + 1, by go_num, by omega, HC.out.setCell (by simp) _, by rw [E.out]; exact HB.out.set q _⟩
          case measure => simp [intOf]; omega
      · have ek : k = m := by omega
        have HB2 := Lib.hid (show BlkI wr w.heap.size (hasL (m + 1) qs) by have h := HB.out; rw [List.take_of_length_le (by rw [HQL.out]; omega)] at h; exact h)
        clear ek HB
        go_wp2
        obtain ⟨gs, off, rfl, hcs⟩ := HS.out.get (by omega) HM.out.symm
        have HCS := Lib.hid hcs
        clear hcs
        go_loopw [29] (fun x w' => ∃ k : Nat, x = .int .i64 (k : Int) ∧ k ≤ m + 1 ∧ Chg [] wr w' ∧ (List.range k).any (fun i => decide (((qs.count (i : Int) : Nat) : Int) < (l.getD i default).c)) = false) (fun x w' => m + 1 - (intOf x).toNat)
        case atStart => exact ⟨0, rfl, Nat.zero_le _, Chg.refl _ _, rfl⟩
        case round =>
          obtain ⟨j, rfl, hj, hcj, hno⟩ := hrel
          have HCJ := Lib.hid hcj; have HNO := Lib.hid hno
          clear hcj hno
          by_cases hjl : j < m + 1
          · obtain ⟨f, hf⟩ : ∃ f, f = l.getD j default := ⟨_, rfl⟩
            obtain ⟨c, hcc⟩ : ∃ c, c = qs.count (j : Int) := ⟨_, rfl⟩
            obtain ⟨a1, a2, a3, a4⟩ := HCS.out j hjl
            have b1 := HCJ.out.cell (HC.out.cell a1 (by simp)) (by simp)
            have b2 := HCJ.out.cell (HC.out.cell a2 (by simp)) (by simp)
            have b3 := HCJ.out.cell (HC.out.cell a3 (by simp)) (by simp)
            have b4 := HCJ.out.cell (HC.out.cell a4 (by simp)) (by simp)
            rw [← hf] at b1 b2 b3 b4
            have b5 : ∀ o, (wr.alloc o).cell? ⟨w.heap.size, j, none⟩ = some (.int .i64 (c : Int)) := fun o => ((Chg.refl [] wr).alloc o).cell (by rw [hcc]; exact (HB2.out.chg HCJ.out (by simp)).cell (hasL_get _ _ _ hjl)) (by simp)
            have HE := Lib.hid (show decide (((qs.count (j : Int) : Nat) : Int) < (l.getD j default).c) = decide ((c : Int) < f.c) by rw [hcc, hf])
            clear a1 a2 a3 a4 hf hcc
            by_cases hlc : (c : Int) < f.c
            · have d1 : decide ((c : Int) < f.c) = true := by simpa using hlc
              have E := Lib.hid (show lacksB l ps = true by rw [HLK.out]; exact any_range_yes (k := j) (by rw [HE.out]; exact d1) hjl)
              clear hlc
              go_wp2_with fail
              go_quiet (fail)
              go_wp2
              go_ret
              exact ⟨ret_bool E.out.symm, ((HC.out.trans HCJ.out (by simp)).alloc _).drewN _⟩
            · have d1 : decide ((c : Int) < f.c) = false := by simpa using hlc
              have E := Lib.hid (any_range_no HNO.out (by rw [HE.out]; exact d1))
              clear hlc
              go_wp2_with fail
              go_quiet (fail)
              go_wp2
              go_roundw
              case rel => exact ⟨j + 1, by go_num, by omega, (HCJ.out.alloc _).drewN _, E.out⟩
              case measure => simp [intOf]; omega
          · have ej : j = m + 1 := by omega
            have E := Lib.hid (show lacksB l ps = false by rw [HLK.out, ← ej]; exact HNO.out)
            clear ej
            go_wp2
            go_ret
            exact ⟨ret_bool E.out.symm, HC.out.trans HCJ.out (by simp)⟩

end Go.Proofs.Ytofnpcfclcfgfaa
