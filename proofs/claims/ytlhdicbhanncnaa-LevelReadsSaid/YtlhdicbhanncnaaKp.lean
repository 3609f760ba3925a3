/- level's statements: Levels. -/
import Derived.Test.YtlhdicbhanncnaaKn
import Derived.Test.YtlhdicbhanncnaaA1
namespace Go.Proofs.Ytlhdicbhanncnaa
open Go.RowKit
set_option linter.unusedVariables false
set_option linter.unusedSimpArgs false

/-- What Levels answers: some levels of the width, at most three hundred. -/
def LvOut (width : Nat) (w : World) (e : Ending) (w' : World) : Prop :=
  ∃ v L, e = .returned v ∧ L.length ≤ 300 ∧ (∀ x ∈ L, x < 2 ^ width) ∧ Made 3 .i64 L w v w'

set_option maxRecDepth 100000 in
set_option maxHeartbeats 4000000 in
theorem levels_any (nv' : Value) (ns : List Int) (width : Nat) (w : World) (hN : SeenI w nv' ns) (hw : width ≤ 16) (hwf : ∀ x ∈ ns, (Lit.int .i64 x).wf = true) :
    Calls Try.prog 6 #[nv', .int .i64 (width : Int)] w (LvOut width w) := by
  obtain ⟨i0, hi, hz0, hz1, hz2⟩ := info_int
  obtain ⟨ao, cap, rfl, hc1, hc2⟩ := hN.shape
  have HS := Lib.hid hN; have HWF := Lib.hid hwf
  have hpw : 2 ^ width ≤ 2 ^ 16 := Nat.pow_le_pow_right (by decide) hw
  obtain ⟨M, hM⟩ : ∃ M, M = 2 ^ width := ⟨_, rfl⟩
  have hMi : (2 : Int) ^ width = (M : Int) := by rw [hM]; push_cast; rfl
  have hM1 : 1 ≤ M := by rw [hM]; exact Nat.two_pow_pos width
  rw [← hM] at hpw
  have hMw : IntKind.i64.wrap (M : Int) = (M : Int) := IntWalk.i64_in _ (by omega)
  have HM := Lib.hid hM
  obtain ⟨n, hn⟩ : ∃ n, n = ns.length := ⟨_, rfl⟩
  rw [← hn] at HS hc1 ⊢
  have hnm : n ≤ maxLen := by omega
  unfold maxLen at hnm
  have HN := Lib.hid hn
  clear hN hwf hM hn hc2
  go_enter Try.func6, Try.ntmps6
  go_wp2
  go_loopw [5, 6] (fun v i w' => ∃ (j : Nat) (L : List Nat), j ≤ n ∧ i = .int .i64 (j : Int) ∧ L.length ≤ 300 ∧ (∀ x ∈ L, x < M) ∧ Chg [] w w' ∧ w'.ownsRow w.heap.size 3 1 v L.length (nv .i64 L)) (fun _ i _ => n - (intOf i).toNat)
  case atStart => exact ⟨0, [], Nat.zero_le _, rfl, by decide, by simp, Chg.refl _ _, ⟨rfl, .inl ⟨rfl, rfl⟩⟩⟩
  case round =>
    obtain ⟨j, L, hj, rfl, hL3, hLM, hc, ho⟩ := hrel
    obtain ⟨vo, vc, rfl⟩ := own_shape ho
    have HC := Lib.hid hc; have HO := Lib.hid ho; have HLM := Lib.hid hLM
    clear hc ho hLM
    by_cases hin : j < n ∧ j < 40
    · obtain ⟨hjn, hj4⟩ := hin
      have hlt : decide ((j : Int) < (n : Int)) = true := by simp; omega
      have hlt4 : decide ((j : Int) < 40) = true := by simp; omega
      obtain ⟨g, off, rfl, hcell⟩ := HS.out.get (by omega) HN.out.symm
      have hcj := hcell j hjn
      obtain ⟨x, hx⟩ : ∃ x, x = ns.getD j 0 := ⟨_, rfl⟩
      rw [← hx] at hcj
      have hxwf : (Lit.int .i64 x).wf = true := by rw [hx]; exact wf_getD HWF.out (by rw [← HN.out]; exact hjn)
      obtain ⟨hq1, hq2, hq3⟩ := tdiv_wf x 16 (by decide) hxwf
      obtain ⟨t, ht⟩ : ∃ t, t = (x.tdiv 16 % (12 : Nat)).toNat := ⟨_, rfl⟩
      have ht2 : t < 12 := by rw [ht]; exact within_lt _ 12 (by decide)
      have HT := Lib.hid (fun wx => w10_int (x.tdiv 16) 12 12 wx rfl (by decide) (by decide) hq1)
      obtain ⟨y, hy⟩ : ∃ y, y = (x % (M : Nat)).toNat := ⟨_, rfl⟩
      have hyM : y < M := by rw [hy]; exact within_lt _ M hM1
      have HY := Lib.hid (fun wx => w10_int x (M : Int) M wx rfl hM1 (by omega) hxwf)
      rw [← ht] at HT; rw [← hy] at HY
      have HCJ := Lib.hid hcj
      clear hcell hx ht hy hcj hxwf
      go_wp2
      go_loopw [5, 7] (fun v k w' => ∃ (i : Nat) (L : List Nat), i ≤ 12 ∧ k = .int .i64 (i : Int) ∧ L.length ≤ 300 ∧ (∀ x ∈ L, x < M) ∧ Chg [] w w' ∧ w'.ownsRow w.heap.size 3 1 v L.length (nv .i64 L)) (fun _ k _ => 12 - (intOf k).toNat)
      case atStart => exact ⟨0, L, by decide, rfl, hL3, HLM.out, HC.out, HO.out⟩
      case round =>
        obtain ⟨i, L2, hi12, rfl, hL32, hLM2, hc2, ho2⟩ := hrel
        obtain ⟨uo, uc, rfl⟩ := own_shape ho2
        have HC2 := Lib.hid hc2; have HO2 := Lib.hid ho2; have HLM2 := Lib.hid hLM2
        have hB := hc2.size
        have hcj2 := hc2.cell HCJ.out (by simp)
        clear hc2 ho2 hLM2
        obtain ⟨q, hq⟩ : ∃ q, q = L2.length := ⟨_, rfl⟩
        rw [← hq] at HO2 hL32 ⊢
        have HQ := Lib.hid hq
        clear hq
        by_cases hgo : i < 1 + t ∧ q < 300
        · obtain ⟨hg1, hg2⟩ := hgo
          have d1 : decide ((i : Int) < 1 + (t : Int)) = true := by simp; omega
          have d2 : decide ((q : Int) < 300) = true := by simp; omega
          have E := Lib.hid (show nv .i64 L2 ++ [.int .i64 (y : Int)] = nv .i64 (L2 ++ [y]) by simp [nv])
          go_wp2_with fail
          refine (HT.out _).mono ?_
          rintro e w3 ⟨rfl, rfl⟩
          go_wp2_with fail
          refine (HY.out _).mono ?_
          rintro e w3 ⟨rfl, rfl⟩
          go_wp2_with (at_builtin; refine wpList_append_own _ rfl _ _ 22 rfl w.heap.size 3 i0 (.int .i64 0) 1 8 Try.underlying22 hi hz0 hz1 hz2 rfl (by decide) _ _ _ rfl (HO2.out.alloc _) ⟨wr.heap.size, 0, none⟩ 1 1 [.int .i64 (y : Int)] rfl rfl ?c1 ?c2 ?c3 ?c4 ?c5 ?_)
          case c1 => exact (cell_one_new _ _ _)
          case c2 => simp [Value.oneCell']
          case c3 => unfold maxLen; omega
          case c4 => omega
          case c5 => simp; omega
          intro v' w4 hown' hgrow _
          rw [E.out] at hown'
          have HG := Lib.hid ((HC2.out.alloc (.cells #[.int .i64 (y : Int)] 3)).grown hgrow (fun k hk => .inr (HO2.out.lt k hk).1))
          have HO3 := Lib.hid hown'
          clear hgrow hown'
          go_wp2
          go_roundw
          case rel => exact ⟨i + 1, L2 ++ [y], by omega, by go_num, by rw [List.length_append, ← HQ.out]; simp; omega, by
            intro z hz
            rcases List.mem_append.1 hz with hz | hz
            · exact HLM2.out z hz
            · simp at hz; omega, HG.out, by rw [List.length_append, ← HQ.out]; exact HO3.out⟩
          case measure => simp [intOf]; omega
        · have hpick : (decide ((i : Int) < 1 + (t : Int)) = false) ∨ (decide ((i : Int) < 1 + (t : Int)) = true ∧ decide ((q : Int) < 300) = false) := by
            by_cases h : i < 1 + t
            · right; exact ⟨by simp; omega, by simp; omega⟩
            · left; simp; omega
          clear hgo
          rcases hpick with d1 | ⟨d1, d2⟩
          all_goals
            go_wp2_with fail
            refine (HT.out _).mono ?_
            rintro e w3 ⟨rfl, rfl⟩
            go_wp2
            go_roundw
            case rel => exact ⟨j + 1, L2, by omega, by go_num, by rw [← HQ.out]; exact hL32, HLM2.out, HC2.out, by rw [← HQ.out]; exact HO2.out⟩
            case measure => simp [intOf]; omega
    · have hpick : (¬ j < n) ∨ (j < n ∧ ¬ ((j : Int) < 40)) := by
        by_cases h : j < n
        · right; exact ⟨h, by omega⟩
        · left; exact h
      clear hin
      rcases hpick with d1 | ⟨d1, d2⟩
      all_goals
        go_wp2
        go_ret
        exact ⟨_, L, rfl, hL3, fun x hx => by rw [← HM.out]; exact HLM.out x hx, HC.out, HO.out⟩

end Go.Proofs.Ytlhdicbhanncnaa
