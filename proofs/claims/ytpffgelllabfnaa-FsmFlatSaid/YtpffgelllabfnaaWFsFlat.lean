/- FsmFlat. -/
import Derived.Test.YtpffgelllabfnaaGi
namespace Go.Proofs.Ytpffgelllabfnaa
open Go.RowKit
set_option linter.unusedVariables false
set_option linter.unusedSimpArgs false

set_option maxRecDepth 100000 in
set_option maxHeartbeats 4000000 in
theorem walk_FsmFlat (a0 : Option Addr) (len0 cap0 : Nat) (z0 : List Int) (w : World) (w0 : IsRow .i64 w a0 len0 cap0 z0) :
    Calls Try.prog 7 #[.slice a0 len0 cap0] w fun e w' => e = .returned (.bool true) ∧ Below w.heap.size w w' := by
  obtain ⟨ns, hS, hlen, hwf⟩ := w0.seenI
  have HS := Lib.hid hS; have HWF := Lib.hid hwf
  clear w0 hS hwf hlen
  have hmk := mk15 ns
  obtain ⟨l, hl⟩ : ∃ l, l = mk ns := ⟨_, rfl⟩
  rw [← hl] at hmk
  have HL := Lib.hid hl
  obtain ⟨X, hX⟩ : ∃ X, X = l.map fz := ⟨_, rfl⟩
  have hXc : ∀ f ∈ X, f.c ≤ 9223372036854775807 := fun f hf => by rw [hX] at hf; obtain ⟨g, hg, rfl⟩ := List.mem_map.1 hf; exact hmk.c g hg
  have hXn : ∀ f ∈ X, f.n.size ≤ 1000000 := fun f hf => by rw [hX] at hf; obtain ⟨g, hg, rfl⟩ := List.mem_map.1 hf; exact hmk.n g hg
  have hXl : X.length = l.length := by rw [hX, List.length_map]
  have HRL := Lib.hid (show ∀ sv wx, SeenF wx sv X → _ from fun sv wx hs => rleaves_any sv X wx hs (by have := hmk.le; omega) hXc)
  have HNX := Lib.hid (show ∀ sv wx, SeenF wx sv X → _ from fun sv wx hs => next_any sv X wx hs (by rw [hX]; exact chk_fz hmk.chk) hXc hXn)
  obtain ⟨G, hG⟩ : ∃ G, G = nextL (trs X) := ⟨_, rfl⟩
  rw [← hG] at HNX
  obtain ⟨N, hN⟩ : ∃ N, N = (leavesL X).length := ⟨_, rfl⟩
  have hN40 : N ≤ 40 := by have h := leavesTo_le X X.length; have := hmk.le; rw [hN]; unfold leavesL; omega
  have HGL := Lib.hid (show G.length = N by rw [hG, nextL_length, trs_length, hN])
  have HGT := Lib.hid (show ∀ k, k < N → G.getD k [] = [k + 1] from fun k hk => by rw [hG, hX]; exact fz_next l k (by rw [← hX, ← hN]; exact hk))
  have HNN := Lib.hid hN; have HX := Lib.hid hX
  obtain ⟨n, hn⟩ : ∃ n, n = l.length := ⟨_, rfl⟩
  have hn40 : n ≤ 40 := by have := hmk.le; omega
  have hn1 : 1 ≤ n := by have := hmk.pos; omega
  have HLN := Lib.hid hn
  have HRG := Lib.hid (show ∀ (k : Nat) (f : F), l[k]? = some f → 0 ≤ f.r from fun k f h => by rw [HL.out] at h; exact (mk_fields ns k f h).1.1)
  have q1 : ((N : Int) != (N : Int)) = false := by simp
  clear hmk hl hX hXc hXn hXl hN hG hn
  go_enter Try.func7, Try.ntmps7
  go_wp2_with fail
  refine (known15_any _).mono ?_
  rintro e wA ⟨rfl, hk⟩
  have HK1 := Lib.hid hk
  clear hk
  go_wp2_with fail
  refine (make_any _ ns _ (HS.out.keep HK1.out) HWF.out).mono ?_
  rintro e wB ⟨sv, rfl, hown, hk⟩
  rw [← HL.out] at hown
  rw [← HLN.out] at hown
  obtain ⟨sa, sc, rfl⟩ := own_shape hown
  obtain ⟨sg, rfl, hsg1, hsg2, -, -⟩ := own_ptr hown (by omega)
  have HOW := Lib.hid (show wB.ownsRow wA.heap.size 46 4 (.slice (some ⟨sg, 0, none⟩) n sc) n ((fzTo l 0).flatMap F.cs) by rw [fzTo_zero]; exact hown)
  have HK2 := Lib.hid (HK1.out.trans hk (by simp))
  have hwA := HK1.out.size
  clear hown hk hsg2
  go_wp2
  go_loopw [4] (fun x w' => ∃ k : Nat, x = .int .i64 (k : Int) ∧ k ≤ n ∧ Chg [] w w' ∧ w'.ownsRow wA.heap.size 46 4 (.slice (some ⟨sg, 0, none⟩) n sc) n ((fzTo l k).flatMap F.cs)) (fun x _ => n - (intOf x).toNat)
  case atStart => exact ⟨0, rfl, Nat.zero_le _, HK2.out, HOW.out⟩
  case round =>
    obtain ⟨k, rfl, hkn, hc, ho⟩ := hrel
    have HC := Lib.hid hc; have HO := Lib.hid ho
    obtain ⟨sg', e, -, -, hfz, hcell⟩ := own_ptr ho (by omega)
    injection e with e; injection e with e; subst e
    clear hc ho
    by_cases hlt : k < n
    · have g0 : (k : Int) < (n : Int) := by omega
      obtain ⟨f, hf⟩ : ∃ f, l[k]? = some f := ⟨_, List.getElem?_eq_getElem (by rw [← HLN.out]; exact hlt)⟩
      obtain ⟨hf1, hf2⟩ := fzTo_at l k f hf
      have c1 : wr.cell? ⟨sg, k * 4 + 1, none⟩ = some (.int .i64 f.r) := hcell _ _ (flat_get F.cs_len (fzTo l k) k f 1 _ hf1 rfl)
      have f1 : wr.frozen? ⟨sg, k * 4 + 1, none⟩ = false := hfz _
      have hr0 := HRG.out k f hf
      obtain ⟨r, hr⟩ : ∃ r, r = f.r := ⟨_, rfl⟩
      obtain ⟨r2, hr2⟩ : ∃ r2, r2 = r.tmod 2 := ⟨_, rfl⟩
      have hr3 : r2 = r % 2 := by rw [hr2, Int.tmod_eq_emod_of_nonneg (by omega)]
      have htm : r.tmod 2 = r2 := hr2.symm
      rw [← hr] at c1
      have HF1 := Lib.hid hf1; have HF2 := Lib.hid hf2
      have HR := Lib.hid (show { f with r := r2 } = fz f by unfold fz; rw [hr3, hr])
      clear hf hf1 hf2 hcell hfz hr hr2 hr3 hr0
      go_wp2
      go_roundw
      case rel =>
        refine ⟨k + 1, by go_num, by omega, HC.out.setCell (p := ⟨sg, k * 4 + 1, none⟩) (.inr (Nat.le_trans hwA (own_ge HO.out sg rfl))) _, ?_⟩
        have h := own_set HO.out (k * 4 + 1) (by omega) (.int .i64 r2)
        rw [flat_set1 _ k f r2 HF1.out, HR.out, HF2.out] at h
        exact h
      case measure => simp [intOf]; omega
    · have g0 : ¬ ((k : Int) < (n : Int)) := by omega
      have hO := HO.out
      rw [show k = l.length by rw [← HLN.out]; omega, fzTo_all, ← HX.out] at hO
      have hSv := SeenF.own hO (by rw [HX.out, List.length_map, ← HLN.out])
      have HSF := Lib.hid hSv
      clear hO hSv hcell hfz
      go_wp2_with fail
      refine (HNX.out _ wr HSF.out).mono ?_
      rintro e wD ⟨nv', rfl, hr, hk⟩
      obtain ⟨no, nc, rfl, hn1', hn2⟩ := hr.shape
      rw [HGL.out] at hn1' hr ⊢
      have HR := Lib.hid hr
      have HK4 := Lib.hid (HC.out.trans hk (by simp)); have HSF4 := Lib.hid (HSF.out.keep hk)
      clear hr hk
      go_wp2_with fail
      refine (HRL.out _ wD HSF4.out).mono ?_
      rintro e wE ⟨fv, rfl, hsl, hk⟩
      obtain ⟨fo, fc, rfl, hfl1, hfl2⟩ := hsl.shape
      rw [← HNN.out] at hfl1 ⊢
      have HKE := Lib.hid (HK4.out.trans hk (by simp)); have HRE := Lib.hid (HR.out.keep hk)
      clear hsl hk
      go_wp2
      go_loopw [6] (fun x w' => ∃ i : Nat, x = .int .i64 (i : Int) ∧ i ≤ N ∧ Chg [] wE w') (fun x _ => N - (intOf x).toNat)
      case atStart => exact ⟨0, rfl, Nat.zero_le _, Chg.refl _ _⟩
      case round =>
        obtain ⟨i, rfl, hiN, hci⟩ := hrel
        have HCI := Lib.hid hci
        clear hci
        by_cases hil : i < N
        · have g1 : (i : Int) < (N : Int) := by omega
          obtain ⟨ng, noff, rfl, hat⟩ := HRE.out.get (by omega) HGL.out
          obtain ⟨xo, xc, x1, x2, x3, x4⟩ := hat i hil
          rw [HGT.out i hil] at x1 x2 x4
          obtain ⟨xg, xoff, rfl, hx⟩ := x4.at0 rfl (by simp)
          have y0 : wr.cell? ⟨xg, xoff, none⟩ = some (.int .i64 ((i + 1 : Nat) : Int)) := HCI.out.cell (hx 0 (by simp)) (by simp)
          have z1 : wr.cell? ⟨ng, noff + i, none⟩ = some (.slice (some ⟨xg, xoff, none⟩) 1 xc) := HCI.out.cell x1 (by simp)
          have e1 : (((i + 1 : Nat) : Int) != (i : Int) + 1) = false := by simp
          clear hat x1 x4 hx x2
          go_wp2
          go_roundw
          case rel => exact ⟨i + 1, by go_num, by omega, HCI.out⟩
          case measure => simp [intOf]; omega
        · have g1 : ¬ ((i : Int) < (N : Int)) := by omega
          go_wp2
          go_ret
          exact ⟨rfl, (HKE.out.trans HCI.out (by simp)).below (Nat.le_refl _) (by simp)⟩

end Go.Proofs.Ytpffgelllabfnaa
