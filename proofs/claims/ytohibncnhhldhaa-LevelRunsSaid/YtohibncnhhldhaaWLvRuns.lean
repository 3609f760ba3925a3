/- The walk of the statement LevelRuns. -/
import Derived.Test.YtohibncnhhldhaaKn
import Derived.Test.YtohibncnhhldhaaKo
import Derived.Test.YtohibncnhhldhaaA1
namespace Go.Proofs.Ytohibncnhhldhaa
open Go.RowKit
set_option linter.unusedVariables false
set_option linter.unusedSimpArgs false

/-- Of two that change each time. -/
def alt (m : Nat) : List Nat := (List.range m).map (· % 2)

theorem alt_get (m j : Nat) (h : j < m) : (alt m).getD j 0 = j % 2 := by simp [alt, List.getD, h]

theorem alt_alk (m : Nat) (h : 2 ≤ m) : alk (alt m) = 1 := by
  unfold alk
  rw [alt_get m 0 (by omega)]
  refine rn_of _ _ _ (by simp [alt]; omega) (fun j hj => ?_) (.inr ?_)
  · rw [alt_get m j (by omega)]; omega
  · rw [alt_get m 1 (by omega)]; decide

theorem alt_first (w m : Nat) (h : 2 ≤ m) : 1 ≤ (encL w (alt m)).length ∧ (encL w (alt m)).getD 0 0 % 2 = 1 := by
  have hne : alt m ≠ [] := by intro e; have := congrArg List.length e; simp [alt] at this; omega
  have hr : nR (alt m) = true := by unfold nR; rw [alt_alk m h]; simp [alt]; omega
  rw [encL_mix w _ hne hr]
  obtain ⟨h1, h2⟩ := vb_first (2 * ((mix (alt m) + 7) / 8) + 1)
  have h3 : 0 < (vb (2 * ((mix (alt m) + 7) / 8) + 1)).length := by omega
  refine ⟨by simp only [List.length_append]; omega, ?_⟩
  rw [List.append_assoc, getD_app _ _ _ h3, h1]
  omega

theorem rep_first (w n v : Nat) (h : 1 ≤ n) (h2 : 2 * n < 16384) : (encL w (List.replicate n v)).length = (if 2 * n < 128 then 1 else 2) + (w + 7) / 8 ∧ (encL w (List.replicate n v)).getD 0 0 % 2 = 0 := by
  rw [encL_rep w n v h]
  obtain ⟨h1, h3⟩ := vb_first (2 * n)
  refine ⟨by rw [List.length_append, lo_length, vb_size _ h2], ?_⟩
  rw [getD_app _ _ _ (by omega), h1]
  omega

/-- A row whose first j were written. -/
theorem set_fill (f : Nat → Nat) (n j : Nat) (hj : j < n) : ((List.range j).map f ++ List.replicate (n - j) 0).set j (f j) = (List.range (j + 1)).map f ++ List.replicate (n - (j + 1)) 0 := by
  apply List.ext_getElem (by simp; omega)
  intro i h1 h2
  simp only [List.getElem_set, List.getElem_append, List.getElem_map, List.getElem_range, List.length_map, List.length_range, List.getElem_replicate]
  split
  · subst_vars; simp
  · split
    · rw [dif_pos (by omega)]
    · rw [dif_neg (by omega)]

theorem dec_back (l : List Nat) (W : Nat) (hW : 1 ≤ W) (hW2 : W ≤ 16) (hl : l.length ≤ 4000) (hx : ∀ x ∈ l, x < 2 ^ W) : decA (encL W l) (l.length : Int) (W : Int) = (0, l) := by
  unfold decA
  rw [if_neg (by omega), if_neg (by omega), Int.toNat_natCast, Int.toNat_natCast, dec_enc W l (by omega) hx, if_pos rfl]

theorem and1_i64 (s : Nat) (h : s < 256) : bits BinOp.and IntKind.i64 (s : Int) 1 = ((s % 2 : Nat) : Int) := by
  have h2 : BitVec.ofInt 64 (s : Int) = BitVec.ofNat 64 s := BitVec.ofInt_natCast _ _
  show IntKind.i64.wrap ((BitVec.ofInt 64 (s : Int) &&& BitVec.ofInt 64 1).toNat : Int) = _
  rw [h2, show BitVec.ofInt 64 1 = 1#64 by decide, BitVec.toNat_and, BitVec.toNat_ofNat, Nat.mod_eq_of_lt (by omega), show (1#64).toNat = 1 by decide, Nat.and_one_is_mod]
  exact IntWalk.i64_in _ (by omega)

theorem cells_zi (n : Nat) : (madeCells #[Value.int .i64 0] n).toList = nv .i64 (List.replicate n 0) := by
  rw [toList_madeCells_one]; simp [nv]

set_option maxRecDepth 100000 in
set_option maxHeartbeats 8000000 in
theorem walk_LevelRuns (a0 : Int) (a1 : Int) (a2 : Int) (w : World) (w0 : (Lit.int .i64 a0).wf = true) (w1 : (Lit.int .i64 a1).wf = true) (w2 : (Lit.int .i64 a2).wf = true) :
    Calls Try.prog 14 #[.int .i64 a0, .int .i64 a1, .int .i64 a2] w fun e w' => e = .returned (.bool true) ∧ Below w.heap.size w w' := by
  have W0 := Lib.hid w0; have W1 := Lib.hid w1; have W2 := Lib.hid w2
  clear w0 w1 w2
  obtain ⟨i0, hi, hz0, hz1, hz2⟩ := info_int
  obtain ⟨q, hq⟩ : ∃ q, q = (a2 % (16 : Nat)).toNat := ⟨_, rfl⟩
  obtain ⟨p, hp⟩ : ∃ p, p = (a0 % (4000 : Nat)).toNat := ⟨_, rfl⟩
  have hq2 : q < 16 := by rw [hq]; exact within_lt a2 16 (by decide)
  have hp2 : p < 4000 := by rw [hp]; exact within_lt a0 4000 (by decide)
  obtain ⟨W, hW⟩ : ∃ W, W = q + 1 := ⟨_, rfl⟩
  obtain ⟨n, hn⟩ : ∃ n, n = p + 1 := ⟨_, rfl⟩
  have hWi : 1 + (q : Int) = (W : Int) := by omega
  have hni : 1 + (p : Int) = (n : Int) := by omega
  have hpw : 2 ^ W ≤ 2 ^ 16 := Nat.pow_le_pow_right (by decide) (by omega)
  have hpw1 : 2 ^ 1 ≤ 2 ^ W := Nat.pow_le_pow_right (by decide) (by omega)
  obtain ⟨M, hM⟩ : ∃ M, M = 2 ^ W := ⟨_, rfl⟩
  have hMi : (2 : Int) ^ W = (M : Int) := by rw [hM]; push_cast; rfl
  rw [← hM] at hpw hpw1
  have hMw : IntKind.i64.wrap (M : Int) = (M : Int) := IntWalk.i64_in _ (by omega)
  obtain ⟨v, hv⟩ : ∃ v, v = (a1 % (M : Nat)).toNat := ⟨_, rfl⟩
  have hv2 : v < M := by rw [hv]; exact within_lt a1 M (by omega)
  have HP := Lib.hid (fun wx => w10_int a0 4000 4000 wx rfl (by decide) (by decide) W0.out)
  have HQ := Lib.hid (fun wx => w10_int a2 16 16 wx rfl (by decide) (by decide) W2.out)
  have HV := Lib.hid (fun wx => w10_int a1 (M : Int) M wx rfl (by omega) (by omega) W1.out)
  rw [← hp] at HP; rw [← hq] at HQ; rw [← hv] at HV
  have hn1 : 1 ≤ n := by omega
  have hn4 : n ≤ 4000 := by omega
  have hW1 : 1 ≤ W := by omega
  have hW16 : W ≤ 16 := by omega
  obtain ⟨m, hm⟩ : ∃ m, m = min n 200 := ⟨_, rfl⟩
  have hmi : min (n : Int) 200 = (m : Int) := by omega
  have hm1 : 1 ≤ m := by omega
  have hm2 : m ≤ 200 := by omega
  obtain ⟨s, hs⟩ : ∃ s, s = (W + 7) / 8 := ⟨_, rfl⟩
  have hsi : ((W : Int) + 7) / 8 = (s : Int) := by omega
  obtain ⟨hB1, hB2⟩ := rep_first W n v hn1 (by omega)
  have hBb := encL_bytes W (List.replicate n v)
  have HEB := Lib.hid (fun (lv : Value) wx (hS : Seen wx lv (nv .i64 (List.replicate n v))) => encode_any lv (List.replicate n v) W wx hS hW1 hW16 (fun x hx => by rw [(List.mem_replicate.1 hx).2, ← hM]; exact hv2) (by simp; omega))
  have HED := Lib.hid (fun (lv : Value) wx (hS : Seen wx lv (nv .i64 (alt m))) => encode_any lv (alt m) W wx hS hW1 hW16 (fun x hx => by
    rw [← hM]; unfold alt at hx; obtain ⟨y, _, rfl⟩ := List.mem_map.1 hx; omega) (by simp [alt]; omega))
  have hDb := encL_bytes W (alt m)
  have hDL := dec_back (alt m) W hW1 hW16 (by simp [alt]; omega) (fun x hx => by rw [← hM]; unfold alt at hx; obtain ⟨y, _, rfl⟩ := List.mem_map.1 hx; omega)
  have hal : (alt m).length = m := by simp [alt]
  rw [hal] at hDL
  have hD1 := fun (h : 2 ≤ m) => alt_first W m h
  obtain ⟨B, hB⟩ : ∃ B, B = encL W (List.replicate n v) := ⟨_, rfl⟩
  obtain ⟨D, hD⟩ : ∃ D, D = encL W (alt m) := ⟨_, rfl⟩
  rw [← hB] at hB1 hB2 hBb HEB
  rw [← hD] at HED hDb hDL hD1
  rw [← hs] at hB1
  obtain ⟨bl, hbl⟩ : ∃ bl, bl = B.length := ⟨_, rfl⟩
  obtain ⟨dl, hdl⟩ : ∃ dl, dl = D.length := ⟨_, rfl⟩
  obtain ⟨b0, hb0⟩ : ∃ b0, b0 = B.getD 0 0 := ⟨_, rfl⟩
  obtain ⟨d0, hd0⟩ : ∃ d0, d0 = D.getD 0 0 := ⟨_, rfl⟩
  rw [← hbl] at hB1
  rw [← hb0] at hB2
  rw [← hdl, ← hd0] at hD1
  have hbl1 : 1 ≤ bl := by rw [hB1]; split <;> omega
  have hb256 : b0 < 256 := by rw [hb0]; exact hBb _ (getD_mem (by rw [← hbl]; exact hbl1))
  have hand : (bits BinOp.and IntKind.i64 (b0 : Int) 1 == 0) = true := by rw [and1_i64 b0 hb256, hB2]; rfl
  obtain ⟨sz, hsz, hpk⟩ : ∃ sz : Int, (bl : Int) = sz + (s : Int) ∧ ((sz = 1 ∧ decide ((128 : Int) ≤ 2 * (n : Int)) = false) ∨ (sz = 2 ∧ decide ((128 : Int) ≤ 2 * (n : Int)) = true)) := by
    by_cases h : 2 * n < 128
    · rw [if_pos h] at hB1; exact ⟨1, by omega, .inl ⟨rfl, by simp; omega⟩⟩
    · rw [if_neg h] at hB1; exact ⟨2, by omega, .inr ⟨rfl, by simp; omega⟩⟩
  have hszb : ((bl : Int) == sz + (s : Int)) = true := by rw [hsz]; simp
  obtain ⟨hlast⟩ : Nonempty ((m < 2) ∨ (2 ≤ m ∧ 1 ≤ dl ∧ d0 < 256 ∧ (bits BinOp.and IntKind.i64 (d0 : Int) 1 == 1) = true)) := by
    by_cases h : m < 2
    · exact ⟨.inl h⟩
    · obtain ⟨e1, e2⟩ := hD1 (by omega)
      have e3 : d0 < 256 := by rw [hd0]; exact hDb _ (getD_mem (by rw [← hdl]; exact e1))
      exact ⟨.inr ⟨by omega, e1, e3, by rw [and1_i64 d0 e3, e2]; rfl⟩⟩
  have HBL := Lib.hid hbl; have HDL := Lib.hid hdl; have HB0 := Lib.hid hb0; have HD0 := Lib.hid hd0; have HDE := Lib.hid hDL; have HDb := Lib.hid hDb; have HMM := Lib.hid hM
  have HMN := Lib.hid hm
  have HAL := Lib.hid hal
  clear hp hq hn hW hM hv hm hs hB hD hbl hdl hb0 hd0 hDL hDb hBb hB1 hB2 hD1 hal
  rcases hpk with ⟨rfl, hd128⟩ | ⟨rfl, hd128⟩
  all_goals
    go_enter Try.func14, Try.ntmps14
    go_wp2_with fail
    refine (known10_any _).mono ?_
    rintro e wA ⟨rfl, hk⟩
    have HK := Lib.hid hk
    clear hk
    go_wp2_with fail
    refine (HQ.out _).mono ?_
    rintro e wB ⟨rfl, rfl⟩
    go_wp2_with fail
    refine (HP.out _).mono ?_
    rintro e wB ⟨rfl, rfl⟩
    go_wp2_with fail
    refine (HV.out _).mono ?_
    rintro e wB ⟨rfl, rfl⟩
    go_wp2_with (at_make; refine wpList_make_full _ rfl _ _ 22 rfl wA.heap.size 3 i0 (.int .i64 0) 1 Try.underlying22 hi hz0 hz1 .i64 .i64 _ _ n rfl rfl rfl rfl ?c1 ?c2 (Nat.le_refl _) ?_)
    case c1 => rw [hz2]; omega
    case c2 => unfold maxLen; omega
    intro w4 hown4 hg4
    have HK4 := Lib.hid ((Chg.refl [] wA).grown hg4 (by simp))
    have HO4 := Lib.hid (show w4.ownsRow wA.heap.size 3 1 (.slice (some ⟨wA.heap.size, 0, none⟩) n n) n (nv .i64 ((List.range 0).map (fun _ => v) ++ List.replicate (n - 0) 0)) by
      have h := hown4
      rw [cells_zi] at h
      simpa using h)
    clear hown4 hg4
    obtain ⟨g, hg⟩ : ∃ g, g = wA.heap.size := ⟨_, rfl⟩
    rw [← hg] at HO4 ⊢
    have HG := Lib.hid hg
    clear hg
    go_wp2
    go_loopw [9] (fun i w' => ∃ j : Nat, j ≤ n ∧ i = .int .i64 (j : Int) ∧ Chg [] wA w' ∧ w'.ownsRow g 3 1 (.slice (some ⟨g, 0, none⟩) n n) n (nv .i64 ((List.range j).map (fun _ => v) ++ List.replicate (n - j) 0))) (fun i _ => n - (intOf i).toNat)
    case atStart => exact ⟨0, Nat.zero_le _, rfl, HK4.out, HO4.out⟩
    case round =>
      obtain ⟨j, hj, rfl, hc, ho⟩ := hrel
      have HC := Lib.hid hc; have HO := Lib.hid ho
      clear hc ho
      by_cases hjn : j < n
      · have hlt : decide ((j : Int) < (n : Int)) = true := by simp; omega
        have hlen : ((List.range j).map (fun _ => v) ++ List.replicate (n - j) 0).length = n := by simp; omega
        have hy := own_cell HO.out hlen j hjn
        have hfy := HO.out.frozenAt j
        have hst := HO.out.stored j (.int .i64 (v : Int))
        rw [nv_set, set_fill (fun _ => v) n j hjn] at hst
        have HST := Lib.hid hst
        have HCC := Lib.hid (HC.out.setCell (p := ⟨g, j, none⟩) (by rw [HG.out]; simp) (.int .i64 (v : Int)))
        clear hlen hst
        go_wp2
        go_roundw
        case rel => exact ⟨j + 1, hjn, by go_num, HCC.out, HST.out.1⟩
        case measure => simp [intOf]; omega
      · have hlt : decide ((j : Int) < (n : Int)) = false := by simp; omega
        have hjn : j = n := by omega
        subst hjn
        have HBS := Lib.hid (show Seen wr (.slice (some ⟨g, 0, none⟩) j j) (nv .i64 (List.replicate j v)) by
          have h := (reads_of_own HO.out).seen
          rw [Nat.sub_self, List.replicate_zero, List.append_nil] at h
          have e : (List.range j).map (fun _ => v) = List.replicate j v := by rw [List.map_const', List.length_range]
          rwa [e] at h)
        go_wp2_with fail
        refine (HEB.out _ _ HBS.out).mono ?_
        rintro e wE ⟨xb, rfl, hk, ho⟩
        rw [← HBL.out] at ho
        obtain ⟨ob, cb, rfl⟩ := own_shape ho
        obtain ⟨gb, rfl⟩ := own_some ho hbl1
        have HBx := Lib.hid (own_cell ho HBL.out.symm 0 hbl1)
        have HKE := Lib.hid (HC.out.trans hk (by simp))
        clear hk ho
        rw [← HB0.out] at HBx
        go_wp2_with (at_make; refine wpList_make_full _ rfl _ _ 22 rfl wE.heap.size 3 i0 (.int .i64 0) 1 Try.underlying22 hi hz0 hz1 .i64 .i64 _ _ m rfl rfl rfl rfl ?c1 ?c2 (Nat.le_refl _) ?_)
        case c1 => rw [hz2]; omega
        case c2 => unfold maxLen; omega
        intro w5 hown5 hg5
        have HK5 := Lib.hid ((Chg.refl [] wE).grown hg5 (by simp))
        have HO5 := Lib.hid (show w5.ownsRow wE.heap.size 3 1 (.slice (some ⟨wE.heap.size, 0, none⟩) m m) m (nv .i64 ((List.range 0).map (· % 2) ++ List.replicate (m - 0) 0)) by
          have h := hown5
          rw [cells_zi] at h
          simpa using h)
        clear hown5 hg5
        obtain ⟨gd, hgd⟩ : ∃ g, g = wE.heap.size := ⟨_, rfl⟩
        rw [← hgd] at HO5 ⊢
        have HGD := Lib.hid hgd
        clear hgd
        go_wp2
        go_loopw [14] (fun i w' => ∃ k : Nat, k ≤ m ∧ i = .int .i64 (k : Int) ∧ Chg [] wE w' ∧ w'.ownsRow gd 3 1 (.slice (some ⟨gd, 0, none⟩) m m) m (nv .i64 ((List.range k).map (· % 2) ++ List.replicate (m - k) 0))) (fun i _ => m - (intOf i).toNat)
        case atStart => exact ⟨0, Nat.zero_le _, rfl, HK5.out, HO5.out⟩
        case round =>
          obtain ⟨k, hk, rfl, hc, ho⟩ := hrel
          have HC2 := Lib.hid hc; have HO2 := Lib.hid ho
          clear hc ho
          by_cases hkm : k < m
          · have hlt2 : decide ((k : Int) < (m : Int)) = true := by simp; omega
            have HMOD := Lib.hid (show (k : Int) % 2 = ((k % 2 : Nat) : Int) by omega)
            have hlen : ((List.range k).map (· % 2) ++ List.replicate (m - k) 0).length = m := by simp; omega
            have hy := own_cell HO2.out hlen k hkm
            have hfy := HO2.out.frozenAt k
            have hst := HO2.out.stored k (.int .i64 ((k % 2 : Nat) : Int))
            rw [nv_set, set_fill (· % 2) m k hkm] at hst
            have HST := Lib.hid hst
            have HCC := Lib.hid (HC2.out.setCell (p := ⟨gd, k, none⟩) (by rw [HGD.out]; simp) (.int .i64 ((k % 2 : Nat) : Int)))
            rw [← HMOD.out] at HST HCC
            clear hlen hst
            go_wp2
            go_roundw
            case rel => exact ⟨k + 1, hkm, by go_num, HCC.out, HST.out.1⟩
            case measure => simp [intOf]; omega
          · have hlt2 : decide ((k : Int) < (m : Int)) = false := by simp; omega
            have hkm : k = m := by omega
            subst hkm
            have HDS := Lib.hid (show Seen wr (.slice (some ⟨gd, 0, none⟩) k k) (nv .i64 (alt k)) by
              have h := (reads_of_own HO2.out).seen
              rwa [Nat.sub_self, List.replicate_zero, List.append_nil] at h)
            go_wp2_with fail
            refine (HED.out _ _ HDS.out).mono ?_
            rintro e wF ⟨xd, rfl, hk, ho⟩
            rw [← HDL.out] at ho
            obtain ⟨od, cd, rfl⟩ := own_shape ho
            have HKF := Lib.hid hk; have HOF := Lib.hid ho
            clear hk ho
            go_wp2_with fail
            refine (decode_any _ D (k : Int) (W : Int) wF (reads_of_own HOF.out).seen HDb.out).mono ?_
            rintro e wG ⟨vx, rfl, hk, ho⟩
            rw [HDE.out] at ho ⊢
            rw [HAL.out] at ho
            obtain ⟨ox, cx, rfl⟩ := own_shape ho
            have HKG := Lib.hid hk
            have HXS := Lib.hid (show Seen wG (.slice ox k cx) (nv .i64 (alt k)) from (reads_of_own ho).seen)
            have hDC := HDS.out.keep (HKF.out.trans hk (by simp))
            have HDC := Lib.hid hDC
            clear hk ho hDC
            show (match Ending.returned (Value.tuple #[Value.slice ox k cx, Value.int .i64 0]), wG with | _, _ => _)
            have HT := Lib.hid (show Chg [] w wG from HK.out.trans (HKE.out.trans (HC2.out.trans (HKF.out.trans HKG.out (by simp)) (by simp)) (by simp)) (by simp))
            have HIN := Lib.hid (ints10_any _ _ (alt k) (alt k) wG HXS.out HDC.out (by rw [HAL.out]; omega) (by rw [HAL.out]; omega))
            have hb := HBx.out
            have hbG : wG.cell? ⟨gb, 0, none⟩ = some (.int .u8 (b0 : Int)) := (HC2.out.trans (HKF.out.trans HKG.out (by simp)) (by simp)).cell hb (by simp)
            clear hb
            rcases hlast with hm2' | ⟨hm2', hdl1, hd256, hand2⟩
            · have hdm : decide ((k : Int) < 2) = true := by simp; omega
              go_wp2_with fail
              refine HIN.out.mono ?_
              rintro e wH ⟨⟨r, rfl, hr⟩, hkh⟩
              obtain rfl : r = true := (by first | exact hr.2 rfl | exact hr.2 trivial)
              have HKH := Lib.hid hkh
              clear hkh
              go_wp2
              go_ret
              exact ⟨by simp, (HT.out.trans HKH.out (by simp)).below (Nat.le_refl _) (by simp)⟩
            · have hdm : decide ((k : Int) < 2) = false := by simp; omega
              obtain ⟨gdd, rfl⟩ := own_some HOF.out hdl1
              have hd0c := own_cell HOF.out HDL.out.symm 0 hdl1
              rw [← HD0.out] at hd0c
              have HD0C := Lib.hid (HKG.out.cell hd0c (by simp))
              clear hd0c
              go_wp2_with fail
              refine HIN.out.mono ?_
              rintro e wH ⟨⟨r, rfl, hr⟩, hkh⟩
              obtain rfl : r = true := (by first | exact hr.2 rfl | exact hr.2 trivial)
              have hd0H := hkh.cell HD0C.out (by simp)
              have HKH := Lib.hid hkh
              clear hkh
              go_wp2
              go_ret
              exact ⟨by simp, (HT.out.trans HKH.out (by simp)).below (Nat.le_refl _) (by simp)⟩

end Go.Proofs.Ytohibncnhhldhaa
