/- The walk of the statement ProjectOrder. -/
import Derived.Test.YtofnpcfclcfgfaaQa
import Derived.Test.YtofnpcfclcfgfaaRs
import Derived.StillTailTactics
namespace Go.Proofs.Ytofnpcfclcfgfaa
open Go.RowKit
set_option linter.unusedVariables false

theorem partTo_congr {l : List F} {κ κ2 : Nat → Bool} (h : ∀ j, j < l.length → κ j = κ2 j) : partTo l κ l.length = partTo l κ2 l.length := by
  unfold partTo
  have e1 : (List.range l.length).filter κ = (List.range l.length).filter κ2 := List.filter_congr fun j hj => h j (List.mem_range.1 hj)
  rw [e1]
  refine List.map_congr_left fun j hj => ?_
  unfold pfK cntK
  have e2 : (kidsOf l (j : Int)).filter (fun x => κ x.toNat) = (kidsOf l (j : Int)).filter (fun x => κ2 x.toNat) := List.filter_congr fun x hx => by
    obtain ⟨h0, h1⟩ := kidsOf_mem hx
    exact h x.toNat (by omega)
  rw [e2]

theorem kept_same {l : List F} {ps qs : List ByteArray} {κ κ2 : Nat → Bool} (h1 : KeptK l ps κ) (h2 : KeptK l qs κ2) (hp : ps ≠ []) (hq : qs ≠ []) (hm : ∀ p, p ∈ ps ↔ p ∈ qs) : ∀ j, j < l.length → κ j = κ2 j := by
  intro j hj
  have e : κ j = true ↔ κ2 j = true := by
    rw [h1 j hj, h2 j hj]
    constructor
    · rintro ⟨f, h3 | ⟨p, hp3, h3⟩, h4⟩
      · exact absurd h3.1 hp
      · exact ⟨f, .inr ⟨p, (hm p).1 hp3, h3⟩, h4⟩
    · rintro ⟨f, h3 | ⟨p, hp3, h3⟩, h4⟩
      · exact absurd h3.1 hq
      · exact ⟨f, .inr ⟨p, (hm p).2 hp3, h3⟩, h4⟩
  cases hx : κ j <;> cases hy : κ2 j <;> simp_all

theorem paths_ok {l : List F} (h : Good l) (h2 : 2 ≤ l.length) (ns : List Int) : ∀ p ∈ pathsL l ns, findI l p ≠ -1 := by
  intro p hp
  unfold pathsL at hp
  obtain ⟨x, -, rfl⟩ := List.mem_map.1 hp
  have h0 := Int.emod_nonneg x (show ((l.length - 1 : Nat) : Int) ≠ 0 by omega)
  have h1 := Int.emod_lt_of_pos x (show (0 : Int) < ((l.length - 1 : Nat) : Int) by omega)
  obtain ⟨k, hk⟩ : ∃ k : Nat, 1 + x % ((l.length - 1 : Nat) : Int) = (k : Int) := ⟨(1 + x % ((l.length - 1 : Nat) : Int)).toNat, by omega⟩
  rw [hk, find_path h (by omega) (by omega)]
  omega

theorem paths_small {l : List F} (hn : ∀ f ∈ l, f.n.size ≤ 1000) (hl : l.length ≤ 1000) (h2 : 2 ≤ l.length) (ns : List Int) : ∀ p ∈ pathsL l ns, p.size ≤ 9223372036854775806 := by
  intro p hp
  unfold pathsL at hp
  obtain ⟨x, -, rfl⟩ := List.mem_map.1 hp
  have h0 := Int.emod_nonneg x (show ((l.length - 1 : Nat) : Int) ≠ 0 by omega)
  have h1 := Int.emod_lt_of_pos x (show (0 : Int) < ((l.length - 1 : Nat) : Int) by omega)
  obtain ⟨k, hk⟩ : ∃ k : Nat, 1 + x % ((l.length - 1 : Nat) : Int) = (k : Int) := ⟨(1 + x % ((l.length - 1 : Nat) : Int)).toNat, by omega⟩
  rw [hk]
  unfold pathB
  rw [if_neg (by omega)]
  have h3 := join_len [46] ((namesUp l (k : Int)).reverse.map (·.data.toList)) 1000 (fun y hy => by
    obtain ⟨z, hz, rfl⟩ := List.mem_map.1 hy
    exact names_size l hn (by omega) (List.mem_reverse.1 hz))
  have h4 := namesUp_len l l.length (k : Int) (by omega) (by omega)
  rw [List.length_map, List.length_reverse] at h3
  have h5 : (namesUp l (k : Int)).length * (([46] : List UInt8).length + 1000) ≤ l.length * 1001 := Nat.mul_le_mul h4 (by simp)
  show (Lib.join _ [46]).toArray.size ≤ _
  rw [List.size_toArray]
  omega

theorem mk_two (ns : List Int) : 2 ≤ (mk ns).length := by
  have h := mk_ok ns
  have hp := h.pos
  obtain ⟨f, hf, hk⟩ := h.leaf
  obtain ⟨j, hj⟩ := List.mem_iff_getElem?.1 hf
  have hjl := (List.getElem?_eq_some_iff.1 hj).1
  by_cases h0 : j = 0
  · subst h0
    have hr := (mk_root ns).2
    rw [List.getD, hj] at hr
    simp at hr
    omega
  · omega

set_option maxRecDepth 100000 in
set_option maxHeartbeats 8000000 in
theorem walk_ProjectOrder (a0 : Option Addr) (len0 cap0 : Nat) (z0 : List Int) (a1 : Option Addr) (len1 cap1 : Nat) (z1 : List Int) (a2 : Int) (w : World) (w0 : IsRow .i64 w a0 len0 cap0 z0) (w1 : IsRow .i64 w a1 len1 cap1 z1) (w2 : (Lit.int .i64 a2).wf = true) :
    Calls Try.prog 14 #[.slice a0 len0 cap0, .slice a1 len1 cap1, .int .i64 a2] w fun e w' => e = .returned (.bool true) ∧ Below w.heap.size w w' := by
  obtain ⟨i0, hi, hz0, hz1, hz2⟩ := info_string
  obtain ⟨ns, hS, hlen, hwf⟩ := w0.seenI
  obtain ⟨ms, hS2, hlen2, hwf2⟩ := w1.seenI
  have HS := Lib.hid hS; have HWF := Lib.hid hwf; have HS2 := Lib.hid hS2; have HWF2 := Lib.hid hwf2; have HA2 := Lib.hid w2
  clear w0 w1 hS hwf hlen hS2 hwf2 hlen2 w2
  have hmk := mk_ok ns
  have HCK := Lib.hid (mk_chk ns)
  have HTW := Lib.hid (mk_two ns)
  obtain ⟨l, hl⟩ : ∃ l, l = mk ns := ⟨_, rfl⟩
  rw [← hl] at hmk HCK HTW
  have HL := Lib.hid hl
  have hln := hmk.le
  have HGD := Lib.hid (chk_good HCK.out)
  have HFC := Lib.hid (show ∀ f ∈ l, f.c ≤ 9223372036854775807 from fun f hf => by have := hmk.c f hf; omega)
  have HFN := Lib.hid (show ∀ f ∈ l, f.n.size ≤ 1000 from fun f hf => by have := hmk.n f hf; omega)
  clear hmk hl
  go_enter Try.func14, Try.ntmps14
  go_wp2_with fail
  (with_reducible refine (known7_any _).mono ?_)
  rintro e w1 ⟨rfl, hk⟩
  have HK1 := Lib.hid hk
  clear hk
  go_wp2_with fail
  (with_reducible refine (make_any _ ns _ (HS.out.keep HK1.out) HWF.out).mono ?_)
  rintro e w2 ⟨sv, rfl, hown, hk⟩
  rw [← HL.out] at hown
  have hSv := SeenF.own hown rfl
  obtain ⟨sa, sc, rfl⟩ := own_shape hown
  have HSF := Lib.hid hSv
  have HK2 := Lib.hid (HK1.out.trans hk (by simp))
  clear hown hSv hk
  go_wp2_with fail
  (with_reducible refine (paths_any _ _ l ms _ HSF.out (HS2.out.keep HK2.out) (by omega) HTW.out HFC.out HFN.out HWF2.out).mono ?_)
  rintro e w3 ⟨av, rfl, hown, hk⟩
  have HPO := Lib.hid (paths_ok HGD.out HTW.out ms)
  have HPZ := Lib.hid (paths_small HFN.out (by omega) HTW.out ms)
  have hM4 := pathsL_len l ms
  obtain ⟨A, hA⟩ : ∃ A, A = pathsL l ms := ⟨_, rfl⟩
  rw [← hA] at hown HPO hM4 HPZ
  obtain ⟨M, hM⟩ : ∃ M, M = A.length := ⟨_, rfl⟩
  rw [← hM] at hown hM4
  have HMD := Lib.hid hM
  obtain ⟨aa, ac, rfl⟩ := own_shape hown
  have HOA := Lib.hid hown
  have HSA := Lib.hid (own_seenS hown hM.symm)
  have HK3 := Lib.hid (HK2.out.trans hk (by simp))
  have HSF := Lib.hid (HSF.out.keep hk)
  clear hown hk hA hM
  by_cases hM0 : M = 0
  · have d1 : ((M : Int) == 0) = true := by simp [hM0]
    go_wp2
    go_ret
    exact ⟨rfl, HK3.out.below (Nat.le_refl _) (by simp)⟩
  have d1 : ((M : Int) == 0) = false := by simp; omega
  obtain ⟨ga, rfl, -, -, -, -⟩ := own_ptr HOA.out (by omega)
  have HW7 := Lib.hid (fun wx => w7_nat a2 M wx (by omega) (by omega) HA2.out)
  obtain ⟨y, hy⟩ : ∃ y, y = (a2 % (M : Int)).toNat := ⟨_, rfl⟩
  have hyl : y < M := by rw [hy]; exact within_lt a2 M (by omega)
  rw [← hy] at HW7
  clear hy
  go_wp2
  go_loopw [9, 10] (fun bv x w' => ∃ (k : Nat) (B : List ByteArray), x = .int .i64 (k : Int) ∧ k ≤ M ∧ B.length = k ∧ (∀ p ∈ B, p ∈ A) ∧ w'.ownsRow w3.heap.size 9 1 bv k (sv B) ∧ Chg [] w3 w') (fun _ x _ => M - (intOf x).toNat)
  case atStart => exact ⟨0, [], rfl, Nat.zero_le _, rfl, by simp, World.ownsRow_nil _ _ _ _, Chg.refl _ _⟩
  case round =>
    obtain ⟨k, B, rfl, hkM, hBl, hBA, hO, hC⟩ := hrel
    obtain ⟨ba, bc, rfl⟩ := own_shape hO
    have HBL := Lib.hid hBl; have HBA := Lib.hid hBA; have HO := Lib.hid hO; have HC := Lib.hid hC
    clear hBl hBA hO hC
    by_cases hlt : k < M
    · obtain ⟨r, hr⟩ : ∃ r, r = (k + y) % M := ⟨_, rfl⟩
      have hrM : r < M := by rw [hr]; exact Nat.mod_lt _ (by omega)
      have htm : ((k : Int) + (y : Int)).tmod (M : Int) = (r : Int) := by rw [hr, Int.tmod_eq_emod_of_nonneg (by omega), Int.natCast_emod, Int.natCast_add]
      obtain ⟨p, hp⟩ : ∃ p, A[r]? = some p := ⟨_, List.getElem?_eq_getElem (by rw [← HMD.out]; exact hrM)⟩
      obtain ⟨g2, off, e, hcp⟩ := (HSA.out.keep HC.out).at (by omega)
      injection e with e; injection e with e1 e2
      subst e1 e2
      have hpc := SeenS.cell hcp hp
      have HPA := Lib.hid (List.mem_of_getElem? hp)
      have HM2 := Lib.hid (show k + 1 ≤ maxLen by unfold maxLen; omega)
      have HM3 := Lib.hid (show (k + 1) * 16 ≤ 140737488355328 by omega)
      have HBZ := Lib.hid (show w3.heap.size ≤ wr.heap.size from HC.out.size)
      simp only [Nat.zero_add] at hpc
      clear hcp hp hr
      go_wp2_with (first
        | (go_at_call 35; (with_reducible refine (HW7.out _).mono ?_); rintro e w4 ⟨rfl, rfl⟩)
        | (at_builtin; refine wpList_append_at _ rfl (.tmp 33) (.tmp 46) _ rfl w3.heap.size 9 i0 (.string ByteArray.empty) 1 16 Try.underlying35 hi hz0 hz1 hz2 rfl (by omega) (.slice ba k bc) k (sv B) rfl (HO.out.alloc _) ⟨wr.heap.size, 0, none⟩ 1 1 [.string p] rfl rfl new_cell (by simp [Value.oneCell']) HM2.out HM3.out (le_alloc HBZ.out _) ?_; intro v2 w2 hown2 hg2 hat2; obtain ⟨a2', c2', rfl⟩ := own_shape hown2; have HO6 := Lib.hid hown2; have HG2 := Lib.hid hg2; clear hown2 hg2 hat2)
        | fail)
      go_roundw
      case rel =>
        refine ⟨k + 1, B ++ [p], by go_num, by omega, by simp [HBL.out], fun q hq => ?_, by simpa [sv] using HO6.out, (HC.out.alloc _).grown HG2.out (fun q hq => .inr (own_ge HO.out q hq))⟩
        rcases List.mem_append.1 hq with hq | hq
        · exact HBA.out q hq
        · simp at hq; subst hq; exact HPA.out
      case measure => simp [intOf]; omega
    · have HM2 := Lib.hid (show k + M ≤ maxLen by unfold maxLen; omega)
      have HM3 := Lib.hid (show (k + M) * 16 ≤ 140737488355328 by omega)
      have HBZ := Lib.hid (show w3.heap.size ≤ wr.heap.size from HC.out.size)
      have HOA2 := Lib.hid (own_chg HOA.out HC.out (by simp))
      have HSA2 := Lib.hid (HSA.out.keep HC.out)
      have HSF2 := Lib.hid (HSF.out.keep HC.out)
      have HCA := Lib.hid (show ∀ j u, (sv A)[j]? = some u → wr.cell? ((⟨ga, 0, none⟩ : Addr).add j) = some u from fun j u hu => by
        obtain ⟨g2, e, -, -, -, hc⟩ := own_ptr HOA2.out (by omega)
        injection e with e; injection e with e1
        subst e1
        rw [addr_add, Nat.zero_add]
        exact hc j u hu)
      have hne : (ga : Nat) = ga := rfl
      go_upto_region 13 with (first
        | (at_builtin; refine wpList_append_at _ rfl (.tmp 48) (.tmp 49) _ rfl w3.heap.size 9 i0 (.string ByteArray.empty) 1 16 Try.underlying35 hi hz0 hz1 hz2 rfl (by omega) (.slice ba k bc) k (sv B) rfl HO.out ⟨ga, 0, none⟩ M ac (sv A) rfl (by simp [sv, HMD.out]) HCA.out (by intro u hu; simp [sv] at hu; obtain ⟨q, -, rfl⟩ := hu; rfl) HM2.out HM3.out HBZ.out ?_; intro v2 w4 hown2 hg2 hat2; obtain ⟨a2', c2', rfl⟩ := own_shape hown2; have HO6 := Lib.hid hown2; have HG2 := Lib.hid hg2; clear hown2 hg2 hat2)
        | fail)
      have HC4 := Lib.hid (HC.out.grown HG2.out (fun q hq => .inr (own_ge HO.out q hq)))
      have HSB := Lib.hid (show SeenS w4 (.slice a2' (k + M) c2') (B ++ A) from own_seenS (by have h := HO6.out; rw [← show Go.Proofs.Ytofnpcfclcfgfaa.sv (B ++ A) = Go.Proofs.Ytofnpcfclcfgfaa.sv B ++ Go.Proofs.Ytofnpcfclcfgfaa.sv A by simp [Go.Proofs.Ytofnpcfclcfgfaa.sv]] at h; exact h) (by rw [List.length_append, HBL.out, HMD.out]))
      have HR1 := Lib.hid (resolve_any _ _ l A w4 (HSF.out.keep HC4.out) (HSA.out.keep HC4.out) HFC.out HFN.out HPZ.out)
      clear HCA HOA2 HSA2 HSF2 HO6 HG2 hne
      go_wp2_with fail
      (with_reducible refine HR1.out.mono ?_)
      rintro e w5 ⟨hout, hk5⟩
      have HC5 := Lib.hid (HC4.out.trans hk5 (by simp))
      have HSB5 := Lib.hid (HSB.out.keep hk5)
      clear hk5
      rcases hout with ⟨h1, -⟩ | ⟨-, h1, -⟩ | ⟨-, -, g1, κ1, p1, rfl, hb1, -, hs1, hkp1⟩
      · exact absurd HCK.out h1
      · obtain ⟨q, hq, hf⟩ := h1
        exact absurd hf (HPO.out q hq)
      have HB1 := Lib.hid hb1; have HS1 := Lib.hid hs1; have HKP1 := Lib.hid hkp1
      clear hb1 hs1 hkp1
      have HAB := Lib.hid (show ∀ p ∈ B ++ A, p ∈ A from fun p hp => (List.mem_append.1 hp).elim (HBA.out p) id)
      have HR2 := Lib.hid (resolve_any _ _ l (B ++ A) w5 (HSF.out.keep HC5.out) HSB5.out HFC.out HFN.out (fun p hp => HPZ.out p (HAB.out p hp)))
      go_wp2_with fail
      (with_reducible refine HR2.out.mono ?_)
      rintro e w6 ⟨hout, hk6⟩
      have HC6 := Lib.hid (HC5.out.trans hk6 (by simp))
      have HB1 := Lib.hid (HB1.out.chg hk6 (by simp))
      have HS1 := Lib.hid (HS1.out.keep hk6)
      clear hk6
      rcases hout with ⟨h1, -⟩ | ⟨-, h1, -⟩ | ⟨-, -, g2, κ2, p2, rfl, hb2, -, hs2, hkp2⟩
      · exact absurd HCK.out h1
      · obtain ⟨q, hq, hf⟩ := h1
        exact absurd hf (HPO.out q (HAB.out q hq))
      have hAne : A ≠ [] := fun e => hM0 (by rw [HMD.out, e]; rfl)
      have hsame := kept_same HKP1.out hkp2 hAne (fun e => hAne (List.append_eq_nil_iff.1 e).2) (fun p => ⟨fun hp => List.mem_append.2 (.inr hp), HAB.out p⟩)
      have HSM := Lib.hid hsame
      rw [← partTo_congr hsame] at hs2
      have HB2 := Lib.hid hb2; have HS2 := Lib.hid hs2
      clear hb2 hs2 hkp2 hsame hAne
      go_wp2_with (first
        | (go_at_call 29; (with_reducible refine (bools_any g1 g2 l.length κ1 κ2 _ HB1.out HB2.out (by omega)).mono ?_); rintro e w7 ⟨⟨r, rfl, hr⟩, hk7⟩; obtain rfl : r = true := hr.2 HSM.out; have HC7 := Lib.hid (HC6.out.trans hk7 (by simp)); have HS1 := Lib.hid (HS1.out.keep hk7); have HS2 := Lib.hid (HS2.out.keep hk7); clear hr hk7)
        | (go_at_call 21; (with_reducible refine (rsame_any _ _ _ _ HS1.out HS2.out).mono ?_); rintro e w8 ⟨rfl, hk8⟩; have HC8 := Lib.hid (HC7.out.trans hk8 (by simp)); clear hk8)
        | fail)
      go_ret
      exact ⟨rfl, (HK3.out.trans HC8.out (by simp)).below (Nat.le_refl _) (by simp)⟩

end Go.Proofs.Ytofnpcfclcfgfaa
