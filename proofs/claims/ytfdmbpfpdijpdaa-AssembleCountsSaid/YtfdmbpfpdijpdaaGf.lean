/- Contract of fsm.Next; the statements' known. -/
import Derived.Test.YtfdmbpfpdijpdaaGe
namespace Go.Proofs.Ytfdmbpfpdijpdaa
open Go.RowKit
set_option linter.unusedVariables false
set_option linter.unusedSimpArgs false

/-- Numbers as integers. -/
def zn (l : List Nat) : List Int := l.map fun (n : Nat) => (n : Int)
@[simp] theorem zn_length (l : List Nat) : (zn l).length = l.length := by simp [zn]
theorem iv_zn (l : List Nat) : iv (zn l) = nv .i64 l := by simp [iv, zn, nv]

theorem BlkI.seenN {w : World} {g : Nat} {l : List Nat} (h : BlkI w g (zn l)) (hm : l.length ≤ maxLen) : Seen w (.slice (some ⟨g, 0, none⟩) l.length l.length) (nv .i64 l) := by
  refine .inr ⟨⟨g, 0, none⟩, l.length, by rw [nv_length], by rw [nv_length]; exact Nat.le_refl _, hm, fun j u hu => ?_⟩
  rw [addr_add, Nat.zero_add, cell_of_row w g j _ _ _ h]
  rw [iv_zn]
  simpa using hu

theorem nxRow_length (T : List (List Nat)) (i : Nat) : (nxRow T i).length = (T.getD i []).length + 1 := by simp [nxRow]

set_option maxRecDepth 100000 in
set_option maxHeartbeats 2000000 in
theorem next_any (sv : Value) (l : List F) (w : World) (hS : SeenF w sv l) (hch : chk l = 0) (hw : ∀ f ∈ l, f.c ≤ 9223372036854775807) (hnm : ∀ f ∈ l, f.n.size ≤ 1000000) :
    Calls Try.prog 28 #[sv] w fun e w' => ∃ v, e = .returned v ∧ RowsN .i64 w' v (nextL (trs l)) ∧ Chg [] w w' := by
  obtain ⟨i0, hi, hz0, hz1, hz2⟩ := info_int
  obtain ⟨i1, hi1, hy0, hy1, hy2⟩ := info_ints
  have HT := Lib.hid (trailsOf_any sv l w hS hch hw hnm)
  have hN40 : (trs l).length ≤ 40 := by have h := leavesTo_le l l.length; have := chk_len hch; rw [trs_length]; unfold leavesL; omega
  have hT40 : ∀ j, ((trs l).getD j []).length ≤ 40 := by
    intro j
    have hl := chk_len hch
    by_cases hj : j < (trs l).length
    · obtain ⟨lf, hlf⟩ : ∃ lf, (leavesL l)[j]? = some lf := ⟨_, List.getElem?_eq_getElem (by rwa [trs_length] at hj)⟩
      obtain ⟨i, hin, hfi, -⟩ := leaf_at l l.length lf (List.mem_of_getElem? hlf)
      have e : (trs l).getD j [] = trF l i := by simp [List.getD, trs, hlf, hfi]
      rw [e]
      have h := trF_len l i
      have hb := cntL_bound (repB l) (parents l) (fun j x => parents_lt) l.length (by simp)
      rw [show (parents l).take l.length = parents l by rw [List.take_of_length_le (by simp)]] at hb
      have hx : (rls l)[i]? = some ((rls l).getD i 0) := by rw [List.getD, List.getElem?_eq_getElem (by simpa using hin)]; rfl
      have := hb i _ hx
      omega
    · rw [List.getD, List.getElem?_eq_none (by omega)]; simp
  obtain ⟨T, hTT⟩ : ∃ T, T = trs l := ⟨_, rfl⟩
  rw [← hTT] at HT hN40 hT40 ⊢
  obtain ⟨ao, cap, rfl, h1, h2⟩ := hS.shape
  clear hS hch hw hnm h1 hTT
  obtain ⟨n, hn⟩ : ∃ n, n = l.length := ⟨_, rfl⟩
  rw [← hn] at HT ⊢
  clear hn
  obtain ⟨N, hNN⟩ : ∃ N, N = T.length := ⟨_, rfl⟩
  rw [← hNN] at hN40
  have HN := Lib.hid hNN
  have H40 := Lib.hid hT40
  clear hNN hT40
  go_enter Try.func28, Try.ntmps28
  go_wp2_with fail
  refine HT.out.mono ?_
  rintro e w1 ⟨tv, rfl, hr, hk⟩
  obtain ⟨tto, tc, rfl, ht1, ht2⟩ := hr.shape
  rw [List.length_map, ← HN.out] at hr ht1 ⊢
  have HR := Lib.hid hr; have HK1 := Lib.hid hk
  clear hr hk
  go_wp2_with fail
  refine (commons_any _ T w1 HR.out).mono ?_
  rintro e w2 ⟨Bt, Bf, rfl, hj, hk⟩
  have HJ := Lib.hid hj; have HK2 := Lib.hid (HK1.out.trans hk (by simp)); have HR2 := Lib.hid (HR.out.keep hk)
  clear hj hk
  go_wp2
  go_loopw [2, 15] (fun lv x w' => ∃ (k : Nat) (G : List Nat), x = .int .i64 (k : Int) ∧ k ≤ N ∧ Chg [] w2 w' ∧ G.length = k ∧ w'.ownsRow w2.heap.size 22 1 lv k ((List.range k).map fun j => .slice (some ⟨G.getD j 0, 0, none⟩) (nxRow T j).length (nxRow T j).length) ∧ ∀ j, j < k → BlkI w' (G.getD j 0) (zn (nxRow T j))) (fun _ x _ => N - (intOf x).toNat)
  case atStart => exact ⟨0, [], rfl, Nat.zero_le _, Chg.refl _ _, rfl, ⟨rfl, .inl ⟨rfl, rfl⟩⟩, by simp⟩
  case round =>
    obtain ⟨k, G, rfl, hkN, hc, hG, ho, hbs⟩ := hrel
    obtain ⟨wq, rfl⟩ : ∃ wq, wq = wr := ⟨_, rfl⟩
    obtain ⟨lo, lc, rfl⟩ := own_shape ho
    have HC := Lib.hid hc; have HO := Lib.hid ho; have HBS := Lib.hid hbs; have HGL := Lib.hid hG
    clear hc ho hbs hG
    by_cases hlt : k < N
    · obtain ⟨tg, toff, rfl, hat⟩ := HR2.out.get (by omega) (by rw [List.length_map, ← HN.out])
      obtain ⟨xo, xc, x1, x2, x3, x4⟩ := hat k hlt
      have eT : ((T.map rn).getD k []).length = (T.getD k []).length := by simp [List.getD, List.getElem?_eq_getElem (show k < T.length by rw [← HN.out]; exact hlt)]
      rw [eT] at x1 x2
      obtain ⟨m, hm⟩ : ∃ m, m = (T.getD k []).length := ⟨_, rfl⟩
      rw [← hm] at x1 x2
      have hm40 : m ≤ 40 := by rw [hm]; exact H40.out k
      have y1 := HC.out.cell x1 (by simp)
      have HM := Lib.hid hm
      clear hat x1 x3 x4 eT hm
      go_wp2_with (at_make; refine wpList_make_full _ rfl _ _ 22 rfl wq.heap.size 3 i0 (.int .i64 0) 1 Try.underlying22 hi hz0 hz1 .i64 .i64 _ _ (m + 1) rfl rfl rfl rfl ?c1 ?c2 (Nat.le_refl _) ?_)
      case c1 => rw [hz2]; omega
      case c2 => unfold maxLen; omega
      intro w3 hown1 hg1
      obtain ⟨g, hg⟩ : ∃ g, g = wq.heap.size := ⟨_, rfl⟩
      rw [← hg] at hown1 ⊢
      rw [cells_zeroi] at hown1
      have HBK := Lib.hid (blkI_of_own hown1 rfl)
      have HC3 := Lib.hid (HC.out.grown hg1 (by simp))
      have HWR := Lib.hid ((Chg.refl [] wq).grown hg1 (by simp))
      have HG := Lib.hid hg
      clear hown1 hg1 hg
      go_wp2
      go_loopw [26] (fun y w' => ∃ r : Nat, y = .int .i64 (r : Int) ∧ r ≤ m + 1 ∧ Chg [g] w3 w' ∧ BlkI w' g (zn ((List.range r).map (aft T k)) ++ List.replicate (m + 1 - r) 0)) (fun y _ => m + 1 - (intOf y).toNat)
      case atStart => exact ⟨0, rfl, Nat.zero_le _, Chg.refl _ _, by simpa [zn] using HBK.out⟩
      case round =>
        obtain ⟨r, rfl, hrm, hcx, hbx⟩ := hrel
        have HCX := Lib.hid hcx; have HBX := Lib.hid hbx
        have hgw : w2.heap.size ≤ g := by rw [HG.out]; exact HC.out.size
        have HCZ := Lib.hid (HC3.out.trans hcx (fun t ht => .inr (by simp at ht; omega)))
        clear hcx hbx
        by_cases hrl : r < m + 1
        · have j1 : (r : Int) < (m : Int) + 1 := by omega
          go_wp2_with fail
          refine (after_any Bt Bf T k r _ (HJ.out.keep HCZ.out) (by rw [← HN.out]; exact hlt) (by rw [← HM.out]; omega) (by rw [← HN.out]; omega)).mono ?_
          rintro e w4 ⟨rfl, hk⟩
          have HK := Lib.hid hk
          have HB4 := Lib.hid (HBX.out.chg hk (by simp))
          have hcell : w4.cell? ⟨g, r, none⟩ = some (.int .i64 0) := HB4.out.cell (by rw [List.getElem?_append_right (by simp), zn_length, List.length_map, List.length_range, Nat.sub_self, rep_split (m + 1) r hrl]; rfl)
          have hfz : w4.frozen? ⟨g, r, none⟩ = false := HB4.out.frozen r
          clear hk
          go_wp2
          go_roundw
          case rel =>
            refine ⟨r + 1, by go_num, by omega, (HCX.out.trans HK.out (by simp)).setCell (p := ⟨g, r, none⟩) (by simp) _, ?_⟩
            have h := HB4.out.set r (aft T k r : Nat)
            rw [set_at (by simp) hrl] at h
            rw [List.range_succ, List.map_append]
            simpa [zn] using h
          case measure => simp [intOf]; omega
        · have j1 : ¬ ((r : Int) < (m : Int) + 1) := by omega
          have er : r = m + 1 := by omega
          have HBY := Lib.hid (show BlkI wr g (zn (nxRow T k)) by
            have h := HBX.out
            rw [er, Nat.sub_self, List.replicate_zero, List.append_nil] at h
            unfold nxRow; rw [← HM.out]; exact h)
          clear er
          have HM2 := Lib.hid (show k + 1 ≤ maxLen by unfold maxLen; omega)
          have HM3 := Lib.hid (show (k + 1) * 24 ≤ 140737488355328 by omega)
          have HOB := Lib.hid (own_chg (own_chg HO.out HWR.out (by simp)) HCX.out (fun q hq hm => by have := (HO.out.lt q hq).2; have := HG.out; simp at hm; omega))
          have HBX2 := Lib.hid HCZ.out.size
          have HTG := Lib.hid (tagged_of_own HOB.out)
          go_wp2_with (first
            | (at_builtin; refine wpList_append_at _ rfl (.tmp 37) (.tmp 39) _ rfl w2.heap.size 22 i1 (.slice none 0 0) 1 24 Try.underlying23 hi1 hy0 hy1 hy2 rfl (by omega) (.slice lo k lc) k _ rfl (HOB.out.alloc _) ⟨wr.heap.size, 0, none⟩ 1 1 [.slice (some ⟨g, 0, none⟩) (m + 1) (m + 1)] rfl rfl (new_cells (C := #[.slice (some ⟨g, 0, none⟩) (m + 1) (m + 1)]) _ (by simp)) (by simp [Value.oneCell']) HM2.out HM3.out (le_alloc HBX2.out _) ?_; intro v2 w6 hown2 hg2 hat2; obtain ⟨a4, c4, rfl⟩ := own_shape hown2; have HO2 := Lib.hid hown2; have HC6 := Lib.hid ((HCZ.out.alloc _).grown hg2 (fun k hk => .inr (own_ge HO.out k hk))); have HS6 := Lib.hid (((Chg.refl (Value.slice lo k lc).ownBlock.toList wr).alloc _).grown hg2 (fun q hq => .inl (by simp [← hq]))); clear hown2 hg2 hat2)
            | fail)
          go_roundw
          case rel =>
            have hne : ∀ (q : Nat) (L : List Nat), BlkI wr q (zn L) → q ∉ (Value.slice lo k lc).ownBlock.toList := fun q L hb hm => HTG.out.ne hb (by decide) q (by simpa using hm) rfl
            refine ⟨k + 1, G ++ [g], by go_num, by omega, HC6.out, by rw [List.length_append, HGL.out]; rfl, ?_, fun j hj => ?_⟩
            · have h := HO2.out
              have e : ((List.range (k + 1)).map fun j => Value.slice (some ⟨(G ++ [g]).getD j 0, 0, none⟩) (nxRow T j).length (nxRow T j).length) = ((List.range k).map fun j => Value.slice (some ⟨G.getD j 0, 0, none⟩) (nxRow T j).length (nxRow T j).length) ++ [.slice (some ⟨g, 0, none⟩) (m + 1) (m + 1)] := by
                rw [List.range_succ, List.map_append]
                congr 1
                · apply List.map_congr_left
                  intro j hj
                  rw [List.getD, List.getElem?_append_left (by rw [HGL.out]; simpa using hj)]
                  rfl
                · simp only [List.map_cons, List.map_nil]
                  rw [nxRow_length, ← HM.out, ← HGL.out]
                  simp [List.getD]
              rw [e]; exact h
            · by_cases hjk : j < k
              · have h1 := HBS.out j hjk
                have h2 : BlkI wr (G.getD j 0) (zn (nxRow T j)) := (h1.chg HWR.out (by simp)).chg HCX.out (fun hm => by have h9 := h1.lt; rw [List.mem_singleton] at hm; have := HG.out; omega)
                have e : (G ++ [g]).getD j 0 = G.getD j 0 := getD_left G g j (by rw [HGL.out]; exact hjk)
                rw [e]
                exact h2.chg HS6.out (hne _ _ h2)
              · have e : j = k := by omega
                subst e
                have e : (G ++ [g]).getD j 0 = g := by rw [← HGL.out]; exact getD_last G g
                rw [e]
                exact HBY.out.chg HS6.out (hne _ _ HBY.out)
          case measure => simp [intOf]; omega
    · have ek : k = N := by omega
      have HE := Lib.hid ek
      clear ek
      go_wp2
      go_ret
      refine ⟨_, rfl, ?_, HK2.out.trans HC.out (by simp)⟩
      have hO := HO.out
      have e : nextL T = (List.range k).map (nxRow T) := by unfold nextL; rw [← HN.out, HE.out]
      rw [e]
      refine RowsN.own (n := k) hO (by simp) fun j hj => ?_
      refine ⟨_, by rw [List.getElem?_map, List.getElem?_range hj]; rfl, ?_⟩
      have e2 : ((List.range k).map (nxRow T)).getD j [] = nxRow T j := by simp [List.getD, hj]
      rw [e2]
      exact (HBS.out j hj).seenN (by rw [nxRow_length]; have := H40.out j; unfold maxLen; omega)

/-! ### the statements' known -/

def ex15 : List F := [⟨{ data := #[109] }, 0, 0, 1⟩, ⟨{ data := #[97] }, 0, 1, 0⟩]
theorem ex15_chk : chk ex15 = 0 := by decide +kernel
theorem ex15_next : nextL (trs ex15) = [[1]] := by decide +kernel

set_option maxRecDepth 100000 in
set_option maxHeartbeats 1000000 in
theorem known15_any (w : World) : Calls Try.prog 27 #[] w fun e w' => e = .returned (.bool true) ∧ Chg [] w w' := by
  have HS := Lib.hid (SeenF.lit w w.heap.size rfl 62 #[.string { data := #[109] }, .int .i64 0, .int .i64 0, .int .i64 1, .string { data := #[97] }, .int .i64 0, .int .i64 1, .int .i64 0] ex15 2 rfl rfl (by decide))
  go_enter Try.func27, Try.ntmps27
  go_wp2_with fail
  refine (next_any _ ex15 _ HS.out ex15_chk (by decide) (by decide)).mono ?_
  rintro e w1 ⟨v, rfl, hr, hk⟩
  rw [ex15_next] at hr
  have HK := Lib.hid (((Chg.refl [] w).alloc (.cells #[.string { data := #[109] }, .int .i64 0, .int .i64 0, .int .i64 1, .string { data := #[97] }, .int .i64 0, .int .i64 1, .int .i64 0] 62)).trans hk (by simp))
  obtain ⟨ao, cap, rfl, h1, h2⟩ := hr.shape
  obtain ⟨g, off, rfl, hat⟩ := hr.get (by decide) rfl
  obtain ⟨xo, xc, x1, x2, x3, x4⟩ := hat 0 (by decide)
  obtain ⟨xg, xoff, rfl, hx⟩ := x4.at0 rfl (by decide)
  have c1 := hx 0 (by decide)
  have y1 : w1.cell? ⟨g, off, none⟩ = some (.slice (some ⟨xg, xoff, none⟩) 1 xc) := x1
  have y2 : w1.cell? ⟨xg, xoff, none⟩ = some (.int .i64 1) := c1
  clear hr hk hat x4 hx x1 c1 h1 x2
  go_wp2
  go_ret
  exact ⟨rfl, HK.out⟩

end Go.Proofs.Ytfdmbpfpdijpdaa
