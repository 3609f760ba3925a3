/- tree's kids: of each field which ones are in it, in order. -/
import Derived.Test.YthhcnlmjcpkbnaaQk
namespace Go.Proofs.Ythhcnlmjcpkbnaa
open Go.RowKit
set_option linter.unusedVariables false

set_option maxRecDepth 100000 in
set_option maxHeartbeats 1000000 in
theorem tkids_any (sv : Value) (l : List F) (w : World) (hS : SeenF w sv l) (hl : l.length ≤ 1000) (hw : ∀ f ∈ l, f.c ≤ 9223372036854775807) :
    Calls Try.prog 71 #[sv] w fun e w' => e = .returned (.slice (some ⟨w.heap.size, 0, none⟩) l.length l.length) ∧ KidsM w' w.heap.size l ∧ Chg [] w w' := by
  obtain ⟨i0, hi, hz0, hz1, hz2⟩ := info_int
  obtain ⟨i1, ji, jz0, jz1, jz2⟩ := info_ints
  obtain ⟨ao, cap, rfl, hc1, hc2⟩ := hS.shape
  have HS := Lib.hid hS; have HW := Lib.hid hw
  clear hS hw
  obtain ⟨n, hn⟩ : ∃ n, n = l.length := ⟨_, rfl⟩
  rw [← hn] at hc1 hl HS ⊢
  have HN := Lib.hid hn
  clear hn
  have hnm : n ≤ maxLen := by unfold maxLen; omega
  go_enter Try.func71, Try.ntmps71
  go_wp2_with (at_make; refine wpList_make_full _ rfl _ _ 65 rfl w.heap.size 22 i1 nilS 1 Try.underlying65 ji jz0 jz1 .i64 .i64 _ _ n rfl rfl rfl rfl ?c1 ?c2 (Nat.le_refl _) ?_)
  case c1 => rw [jz2]; omega
  case c2 => exact hnm
  intro w1 hown1 hg1
  have hlt1 : w.heap.size < w1.heap.size := (hown1.lt w.heap.size rfl).2
  rw [cells_zeros] at hown1
  have HB1 := Lib.hid (blk_of_own hown1 rfl)
  have HC1 := Lib.hid ((Chg.refl [] w).grown hg1 (by simp))
  clear hown1 hg1
  go_wp2_with fail
  (with_reducible refine (parents_any _ l w1 (HS.out.keep HC1.out) (by rw [← HN.out]; omega) HW.out).mono ?_)
  rw [← HN.out]
  rintro e w2 ⟨rfl, hb2, hk2⟩
  have HP2 := Lib.hid hb2; have HC12 := Lib.hid hk2
  clear hb2 hk2
  go_wp2
  obtain ⟨gp, hgp⟩ : ∃ gp, gp = w1.heap.size := ⟨_, rfl⟩
  rw [← hgp] at HP2 hlt1 ⊢
  clear hgp
  have HPL := Lib.hid (parents_length l)
  go_loopw [12] (fun x w' => ∃ (i : Nat) (R : List Value), x = .int .i64 (i : Int) ∧ i ≤ n ∧ KJ l w w' w.heap.size gp i R) (fun x _ => n - (intOf x).toNat)
  case atStart =>
    refine ⟨0, List.replicate n nilS, rfl, Nat.zero_le _, ⟨by simp [HN.out], Nat.le_refl _, HC12.out.heap HB1.out (by simp), HC1.out.trans HC12.out (by simp), fun j hj => ?_, fun j k _ _ _ => ?_, fun j hj => ?_, fun j hj => ?_, HP2.out, by omega⟩⟩
    · have e : (List.replicate n nilS).getD j nilS = nilS := by simp [List.getD, List.getElem?_replicate]; split <;> rfl
      rw [e]
      exact World.ownsRow_nil _ _ _ _
    · have e : (List.replicate n nilS).getD j nilS = nilS := by simp [List.getD, List.getElem?_replicate]; split <;> rfl
      rw [e]
      exact Sep.nil _
    · have e : (List.replicate n nilS).getD j nilS = nilS := by simp [List.getD, List.getElem?_replicate]; split <;> rfl
      rw [e]
      simp [Value.ownBlock]
    · have e : (List.replicate n nilS).getD j nilS = nilS := by simp [List.getD, List.getElem?_replicate]; split <;> rfl
      rw [e]
      simp [Value.ownBlock]
  case round =>
    obtain ⟨i, R, rfl, hin, hJ⟩ := hrel
    have HJ := Lib.hid hJ
    clear hJ
    by_cases hlt : i < n
    · obtain ⟨p, hp⟩ : ∃ p, (parents l)[i]? = some p := ⟨_, List.getElem?_eq_getElem (by rw [HPL.out, ← HN.out]; exact hlt)⟩
      have hpr := parents_lt hp
      have hpc : wr.cell? ⟨gp, i, none⟩ = some (.int .i64 p) := HJ.out.bp.cell hp
      have HPD := Lib.hid (show (parents l).getD i 0 = p by rw [List.getD, hp]; rfl)
      clear hp
      by_cases hp1 : p = -1
      · subst hp1
        clear hpr
        go_wp2
        go_roundw
        case rel => exact ⟨i + 1, R, by go_num, by omega, HJ.out.skip HPD.out (Chg.refl [] _)⟩
        case measure => simp [intOf]; omega
      · have hq : 0 ≤ p ∧ p < i := by
          rcases hpr with h | h
          · contradiction
          · exact h
        clear hpr
        obtain ⟨q, rfl⟩ : ∃ q : Nat, p = q := ⟨p.toNat, by omega⟩
        have hql : q < l.length := by rw [← HN.out]; omega
        have hn1 : ((q : Int) != -1) = true := by simp
        obtain ⟨v, hv⟩ : ∃ v, v = R.getD q nilS := ⟨_, rfl⟩
        have hvc : wr.cell? ⟨w.heap.size, q, none⟩ = some v := by
          rw [cell_of_row wr w.heap.size q _ _ _ HJ.out.bl, hv, List.getD]
          have : q < R.length := by rw [HJ.out.lr]; exact hql
          simp [List.getElem?_eq_getElem this]
        have hown := HJ.out.ow q hql
        rw [← hv] at hown
        obtain ⟨K, hK⟩ : ∃ K, K = kidsU (parents l) i q := ⟨_, rfl⟩
        rw [← hK] at hown
        have hKl : K.length ≤ i := by rw [hK]; exact kidsU_len _ _ _
        obtain ⟨m, hm⟩ : ∃ m, m = K.length := ⟨_, rfl⟩
        rw [← hm] at hown hKl
        have HK := Lib.hid hK; have HM := Lib.hid hm; have HV := Lib.hid hv
        obtain ⟨va, vc, rfl⟩ := own_shape hown
        have HOW := Lib.hid hown
        have HM2 := Lib.hid (show m + 1 ≤ maxLen by unfold maxLen; omega)
        have HM3 := Lib.hid (show (m + 1) * 8 ≤ 140737488355328 by omega)
        have HBZ := Lib.hid (show w.heap.size ≤ wr.heap.size from HJ.out.cg.size)
        have hfr : wr.frozen? ⟨w.heap.size, q, none⟩ = false := by simp [World.frozen?, HJ.out.bl]
        have HF2 := Lib.hid (show ∀ wx, (wr.alloc (.cells #[.int .i64 (i : Int)] 3)).grownBy wx (Value.slice va m vc).ownBlock → wx.frozen? ⟨w.heap.size, q, none⟩ = false ∧ wx.cell? ⟨w.heap.size, q, none⟩ = some (.slice va m vc) from fun wx hg => by
          have h1 : (wr.alloc (.cells #[.int .i64 (i : Int)] 3)).heap[w.heap.size]? = some (.cells R.toArray 22 (0, 0)) := ((Chg.refl [] wr).alloc _).heap HJ.out.bl (by simp)
          have h2 := (hg.block w.heap.size (Go.lt_of_block h1) (fun e => HJ.out.ne q hql (by rw [← HV.out]; exact e.symm))).trans h1
          refine ⟨by simp [World.frozen?, h2], ?_⟩
          rw [cell_of_row wx w.heap.size q _ _ _ h2, HV.out, List.getD]
          have : q < R.length := by rw [HJ.out.lr]; exact hql
          simp [List.getElem?_eq_getElem this])
        clear hK hm hv hown hp1
        go_wp2_with (first
          | (at_builtin; refine wpList_append_at _ rfl (.tmp 24) (.tmp 26) _ rfl w.heap.size 3 i0 (.int .i64 0) 1 8 Try.underlying22 hi hz0 hz1 hz2 rfl (by omega) (.slice va m vc) m (iv K) rfl (HOW.out.alloc _) ⟨wr.heap.size, 0, none⟩ 1 1 [.int .i64 (i : Int)] rfl rfl new_cell (by simp [Value.oneCell']) HM2.out HM3.out (by simp; have := HBZ.out; omega) ?_; intro v2 w2' hown2 hg2 hat2; obtain ⟨va2, vc2, rfl⟩ := own_shape hown2; obtain ⟨hfr2, hcl2⟩ := HF2.out _ hg2; have HO2 := Lib.hid hown2; have HG2 := Lib.hid hg2; have HA2 := Lib.hid hat2; clear hown2 hg2 hat2)
          | fail)
        go_roundw
        case rel =>
          have hK2 := KJ.put HJ.out HPD.out hql ((Chg.refl [] wr).alloc _) (v := .slice va2 (m + 1) vc2) (by rw [← HK.out, ← HM.out]; exact HO2.out) (by rw [← HV.out]; exact HG2.out) (by rw [← HV.out]; exact HA2.out) rfl
          exact ⟨i + 1, _, by go_num, by omega, hK2⟩
        case measure => simp [intOf]; omega
    · have e : i = n := by omega
      subst e
      go_wp2
      go_ret
      exact ⟨rfl, by have h := HJ.out; rw [HN.out] at h; exact h.out, HJ.out.cg⟩

end Go.Proofs.Ythhcnlmjcpkbnaa
