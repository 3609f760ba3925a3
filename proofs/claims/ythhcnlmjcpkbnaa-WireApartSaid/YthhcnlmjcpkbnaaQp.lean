/- project's part: the schema of the fields that are kept. -/
import Derived.Test.YthhcnlmjcpkbnaaQt
import Derived.Test.YthhcnlmjcpkbnaaA8
namespace Go.Proofs.Ythhcnlmjcpkbnaa
open Go.RowKit
set_option linter.unusedVariables false

/-- How many of some fields are kept. -/
def cntK (κ : Nat → Bool) (ks : List Int) : Nat := (ks.filter fun x => κ x.toNat).length

theorem cntK_snoc (κ : Nat → Bool) (ks : List Int) (m : Nat) (x : Int) (h : ks[m]? = some x) : cntK κ (ks.take (m + 1)) = cntK κ (ks.take m) + (if κ x.toNat then 1 else 0) := by
  unfold cntK
  rw [List.take_add_one, h]
  simp only [Option.toList_some, List.filter_append, List.length_append]
  cases hx : κ x.toNat <;> simp [hx]

theorem cntK_le (κ : Nat → Bool) (ks : List Int) : cntK κ ks ≤ ks.length := List.length_filter_le _ _

/-- Field j as it is in the part. -/
def pfK (l : List F) (κ : Nat → Bool) (j : Nat) : F := { l.getD j default with c := (cntK κ (kidsOf l j) : Int) }

/-- The fields ahead of i that are kept. -/
def partTo (l : List F) (κ : Nat → Bool) (i : Nat) : List F := ((List.range i).filter κ).map (pfK l κ)

theorem partTo_len (l : List F) (κ : Nat → Bool) (i : Nat) : (partTo l κ i).length ≤ i := by
  unfold partTo
  rw [List.length_map]
  exact Nat.le_trans (List.length_filter_le _ _) (by simp)

theorem partTo_succ (l : List F) (κ : Nat → Bool) (i : Nat) : partTo l κ (i + 1) = if κ i then partTo l κ i ++ [pfK l κ i] else partTo l κ i := by
  unfold partTo
  rw [List.range_succ, List.filter_append, List.map_append]
  split
  · rename_i h; simp [h]
  · rename_i h; simp [h]

set_option maxRecDepth 100000 in
set_option maxHeartbeats 2000000 in
theorem part_any (sv : Value) (g gk n : Nat) (κ : Nat → Bool) (l : List F) (w : World) (hS : SeenF w sv l) (hK : KidsM w g l) (hB : BlkK w gk n κ) (hn : n = l.length) (hn1 : n ≤ 1000) (hnm : ∀ f ∈ l, f.n.size ≤ 1000) :
    Calls Try.prog 58 #[sv, .slice (some ⟨g, 0, none⟩) n n, .slice (some ⟨gk, 0, none⟩) n n] w fun e w' => ∃ pv, e = .returned pv ∧ SeenF w' pv (partTo l κ n) ∧ Chg [] w w' := by
  obtain ⟨i0, hi, hz0, hz1, hz2⟩ := info_field
  obtain ⟨ao, cap, rfl, hc1, hc2⟩ := hS.shape
  have HS := Lib.hid hS; have HK := Lib.hid hK; have HB := Lib.hid hB; have HNM := Lib.hid hnm
  clear hS hK hB hnm
  rw [← hn] at hc1 HS ⊢
  have HN := Lib.hid hn
  clear hn
  have hnx : n ≤ maxLen := by unfold maxLen; omega
  go_enter Try.func58, Try.ntmps58
  go_wp2
  go_loopw [6, 13] (fun pv x w' => ∃ i : Nat, x = .int .i64 (i : Int) ∧ i ≤ n ∧ w'.ownsRow w.heap.size 78 4 pv (partTo l κ i).length ((partTo l κ i).flatMap F.cs) ∧ Chg [] w w') (fun _ x _ => n - (intOf x).toNat)
  case atStart => exact ⟨0, rfl, Nat.zero_le _, ⟨rfl, .inl ⟨rfl, rfl⟩⟩, Chg.refl _ _⟩
  case round =>
    obtain ⟨i, rfl, hin, hO, hC⟩ := hrel
    obtain ⟨m, hm⟩ : ∃ m, m = (partTo l κ i).length := ⟨_, rfl⟩
    obtain ⟨Y, hY⟩ : ∃ Y, Y = (partTo l κ i).flatMap F.cs := ⟨_, rfl⟩
    have hml : m ≤ i := by rw [hm]; exact partTo_len _ _ _
    rw [← hm, ← hY] at hO
    obtain ⟨pa, pc, rfl⟩ := own_shape hO
    have HO := Lib.hid hO; have HC := Lib.hid hC; have HM := Lib.hid hm; have HY := Lib.hid hY
    clear hO hC hm hY
    by_cases hlt : i < n
    · obtain ⟨gs, off, rfl, hcs⟩ := SeenF.get (HS.out.keep HC.out) (by omega) HN.out.symm
      obtain ⟨a1, a2, a3, a4⟩ := hcs i hlt
      obtain ⟨f, hf⟩ : ∃ f, f = l.getD i default := ⟨_, rfl⟩
      rw [← hf] at a1 a2 a3 a4
      have HF := Lib.hid hf
      have hfn : f.n.size ≤ 1000 := HNM.out f (by rw [HF.out, List.getD, List.getElem?_eq_getElem (by rw [← HN.out]; exact hlt)]; exact List.getElem_mem _)
      have hkc := (HB.out.chg HC.out (by simp)).cell hlt
      have hgk : gk < wr.heap.size := (HB.out.chg HC.out (by simp)).lt
      have hgk2 : ¬ gk = wr.heap.size := by omega
      clear hf hcs
      cases hki : κ i
      case false =>
        rw [hki] at hkc
        have E := Lib.hid (show partTo l κ (i + 1) = partTo l κ i by rw [partTo_succ, hki]; rfl)
        go_wp2
        go_roundw
        case rel => exact ⟨i + 1, by go_num, by omega, by rw [E.out, ← HM.out, ← HY.out]; exact HO.out.alloc _, HC.out.alloc _⟩
        case measure => simp [intOf]; omega
      case true =>
        rw [hki] at hkc
        have E := Lib.hid (show partTo l κ (i + 1) = partTo l κ i ++ [pfK l κ i] by rw [partTo_succ, hki]; rfl)
        go_wp2_with fail
        obtain ⟨b, hbd⟩ : ∃ b, b = wr.heap.size := ⟨_, rfl⟩
        have HOB := Lib.hid (show ∀ q, (Value.slice pa m pc).ownBlock = some q → q < b from fun q hq => by rw [hbd]; exact own_lt HO.out q hq)
        have HBW := Lib.hid (show w.heap.size ≤ b by rw [hbd]; exact HC.out.size)
        (with_reducible refine (clone_any f.n _ (by omega)).mono ?_)
        rintro e W2 ⟨rfl, hk2⟩
        have hb2 : W2.heap[b]? = some (.cells #[.string f.n, .int .i64 f.r, .int .i64 f.k, .int .i64 f.c] 78 (0, 0)) := hk2.heap (by rw [hbd]; exact hl_new rfl) (by simp)
        have HC2 := Lib.hid ((HC.out.alloc _).trans hk2 (by simp))
        have HO2 := Lib.hid (own_chg (HO.out.alloc _) hk2 (by simp))
        rw [← hbd]
        clear hk2 hbd a1 a2 a3 a4 hkc hgk hgk2
        have hf0 : W2.frozen? ⟨b, 0, none⟩ = false := by simp [World.frozen?, hb2]
        have hf3 : W2.frozen? ⟨b, 3, none⟩ = false := by simp [World.frozen?, hb2]
        have hx0 : W2.cell? ⟨b, 0, none⟩ = some (.string f.n) := by simp [World.cell?, hb2]
        have hx3 : W2.cell? ⟨b, 3, none⟩ = some (.int .i64 f.c) := by simp [World.cell?, hb2]
        have HB2 := Lib.hid hb2
        clear hb2
        go_upto_region 7 with fail
        have hb3 : ((W2.setCell ⟨b, 0, none⟩ (.string f.n)).setCell ⟨b, 3, none⟩ (.int .i64 0)).heap[b]? = some (.cells #[.string f.n, .int .i64 f.r, .int .i64 f.k, .int .i64 0] 78 (0, 0)) := by
          rw [heap_set (heap_set HB2.out _)]; rfl
        have hcb : Chg [b] W2 ((W2.setCell ⟨b, 0, none⟩ (.string f.n)).setCell ⟨b, 3, none⟩ (.int .i64 0)) := ((Chg.refl [b] W2).setCell (by simp) _).setCell (by simp) _
        have HC3 := Lib.hid (HC2.out.trans hcb (by simpa using HBW.out))
        have HO3 := Lib.hid (own_chg HO2.out hcb (fun q hq => by have := HOB.out q hq; simp; omega))
        generalize (W2.setCell ⟨b, 0, none⟩ (.string f.n)).setCell ⟨b, 3, none⟩ (.int .i64 0) = W3 at hb3 HC3 HO3 ⊢
        have HB3 := Lib.hid hb3
        clear hcb hb3 hf0 hf3 hx0 hx3 HB2
        obtain ⟨kv, hkw, hks⟩ := HK.out.at (j := i) (by rw [← HN.out]; exact hlt)
        obtain ⟨K, hKd⟩ : ∃ K, K = kidsOf l (i : Int) := ⟨_, rfl⟩
        rw [← hKd] at hks
        have hKl : K.length ≤ n := by rw [hKd, HN.out]; exact kidsU_len _ _ _
        have HKR := Lib.hid (show ∀ x ∈ K, 0 ≤ x ∧ x < n from fun x hx => by rw [hKd] at hx; have := kidsOf_mem hx; rw [HN.out]; exact this)
        obtain ⟨ka, kcap, rfl, hk1, hk2⟩ := hks.shape
        obtain ⟨M, hMd⟩ : ∃ M, M = K.length := ⟨_, rfl⟩
        rw [← hMd] at hks hk1 hKl hkw
        have hkv := HC3.out.cell hkw (by simp)
        have HKS := Lib.hid hks; have HKD := Lib.hid hKd; have HMD := Lib.hid hMd
        clear hks hKd hMd hkw
        go_wp2
        go_loopw [33] (fun x w' => ∃ k : Nat, x = .int .i64 (k : Int) ∧ k ≤ M ∧ w'.heap[b]? = some (.cells #[.string f.n, .int .i64 f.r, .int .i64 f.k, .int .i64 (cntK κ (K.take k) : Nat)] 78 (0, 0)) ∧ Chg [b] W3 w') (fun x _ => M - (intOf x).toNat)
        case atStart => exact ⟨0, rfl, Nat.zero_le _, by simpa [cntK] using HB3.out, Chg.refl _ _⟩
        case round =>
          obtain ⟨k, rfl, hkM, hbx, hcx⟩ := hrel
          have HCX := Lib.hid (HC3.out.trans hcx (by simpa using HBW.out))
          have HO4 := Lib.hid (own_chg HO3.out hcx (fun q hq => by have := HOB.out q hq; simp; omega))
          have HBX := Lib.hid hbx; have HBC := Lib.hid hcx
          have hcnt : cntK κ (K.take k) ≤ n := Nat.le_trans (cntK_le _ _) (by rw [List.length_take]; omega)
          obtain ⟨c, hc⟩ : ∃ c, c = cntK κ (K.take k) := ⟨_, rfl⟩
          rw [← hc] at hbx hcnt
          have HCD := Lib.hid hc
          have hc0 : wr.cell? ⟨b, 0, none⟩ = some (.string f.n) := by simp [World.cell?, hbx]
          have hc1' : wr.cell? ⟨b, 1, none⟩ = some (.int .i64 f.r) := by simp [World.cell?, hbx]
          have hc2' : wr.cell? ⟨b, 2, none⟩ = some (.int .i64 f.k) := by simp [World.cell?, hbx]
          have hc3' : wr.cell? ⟨b, 3, none⟩ = some (.int .i64 (c : Int)) := by simp [World.cell?, hbx]
          have hf3 : wr.frozen? ⟨b, 3, none⟩ = false := by simp [World.frozen?, hbx]
          clear hbx hcx hc
          by_cases hkl : k < M
          · obtain ⟨x, hx⟩ : ∃ x, K[k]? = some x := ⟨_, List.getElem?_eq_getElem (by rw [← HMD.out]; exact hkl)⟩
            obtain ⟨gx, offx, rfl, hcx⟩ := SeenI.get (HKS.out.keep HCX.out) (by omega) HMD.out.symm
            have hxc := hcx k hkl
            rw [List.getD, hx, Option.getD_some] at hxc
            obtain ⟨hx0, hx1⟩ := HKR.out x (List.mem_of_getElem? hx)
            obtain ⟨y, rfl⟩ : ∃ y : Nat, x = y := ⟨x.toNat, by omega⟩
            have hyn : y < n := by omega
            have hkc := (HB.out.chg HCX.out (by simp)).cell hyn
            have HX := Lib.hid hx
            clear hcx hx hx0 hx1
            cases hky : κ y
            case false =>
              rw [hky] at hkc
              have E2 := Lib.hid (show cntK κ (K.take (k + 1)) = c by rw [cntK_snoc κ K k _ HX.out, ← HCD.out]; simp [hky])
              go_wp2
              go_roundw
              case rel => exact ⟨k + 1, by go_num, by omega, by rw [E2.out, HCD.out]; exact HBX.out, HBC.out⟩
              case measure => simp [intOf]; omega
            case true =>
              rw [hky] at hkc
              have E2 := Lib.hid (show cntK κ (K.take (k + 1)) = c + 1 by rw [cntK_snoc κ K k _ HX.out, ← HCD.out]; simp [hky])
              go_wp2
              go_roundw
              case rel => exact ⟨k + 1, by go_num, by omega, by rw [E2.out, heap_set HBX.out]; rfl, HBC.out.setCell (by simp) _⟩
              case measure => simp [intOf]; omega
          · have hke : K.take k = K := List.take_of_length_le (by rw [← HMD.out]; omega)
            have HFE := Lib.hid (show F.cs (pfK l κ i) = [.string f.n, .int .i64 f.r, .int .i64 f.k, .int .i64 (c : Int)] by
              unfold pfK F.cs
              rw [← HKD.out, ← HF.out, HCD.out, hke])
            have HM2 := Lib.hid (show m + 1 ≤ maxLen by unfold maxLen; omega)
            have HM3 := Lib.hid (show (m + 1) * 40 ≤ 140737488355328 by omega)
            have HBZ := Lib.hid (show w.heap.size ≤ wr.heap.size from HCX.out.size)
            clear hke
            go_wp2_with (first
              | (at_builtin; refine wpList_append_at _ rfl (.tmp 46) (.tmp 48) _ rfl w.heap.size 78 i0 (.agg #[.string ByteArray.empty, .int .i64 0, .int .i64 0, .int .i64 0]) 4 40 Try.underlying26 hi hz0 hz1 hz2 rfl (by omega) (.slice pa m pc) m Y rfl (HO4.out.alloc _) ⟨wr.heap.size, 0, none⟩ 1 1 (F.cs (pfK l κ i)) rfl rfl (by rw [HFE.out]; exact new_cells (C := #[.string f.n, .int .i64 f.r, .int .i64 f.k, .int .i64 (c : Int)]) _ rfl) (F.one _) HM2.out HM3.out (le_alloc HBZ.out _) ?_; intro v2 w2 hown2 hg2 hat2; obtain ⟨a2, c2', rfl⟩ := own_shape hown2; have HO5 := Lib.hid hown2; have HG2 := Lib.hid hg2; clear hown2 hg2 hat2)
              | fail)
            go_roundw
            case rel =>
              refine ⟨i + 1, by go_num, by omega, ?_, (HCX.out.alloc _).grown HG2.out (fun q hq => .inr (own_ge HO.out q hq))⟩
              rw [E.out, List.length_append, List.flatMap_append, ← HM.out, ← HY.out]
              simpa using HO5.out
            case measure => simp [intOf]; omega
    · have hie : i = n := by omega
      subst hie
      go_wp2
      go_ret
      exact ⟨_, rfl, SeenF.own (by rw [← HY.out]; exact HO.out) HM.out.symm, HC.out⟩

end Go.Proofs.Ythhcnlmjcpkbnaa
