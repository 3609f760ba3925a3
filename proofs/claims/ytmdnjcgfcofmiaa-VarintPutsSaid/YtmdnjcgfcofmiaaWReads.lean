/- The walk of the statement VarintReads. -/
import Derived.Test.YtmdnjcgfcofmiaaWBad
namespace Go.Proofs.Ytmdnjcgfcofmiaa
open Go.RowKit
set_option linter.unusedVariables false

theorem getD_lt {l : List Nat} {m : Nat} (h : ∀ x ∈ l, x < m) (hm : 0 < m) (j : Nat) : l.getD j 0 < m := by
  by_cases hj : j < l.length
  · exact h _ (getD_mem hj)
  · rw [show l.getD j 0 = 0 by simp [List.getD, show l.length ≤ j by omega]]; exact hm

theorem set_lt {l : List Nat} {m c : Nat} (h : ∀ x ∈ l, x < m) (hc : c < m) (j : Nat) : ∀ x ∈ l.set j c, x < m := by
  intro x hx
  rcases List.mem_or_eq_of_mem_set hx with h1 | h1
  · exact h x h1
  · omega

/-- What a round of the statement's second loop finds in its row of rows. -/
def Row4 (w : World) (r j : Nat) : Prop := ∃ (ao : Option Addr) (m cap : Nat) (l : List Nat), w.cell? ⟨r, j, none⟩ = some (.slice ao m cap) ∧ m = l.length ∧ m ≤ 60 ∧ Seen w (.slice ao m cap) (nv .u8 l) ∧ ∀ x ∈ l, x < 2 ^ 8

theorem cells4 {w : World} {r : Nat} {a b c d : Value} {T : TypeId} (h : w.heap[r]? = some (.cells #[a, b, c, d] T (0, 0))) : w.cell? ⟨r, 0, none⟩ = some a ∧ w.cell? ⟨r, 1, none⟩ = some b ∧ w.cell? ⟨r, 2, none⟩ = some c ∧ w.cell? ⟨r, 3, none⟩ = some d := by
  simp [World.cell?, h]

set_option maxRecDepth 100000 in
set_option maxHeartbeats 4000000 in
theorem walk_VarintReads (a0 : Option Addr) (len0 cap0 : Nat) (z0 : List Int) (a1 : Int) (a2 : Int) (w : World) (w0 : IsRow .u8 w a0 len0 cap0 z0) (w1 : (Lit.int .i64 a1).wf = true) (w2 : (Lit.int .u8 a2).wf = true) :
    Calls Try.prog 4 #[.slice a0 len0 cap0, .int .i64 a1, .int .u8 a2] w fun e w' => e = .returned (.bool true) ∧ Below w.heap.size w w' := by
  obtain ⟨S, hS, rfl, hSl⟩ := w0.u8s
  have hlen := w0.len.2
  have b2 := wf_u8 w2
  have HS := Lib.hid hS; have HSL := Lib.hid hSl; have W1 := Lib.hid w1
  clear w0 w1 w2 hS hSl
  unfold maxLen at hlen
  obtain ⟨lst, rfl⟩ := Int.eq_ofNat_of_zero_le b2.1
  have hls : lst < 256 := by omega
  clear b2
  by_cases hbig : 50 < S.length
  · go_enter Try.func4, Try.ntmps4
    go_wp2_with fail
    (with_reducible refine (known_any _).mono ?_)
    rintro x w1 ⟨rfl, hk⟩
    have HC := Lib.hid hk; clear hk
    go_wp2
    go_ret
    exact ⟨rfl, HC.out.below (Nat.le_refl _) (by simp)⟩
  obtain ⟨k, hk⟩ : ∃ n, n = (a1 % (13 : Nat)).toNat := ⟨_, rfl⟩
  have hk13 : k < 13 := by rw [hk]; exact within_lt a1 13 (by decide)
  have HK := Lib.hid hk; clear hk
  obtain ⟨i0, hi, hz0, hz1, hz2⟩ := info_u8
  have hcap2 : cap0 ≤ 2 ^ 63 - 1 := by
    obtain ⟨_, _, e, _, h⟩ := HS.out.shape
    injection e with e1 e2 e3
    unfold maxLen at h
    omega
  go_enter Try.func4, Try.ntmps4
  go_wp2_with fail
  (with_reducible refine (known_any _).mono ?_)
  rintro x w1 ⟨rfl, hk⟩
  have HC1 := Lib.hid hk; clear hk
  go_wp2_with fail
  (with_reducible refine (within_int a1 13 13 _ rfl (by decide) (by decide) W1.out).mono ?_)
  rintro x w2 ⟨rfl, rfl⟩
  rw [← HK.out]
  go_wp2_with (at_make; refine wpList_make_full _ rfl _ _ 22 rfl w1.heap.size 5 i0 (.int .u8 0) 1 Try.underlying22 hi hz0 hz1 .i64 .i64 _ _ k rfl rfl rfl rfl ?c1 ?c2 (Nat.le_refl _) ?_)
  case c1 => rw [hz2]; omega
  case c2 => unfold maxLen; omega
  intro w2 hown hgrow
  have HC2 := Lib.hid (HC1.out.grown hgrow (by simp))
  rw [cells_zero8] at hown
  have hsz1 := HC1.out.size
  obtain ⟨g, hg⟩ : ∃ g, g = w1.heap.size := ⟨_, rfl⟩
  rw [← hg] at hown ⊢
  have hgw : w.heap.size ≤ g := by omega
  clear hg
  have HO := Lib.hid hown
  have hg2 : g < w2.heap.size := (hown.lt g rfl).2
  clear hown hgrow
  go_wp2
  go_loopw [8] (fun i wr => ∃ (j : Nat) (Y : List Nat), j ≤ k ∧ i = .int .i64 (j : Int) ∧ Hid (Y.length = k) ∧ Hid (∀ y ∈ Y, y < 2 ^ 8) ∧ Chg [g] w2 wr ∧ wr.ownsRow g 5 1 (.slice (some ⟨g, 0, none⟩) k k) k (nv .u8 Y)) (fun i _ => k - (intOf i).toNat)
  case atStart => exact ⟨0, _, Nat.zero_le _, rfl, Lib.hid (List.length_replicate ..), Lib.hid (by intro y hy; rw [List.eq_of_mem_replicate hy]; decide), Chg.refl _ _, HO.out⟩
  case round =>
    obtain ⟨j, Y, hj, rfl, HYL, HYB, hci, hown⟩ := hrel
    have HCI := Lib.hid hci; have HOY := Lib.hid hown
    clear hci hown HO
    by_cases hlt : j < k
    · have hf := HOY.out.frozenAt j
      have hc := own_cell HOY.out HYL.out j hlt
      have hst : (wr.setCell ⟨g, j, none⟩ (.int .u8 128)).ownsRow g 5 1 (.slice (some ⟨g, 0, none⟩) k k) k (nv .u8 (Y.set j 128)) := by
        have h := (HOY.out.stored j (.int .u8 ((128 : Nat) : Int))).1
        rw [nv_set] at h
        exact h
      have HST := Lib.hid hst
      have HCS := Lib.hid (HCI.out.setCell (p := ⟨g, j, none⟩) (.inl (by simp)) (.int .u8 128))
      have HB2 := Lib.hid (set_lt (c := 128) HYB.out (by decide) j)
      have HL2 := Lib.hid (show (Y.set j 128).length = k by rw [List.length_set]; exact HYL.out)
      clear hst
      by_cases hjs : j < S.length
      · have hlt2 : decide (j < S.length) = true := by simpa using hjs
        have hf2 := HST.out.frozenAt j
        have hc2 := own_cell HST.out HL2.out j hlt
        obtain ⟨x, rfl, hx0⟩ := (HS.out.keep (HC2.out.trans HCS.out (by intro t ht; simp at ht; omega))).at rfl (by omega)
        have hx := hx0 j hjs
        obtain ⟨s, hs⟩ : ∃ s, s = S.getD j 0 := ⟨_, rfl⟩
        rw [← hs] at hx
        have hs8 : s < 256 := by rw [hs]; exact HSL.out _ (getD_mem hjs)
        have HBT := Lib.hid (bit7 s hs8)
        have hst : ((wr.setCell ⟨g, j, none⟩ (.int .u8 128)).setCell ⟨g, j, none⟩ (.int .u8 (bits BinOp.or IntKind.u8 (s : Int) 128))).ownsRow g 5 1 (.slice (some ⟨g, 0, none⟩) k k) k (nv .u8 ((Y.set j 128).set j (s % 128 + 128))) := by
          have h := (HST.out.stored j (.int .u8 ((s % 128 + 128 : Nat) : Int))).1
          rw [nv_set] at h
          rw [HBT.out]
          exact h
        have HST2 := Lib.hid hst
        have HCS2 := Lib.hid (HCS.out.setCell (p := ⟨g, j, none⟩) (.inl (by simp)) (.int .u8 (bits BinOp.or IntKind.u8 (s : Int) 128)))
        have HB3 := Lib.hid (set_lt (c := s % 128 + 128) HB2.out (by omega) j)
        clear hx0 hs hst
        go_wp2
        go_roundw
        case rel => exact ⟨j + 1, _, hlt, by go_num, Lib.hid (by rw [List.length_set]; exact HL2.out), HB3, HCS2.out, HST2.out⟩
        case measure => simp [intOf]; omega
      · have hlt2 : decide (j < S.length) = false := by simpa using hjs
        go_wp2
        go_roundw
        case rel => exact ⟨j + 1, _, hlt, by go_num, HL2, HB2, HCS.out, HST.out⟩
        case measure => simp [intOf]; omega
    · have hlt2 : decide (j < k) = false := by simpa using hlt
      have HR := Lib.hid (reads_of_own HOY.out)
      have hone := Lib.hid (nv_one .u8 Y)
      have hnl := Lib.hid (show (nv .u8 Y).length = k by rw [nv_length]; exact HYL.out)
      have HCW := Lib.hid (HC2.out.trans HCI.out (show ∀ t, t ∈ [g] → t ∈ ([] : List Nat) ∨ w.heap.size ≤ t by intro t ht; simp at ht; omega))
      have ho := World.ownsRow_made (base := wr.heap.size) (e := 5) (size := 1) wr #[] 0 (Nat.le_refl _) (by simp) rfl
      have HE := Lib.hid ho
      clear ho HOY
      go_wp2_with (at_builtin; refine wpList_append_reads _ rfl _ _ 22 22 rfl wr.heap.size 5 5 i0 (.int .u8 0) 1 Try.underlying22 Try.underlying22 hi hz0 hz1 hz2 rfl _ 0 [] rfl HE.out _ (nv .u8 Y) rfl (HR.out.keep ((Chg.refl [] _).alloc _) (by simp)).seen hone.out ?c1 ?c2 ?c3 ?_)
      case c1 => rw [hnl.out]; unfold maxLen; omega
      case c2 => rw [hnl.out]; omega
      case c3 => simp
      intro v5 w5 hown hgrow
      rw [HYL.out] at hown
      have HC5 := Lib.hid (((Chg.refl [] wr).alloc (.cells #[] 5)).grown hgrow (fun k hk => .inr (by simp [Value.ownBlock] at hk; omega)))
      obtain ⟨ao5, cap5, rfl⟩ := own_shape hown
      have HO5 := Lib.hid hown
      have hs5 := HC5.out.size
      clear hown hgrow HE
      go_wp2_with (at_builtin; refine wpList_append_own _ rfl _ _ 22 rfl wr.heap.size 5 i0 (.int .u8 0) 1 1 Try.underlying22 hi hz0 hz1 hz2 rfl (by decide) _ _ _ rfl (HO5.out.alloc _) ⟨w5.heap.size, 0, none⟩ 1 1 [.int .u8 (lst : Int)] rfl rfl ?c1 ?c2 ?c3 ?c4 ?c5 ?_)
      case c1 => exact (cell_one_new _ _ _)
      case c2 => simp [Value.oneCell']
      case c3 => unfold maxLen; omega
      case c4 => omega
      case c5 => first | (simp; omega) | omega
      intro v6 w6 hown hgrow _
      have HC6 := Lib.hid ((HC5.out.alloc (.cells #[.int .u8 (lst : Int)] 5)).grown hgrow (fun k hk => .inr (own_ge HO5.out k hk)))
      obtain ⟨ao6, cap6, rfl⟩ := own_shape hown
      have HR6 := Lib.hid (reads_of_own (own_nv (c := lst) hown rfl))
      have hs6 := HC6.out.size
      clear hown hgrow HO5
      have ho := World.ownsRow_made (base := w6.heap.size) (e := 5) (size := 1) w6 #[] 0 (Nat.le_refl _) (by simp) rfl
      have HE := Lib.hid ho
      have HRL := Lib.hid ((HR.out.keep HC6.out (by simp)).keep ((Chg.refl [] w6).alloc (.cells #[] 5)) (by simp))
      clear ho
      go_wp2_with (at_builtin; refine wpList_append_reads _ rfl _ _ 22 22 rfl w6.heap.size 5 5 i0 (.int .u8 0) 1 Try.underlying22 Try.underlying22 hi hz0 hz1 hz2 rfl _ 0 [] rfl HE.out _ (nv .u8 Y) rfl HRL.out.seen hone.out ?c1 ?c2 ?c3 ?_)
      case c1 => rw [hnl.out]; unfold maxLen; omega
      case c2 => rw [hnl.out]; omega
      case c3 => simp
      intro v7 w7 hown hgrow
      rw [HYL.out] at hown
      have HC7 := Lib.hid (((Chg.refl [] w6).alloc (.cells #[] 5)).grown hgrow (fun k hk => .inr (by simp [Value.ownBlock] at hk; omega)))
      obtain ⟨ao7, cap7, rfl⟩ := own_shape hown
      have HO7 := Lib.hid hown
      have hs7 := HC7.out.size
      clear hown hgrow HE HRL
      go_wp2_with (at_builtin; refine wpList_append_own _ rfl _ _ 22 rfl w6.heap.size 5 i0 (.int .u8 0) 1 1 Try.underlying22 hi hz0 hz1 hz2 rfl (by decide) _ _ _ rfl (HO7.out.alloc _) ⟨w7.heap.size, 0, none⟩ 1 1 [.int .u8 0] rfl rfl ?c1 ?c2 ?c3 ?c4 ?c5 ?_)
      case c1 => exact (cell_one_new _ _ _)
      case c2 => simp [Value.oneCell']
      case c3 => unfold maxLen; omega
      case c4 => omega
      case c5 => first | (simp; omega) | omega
      intro v8 w8 hown hgrow _
      have HC8 := Lib.hid ((HC7.out.alloc (.cells #[.int .u8 0] 5)).grown hgrow (fun k hk => .inr (own_ge HO7.out k hk)))
      obtain ⟨ao8, cap8, rfl⟩ := own_shape hown
      have HR8 := Lib.hid (reads_of_own (own_nv (c := 0) hown rfl))
      have hs8 := HC8.out.size
      clear hown hgrow HO7
      obtain ⟨W, hW⟩ : ∃ W, W = w8.alloc (.cells #[.slice a0 S.length cap0, .slice ao6 (k + 1) cap6, .slice (some ⟨g, 0, none⟩) k k, .slice ao8 (k + 1) cap8] 22) := ⟨_, rfl⟩
      have hCW : Chg [] w8 W := by rw [hW]; exact (Chg.refl [] w8).alloc _
      have HCF := Lib.hid (((HCW.out.trans HC6.out (by simp)).trans HC8.out (by simp)).trans hCW (by simp))
      have hc4 := cells4 (show W.heap[w8.heap.size]? = _ by rw [hW]; exact heap_alloc_new w8 _)
      have HROW := Lib.hid (show ∀ j, j < 4 → Row4 W w8.heap.size j from fun j hj => by
        have hj4 : j = 0 ∨ j = 1 ∨ j = 2 ∨ j = 3 := by omega
        rcases hj4 with rfl | rfl | rfl | rfl
        · exact ⟨_, _, _, S, hc4.1, rfl, by omega, HS.out.keep HCF.out, HSL.out⟩
        · exact ⟨_, _, _, Y ++ [lst], hc4.2.1, by rw [List.length_append, HYL.out]; rfl, by omega, ((HR6.out.keep HC8.out (by simp)).keep hCW (by simp)).seen, fun x hx => by
            rcases List.mem_append.1 hx with h | h
            · exact HYB.out x h
            · simp at h; omega⟩
        · exact ⟨_, _, _, Y, hc4.2.2.1, HYL.out.symm, by omega, (((HR.out.keep HC6.out (by simp)).keep HC8.out (by simp)).keep hCW (by simp)).seen, HYB.out⟩
        · exact ⟨_, _, _, Y ++ [0], hc4.2.2.2, by rw [List.length_append, HYL.out]; rfl, by omega, (HR8.out.keep hCW (by simp)).seen, fun x hx => by
            rcases List.mem_append.1 hx with h | h
            · exact HYB.out x h
            · simp at h; omega⟩)
      have HW := Lib.hid hW
      clear hW hCW hc4
      go_wp2
      rw [← HW.out]
      go_loopw [10] (fun i wr => ∃ j : Nat, j ≤ 4 ∧ i = .int .i64 (j : Int) ∧ Chg [] W wr) (fun i _ => 4 - (intOf i).toNat)
      case atStart => exact ⟨0, by omega, rfl, Chg.refl _ _⟩
      case round =>
        clear HR HR6 HR8 hone hnl HC5 HC6 HC7 HC8
        rename World => wj
        obtain ⟨j, hj, rfl, hci⟩ := hrel
        have HCI := Lib.hid hci
        clear hci
        by_cases hlt : j < 4
        · skip
          obtain ⟨ao, m, cap, l, hcell, hm, hm60, hseen, hl8⟩ := HROW.out j hlt
          have HCA := Lib.hid ((Chg.refl [] wj).alloc (.cells #[] 5))
          have hcA := (HCI.out.trans HCA.out (by simp)).cell hcell (by simp)
          have HCELL := Lib.hid hcell; have HSN := Lib.hid hseen; have HL8 := Lib.hid hl8; have HM := Lib.hid hm
          have HSA := Lib.hid (hseen.keep (HCI.out.trans HCA.out (by simp)))
          have hone := Lib.hid (nv_one .u8 l)
          have ho := World.ownsRow_made (base := wj.heap.size) (e := 5) (size := 1) wj #[] 0 (Nat.le_refl _) (by simp) rfl
          have HE := Lib.hid ho
          clear ho hcell hseen hl8 hm
          go_wp2_with (at_builtin; refine wpList_append_reads _ rfl _ _ 22 22 rfl wj.heap.size 5 5 i0 (.int .u8 0) 1 Try.underlying22 Try.underlying22 hi hz0 hz1 hz2 rfl _ 0 [] rfl HE.out _ (nv .u8 l) rfl HSA.out hone.out ?c1 ?c2 ?c3 ?_)
          case c1 => rw [nv_length, ← HM.out]; unfold maxLen; omega
          case c2 => rw [nv_length, ← HM.out]; omega
          case c3 => simp
          intro v9 w9 hown hgrow
          rw [← HM.out] at hown
          have HC9 := Lib.hid ((HCI.out.trans HCA.out (by simp)).grown hgrow (fun k hk => .inr (by simp [Value.ownBlock] at hk; have := HCI.out.size; omega)))
          obtain ⟨ao9, cap9, rfl⟩ := own_shape hown
          have HR9 := Lib.hid (reads_of_own hown)
          clear hown hgrow HE hcA
          go_wp2_with fail
          (with_reducible refine (get_any _ l _ HR9.out.seen HL8.out).mono ?_)
          rintro x w10 ⟨rfl, hc10⟩
          have HC10 := Lib.hid (HC9.out.trans hc10 (by simp))
          have hcB := HC10.out.cell HCELL.out (by simp)
          clear hc10
          go_wp2_with fail
          (with_reducible refine (rget_any _ l _ (HSN.out.keep HC10.out) HL8.out).mono ?_)
          rintro x w11 ⟨rfl, hc11⟩
          have HC11 := Lib.hid (HC10.out.trans hc11 (by simp))
          clear hc11 hcB
          go_wp2
          go_roundw
          case rel => exact ⟨j + 1, hlt, by go_num, HC11.out⟩
          case measure => simp [intOf]; omega
        · go_wp2
          go_ret
          exact ⟨rfl, (HCF.out.trans HCI.out (by simp)).below (Nat.le_refl _) (by simp)⟩

end Go.Proofs.Ytmdnjcgfcofmiaa
