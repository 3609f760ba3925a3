/- level's decoder: groups. -/
import Derived.Test.YtlhdicbhanncnaaKj
import Derived.Test.YtlhdicbhanncnaaA3
import Derived.Deep.RegionHeld3
import Derived.Deep.DeepCutAuto
import Derived.Deep.CutBlock
namespace Go.Proofs.Ytlhdicbhanncnaa
open Go.RowKit
set_option linter.unusedVariables false
set_option linter.unusedSimpArgs false

theorem own_far {w w1 : World} {B T s n : Nat} {v : Value} {xs : List Value} {row : Option Nat} (h : w.ownsRow B T s v n xs) (hg : w.grownBy w1 row) (hr : ∀ g, v.ownBlock = some g → row ≠ some g) : w1.ownsRow B T s v n xs :=
  own_chg h ((Chg.refl row.toList w).grown hg (fun k hk => .inl (by simp [hk]))) (fun g hg hm => hr g hg (by simpa using hm))

theorem tags_ne {w : World} {B B' T T' s s' n n' : Nat} {v v' : Value} {xs xs' : List Value} (h : w.ownsRow B T s v n xs) (h' : w.ownsRow B' T' s' v' n' xs') (hT : T ≠ T') : ∀ g, v.ownBlock = some g → v'.ownBlock ≠ some g := fun g hg e => by
  obtain ⟨c1, f1, e1⟩ := tagged_of_own h g hg
  obtain ⟨c2, f2, e2⟩ := tagged_of_own h' g e
  rw [e1] at e2
  injection e2 with e2
  injection e2 with q1 q2 q3
  exact hT q2

theorem unpacked_lt (b : List Nat) (n w : Nat) : ∀ x ∈ unpacked b n w, x < 2 ^ w := by
  intro x hx
  unfold unpacked pk at hx
  obtain ⟨j, _, rfl⟩ := List.mem_map.1 hx
  exact wd_lt _ _ _ _

theorem fault_full (b : List Nat) (g w : Nat) (h : b.length = g * w) : faultOf b (w * (g * 8)) = 0 := by
  have e : w * (g * 8) = 8 * (g * w) := by rw [Nat.mul_comm g 8, Nat.mul_left_comm, Nat.mul_comm w g]
  have h1 : (w * (g * 8) + 7) / 8 = g * w := by rw [e]; omega
  unfold faultOf
  rw [h1, if_neg (by omega), if_neg (by omega), if_pos (whole_bits b _ (by rw [h1]; exact h) (by rw [e]; omega))]

theorem fault_cut (b : List Nat) (g w : Nat) (h : b.length < g * w) : faultOf b (w * (g * 8)) = 8 := by
  have e : w * (g * 8) = 8 * (g * w) := by rw [Nat.mul_comm g 8, Nat.mul_left_comm, Nat.mul_comm w g]
  have h1 : (w * (g * 8) + 7) / 8 = g * w := by rw [e]; omega
  unfold faultOf
  rw [h1, if_pos h]

theorem take_succ_take (U : List Nat) (j k : Nat) (h : j < U.length) : (U.take (j + 1)).take k = if j < k then (U.take j).take k ++ [U.getD j 0] else (U.take j).take k := by
  have e : U.getD j 0 = U[j] := by simp [List.getD, h]
  rw [e, List.take_take, List.take_take]
  split
  · rw [Nat.min_eq_right (by omega), Nat.min_eq_right (by omega), List.take_add_one, List.getElem?_eq_getElem h]; rfl
  · rw [Nat.min_eq_left (by omega), Nat.min_eq_left (by omega)]

theorem take_succ_drop (U : List Nat) (j k : Nat) (h : j < U.length) : (U.take (j + 1)).drop k = if j < k then [] else (U.take j).drop k ++ [U.getD j 0] := by
  have e : U.getD j 0 = U[j] := by simp [List.getD, h]
  split
  · exact List.drop_eq_nil_of_le (by simp; omega)
  · rw [List.take_add_one, List.getElem?_eq_getElem h, e, List.drop_append_of_le_length (by simp; omega)]; rfl

set_option maxRecDepth 100000 in
set_option maxHeartbeats 2000000 in
theorem dgroups_any {w0 w : World} {d width n : Nat} {bv lv : Value} {b l : List Nat} (g : Nat) (hw1 : 1 ≤ width) (hc : g ≤ 9223372036854775807) (h : DS w0 w d width n bv lv b l) :
    Calls Try.prog 36 #[.pointer (some ⟨d, 0, none⟩), .int .i64 (g : Int)] w (PartOut w0 d width n l (grpL width (n - l.length) g b)) := by
  have H := Lib.hid h
  have hwl := h.wl
  have hnl := h.nl
  have hll := h.ll
  have HLK := Lib.hid (lack_any h)
  obtain ⟨k, hk⟩ : ∃ k, k = n - l.length := ⟨_, rfl⟩
  rw [← hk] at HLK ⊢
  have HK := Lib.hid hk
  have hk4 : k ≤ 4000 := by omega
  clear h hk
  by_cases h0 : g = 0
  · subst h0
    have E := Lib.hid (show grpL width k 0 b = (10, [], []) by unfold grpL; rw [if_pos (.inl rfl)])
    have hb : ((0 : Int) == 0) = true := rfl
    go_enter Try.func36, Try.ntmps36
    go_wp2
    go_ret
    rw [E.out]
    exact ⟨rfl, H.out.c0, fun h => absurd h (by decide)⟩
  have hb : ((g : Int) == 0) = false := by simp; omega
  obtain ⟨t, ht⟩ : ∃ t, t = (k + 7) / 8 := ⟨_, rfl⟩
  have HT8 := Lib.hid ht
  have ht5 : t ≤ 500 := by omega
  by_cases hck : t < g
  · have E := Lib.hid (show grpL width k g b = (10, [], []) by unfold grpL; rw [if_pos (.inr (by rw [← ht]; exact hck))])
    have hd : decide (t < g) = true := by simpa using hck
    clear h0 ht
    go_enter Try.func36, Try.ntmps36
    go_wp2_with fail
    refine HLK.out.mono ?_
    rintro e w1 ⟨rfl, q, rfl⟩
    go_wp2_with fail
    refine (whole_any k _ (by omega)).mono ?_
    rintro e w2 ⟨rfl, rfl⟩
    rw [← HT8.out]
    go_wp2
    go_ret
    rw [E.out]
    exact ⟨rfl, H.out.c0.drewN q, fun h => absurd h (by decide)⟩
  have hd : decide (t < g) = false := by simpa using hck
  have hg5 : g ≤ 500 := by omega
  obtain ⟨z, hz⟩ : ∃ z, z = g * width := ⟨_, rfl⟩
  have hz8 : z ≤ 8000 := by
    have : g * width ≤ 500 * 16 := Nat.mul_le_mul hg5 hwl
    omega
  have hzi : (g : Int) * (width : Int) = (z : Int) := by rw [hz]; push_cast; rfl
  have hzw : IntKind.i64.wrap (z : Int) = (z : Int) := IntWalk.i64_in _ (by omega)
  obtain ⟨G, hG⟩ : ∃ G, G = g * 8 := ⟨_, rfl⟩
  have hGi : (g : Int) * 8 = (G : Int) := by omega
  have hGw : IntKind.i64.wrap (G : Int) = (G : Int) := IntWalk.i64_in _ (by omega)
  have hG4 : G ≤ 4000 := by omega
  have HG := Lib.hid hG
  obtain ⟨er, her⟩ : ∃ er : Nat, (er : Int) = faultOf (b.take z) (width * G) ∧ (b.length < z → er = 8) ∧ (z ≤ b.length → er = 0) := by
    by_cases hcut : b.length < z
    · exact ⟨8, by rw [hG, fault_cut _ _ _ (by rw [List.length_take, ← hz]; omega)]; rfl, fun _ => rfl, fun h => by omega⟩
    · exact ⟨0, by rw [hG, fault_full _ _ _ (by rw [List.length_take, ← hz]; omega)]; rfl, fun h => by omega, fun _ => rfl⟩
  obtain ⟨her1, her2, her3⟩ := her
  have HE := Lib.hid (show grpL width k g b = if b.length < z then (8, [], []) else if ((unpacked (b.take z) G width).drop k).any (fun x => x != 0) = true then (10, [], []) else (0, (unpacked (b.take z) G width).take k, b.drop z) by
    unfold grpL; rw [if_neg (by omega), hz, hG])
  have HU := Lib.hid (show ∀ wx bx, Seen wx bx (nv .u8 (b.take z)) → Calls Try.prog 46 #[bx, .int .i64 (G : Int), .int .i64 (width : Int)] wx fun e w' => ∃ v, e = .returned (.tuple #[v, .int .i64 (er : Int)]) ∧ Made 41 .u64 (outU (b.take z) G width) wx v w' from fun wx bx hs => by
    rw [her1]
    exact unpack_any bx (b.take z) G width wx hG4 (by omega) hs (fun x hx => H.out.by' x (List.mem_of_mem_take hx)))
  have HER := Lib.hid her1
  have HTK := Lib.hid (show ∀ wx, DS w0 wx d width n bv lv b l → Calls Try.prog 35 #[.pointer (some ⟨d, 0, none⟩), .int .i64 (z : Int)] wx (TakeOut w0 wx d width n lv b l z) from fun wx hx => take10_any z (by omega) hx)
  have HZ := Lib.hid hz
  clear h0 ht hck hz hG her1
  go_enter Try.func36, Try.ntmps36
  go_wp2_with fail
  refine HLK.out.mono ?_
  rintro e w1 ⟨rfl, q, rfl⟩
  have HD1 := Lib.hid (H.out.keep ((Chg.refl [] w).drewN q))
  obtain ⟨wq, hwq⟩ : ∃ wq, wq = w.drewN q := ⟨_, rfl⟩
  rw [← hwq] at HD1 ⊢
  clear hwq
  go_wp2_with fail
  refine (whole_any k _ (by omega)).mono ?_
  rintro e w2 ⟨rfl, rfl⟩
  rw [← HT8.out]
  obtain ⟨-, c1, -, -⟩ := HD1.out.cells
  have HPR := Lib.hid c1
  go_upto_region 4 with fail
  go_region_held3 (fun w' => w'.cell? ⟨d, 1, none⟩ = some (.int .i64 (width : Int))) (first | exact HPR.out | exact HPR2.out | exact HPR3.out) (first
    | (go_at_call 35; (with_reducible refine (HTK.out _ (by first | exact HD1.out | exact HD1.out.keep ((Chg.refl [] _).drew) | exact HD1.out.keep ((Chg.refl [] _).drewN _))).mono ?_); rintro e w3 ⟨fo, fc, p, bv3, hp, rfl, hfs, hD3, hc3⟩; have HD3 := Lib.hid hD3; have HFS := Lib.hid hfs; have HPR2 := Lib.hid hD3.cells.2.1; clear hp hfs hD3 hc3)
    | (go_at_call 46; (with_reducible refine (HU.out _ _ (HFS.out.keep (by first | exact HD3.out.c0 | exact HD3.out.c0.drew | exact HD3.out.c0.drewN _))).mono ?_); rintro e w4 ⟨uv, rfl, hcu, hou⟩; have HD4 := Lib.hid (HD3.out.keep (by first | exact hcu | exact (Chg.refl [] _).drew.trans hcu (by simp) | exact ((Chg.refl [] _).drewN _).trans hcu (by simp))); have HPR3 := Lib.hid HD4.out.cells.2.1; have HOU := Lib.hid hou; clear hcu hou))
  all_goals
    have hou := HOU.out
    by_cases hcut : b.length < z
    · have he8 := her2 hcut
      have E := Lib.hid (show grpL width k g b = (8, [], []) by rw [HE.out, if_pos hcut])
      have hb8 : ((er : Int) != 0) = true := by rw [he8]; rfl
      subst he8
      clear hou HOU hcut her2 her3
      go_wp2
      go_ret
      rw [E.out]
      exact ⟨rfl, HD4.out.c0, fun h => absurd h (by decide)⟩
    have he0 := her3 (by omega)
    have hb8 : ((er : Int) != 0) = false := by rw [he0]; rfl
    have hout : outU (b.take z) G width = unpacked (b.take z) G width := by
      unfold outU; rw [if_pos (by rw [← HER.out, he0]; rfl)]
    rw [hout, unpacked_length] at hou
    obtain ⟨U, hU⟩ : ∃ U, U = unpacked (b.take z) G width := ⟨_, rfl⟩
    have hUl : U.length = G := by rw [hU, unpacked_length]
    have hU6 : ∀ x ∈ U, x < 65536 := fun x hx => by
      have h1 := unpacked_lt (b.take z) G width x (by rw [← hU]; exact hx)
      have hp : 2 ^ width ≤ 2 ^ 16 := Nat.pow_le_pow_right (by decide) hwl
      omega
    have HE2 := Lib.hid (show grpL width k g b = if (U.drop k).any (fun x => x != 0) = true then (10, [], []) else (0, U.take k, b.drop z) by
      rw [HE.out, if_neg hcut, hU])
    rw [← hU] at hou
    obtain ⟨uo, uc, rfl⟩ := own_shape hou
    have HOW := Lib.hid hou
    have HUL := Lib.hid hUl; have HU6 := Lib.hid hU6
    have HLK4 := Lib.hid (lack_any HD4.out)
    rw [← HK.out] at HLK4
    clear hou hout hU hUl hU6 hcut her2 her3
    obtain ⟨i0, hi, hz0, hz1, hz2⟩ := info_int
    subst he0
    go_wp2_with fail
    refine HLK4.out.mono ?_
    rintro e w5 ⟨rfl, q5, rfl⟩
    have HD5 := Lib.hid (HD4.out.keep ((Chg.refl [] w4).drewN q5))
    have HO5 := Lib.hid (own_chg HOW.out ((Chg.refl [] w4).drewN q5) (by simp))
    obtain ⟨L, hL⟩ : ∃ L, L = l.length := ⟨_, rfl⟩
    have HL := Lib.hid hL
    clear hL
    go_wp2
    go_loopw [46] (fun i w' => ∃ (j : Nat) (lv' : Value), j ≤ G ∧ i = .int .i64 (j : Int) ∧ DS w0 w' d width n bv3 lv' (b.drop z) (l ++ (U.take j).take k) ∧ w'.ownsRow w3.heap.size 41 1 (.slice uo G uc) G (nv .u64 U) ∧ ∀ x ∈ (U.take j).drop k, x = 0) (fun i _ => G - (intOf i).toNat)
    case atStart => exact ⟨0, lv, Nat.zero_le _, rfl, by simpa using HD5.out, HO5.out, by simp⟩
    case round =>
      obtain ⟨j, lv', hj, rfl, hD, hO, hzr⟩ := hrel
      have HD := Lib.hid hD; have HO := Lib.hid hO; have HZR := Lib.hid hzr
      clear hD hO hzr
      by_cases hjG : j < G
      · have hlt : decide ((j : Int) < (G : Int)) = true := by simp; omega
        obtain ⟨gu, rfl⟩ := own_some HO.out (by omega)
        have hx := own_cell HO.out HUL.out j hjG
        obtain ⟨s, hs⟩ : ∃ s, s = U.getD j 0 := ⟨_, rfl⟩
        rw [← hs] at hx
        have hs6 : s < 65536 := by rw [hs]; exact HU6.out _ (getD_mem (by rw [HUL.out]; exact hjG))
        have HS := Lib.hid hs
        have HTT := Lib.hid (take_succ_take U j k (by rw [HUL.out]; exact hjG))
        have HTD := Lib.hid (take_succ_drop U j k (by rw [HUL.out]; exact hjG))
        rw [← hs] at HTT HTD
        by_cases hjk : j < k
        · have hlk : decide (j < k) = true := by simpa using hjk
          have hsw : IntKind.i64.wrap (s : Int) = (s : Int) := IntWalk.i64_in _ (by omega)
          have hlen : (l ++ (U.take j).take k).length = L + j := by
            rw [List.length_append, List.length_take, List.length_take, HUL.out, HL.out]; omega
          have hlo := HD.out.lo
          rw [hlen] at hlo
          obtain ⟨vo, vc, rfl⟩ := own_shape hlo
          obtain ⟨-, -, -, c3⟩ := HD.out.cells
          have f3 := HD.out.free 3
          have hB : w0.heap.size ≤ wr.heap.size := HD.out.c0.size
          have HLO := Lib.hid hlo
          have hLn : L + k = n := by have h1 := HK.out; have h2 := HL.out; omega
          have E := Lib.hid (show nv .i64 (l ++ (U.take j).take k) ++ [.int .i64 (s : Int)] = nv .i64 (l ++ (U.take (j + 1)).take k) by rw [HTT.out, if_pos hjk]; simp [nv])
          have HLN := Lib.hid (show (l ++ (U.take (j + 1)).take k).length = L + j + 1 by
            rw [List.length_append, List.length_take, List.length_take, HUL.out, HL.out]; omega)
          have HZ0 := Lib.hid (show ∀ x ∈ (U.take (j + 1)).drop k, x = 0 by rw [HTD.out, if_pos hjk]; simp)
          have c3' : ∀ o, (wr.alloc o).cell? ⟨d, 3, none⟩ = some (.slice vo (L + j) vc) := fun o => ((Chg.refl [] wr).alloc o).cell c3 (by simp)
          have hLj : L + j + 1 ≤ n := by omega
          clear hlo hlen hs hjk
          go_wp2_with (at_builtin; refine wpList_append_own _ rfl _ _ 22 rfl w0.heap.size 3 i0 (.int .i64 0) 1 8 Try.underlying22 hi hz0 hz1 hz2 rfl (by decide) _ _ _ rfl (HLO.out.alloc _) ⟨wr.heap.size, 0, none⟩ 1 1 [.int .i64 (s : Int)] rfl rfl ?c1 ?c2 ?c3 ?c4 ?c5 ?_)
          case c1 => exact (cell_one_new _ _ _)
          case c2 => simp [Value.oneCell']
          case c3 => unfold maxLen; omega
          case c4 => omega
          case c5 => simp; omega
          intro v' w6 hown' hgrow _
          rw [E.out] at hown'
          have hD2 := HD.out.keep ((Chg.refl [] wr).alloc (.cells #[.int .i64 (s : Int)] 3))
          have HDN := Lib.hid (DS.setL (l' := l ++ (U.take (j + 1)).take k) hD2 hgrow (by rw [HLN.out]; exact hown') (by rw [HLN.out]; omega))
          have hb6 := (hgrow.block d (Go.lt_of_block hD2.bp) (fun e => hD2.ne e.symm)).trans hD2.bp
          have f3' : w6.frozen? ⟨d, 3, none⟩ = false := by simp [World.frozen?, hb6]
          have hu := (cells4 hb6).2.2.2
          have hO1 := own_chg HO.out ((Chg.refl [] wr).alloc (.cells #[.int .i64 (s : Int)] 3)) (by simp)
          have hO2 := own_far hO1 hgrow (fun g hg e => tags_ne hO1 hD2.lo (by decide) g hg e)
          have HO3 := Lib.hid (own_chg hO2 (DS.chgd w6 d 3 v') (fun g hg hm => tagged_ne1 hO2 hb6 (by decide) (by simp at hm; rw [hm] at hg; exact hg)))
          obtain ⟨xo, xc, rfl⟩ := own_shape hown'
          clear hD2 hgrow hown' c3 c3' f3 hb6 hO1 hO2 hx
          go_wp2
          go_roundw
          case rel => exact ⟨j + 1, _, hjG, by go_num, HDN.out, HO3.out, HZ0.out⟩
          case measure => simp [intOf]; omega
        · have hlk : decide (j < k) = false := by simpa using hjk
          by_cases hs0 : s = 0
          · have hbs : ((s : Int) != 0) = false := by rw [hs0]; rfl
            have E := Lib.hid (show (U.take (j + 1)).take k = (U.take j).take k by rw [HTT.out, if_neg hjk])
            have HZ0 := Lib.hid (show ∀ x ∈ (U.take (j + 1)).drop k, x = 0 by
              rw [HTD.out, if_neg hjk]
              intro x hx
              rcases List.mem_append.1 hx with hx | hx
              · exact HZR.out x hx
              · simp at hx; rw [hx]; exact hs0)
            clear hs hs0 hjk
            go_wp2
            go_roundw
            case rel => exact ⟨j + 1, _, hjG, by go_num, by rw [E.out]; exact HD.out, HO.out, HZ0.out⟩
            case measure => simp [intOf]; omega
          · have hbs : ((s : Int) != 0) = true := by simp; omega
            have E := Lib.hid (show grpL width k g b = (10, [], []) by
              rw [HE2.out, if_pos]
              rw [List.any_eq_true]
              refine ⟨s, ?_, by simpa using hs0⟩
              have h1 : s ∈ (U.take (j + 1)).drop k := by rw [HTD.out, if_neg hjk]; simp
              have h2 : (U.take (j + 1)).drop k = (U.drop k).take (j + 1 - k) := by rw [List.drop_take]
              rw [h2] at h1
              exact List.mem_of_mem_take h1)
            clear hs hs0 hjk
            go_wp2
            go_ret
            rw [E.out]
            exact ⟨rfl, HD.out.c0, fun h => absurd h (by decide)⟩
      · have hlt : decide ((j : Int) < (G : Int)) = false := by simp; omega
        have hjG : j = G := by omega
        subst hjG
        have ht : U.take j = U := List.take_of_length_le (by rw [HUL.out]; exact Nat.le_refl _)
        have E := Lib.hid (show grpL width k g b = (0, U.take k, b.drop z) by
          rw [HE2.out, if_neg]
          rw [List.any_eq_true]
          rintro ⟨x, hx, h⟩
          have h1 := HZR.out x (by rw [ht]; exact hx)
          rw [h1] at h
          simp at h)
        have HDE := Lib.hid (show DS w0 wr d width n bv3 lv' (b.drop z) (l ++ U.take k) by have h := HD.out; rwa [ht] at h)
        clear ht
        go_wp2
        go_ret
        rw [E.out]
        exact ⟨rfl, HDE.out.c0, fun _ => ⟨_, _, HDE.out⟩⟩

end Go.Proofs.Ytlhdicbhanncnaa
