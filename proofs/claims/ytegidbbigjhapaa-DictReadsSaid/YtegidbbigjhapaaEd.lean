/- dict.Build whole: any values, any number. -/
import Derived.Test.YtegidbbigjhapaaEc
namespace Go.Proofs.Ytegidbbigjhapaa
open Go.RowKit
set_option linter.unusedVariables false
set_option linter.unusedSimpArgs false

theorem own_apart {w : World} {B B' T T' s s' : Nat} {v v' : Value} {n n' : Nat} {xs ys : List Value} (h : w.ownsRow B T s v n xs) (h' : w.ownsRow B' T' s' v' n' ys) (hT : T ≠ T') : ∀ g, v.ownBlock = some g → g ∉ v'.ownBlock.toList := by
  intro g hg hm
  simp at hm
  obtain ⟨cur, fr, hb⟩ := tagged_of_own h' g hm
  exact (tagged_of_own h).ne hb hT g hg rfl

theorem AL.far {w0 w w' : World} {S : List Nat} {ga gm B : Nat} {ws : List V} {most : Int} {wv : Value} (h : AL w0 w ga gm B ws most wv) (hc : Chg S w w') (hS : ∀ g ∈ S, B ≤ g) (hv : ∀ g, wv.ownBlock = some g → g ∉ S) : AL w0 w' ga gm B ws most wv := by
  have ha := h.gaB
  have hb := h.gmB
  have h0 := h.g0
  exact ⟨h.c0.trans hc (fun t ht => .inr (by have := hS t ht; omega)), h.g0, h.g1, h.gaB, h.gmB, h.ne, Nat.le_trans h.lB hc.size, hc.heap h.box (fun hx => by have := hS _ hx; omega), h.map.keep hc (fun hx => by have := hS _ hx; omega), own_chg h.own hc hv⟩

def BldOut (w : World) (l : List V) (most : Int) (e : Ending) (w' : World) : Prop :=
  ∃ wv av, e = .returned (.tuple #[wv, av, .bool (bldL l most).2.2]) ∧ Chg [] w w' ∧ w'.ownsRow w.heap.size 28 2 wv (bldL l most).1.length ((bldL l most).1.flatMap V.cs) ∧ w'.ownsRow w.heap.size 3 1 av (bldL l most).2.1.length (nv .i64 (bldL l most).2.1)

theorem BldOut.none {w w' : World} {l : List V} {most : Int} (h : bldL l most = ([], [], false)) (hc : Chg [] w w') : BldOut w l most (.returned (.tuple #[.slice none 0 0, .slice none 0 0, .bool false])) w' := by
  unfold BldOut
  rw [h]
  exact ⟨_, _, rfl, hc, World.ownsRow_nil _ _ _ _, World.ownsRow_nil _ _ _ _⟩

theorem bldL_out {l : List V} {most : Int} (h : most < 0 ∨ 256 < most) : bldL l most = ([], [], false) := by
  unfold bldL; rw [if_neg]; omega
theorem bldL_in {l : List V} {most : Int} (h : 0 ≤ most ∧ most ≤ 256) (h2 : ((wdsL l).length : Int) ≤ most) : bldL l most = (wdsL l, atsL l, true) := by
  unfold bldL; rw [if_pos ⟨h.1, h.2, h2⟩]
theorem bldL_many {l : List V} {most : Int} {j : Nat} {v : V} (hj : l[j]? = some v) (hv : v ∉ wdsL (l.take j)) (h2 : ((wdsL (l.take j)).length : Int) = most) : bldL l most = ([], [], false) := by
  unfold bldL; rw [if_neg]
  intro ⟨_, _, h3⟩
  have h4 := (wdsL_take_pre l (j + 1)).length_le
  rw [wdsL_take hj, addW_new hv] at h4
  simp at h4
  omega
theorem let_in {ws : List V} {most : Int} {v : V} (h : v ∈ ws ∨ ¬ (ws.length : Int) = most) : letR ws most v = (plcV (addW ws v) v : Nat) ∧ letW ws most v = addW ws v := by
  by_cases hv : v ∈ ws
  · rw [addW_in hv]; exact ⟨if_pos hv, if_pos hv⟩
  · have h2 := h.resolve_left hv
    rw [addW_new hv, plcV_new hv]
    exact ⟨by unfold letR; rw [if_neg hv, if_neg h2], by unfold letW; rw [if_neg hv, if_neg h2]⟩
theorem addW_len {ws : List V} {most : Int} {v : V} (h : v ∈ ws ∨ ¬ (ws.length : Int) = most) (hl : (ws.length : Int) ≤ most) : ((addW ws v).length : Int) ≤ most := by
  unfold addW
  split
  · exact hl
  · rename_i hv
    have h2 := h.resolve_left hv
    simp; omega

set_option maxRecDepth 100000 in
set_option maxHeartbeats 4000000 in
theorem build_any (kind : Int) (lv : Value) (l : List V) (most : Int) (w : World) (hS : SeenV w lv l) (hl : l.length ≤ 100000) (hm : (Lit.int .i64 most).wf = true) :
    Calls Try.prog 13 #[.int .i64 kind, lv, .int .i64 most] w (BldOut w l most) := by
  obtain ⟨i0, hi, hz0, hz1, hz2⟩ := info_int
  obtain ⟨ao, cap, rfl, hc1, hc2⟩ := hS.shape
  have HS := Lib.hid hS
  have hb := wf_i64 hm
  obtain ⟨n, hn⟩ : ∃ n, n = l.length := ⟨_, rfl⟩
  rw [← hn] at hl hc1 HS ⊢
  have HN := Lib.hid hn
  clear hS hn hm
  by_cases h0 : most < 0
  · have E := Lib.hid (bldL_out (l := l) (Or.inl h0))
    have d1 : decide (most < 0) = true := by simpa using h0
    go_enter Try.func13, Try.ntmps13
    go_wp2
    refine wp_scope_jumps 0 (fun _ _ => False) (fun _ _ => 0) rfl ?_ (fun a' w' h => h.elim)
    go_wp2
    simp only [Exit.jump]
    go_ret3
    exact BldOut.none E.out (Chg.refl _ _)
  by_cases h256 : 256 < most
  · have E := Lib.hid (bldL_out (l := l) (Or.inr h256))
    have d1 : decide (most < 0) = false := by simpa using h0
    have d2 : decide (256 < most) = true := by simpa using h256
    go_enter Try.func13, Try.ntmps13
    go_wp2
    refine wp_scope_jumps 0 (fun _ _ => False) (fun _ _ => 0) rfl ?_ (fun a' w' h => h.elim)
    go_wp2
    simp only [Exit.jump]
    go_ret3
    exact BldOut.none E.out (Chg.refl _ _)
  have d1 : decide (most < 0) = false := by simpa using h0
  have d2 : decide (256 < most) = false := by simpa using h256
  have hmm : 0 ≤ most ∧ most ≤ 256 := by omega
  have hAL0 : AL w ((w.alloc (.map #[] 0)).alloc (.cells #[.slice none 0 0, .map (some w.heap.size), .int .i64 most] 51)) (w.heap.size + 1) w.heap.size (w.heap.size + 2) (wdsL []) most (.slice none 0 0) := by
    refine ⟨((Chg.refl [] w).alloc _).alloc _, by omega, by omega, by omega, by omega, by omega, by simp, new2 w _ _, (MapV.made w).keep ((Chg.refl [] _).alloc _) (by simp), World.ownsRow_nil _ _ _ _⟩
  have HAL0 := Lib.hid hAL0
  have hmk := @run_makeMap Try.prog
  clear h0 h256 hb hAL0
  go_enter Try.func13, Try.ntmps13
  go_wp2
  refine wp_scope_pre2 0 (fun a' w' => ∃ (j : Nat) (xo : Option Addr) (xc : Nat) (wv : Value) (u10 u11 u12 u13 u14 u15 u16 u17 u18 u19 u20 u21 u22 u23 u24 u25 u26 u27 u28 u29 u30 u31 u32 u33 u34 u35 u36 u37 u38 u39 u40 : Value), j ≤ n ∧ a' = { tmps := #[.int .i64 kind, .slice ao n cap, .int .i64 most, undef, undef, undef, .slice none 0 0, .slice xo j xc, .bool false, .pointer (some ⟨w.heap.size + 1, 0, none⟩), u10, u11, u12, u13, u14, u15, u16, u17, u18, u19, u20, u21, u22, u23, u24, u25, u26, u27, u28, u29, u30, u31, u32, u33, u34, u35, u36, u37, u38, u39, u40], defers := [] } ∧ AL w w' (w.heap.size + 1) w.heap.size (w.heap.size + 2) (wdsL (l.take j)) most wv ∧ w'.ownsRow (w.heap.size + 2) 3 1 (.slice xo j xc) j (nv .i64 (atsL (l.take j))) ∧ ((wdsL (l.take j)).length : Int) ≤ most) (fun a' _ => n - slen (a'.tmps.getD 7 undef)) rfl ?_ ?_
  · go_wp2
    exact ⟨0, none, 0, .slice none 0 0, _, _, _, _, _, _, _, _, _, _, _, _, _, _, _, _, _, _, _, _, _, _, _, _, _, _, _, _, _, _, _, Nat.zero_le _, rfl, HAL0.out, World.ownsRow_nil _ _ _ _, hmm.1⟩
  · rintro a' wi ⟨j, xo, xc, wv, u10, u11, u12, u13, u14, u15, u16, u17, u18, u19, u20, u21, u22, u23, u24, u25, u26, u27, u28, u29, u30, u31, u32, u33, u34, u35, u36, u37, u38, u39, u40, hj, rfl, hal, hat, hle⟩
    have HW := Lib.hid hal; have HT := Lib.hid hat; have HLE := Lib.hid hle
    clear hal hat hle
    by_cases hjn : j = n
    · have E1 := Lib.hid (show l.take j = l by rw [hjn, HN.out, List.take_length])
      have E := Lib.hid (bldL_in (l := l) hmm (by have := HLE.out; rw [E1.out] at this; exact this))
      have hbn : ((j : Int) == (n : Int)) = true := by simp [hjn]
      obtain ⟨p0, -, -, -⟩ := cells_al HW.out.box
      obtain ⟨wo, wc, rfl⟩ := own_shape HW.out.own
      clear hjn
      go_wp2
      simp only [Exit.jump]
      go_ret3
      unfold BldOut
      rw [E.out]
      refine ⟨_, _, rfl, HW.out.c0, ?_, ?_⟩
      · have := own_mono HW.out.own (B' := w.heap.size) (by omega)
        rw [E1.out] at this ⊢
        exact this
      · have := own_mono HT.out (B' := w.heap.size) (by omega)
        rw [E1.out] at this
        show wi.ownsRow w.heap.size 3 1 _ (atsL l).length (nv .i64 (atsL l))
        have hh : (atsL l).length = j := by rw [atsL_len, ← E1.out, List.length_take, ← HN.out]; omega
        rw [hh]
        exact this
    · have hlt : j < n := by omega
      have hbn : ((j : Int) == (n : Int)) = false := by simp; omega
      have hjj : ¬ (j = n) := hjn
      obtain ⟨v, hv⟩ : ∃ v, l[j]? = some v := ⟨_, List.getElem?_eq_getElem (by rw [← HN.out]; exact hlt)⟩
      obtain ⟨g, off, rfl, hcell⟩ := HS.out.get (by omega)
      obtain ⟨q0, q1⟩ := hcell j v hv
      have x0 := HW.out.c0.cell q0 (by simp)
      have x1 := HW.out.c0.cell q1 (by simp)
      have HL := Lib.hid (letter_any v HW.out (by have := HLE.out; omega))
      have HV := Lib.hid hv
      clear hcell q0 q1 hv
      by_cases hc : v ∈ wdsL (l.take j) ∨ ¬ ((wdsL (l.take j)).length : Int) = most
      · obtain ⟨er, ew⟩ := let_in hc
        have hl2 := addW_len hc HLE.out
        have HL2 := Lib.hid hl2
        obtain ⟨k, hk⟩ : ∃ k, k = plcV (addW (wdsL (l.take j)) v) v := ⟨_, rfl⟩
        have hk256 : k ≤ 256 := by
          have h1 := plcV_lt (mem_addW.2 (Or.inr rfl) : v ∈ addW (wdsL (l.take j)) v)
          rw [← hk] at h1
          omega
        have HK := Lib.hid hk
        have HL2 := Lib.hid hl2
        have HLK := Lib.hid (show Calls Try.prog 22 #[.pointer (some ⟨w.heap.size + 1, 0, none⟩), vvV v] wi fun e w' => e = .returned (.int .i32 (k : Int)) ∧ ∃ wv', AL w w' (w.heap.size + 1) w.heap.size (w.heap.size + 2) (wdsL (l.take (j + 1))) most wv' ∧ Chg ((w.heap.size + 1) :: w.heap.size :: wv.ownBlock.toList) wi w' from HL.out.mono (by
          rintro e w' ⟨he, wv', h1, h2⟩
          rw [er, ← hk] at he
          rw [ew, ← wdsL_take HV.out] at h1
          exact ⟨he, wv', h1, h2⟩))
        have hn1 : ((k : Int) != -1) = true := by
          have : ¬ ((k : Int) = -1) := by omega
          simp
        have hn2 : ¬ ((k : Int) = -1) := by omega
        have hwk : IntKind.i64.wrap (k : Int) = (k : Int) := IntWalk.i64_in _ (by omega)
        clear hc er ew hl2 hk HL
        go_wp2_with (first
          | (go_at_call 22; (with_reducible refine HLK.out.mono ?_); rintro e w2 ⟨rfl, wv2, hA, hC⟩; have HA := Lib.hid hA; have HT2 := Lib.hid (own_chg HT.out hC (fun g hg hm => by have := own_ge HT.out g hg; have := own_apart HT.out HW.out.own (by decide) g hg; simp only [List.mem_cons] at hm; rcases hm with hm | hm | hm; omega; omega; contradiction)); clear hA hC)
          | (at_builtin; refine wpList_append_own _ rfl _ _ 23 rfl (w.heap.size + 2) 3 i0 (.int .i64 0) 1 8 Try.underlying23 hi hz0 hz1 hz2 rfl (by decide) _ _ _ rfl (HT2.out.alloc _) ⟨w2.heap.size, 0, none⟩ 1 1 [.int .i64 (k : Int)] rfl rfl (cell_one_new _ _ _) (by simp [Value.oneCell']) (by unfold maxLen; omega) (by omega) (by have := HA.out.lB; simp; omega) ?_; intro v3 w3 hown3 hgrow3 _; obtain ⟨yo, yc, rfl⟩ := own_shape hown3; have HG := Lib.hid hgrow3; have HO3 := Lib.hid hown3; clear hgrow3 hown3)
          | fail)
        all_goals
          go_step3
          refine ⟨rfl, ⟨j + 1, _, _, wv2, _, _, _, _, _, _, _, _, _, _, _, _, _, _, _, _, _, _, _, _, _, _, _, _, _, _, _, _, _, _, _, hlt, rfl, ?_, ?_, ?_⟩, ?_⟩
          · have hc3 : Chg (Value.slice xo j xc).ownBlock.toList w2 w3 := ((Chg.refl _ w2).alloc _).grown HG.out (fun g hg => .inl (by have h : (Value.slice xo j xc).ownBlock = some g := hg; simp [h]))
            exact HA.out.far hc3 (fun g hg => own_ge HT2.out g (by simpa using hg)) (own_apart HA.out.own HT2.out (by decide))
          · rw [atsL_take HV.out, ← HK.out]
            simpa [nv] using HO3.out
          · rw [wdsL_take HV.out]; exact HL2.out
          · simp [slen]; omega
      · have hc' : v ∉ wdsL (l.take j) ∧ ((wdsL (l.take j)).length : Int) = most := by
          constructor
          · exact fun h => hc (Or.inl h)
          · exact Classical.not_not.1 (fun h => hc (Or.inr h))
        have E := Lib.hid (bldL_many HV.out hc'.1 hc'.2)
        have er : letR (wdsL (l.take j)) most v = -1 := by unfold letR; rw [if_neg hc'.1, if_pos hc'.2]
        have HLK := Lib.hid (show Calls Try.prog 22 #[.pointer (some ⟨w.heap.size + 1, 0, none⟩), vvV v] wi fun e w' => e = .returned (.int .i32 (-1)) ∧ Chg [] w w' from HL.out.mono (by
          rintro e w' ⟨he, wv', h1, h2⟩
          rw [er] at he
          exact ⟨he, h1.c0⟩))
        clear hc hc' er HL
        go_wp2_with (first
          | (go_at_call 22; (with_reducible refine HLK.out.mono ?_); rintro e w2 ⟨rfl, hA⟩; have HA := Lib.hid hA; clear hA)
          | fail)
        simp only [Exit.jump]
        go_ret3
        exact BldOut.none E.out HA.out

end Go.Proofs.Ytegidbbigjhapaa
