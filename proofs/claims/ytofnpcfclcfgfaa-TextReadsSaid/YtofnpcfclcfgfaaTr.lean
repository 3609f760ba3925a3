/- Contract of text.read. -/
import Derived.Test.YtofnpcfclcfgfaaA8
namespace Go.Proofs.Ytofnpcfclcfgfaa
open Go.RowKit
set_option linter.unusedVariables false

def rdS (ws : List ByteArray) : Int × List F := if ws.headD ByteArray.empty = wMsg then nmR ws.tail 0 0 [] [] else (6, [])

theorem JR_lt {w : World} {s0 : Value} {R : Int × List F} : ∀ l a w', JR w s0 R l a w' → l < 4 := by
  intro l a w' h
  match l with
  | 0 => decide
  | 1 => decide
  | 2 => decide
  | 3 => decide
  | l + 4 => exact h.elim

set_option maxRecDepth 100000 in
set_option maxHeartbeats 8000000 in
theorem read_any (wv : Value) (ws : List ByteArray) (w : World) (hS : SeenS w wv ws) (hz : ∀ x ∈ ws, x.size ≤ 4000) (hl : ws.length ≤ 8002) :
    Calls Try.prog 48 #[wv] w fun e w' => Chg [] w w' ∧ ReadOut (rdS ws) w e w' := by
  obtain ⟨ao, cap, rfl, hc1, hc2⟩ := hS.shape
  obtain ⟨i0, hi, hz0, hz1, hz2⟩ := info_field
  obtain ⟨i1, hi1, hy0, hy1, hy2⟩ := info_int
  obtain ⟨R, hR⟩ : ∃ R, R = rdS ws := ⟨_, rfl⟩
  rw [← hR]
  have HR := Lib.hid hR
  clear hR
  have HS := Lib.hid hS; have HZ := Lib.hid hz; have HL := Lib.hid hl
  clear hS hz hl
  have hmf : ∀ (fn : Fn) (first cap : Array Value) (w : World), (Instr.makeFunc fn first cap).run Try.prog w = .ok (.func fn first cap) w := fun _ _ _ _ => rfl
  have eg : ∀ args w, (callFunc 82 args).run Try.prog w = .ok (.enter 82 args) w := Go.Proofs.enters_of Try.func82 (by kernel_rfl) rfl
  go_enter Try.func48, Try.ntmps48
  go_wp2_with fail
  refine wp_scope4 (JR w (.slice ao ws.length cap) R) MR rfl rfl rfl rfl JR_lt ?p0 ?p1 ?p2 ?p3 ?first
  case p0 =>
    rintro a' w' ⟨hR6, ⟨gW, gF, sv, ov, wd, u, rfl⟩, hc⟩
    unfold DF
    have HR6 := Lib.hid hR6; have HC := Lib.hid hc
    clear hR6 hc
    go_wp2
    simp only [Exit.jumps]
    go_ret2
    exact ⟨HC.out, .inr ⟨by rw [HR6.out]; decide, by rw [HR6.out]; rfl⟩⟩
  case p3 =>
    rintro a' w' ⟨gW, gF, sv, ov, wd, ws', S, o, r, k, ⟨u, rfl⟩, hD, hRR, hne⟩
    unfold DF
    obtain ⟨wv', hW, hws⟩ := hD.hW
    have HNX := Lib.hid (next_any gW wv' ws' w w' hW hws hD.cg hD.w1)
    have HD := Lib.hid hD
    clear hD hW hws
    go_wp2_with fail
    (with_reducible refine HNX.out.mono ?_)
    rintro e w2 ⟨rfl, wv2, hb2, hs2, hc2⟩
    have HD2 := Lib.hid (HD.out.next hb2 hs2 hc2)
    have HW2 := Lib.hid hb2; have HS2 := Lib.hid hs2
    clear hb2 hs2 hc2
    obtain ⟨x, hx⟩ : ∃ x, x = ws'.headD ByteArray.empty := ⟨_, rfl⟩
    rw [← hx]
    have HX := Lib.hid hx
    clear hx
    have hxz : x.size ≤ 4000 := by
      rw [HX.out]
      cases ws' with
      | nil => simp
      | cons y t => exact HD.out.wz y (by simp)
    have HML := Lib.hid (show left w2 (.pointer (some ⟨gW, 0, none⟩)) ≤ left w' (.pointer (some ⟨gW, 0, none⟩)) by rw [HD2.out.num, HD.out.num]; simp)
    have HRR := Lib.hid hRR; have HNE := Lib.hid hne
    clear hRR hne
    by_cases hcl : x = wCl
    · have q1 := b_eq lCl hcl
      obtain ⟨t, ht⟩ : ∃ t, ws' = wCl :: t := by
        cases ws' with
        | nil => have h := HX.out; rw [hcl] at h; exact absurd h (by decide)
        | cons y t => exact ⟨t, by have h := HX.out; rw [hcl] at h; simp at h; rw [h]⟩
      have HML2 := Lib.hid (show left w2 (.pointer (some ⟨gW, 0, none⟩)) < left w' (.pointer (some ⟨gW, 0, none⟩)) by rw [HD2.out.num, HD.out.num, ht]; simp)
      rcases o with - | ⟨⟨g, n⟩, o⟩
      · exact absurd rfl HNE.out
      have hR2 := HRR.out
      rw [ht, rdM_close] at hR2
      rw [ht, List.tail_cons] at HD2 HS2
      have HR2 := Lib.hid hR2
      have HT := Lib.hid ht
      obtain ⟨oa, oc, rfl⟩ := own_shape HD2.out.oo
      obtain ⟨go, rfl, -, -, -, -⟩ := own_ptr HD2.out.oo (by simp)
      have hroom := (own_room HD2.out.oo).1
      have hlo := HD2.out.lo
      rw [List.length_cons] at hroom hlo HD2 ⊢
      have hoc0 : ¬ oc = 0 := by omega
      have HDC := Lib.hid HD2.out.close
      obtain ⟨m, hm⟩ : ∃ m, m = o.length := ⟨_, rfl⟩
      rw [← hm] at hroom hlo HD2 HDC ⊢
      have HM := Lib.hid hm
      clear hR2 ht hcl hm
      by_cases ho : o = []
      · have hm0 : m = 0 := by rw [HM.out, ho]; rfl
        have hR3 := HR2.out
        rw [if_pos ho] at hR3
        obtain ⟨wv3, hW3, hs3, wa, wc, rfl⟩ := HDC.out.left
        have c0 : w2.cell? ⟨gW, 0, none⟩ = some (.slice wa t.length wc) := by simp [World.cell?, hW3]
        obtain ⟨n2, hn2⟩ : ∃ n2, n2 = t.length := ⟨_, rfl⟩
        rw [← hn2] at c0
        have HN2 := Lib.hid hn2
        have HR3 := Lib.hid hR3
        clear hR3 hW3 hs3 hn2
        by_cases ht0 : n2 = 0
        · have hR4 := HR3.out
          rw [if_pos (List.eq_nil_of_length_eq_zero (by rw [← HN2.out]; exact ht0))] at hR4
          have HR4 := Lib.hid hR4
          subst ht0
          subst hm0
          clear hR4
          have HOS := Lib.hid (show w2.ownsRow w.heap.size 41 4 sv (setC S g n).length ((setC S g n).flatMap F.cs) by have h := HDC.out.os; rw [ho] at h; exact h)
          clear ho
          go_wp2
          simp only [Exit.jumps]
          go_ret2
          exact ⟨HDC.out.cg, .inl ⟨by rw [← HR4.out], sv, rfl, by rw [← HR4.out]; exact HOS.out⟩⟩
        · have hR4 := HR3.out
          rw [if_neg (by intro e; apply ht0; rw [HN2.out, e]; rfl)] at hR4
          have HR4 := Lib.hid hR4
          have hn3 : 0 < n2 := by omega
          subst hm0
          clear hR4 ho
          go_wp2
          go_step3
          refine ⟨⟨HR4.out.symm, ⟨gW, gF, _, _, _, DF_of rfl⟩, HDC.out.cg⟩, ?_⟩
          have := HML2.out
          simp only [MR, Array.getD_eq_getD_getElem?]
          show 4 * left w2 (.pointer (some ⟨gW, 0, none⟩)) + 0 < 4 * left w' (.pointer (some ⟨gW, 0, none⟩)) + 3
          omega
      · have hm0 : 0 < m := by rw [HM.out]; exact List.length_pos_iff.2 ho
        have hR3 := HR2.out
        rw [if_neg ho] at hR3
        have HR3 := Lib.hid hR3
        have HO := Lib.hid ho
        clear hR3 ho
        go_wp2
        go_step3
        refine ⟨⟨gW, gF, _, _, _, t, setC S g n, o, r, k, DF_of rfl, HDC.out, HR3.out, HO.out⟩, ?_⟩
        have := HML2.out
        show 4 * left w2 (.pointer (some ⟨gW, 0, none⟩)) + 3 < 4 * left w' (.pointer (some ⟨gW, 0, none⟩)) + 3
        omega
    · have q1 := b_ne lCl hcl
      have hR2 := HRR.out
      have HR2 := Lib.hid (show fdR x ws'.tail S o = R by
        rw [← hR2, HX.out]
        cases ws' with
        | nil => exact (rdM_none _ _ _).symm
        | cons y t => exact (rdM_fd (by rintro ⟨-, h⟩; apply hcl; rw [HX.out]; exact h)).symm)
      clear hR2 hcl
      go_wp2
      go_step3
      refine ⟨⟨gW, gF, _, _, x, ws'.tail, S, o, r, k, DF_of rfl, HD2.out, HR2.out, HNE.out, hxz⟩, ?_⟩
      have := HML.out
      show 4 * left w2 (.pointer (some ⟨gW, 0, none⟩)) + 2 < 4 * left w' (.pointer (some ⟨gW, 0, none⟩)) + 3
      omega
  case p1 =>
    rintro a' w' ⟨gW, gF, sv, ov, wd, ws', S, o, r, k, ⟨u, rfl⟩, hD, hRR, hok⟩
    unfold DF
    obtain ⟨sa, sc, rfl⟩ := own_shape hD.os
    obtain ⟨oa, oc, rfl⟩ := own_shape hD.oo
    obtain ⟨wv', hW, hws⟩ := hD.hW
    have HNX := Lib.hid (next_any gW wv' ws' w w' hW hws hD.cg hD.w1)
    have HD := Lib.hid hD; have HRR := Lib.hid hRR; have HOK := Lib.hid hok
    clear hD hW hws hRR hok
    go_wp2_with fail
    (with_reducible refine HNX.out.mono ?_)
    rintro e w2 ⟨rfl, wv2, hb2, hs2, hc2⟩
    have HD2 := Lib.hid (HD.out.next hb2 hs2 hc2)
    clear hb2 hs2 hc2 HNX
    obtain ⟨x, hx⟩ : ∃ x, x = ws'.headD ByteArray.empty := ⟨_, rfl⟩
    rw [← hx]
    have hxz : x.size ≤ 4000 := by
      rw [hx]
      cases ws' with
      | nil => simp
      | cons y t => exact HD.out.wz y (by simp)
    have HX := Lib.hid hx
    clear hx
    obtain ⟨n, hn⟩ : ∃ n, n = S.length := ⟨_, rfl⟩
    obtain ⟨m, hm⟩ : ∃ m, m = o.length := ⟨_, rfl⟩
    have hn40 : n ≤ 40 := by rw [hn]; exact HD.out.ls
    have hm9 : m ≤ 9 := by rw [hm]; exact HD.out.lo
    rw [← hn] at HD HD2 ⊢
    rw [← hm] at HD HD2 ⊢
    have HN := Lib.hid hn; have HM := Lib.hid hm
    clear hn hm
    go_wp2_with fail
    (with_reducible refine (refused_any x n m _ (by omega)).mono ?_)
    rintro e w3 ⟨rfl, rfl⟩
    obtain ⟨ev, hev⟩ : ∃ ev, ev = refN x n m := ⟨_, rfl⟩
    rw [← hev]
    have HEV := Lib.hid (show ev = refN (ws'.headD ByteArray.empty) S.length o.length by rw [hev, HX.out, HN.out, HM.out])
    by_cases he0 : ev = 0
    case neg =>
      have HR2 := Lib.hid (show R = (ev, []) by rw [← HRR.out, nmR_bad (by rw [← HEV.out]; exact he0), ← HEV.out])
      have q1 : (ev != 0) = true := by simpa using he0
      have HE0 := Lib.hid he0
      clear hev he0
      go_wp2
      simp only [Exit.jumps]
      go_ret2
      exact ⟨HD2.out.cg, .inr ⟨by rw [HR2.out]; exact HE0.out, by rw [HR2.out]; rfl⟩⟩
    obtain ⟨hws0, hnm⟩ := nmR_ok (ws := ws') (r := r) (k := k) (S := S) (o := o) (by rw [← HEV.out]; exact he0)
    rw [HRR.out, ← HX.out] at hnm
    have HNM := Lib.hid hnm; have HWS := Lib.hid hws0
    obtain ⟨hn39, hm8, -⟩ := refN_zero (show refN x n m = 0 by rw [← hev]; exact he0)
    clear hnm hws0 hev
    subst he0
    go_wp2_with fail
    (with_reducible refine (clone_any x _ hxz).mono ?_)
    rintro e w3 ⟨rfl, hk3⟩
    have HD3 := Lib.hid (HD2.out.keep hk3)
    clear hk3
    obtain ⟨nm3, hF3⟩ := HD3.out.hF
    obtain ⟨f0, f1, f2, f3, fz⟩ := cellsL hF3
    have fz0 := fz 0
    have HF3 := Lib.hid hF3
    clear fz hF3
    have HD4 := Lib.hid (HD3.out.field ((Chg.refl [gF] _).setCell (p := ⟨gF, 0, none⟩) (by simp) (.string x)) (r' := r) (k' := k) (nm := x) (heap_set (i := 0) HF3.out (.string x)))
    obtain ⟨Y, hY⟩ : ∃ Y, Y = (withC S o).flatMap F.cs := ⟨_, rfl⟩
    have ho4 := HD4.out.os
    rw [← HN.out, ← hY] at ho4
    have HO4 := Lib.hid ho4
    clear ho4
    have HY := Lib.hid hY
    have HB4 := Lib.hid (HD4.out.cg.size)
    have HM2 := Lib.hid (show n + 1 ≤ maxLen by unfold maxLen; omega)
    have HM3 := Lib.hid (show (n + 1) * 40 ≤ 140737488355328 by omega)
    have HOD := Lib.hid HD.out.od
    clear hY
    rcases o with - | ⟨⟨g, cn⟩, o⟩
    · have hm0 : m = 0 := HM.out
      subst hm0
      go_wp2_with (first
        | (at_builtin; refine wpList_append_at _ rfl (.tmp 30) (.tmp 32) _ rfl w.heap.size 41 i0 (.agg #[.string ByteArray.empty, .int .i64 0, .int .i64 0, .int .i64 0]) 4 40 Try.underlying25 hi hz0 hz1 hz2 rfl (by omega) (.slice sa n sc) n Y rfl (HO4.out.alloc _) ⟨_, 0, none⟩ 1 1 (F.cs ⟨x, r, k, 0⟩) rfl rfl (new_cells (C := #[.string x, .int .i64 r, .int .i64 k, .int .i64 0]) _ (by simp)) (F.one _) HM2.out HM3.out (le_alloc HB4.out _) ?_; intro v5 w5 hown5 hg5 hat5; obtain ⟨a5, c5, rfl⟩ := own_shape hown5; have HD5 := Lib.hid (HD4.out.append (f := ⟨x, r, k, 0⟩) HY.out (by rw [← HN.out]; exact hown5) hg5 hat5 (by rw [← HN.out]; exact hn39)); clear hown5 hg5 hat5)
        | fail)
      have HD6 := HD5
      obtain ⟨wv6, hW6, hs6⟩ := HD6.out.hW
      have HNX := Lib.hid (next_any gW wv6 ws'.tail w _ hW6 hs6 HD6.out.cg HD6.out.w1)
      clear hW6 hs6
      (with_reducible refine HNX.out.mono ?_)
      rintro e w7 ⟨rfl, wv7, hb7, hs7, hc7⟩
      have HD7 := Lib.hid (HD6.out.next hb7 hs7 hc7)
      clear hb7 hs7 hc7 HNX
      obtain ⟨z, hz⟩ : ∃ z, z = ws'.tail.headD ByteArray.empty := ⟨_, rfl⟩
      rw [← hz]
      have hnm := HNM.out
      rw [← hz] at hnm
      clear hz
      have HML := Lib.hid (show ∀ wl g' f' ws2 S2 o2 r2 k2 s2 v2, RD w wl g' f' ws2 S2 o2 r2 k2 s2 v2 → g' = gW → ws2.length ≤ ws'.tail.tail.length → left wl (.pointer (some ⟨gW, 0, none⟩)) + 1 ≤ left w' (.pointer (some ⟨gW, 0, none⟩)) from fun wl g' f' ws2 S2 o2 r2 k2 s2 v2 h e hle => by
        subst e
        rw [h.num, HD.out.num]
        have : 0 < ws'.length := List.length_pos_iff.2 HWS.out
        simp at hle
        omega)
      obtain ⟨nm7, hF7⟩ := HD7.out.hF
      obtain ⟨g0, g1, g2, g3, -⟩ := cellsL hF7
      clear hF7 g0 g1 g3
      have hcw : (k = 0 ∧ z = wOp) ∨ (k ≠ 0 ∧ z = wSc) ∨ (k = 0 ∧ z ≠ wOp) ∨ (k ≠ 0 ∧ z ≠ wSc) := by
        by_cases h1 : k = 0
        · by_cases h2 : z = wOp
          · exact .inl ⟨h1, h2⟩
          · exact .inr (.inr (.inl ⟨h1, h2⟩))
        · by_cases h2 : z = wSc
          · exact .inr (.inl ⟨h1, h2⟩)
          · exact .inr (.inr (.inr ⟨h1, h2⟩))
      rcases hcw with ⟨hk0, hz0⟩ | ⟨hk0, hz0⟩ | ⟨hk0, hz0⟩ | ⟨hk0, hz0⟩
      · have q1 : (k == 0) = true := by simp [hk0]
        have q3 : (k != 0) = false := by simp [hk0]
        have q2 := b_eq lOp hz0
        rw [if_pos ⟨hk0, hz0⟩] at hnm
        have HR2 := Lib.hid hnm
        have HK0 := Lib.hid hk0
        clear hnm hk0 hz0
        obtain ⟨Z, hZ⟩ : ∃ Z, Z = iv (grS (bumpO [])) := ⟨_, rfl⟩
        have HO7 := Lib.hid (show w7.ownsRow w.heap.size 3 1 (.slice oa 0 oc) 0 Z by rw [hZ]; exact HD7.out.oo)
        have HZ7 := Lib.hid hZ
        have HB7 := Lib.hid (show w.heap.size ≤ w7.heap.size from HD7.out.cg.size)
        have HM4 := Lib.hid (show 0 + 1 ≤ maxLen by unfold maxLen; omega)
        have HM5 := Lib.hid (show (0 + 1) * 8 ≤ 140737488355328 by omega)
        clear hZ
        go_wp2_with (first
          | (at_builtin; refine wpList_append_at _ rfl (.tmp 60) (.tmp 64) _ rfl w.heap.size 3 i1 (.int .i64 0) 1 8 Try.underlying22 hi1 hy0 hy1 hy2 rfl (by omega) (.slice oa 0 oc) 0 Z rfl (HO7.out.alloc _) ⟨_, 0, none⟩ 1 1 [.int .i64 (n : Int)] rfl rfl new_cell one_i HM4.out HM5.out (le_alloc HB7.out _) ?_; intro v8 w8 hown8 hg8 hat8; obtain ⟨a8, c8, rfl⟩ := own_shape hown8; have HD8 := Lib.hid (HD7.out.open_ (f := ⟨x, r, k, 0⟩) (S := S) rfl (rfl) HZ7.out (by rw [← HN.out]; exact hown8) hg8 (Nat.zero_le _) (fun e he => absurd he (by simp))); clear hown8 hg8 hat8)
          | fail)
        obtain ⟨wv8, hW8, hs8⟩ := HD8.out.hW
        have HNX := Lib.hid (next_any gW wv8 ws'.tail.tail w _ hW8 hs8 HD8.out.cg HD8.out.w1)
        clear hW8 hs8
        (with_reducible refine HNX.out.mono ?_)
        rintro e w9 ⟨rfl, wv9, hb9, hs9, hc9⟩
        have HD9 := Lib.hid (HD8.out.next hb9 hs9 hc9)
        clear hb9 hs9 hc9 HNX
        obtain ⟨y, hy⟩ : ∃ y, y = ws'.tail.tail.headD ByteArray.empty := ⟨_, rfl⟩
        rw [← hy]
        have hyz : y.size ≤ 4000 := by
          rw [hy]
          cases h : ws'.tail.tail with
          | nil => simp
          | cons q t => exact HD8.out.wz q (by rw [h]; simp)
        have HR3 := Lib.hid (show fdR y ws'.tail.tail.tail (S ++ [⟨x, r, k, 0⟩]) ((S.length, 0) :: (bumpO [])) = R by
          rw [HR2.out, hy]
          cases ws'.tail.tail with
          | nil => exact (rdM_none _ _ _).symm
          | cons q t => exact (rdM_fd (by rintro ⟨h, -⟩; cases h)).symm)
        clear hy
        go_wp2
        go_step3
        refine ⟨⟨gW, gF, _, _, y, _, _, _, r, k, DF_of rfl, HD9.out, HR3.out, by simp, hyz⟩, ?_⟩
        have := HML.out _ _ _ _ _ _ _ _ _ _ HD9.out rfl (by simp)
        show 4 * left w9 (.pointer (some ⟨gW, 0, none⟩)) + 2 < 4 * left w' (.pointer (some ⟨gW, 0, none⟩)) + 1
        omega
      · have q1 : (k == 0) = false := by simpa using hk0
        have q3 : (k != 0) = true := by simpa using hk0
        have q2 := b_eq lSc hz0
        rw [if_neg (fun h => hk0 h.1), if_pos ⟨hk0, hz0⟩] at hnm
        have HR2 := Lib.hid hnm
        have HK0 := Lib.hid hk0
        clear hnm hk0 hz0
        go_wp2
        go_step3
        refine ⟨⟨gW, gF, _, _, _, _, _, _, r, k, DF_of rfl, HD7.out, HR2.out.symm, fun h => HK0.out (HOK.out (by first | rfl | trivial))⟩, ?_⟩
        have := HML.out _ _ _ _ _ _ _ _ _ _ HD7.out rfl (Nat.le_refl _)
        show 4 * left w7 (.pointer (some ⟨gW, 0, none⟩)) + 3 < 4 * left w' (.pointer (some ⟨gW, 0, none⟩)) + 1
        omega
      · have q1 : (k == 0) = true := by simp [hk0]
        have q3 : (k != 0) = false := by simp [hk0]
        have q2 := b_ne lOp hz0
        rw [if_neg (fun h => hz0 h.2), if_neg (fun h => h.1 hk0)] at hnm
        have HR2 := Lib.hid hnm
        clear hnm hk0 hz0
        go_wp2
        go_step3
        refine ⟨⟨HR2.out, ⟨gW, gF, _, _, _, DF_of rfl⟩, HD7.out.cg⟩, ?_⟩
        have := HML.out _ _ _ _ _ _ _ _ _ _ HD7.out rfl (Nat.le_refl _)
        show 4 * left w7 (.pointer (some ⟨gW, 0, none⟩)) + 0 < 4 * left w' (.pointer (some ⟨gW, 0, none⟩)) + 1
        omega
      · have q1 : (k == 0) = false := by simpa using hk0
        have q3 : (k != 0) = true := by simpa using hk0
        have q2 := b_ne lSc hz0
        rw [if_neg (fun h => hk0 h.1), if_neg (fun h => hz0 h.2)] at hnm
        have HR2 := Lib.hid hnm
        clear hnm hk0 hz0
        go_wp2
        go_step3
        refine ⟨⟨HR2.out, ⟨gW, gF, _, _, _, DF_of rfl⟩, HD7.out.cg⟩, ?_⟩
        have := HML.out _ _ _ _ _ _ _ _ _ _ HD7.out rfl (Nat.le_refl _)
        show 4 * left w7 (.pointer (some ⟨gW, 0, none⟩)) + 0 < 4 * left w' (.pointer (some ⟨gW, 0, none⟩)) + 1
        omega
    · obtain ⟨m', hm'⟩ : ∃ m', m = m' + 1 := ⟨o.length, by rw [HM.out, List.length_cons]⟩
      subst hm'
      have HMM := Lib.hid (show m' = o.length by have := HM.out; simp at this; exact this)
      have hgd := HOD.out (g, cn) (by simp)
      simp only at hgd
      rw [← HN.out] at hgd
      go_wp2_with (first
        | (at_builtin; refine wpList_append_at _ rfl (.tmp 30) (.tmp 32) _ rfl w.heap.size 41 i0 (.agg #[.string ByteArray.empty, .int .i64 0, .int .i64 0, .int .i64 0]) 4 40 Try.underlying25 hi hz0 hz1 hz2 rfl (by omega) (.slice sa n sc) n Y rfl (HO4.out.alloc _) ⟨_, 0, none⟩ 1 1 (F.cs ⟨x, r, k, 0⟩) rfl rfl (new_cells (C := #[.string x, .int .i64 r, .int .i64 k, .int .i64 0]) _ (by simp)) (F.one _) HM2.out HM3.out (le_alloc HB4.out _) ?_; intro v5 w5 hown5 hg5 hat5; obtain ⟨a5, c5, rfl⟩ := own_shape hown5; have HD5 := Lib.hid (HD4.out.append (f := ⟨x, r, k, 0⟩) HY.out (by rw [← HN.out]; exact hown5) hg5 hat5 (by rw [← HN.out]; exact hn39)); clear hown5 hg5 hat5; obtain ⟨gs5, go5, rfl, rfl, hn5, hg5, hz5⟩ := HD5.out.top (by simp [HN.out]) (by rw [HMM.out]); rw [← HMM.out] at hg5)
        | fail)
      have HD6 := Lib.hid (HD5.out.bump (by simp [HN.out]) (by rw [List.length_append, ← HN.out]; simp; omega))
      clear hn5 hg5 hz5
      generalize World.setCell _ _ _ = W6 at HD6 ⊢
      obtain ⟨wv6, hW6, hs6⟩ := HD6.out.hW
      have HNX := Lib.hid (next_any gW wv6 ws'.tail w _ hW6 hs6 HD6.out.cg HD6.out.w1)
      clear hW6 hs6
      (with_reducible refine HNX.out.mono ?_)
      rintro e w7 ⟨rfl, wv7, hb7, hs7, hc7⟩
      have HD7 := Lib.hid (HD6.out.next hb7 hs7 hc7)
      clear hb7 hs7 hc7 HNX
      obtain ⟨z, hz⟩ : ∃ z, z = ws'.tail.headD ByteArray.empty := ⟨_, rfl⟩
      rw [← hz]
      have hnm := HNM.out
      rw [← hz] at hnm
      clear hz
      have HML := Lib.hid (show ∀ wl g' f' ws2 S2 o2 r2 k2 s2 v2, RD w wl g' f' ws2 S2 o2 r2 k2 s2 v2 → g' = gW → ws2.length ≤ ws'.tail.tail.length → left wl (.pointer (some ⟨gW, 0, none⟩)) + 1 ≤ left w' (.pointer (some ⟨gW, 0, none⟩)) from fun wl g' f' ws2 S2 o2 r2 k2 s2 v2 h e hle => by
        subst e
        rw [h.num, HD.out.num]
        have : 0 < ws'.length := List.length_pos_iff.2 HWS.out
        simp at hle
        omega)
      obtain ⟨nm7, hF7⟩ := HD7.out.hF
      obtain ⟨g0, g1, g2, g3, -⟩ := cellsL hF7
      clear hF7 g0 g1 g3
      have hcw : (k = 0 ∧ z = wOp) ∨ (k ≠ 0 ∧ z = wSc) ∨ (k = 0 ∧ z ≠ wOp) ∨ (k ≠ 0 ∧ z ≠ wSc) := by
        by_cases h1 : k = 0
        · by_cases h2 : z = wOp
          · exact .inl ⟨h1, h2⟩
          · exact .inr (.inr (.inl ⟨h1, h2⟩))
        · by_cases h2 : z = wSc
          · exact .inr (.inl ⟨h1, h2⟩)
          · exact .inr (.inr (.inr ⟨h1, h2⟩))
      rcases hcw with ⟨hk0, hz0⟩ | ⟨hk0, hz0⟩ | ⟨hk0, hz0⟩ | ⟨hk0, hz0⟩
      · have q1 : (k == 0) = true := by simp [hk0]
        have q3 : (k != 0) = false := by simp [hk0]
        have q2 := b_eq lOp hz0
        rw [if_pos ⟨hk0, hz0⟩] at hnm
        have HR2 := Lib.hid hnm
        have HK0 := Lib.hid hk0
        clear hnm hk0 hz0
        obtain ⟨Z, hZ⟩ : ∃ Z, Z = iv (grS (bumpO ((g, cn) :: o))) := ⟨_, rfl⟩
        have HO7 := Lib.hid (show w7.ownsRow w.heap.size 3 1 (.slice (some ⟨go5, 0, none⟩) (m' + 1) oc) (m' + 1) Z by rw [hZ]; have h := HD7.out.oo; rw [List.length_cons, ← HMM.out] at h; exact h)
        have HZ7 := Lib.hid hZ
        have HB7 := Lib.hid (show w.heap.size ≤ w7.heap.size from HD7.out.cg.size)
        have HM4 := Lib.hid (show (m' + 1) + 1 ≤ maxLen by unfold maxLen; omega)
        have HM5 := Lib.hid (show ((m' + 1) + 1) * 8 ≤ 140737488355328 by omega)
        clear hZ
        go_wp2_with (first
          | (at_builtin; refine wpList_append_at _ rfl (.tmp 60) (.tmp 64) _ rfl w.heap.size 3 i1 (.int .i64 0) 1 8 Try.underlying22 hi1 hy0 hy1 hy2 rfl (by omega) (.slice (some ⟨go5, 0, none⟩) (m' + 1) oc) (m' + 1) Z rfl (HO7.out.alloc _) ⟨_, 0, none⟩ 1 1 [.int .i64 (n : Int)] rfl rfl new_cell one_i HM4.out HM5.out (le_alloc HB7.out _) ?_; intro v8 w8 hown8 hg8 hat8; obtain ⟨a8, c8, rfl⟩ := own_shape hown8; have HD8 := Lib.hid (HD7.out.open_ (f := ⟨x, r, k, 0⟩) (S := S) rfl (by rw [List.length_cons, ← HMM.out]) HZ7.out (by rw [← HN.out]; exact hown8) hg8 (by simp only [List.length_cons, ← HMM.out]; exact hm8) (fun e he => by (rcases List.mem_cons.1 he with rfl | he; exact (by rw [← HN.out]; exact hgd.1); exact (HOD.out e (by simp [he])).1))); clear hown8 hg8 hat8)
          | fail)
        obtain ⟨wv8, hW8, hs8⟩ := HD8.out.hW
        have HNX := Lib.hid (next_any gW wv8 ws'.tail.tail w _ hW8 hs8 HD8.out.cg HD8.out.w1)
        clear hW8 hs8
        (with_reducible refine HNX.out.mono ?_)
        rintro e w9 ⟨rfl, wv9, hb9, hs9, hc9⟩
        have HD9 := Lib.hid (HD8.out.next hb9 hs9 hc9)
        clear hb9 hs9 hc9 HNX
        obtain ⟨y, hy⟩ : ∃ y, y = ws'.tail.tail.headD ByteArray.empty := ⟨_, rfl⟩
        rw [← hy]
        have hyz : y.size ≤ 4000 := by
          rw [hy]
          cases h : ws'.tail.tail with
          | nil => simp
          | cons q t => exact HD8.out.wz q (by rw [h]; simp)
        have HR3 := Lib.hid (show fdR y ws'.tail.tail.tail (S ++ [⟨x, r, k, 0⟩]) ((S.length, 0) :: (bumpO ((g, cn) :: o))) = R by
          rw [HR2.out, hy]
          cases ws'.tail.tail with
          | nil => exact (rdM_none _ _ _).symm
          | cons q t => exact (rdM_fd (by rintro ⟨h, -⟩; cases h)).symm)
        clear hy
        go_wp2
        go_step3
        refine ⟨⟨gW, gF, _, _, y, _, _, _, r, k, DF_of rfl, HD9.out, HR3.out, by simp, hyz⟩, ?_⟩
        have := HML.out _ _ _ _ _ _ _ _ _ _ HD9.out rfl (by simp)
        show 4 * left w9 (.pointer (some ⟨gW, 0, none⟩)) + 2 < 4 * left w' (.pointer (some ⟨gW, 0, none⟩)) + 1
        omega
      · have q1 : (k == 0) = false := by simpa using hk0
        have q3 : (k != 0) = true := by simpa using hk0
        have q2 := b_eq lSc hz0
        rw [if_neg (fun h => hk0 h.1), if_pos ⟨hk0, hz0⟩] at hnm
        have HR2 := Lib.hid hnm
        have HK0 := Lib.hid hk0
        clear hnm hk0 hz0
        go_wp2
        go_step3
        refine ⟨⟨gW, gF, _, _, _, _, _, _, r, k, DF_of rfl, HD7.out, HR2.out.symm, by simp⟩, ?_⟩
        have := HML.out _ _ _ _ _ _ _ _ _ _ HD7.out rfl (Nat.le_refl _)
        show 4 * left w7 (.pointer (some ⟨gW, 0, none⟩)) + 3 < 4 * left w' (.pointer (some ⟨gW, 0, none⟩)) + 1
        omega
      · have q1 : (k == 0) = true := by simp [hk0]
        have q3 : (k != 0) = false := by simp [hk0]
        have q2 := b_ne lOp hz0
        rw [if_neg (fun h => hz0 h.2), if_neg (fun h => h.1 hk0)] at hnm
        have HR2 := Lib.hid hnm
        clear hnm hk0 hz0
        go_wp2
        go_step3
        refine ⟨⟨HR2.out, ⟨gW, gF, _, _, _, DF_of rfl⟩, HD7.out.cg⟩, ?_⟩
        have := HML.out _ _ _ _ _ _ _ _ _ _ HD7.out rfl (Nat.le_refl _)
        show 4 * left w7 (.pointer (some ⟨gW, 0, none⟩)) + 0 < 4 * left w' (.pointer (some ⟨gW, 0, none⟩)) + 1
        omega
      · have q1 : (k == 0) = false := by simpa using hk0
        have q3 : (k != 0) = true := by simpa using hk0
        have q2 := b_ne lSc hz0
        rw [if_neg (fun h => hk0 h.1), if_neg (fun h => hz0 h.2)] at hnm
        have HR2 := Lib.hid hnm
        clear hnm hk0 hz0
        go_wp2
        go_step3
        refine ⟨⟨HR2.out, ⟨gW, gF, _, _, _, DF_of rfl⟩, HD7.out.cg⟩, ?_⟩
        have := HML.out _ _ _ _ _ _ _ _ _ _ HD7.out rfl (Nat.le_refl _)
        show 4 * left w7 (.pointer (some ⟨gW, 0, none⟩)) + 0 < 4 * left w' (.pointer (some ⟨gW, 0, none⟩)) + 1
        omega
  case p2 =>
    rintro a' w' ⟨gW, gF, sv, ov, x, ws', S, o, r, k, ⟨u, rfl⟩, hD, hRR, hne, hxz⟩
    unfold DF
    have HD := Lib.hid hD; have HRR := Lib.hid hRR; have HNE := Lib.hid hne
    clear hD hRR hne
    go_wp2_with fail
    (with_reducible refine (reps_any _).mono ?_)
    rintro e w2 ⟨rfl, hw2⟩
    have hc2 : Chg [] w' w2 := by rw [hw2]; exact (Chg.refl [] w').alloc _
    have hl2 : w2.heap[w'.heap.size]? = some (.cells (Go.Proofs.Ytofnpcfclcfgfaa.sv repsL).toArray 9 (0, 0)) := by rw [hw2]; exact heap_alloc_new _ _
    have HL2 := Lib.hid (lit_cells hl2)
    have HD2 := Lib.hid (HD.out.keep hc2)
    clear hw2 hc2 hl2
    obtain ⟨nm, hF⟩ := HD2.out.hF
    obtain ⟨f0, f1, f2, f3, fz⟩ := cellsL hF
    have fz1 := fz 1
    have HF := Lib.hid hF
    clear hF fz f0 f2 f3
    go_wp2_with fail
    (with_reducible refine (slices_Index_string _ 0 3 3 repsL x _ (by decide) (by decide) HL2.out).mono ?_)
    rintro e w3 ⟨rfl, rfl⟩
    rw [show Lib.idxOfS (List.take 3 repsL) x = ixR x from rfl]
    obtain ⟨ri, hri⟩ : ∃ ri, ri = ixR x := ⟨_, rfl⟩
    rw [← hri]
    have HRI := Lib.hid hri
    clear hri
    go_wp2_with fail
    have hF3 := heap_set (i := 1) HF.out (.int .i64 ri)
    have HD3 := Lib.hid (HD2.out.field ((Chg.refl [gF] _).setCell (p := ⟨gF, 1, none⟩) (by simp) _) (r' := ri) (k' := k) hF3)
    clear hF3 f1 fz1 HL2 HD2 HF
    generalize World.setCell _ _ _ = W3 at HD3 ⊢
    (with_reducible refine (kinds_any _).mono ?_)
    rintro e w4 ⟨rfl, hw4⟩
    have hc4 : Chg [] W3 w4 := by rw [hw4]; exact (Chg.refl [] W3).alloc _
    have hl4 : w4.heap[W3.heap.size]? = some (.cells (Go.Proofs.Ytofnpcfclcfgfaa.sv kindsL).toArray 9 (0, 0)) := by rw [hw4]; exact heap_alloc_new _ _
    have HL4 := Lib.hid hl4
    have HD4 := Lib.hid (HD3.out.keep hc4)
    clear hw4 hc4 hl4
    obtain ⟨wv4, hW4, hs4⟩ := HD4.out.hW
    have HNX := Lib.hid (next_any gW wv4 ws' w w4 hW4 hs4 HD4.out.cg HD4.out.w1)
    have HW4 := Lib.hid hW4
    clear hW4 hs4
    go_wp2_with fail
    (with_reducible refine HNX.out.mono ?_)
    rintro e w5 ⟨rfl, wv5, hb5, hs5, hc5⟩
    have HD5 := Lib.hid (HD4.out.next hb5 hs5 hc5)
    have HL5 := Lib.hid (lit_cells (hc5.heap HL4.out (by simpa using blk_ne HL4.out HW4.out (by decide))))
    clear hb5 hs5 hc5
    obtain ⟨y, hy⟩ : ∃ y, y = ws'.headD ByteArray.empty := ⟨_, rfl⟩
    rw [← hy]
    have HY := Lib.hid hy
    clear hy
    obtain ⟨nm5, hF5⟩ := HD5.out.hF
    obtain ⟨f0, f1, f2, f3, fz⟩ := cellsL hF5
    have fz2 := fz 2
    have HF5 := Lib.hid hF5
    clear hF5 fz f0 f3
    go_wp2_with fail
    (with_reducible refine (slices_Index_string _ 0 5 5 kindsL y _ (by decide) (by decide) HL5.out).mono ?_)
    rintro e w6 ⟨rfl, rfl⟩
    rw [show Lib.idxOfS (List.take 5 kindsL) y = ixK y from rfl]
    obtain ⟨ki, hki⟩ : ∃ ki, ki = ixK y := ⟨_, rfl⟩
    rw [← hki]
    have HKI := Lib.hid hki
    have hR2 : (if ri < 0 ∨ ki < 0 then (6, []) else nmR ws'.tail ri ki S o) = R := by
      rw [HRI.out, hki, HY.out]; exact HRR.out
    clear hki
    have hF6 := heap_set (i := 2) HF5.out (.int .i64 ki)
    have HD6 := Lib.hid (HD5.out.field ((Chg.refl [gF] _).setCell (p := ⟨gF, 2, none⟩) (by simp) _) (r' := ri) (k' := ki) hF6)
    have HML := Lib.hid (show ∀ wl, RD w wl gW gF ws'.tail S o ri ki sv ov → left wl (.pointer (some ⟨gW, 0, none⟩)) ≤ left w' (.pointer (some ⟨gW, 0, none⟩)) from fun wl h => by rw [h.num, HD.out.num]; simp)
    clear hF6
    by_cases hrk : ri < 0 ∨ ki < 0
    · rw [if_pos hrk] at hR2
      have HR2 := Lib.hid hR2
      clear hR2
      have hways : decide (0 ≤ ri) = false ∨ decide (0 ≤ ri) = true ∧ decide (0 ≤ ki) = false := by
        by_cases h : ri < 0
        · left; simp; omega
        · right; exact ⟨by simp; omega, by simp; omega⟩
      clear hrk
      rcases hways with q1 | ⟨q1, q2⟩
      all_goals
        go_wp2
        go_step3
        go_wp2
        simp only [Exit.jumps]
        go_ret2
        exact ⟨HD6.out.cg, .inr ⟨by rw [← HR2.out]; decide, by rw [← HR2.out]; rfl⟩⟩
    · rw [if_neg hrk] at hR2
      have HR2 := Lib.hid hR2
      clear hR2
      have q1 : decide (0 ≤ ri) = true := by simp; omega
      have q2 : decide (0 ≤ ki) = true := by simp; omega
      clear hrk
      go_wp2
      go_step3
      refine ⟨⟨gW, gF, _, _, _, ws'.tail, S, o, ri, ki, DF_of rfl, HD6.out, HR2.out, fun h => absurd h HNE.out⟩, ?_⟩
      have := HML.out _ HD6.out
      show 4 * left _ (.pointer (some ⟨gW, 0, none⟩)) + 1 < 4 * left w' (.pointer (some ⟨gW, 0, none⟩)) + 2
      omega
  case first =>
    intro h1
    have hWb : ((w.alloc (.cells #[.slice ao ws.length cap] 35)).alloc (.cells #[.string ({ data := #[] } : ByteArray), .int .i64 0, .int .i64 0, .int .i64 0] 41)).heap[w.heap.size]? = some (.cells #[.slice ao ws.length cap] 35 (0, 0)) := (heap_alloc_old _ _ (by simp)).trans (heap_alloc_new _ _)
    have hFb : ((w.alloc (.cells #[.slice ao ws.length cap] 35)).alloc (.cells #[.string ({ data := #[] } : ByteArray), .int .i64 0, .int .i64 0, .int .i64 0] 41)).heap[w.heap.size + 1]? = some (.cells #[.string ({ data := #[] } : ByteArray), .int .i64 0, .int .i64 0, .int .i64 0] 41 (0, 0)) := by
      have h := heap_alloc_new (w.alloc (.cells #[.slice ao ws.length cap] 35)) (.cells #[.string ({ data := #[] } : ByteArray), .int .i64 0, .int .i64 0, .int .i64 0] 41)
      simpa using h
    have HD := Lib.hid (show RD w _ w.heap.size (w.heap.size + 1) ws [] [] 0 0 (.slice none 0 0) (.slice none 0 0) from ⟨((Chg.refl [] w).alloc _).alloc _, Nat.le_refl _, by omega, ⟨_, hWb, HS.out⟩, ⟨_, hFb⟩, World.ownsRow_nil _ _ _ _, World.ownsRow_nil _ _ _ _, by simp [Value.ownBlock], by simp, by simp, by simp, by simp, HZ.out, HL.out⟩)
    have HNX := Lib.hid (next_any w.heap.size _ ws w _ hWb HS.out HD.out.cg (Nat.le_refl _))
    have H1 := Lib.hid h1
    clear hWb hFb h1
    go_wp2_with fail
    (with_reducible refine HNX.out.mono ?_)
    rintro e w2 ⟨rfl, wv2, hb2, hs2, hc2⟩
    have HD2 := Lib.hid (HD.out.next hb2 hs2 hc2)
    clear hb2 hs2 hc2 HNX
    obtain ⟨x, hx⟩ : ∃ x, x = ws.headD ByteArray.empty := ⟨_, rfl⟩
    rw [← hx]
    have HX := Lib.hid hx
    clear hx
    by_cases hm : x = wMsg
    · have q1 := b_eq lMsg hm
      have HR2 := Lib.hid (show nmR ws.tail 0 0 [] [] = R by rw [HR.out]; unfold rdS; rw [if_pos (by rw [← HX.out]; exact hm)])
      clear hm
      go_wp2
      refine wp_label ?_
      rename_i hKK
      refine hKK _ _ (H1.out _ _ ?_)
      exact ⟨_, _, _, _, _, _, _, _, _, _, DF_of rfl, HD2.out, HR2.out, fun _ => rfl⟩
    · have q1 := b_ne lMsg hm
      have HR2 := Lib.hid (show R = (6, []) by rw [HR.out]; unfold rdS; rw [if_neg (by rw [← HX.out]; exact hm)])
      clear hm
      go_wp2
      go_step3
      exact ⟨HR2.out, ⟨_, _, _, _, _, DF_of rfl⟩, HD2.out.cg⟩

end Go.Proofs.Ytofnpcfclcfgfaa
