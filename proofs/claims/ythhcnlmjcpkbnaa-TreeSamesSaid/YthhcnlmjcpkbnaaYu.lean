/- tree.Same. -/
import Derived.Test.YthhcnlmjcpkbnaaYt
namespace Go.Proofs.Ythhcnlmjcpkbnaa
open Go.RowKit
set_option linter.unusedVariables false

abbrev T8F (gA gB n : Nat) (u : Nat → Value) : Act :=
  { tmps := #[u 0, u 1, u 2, u 3, u 4, .pointer (some ⟨gA, 0, none⟩), .pointer (some ⟨gB, 0, none⟩), .int .i64 (n : Int), u 8, u 9, u 10, u 11, u 12, u 13, u 14, u 15, u 16, u 17, u 18, u 19, u 20, u 21, u 22, u 23, u 24, u 25, u 26, u 27, u 28, u 29, u 30, u 31, u 32, u 33, u 34, u 35, u 36], defers := [] }
theorem T8F_of {gA gB n : Nat} {a : Act} (h : a = T8F gA gB n (fun j => a.tmps.getD j undef)) : ∃ u, a = T8F gA gB n u := ⟨_, h⟩

theorem two_begin {w w1 w2 wa wb : World} {gA oA gB oB d : Nat} {cA cB : Nat} {t1 t2 : Tr} {k1 k2 : Value} {X : List Nat}
    (hA : Wk [] w1 wa gA (.slice (some ⟨oA, 0, none⟩) 1 cA) [⟨[[t1]], k1, 0, 0⟩] d) (cA1 : Chg [] w wa) (a1 : w.heap.size ≤ gA) (a2 : w.heap.size ≤ oA)
    (hB : Wk X w2 wb gB (.slice (some ⟨oB, 0, none⟩) 1 cB) [⟨[[t2]], k2, 0, 0⟩] d) (cB1 : Chg [] wa wb) (b1 : wa.heap.size ≤ gB) (b2 : wa.heap.size ≤ oB) (hX : X = [gA, oA]) :
    Two w w1 w2 X wb gA (.slice (some ⟨oA, 0, none⟩) 1 cA) [⟨[[t1]], k1, 0, 0⟩] gB (.slice (some ⟨oB, 0, none⟩) 1 cB) [⟨[[t2]], k2, 0, 0⟩] d := by
  have l1 := hA.lts
  have e1 : wkB gA (.slice (some ⟨oA, 0, none⟩) 1 cA) = [gA, oA] := rfl
  have e2 : wkB gB (.slice (some ⟨oB, 0, none⟩) 1 cB) = [gB, oB] := rfl
  have hw := cA1.size
  have h0 := hA.c0.size
  refine ⟨hA.far2 cB1 (by simp) (by simp), hB, cA1.trans cB1 (by simp), ?_, ?_, ?_, ?_, ?_⟩
  · rw [e1]; intro g hg; simp at hg; rcases hg with rfl | rfl <;> assumption
  · rw [e2]; intro g hg; simp at hg; rcases hg with rfl | rfl <;> omega
  · intro g hg hm
    have := l1 g hg
    rw [e2] at hm
    simp at hm
    rcases hm with rfl | rfl <;> omega
  · rw [e1]; intro g hg; left; rw [hX]; exact hg
  · rw [e2]; intro g hg; simp at hg; rcases hg with rfl | rfl <;> omega

theorem begin_x {w w1 wa : World} {gA oA d cA : Nat} {P : List Pl} (h : Wk [] w1 wa gA (.slice (some ⟨oA, 0, none⟩) 1 cA) P d) (h2 : w.heap.size ≤ gA ∧ w.heap.size ≤ oA) : ∀ g ∈ [gA, oA], w.heap.size ≤ g ∧ g < wa.heap.size := by
  intro g hg
  have h1 := h.lts g hg
  refine ⟨?_, h1⟩
  simp at hg
  rcases hg with h3 | h3
  · rw [h3]; exact h2.1
  · rw [h3]; exact h2.2

set_option maxRecDepth 100000 in
set_option maxHeartbeats 4000000 in
theorem same8_any (t1 t2 : Tr) (kv1 kv2 : Value) (d : Nat) (w : World) (hK1 : KidsAt w d t1.k kv1) (hK2 : KidsAt w d t2.k kv2) (hd : d ≤ 100000) (hz : szT t1 ≤ 100000) :
    Calls Try.prog 40 #[tv t1.n t1.s kv1, tv t2.n t2.s kv2] w fun e w' => SmOut t1 t2 e ∧ Chg [] w w' := by
  obtain ⟨ko, kc, rfl, -, -⟩ := hK1.shape
  obtain ⟨ko2, kc2, rfl, -, -⟩ := hK2.shape
  have HBG := Lib.hid (fun (W : World) (hc : Chg [] w W) => begin8_any [] t1 _ d W (KidsAt.out (X := []) (hK1.keep hc) (by simp)) (by simp))
  have HBG2 := Lib.hid (fun (X : List Nat) (W : World) (hc : Chg [] w W) (hX : ∀ g ∈ X, w.heap.size ≤ g ∧ g < W.heap.size) => begin8_any X t2 _ d W (KidsIn.keep hc (fun g _ => by simp) (hK2.out (X := X) fun g hg => (hX g hg).1)) fun g hg => (hX g hg).2)
  obtain ⟨Z, hZ⟩ : ∃ Z, Z = szT t1 := ⟨_, rfl⟩
  rw [← hZ] at hz
  have HZ := Lib.hid (show ∀ v, szS (stk [⟨[[t1]], v, 0, 0⟩]) = Z from fun v => by
    rw [show [(⟨[[t1]], v, 0, 0⟩ : Pl)] = [] ++ [⟨[[t1]], v, 0, 0⟩] from rfl, stk_snoc, rem_new, hZ]
    simp [szS, szL, stk])
  have HST := Lib.hid (show ∀ (t : Tr) v, stk [⟨[[t]], v, 0, 0⟩] = [[t]] from fun t v => by
    rw [show [(⟨[[t]], v, 0, 0⟩ : Pl)] = [] ++ [⟨[[t]], v, 0, 0⟩] from rfl, stk_snoc, rem_new]
    simp [stk])
  have HTT := Lib.hid (show t1 = t2 ↔ [[t1]] = [[t2]] from ⟨fun h => by rw [h], fun h => by injection h with h _; injection h⟩)
  clear hK1 hK2 hZ
  obtain ⟨tn, htn⟩ : ∃ n, n = t1.n := ⟨_, rfl⟩
  obtain ⟨ts, hts⟩ : ∃ s, s = t1.s := ⟨_, rfl⟩
  obtain ⟨m, hm⟩ : ∃ m, m = t1.k.length := ⟨_, rfl⟩
  obtain ⟨un, hun⟩ : ∃ n, n = t2.n := ⟨_, rfl⟩
  obtain ⟨us, hus⟩ : ∃ s, s = t2.s := ⟨_, rfl⟩
  obtain ⟨q, hq⟩ : ∃ m, m = t2.k.length := ⟨_, rfl⟩
  rw [← htn, ← hts, ← hm] at HBG ⊢
  rw [← hun, ← hus, ← hq] at HBG2 ⊢
  clear htn hts hm hun hus hq
  have HC0 := Lib.hid (((Chg.refl [] w).alloc (.cells #[.int .i64 tn, .string ts, .slice ko m kc] 30)).alloc (.cells #[.int .i64 un, .string us, .slice ko2 q kc2] 30))
  obtain ⟨b, hb⟩ : ∃ b, b = w.heap.size := ⟨_, rfl⟩
  obtain ⟨W0, hW0⟩ : ∃ W0, W0 = (w.alloc (.cells #[.int .i64 tn, .string ts, .slice ko m kc] 30)).alloc (.cells #[.int .i64 un, .string us, .slice ko2 q kc2] 30) := ⟨_, rfl⟩
  have HPR := Lib.hid (show W0.cell? ⟨b, 0, none⟩ = some (.int .i64 tn) ∧ W0.cell? ⟨b, 1, none⟩ = some (.string ts) ∧ W0.cell? ⟨b, 2, none⟩ = some (.slice ko m kc) ∧ W0.cell? ⟨b + 1, 0, none⟩ = some (.int .i64 un) ∧ W0.cell? ⟨b + 1, 1, none⟩ = some (.string us) ∧ W0.cell? ⟨b + 1, 2, none⟩ = some (.slice ko2 q kc2) by
    rw [hW0, hb]
    refine ⟨?_, ?_, ?_, ?_, ?_, ?_⟩
    · rw [World.cell?_alloc_lt _ _ _ (by simp)]; simp
    · rw [World.cell?_alloc_lt _ _ _ (by simp)]; simp
    · rw [World.cell?_alloc_lt _ _ _ (by simp)]; simp
    · simp
    · simp
    · simp)
  have HW0 := Lib.hid hW0; have HB := Lib.hid hb
  rw [← hW0] at HC0
  clear hb hW0
  go_enter Try.func40, Try.ntmps40
  go_wp2_with fail
  rw [← HB.out, ← HW0.out]
  refine wp_scope_pre2 0 (fun a' w' => ∃ (w1 w2 : World) (X : List Nat) (gA : Nat) (sA : Value) (PA : List Pl) (gB : Nat) (sB : Value) (PB : List Pl) (n : Nat), (∃ u, a' = T8F gA gB n u) ∧ Two w w1 w2 X w' gA sA PA gB sB PB (d + 1) ∧ n + szS (stk PA) = Z ∧ (stk PA).map List.length = (stk PB).map List.length ∧ (t1 = t2 ↔ stk PA = stk PB)) (fun a' _ => Z + 1 - (intOf (a'.tmps.getD 7 undef)).toNat) rfl ?_ ?_
  · go_region_held3 (fun w' => w'.cell? ⟨b, 0, none⟩ = some (.int .i64 tn) ∧ w'.cell? ⟨b, 1, none⟩ = some (.string ts) ∧ w'.cell? ⟨b, 2, none⟩ = some (.slice ko m kc) ∧ w'.cell? ⟨b + 1, 0, none⟩ = some (.int .i64 un) ∧ w'.cell? ⟨b + 1, 1, none⟩ = some (.string us) ∧ w'.cell? ⟨b + 1, 2, none⟩ = some (.slice ko2 q kc2)) (first | (exact HPR.out) | (exact HPR2.out) | (exact HPR3.out)) (first
      | (go_at_call 73; (with_reducible refine (HBG.out _ (by first | exact HC0.out | exact HC0.out.drew | exact HC0.out.drewN _)).mono ?_); rintro e wa ⟨w1, gA, oA, cA, k1, rfl, hW1, hc1, a1, a2, a3⟩; have HPR2 := Lib.hid (show wa.cell? ⟨b, 0, none⟩ = some (.int .i64 tn) ∧ wa.cell? ⟨b, 1, none⟩ = some (.string ts) ∧ wa.cell? ⟨b, 2, none⟩ = some (.slice ko m kc) ∧ wa.cell? ⟨b + 1, 0, none⟩ = some (.int .i64 un) ∧ wa.cell? ⟨b + 1, 1, none⟩ = some (.string us) ∧ wa.cell? ⟨b + 1, 2, none⟩ = some (.slice ko2 q kc2) from ⟨hc1.cell HPR.out.1 (by simp), hc1.cell HPR.out.2.1 (by simp), hc1.cell HPR.out.2.2.1 (by simp), hc1.cell HPR.out.2.2.2.1 (by simp), hc1.cell HPR.out.2.2.2.2.1 (by simp), hc1.cell HPR.out.2.2.2.2.2 (by simp)⟩); have HCA := Lib.hid (show Chg [] w wa from by first | exact HC0.out.trans hc1 (by simp) | exact HC0.out.drew.trans hc1 (by simp) | exact (HC0.out.drewN _).trans hc1 (by simp)); have HWA := Lib.hid hW1; have HA12 := Lib.hid (show w.heap.size ≤ gA ∧ w.heap.size ≤ oA from ⟨Nat.le_trans HC0.out.size a1, Nat.le_trans HC0.out.size a2⟩); clear hW1 hc1 a1 a2 a3)
      | (go_at_call 73; (with_reducible refine (HBG2.out [gA, oA] _ (by first | exact HCA.out | exact HCA.out.drew | exact HCA.out.drewN _) (begin_x HWA.out HA12.out)).mono ?_); rintro e wb ⟨w2, gB, oB, cB, k2, rfl, hW2, hc2, b1, b2, b3⟩; have HTW := Lib.hid (two_begin HWA.out HCA.out HA12.out.1 HA12.out.2 hW2 (by first | exact hc2 | exact (Chg.refl [] wa).drew.trans hc2 (by simp) | exact ((Chg.refl [] wa).drewN _).trans hc2 (by simp)) b1 b2 rfl); have HPR3 := Lib.hid (show wb.cell? ⟨b, 0, none⟩ = some (.int .i64 tn) ∧ wb.cell? ⟨b, 1, none⟩ = some (.string ts) ∧ wb.cell? ⟨b, 2, none⟩ = some (.slice ko m kc) ∧ wb.cell? ⟨b + 1, 0, none⟩ = some (.int .i64 un) ∧ wb.cell? ⟨b + 1, 1, none⟩ = some (.string us) ∧ wb.cell? ⟨b + 1, 2, none⟩ = some (.slice ko2 q kc2) from ⟨hc2.cell HPR2.out.1 (by simp), hc2.cell HPR2.out.2.1 (by simp), hc2.cell HPR2.out.2.2.1 (by simp), hc2.cell HPR2.out.2.2.2.1 (by simp), hc2.cell HPR2.out.2.2.2.2.1 (by simp), hc2.cell HPR2.out.2.2.2.2.2 (by simp)⟩); clear hW2 hc2 b1 b2 b3))
    go_wp2_with fail
    exact ⟨w1, w2, _, gA, _, _, gB, _, _, 0, T8F_of rfl, HTW.out, by rw [Nat.zero_add]; exact HZ.out _, by rw [HST.out, HST.out]; rfl, by rw [HST.out, HST.out]; exact HTT.out⟩
  · rintro a' w' ⟨w1, w2, X, gA, sA, PA, gB, sB, PB, n, ⟨u, rfl⟩, hT, hn, hl, hq⟩
    unfold T8F
    have HNA := Lib.hid (nextW_any [] w1 w' gA sA PA (d + 1) hT.a (by omega))
    have HT := Lib.hid hT; have HN := Lib.hid hn; have HL := Lib.hid hl; have HQ := Lib.hid hq
    have hnz : n ≤ Z := by omega
    clear hT hn hl hq
    go_wp2_with fail
    (with_reducible refine HNA.out.mono ?_)
    rintro e w3 ⟨hout, hk3⟩
    rcases hout with ⟨hnone, cx, rfl⟩ | ⟨x, kx, sA2, PA2, rfl, hnx, hkx, hWA, hsA⟩
    · obtain ⟨hWB, hC3⟩ := HT.out.bfar hk3
      have HNB := Lib.hid (fun (W : World) (hc : Chg [] w3 W) => nextW_any X w2 W gB sB PB (d + 1) (hWB.far2 hc (by simp) (by simp)) (by omega))
      have HNE := Lib.hid (next_none HL.out hnone)
      have HEQ := Lib.hid (show t1 = t2 from HQ.out.2 HNE.out.1)
      have HC3 := Lib.hid hC3
      have HNB2 := Lib.hid HT.out.nb
      clear hWB hC3 hnone hk3
      go_wp2_with fail
      (with_reducible refine (HNB.out _ ((Chg.refl [] w3).alloc _)).mono ?_)
      rintro e w5 ⟨hout2, hk5⟩
      have HC5 := Lib.hid ((HC3.out.alloc (.cells #[.int .i64 0, .string { data := #[] }, .slice none 0 cx] 30)).trans hk5 fun g hg => .inr (HNB2.out g hg))
      clear hk5
      rcases hout2 with ⟨hnone2, cy, rfl⟩ | ⟨y, ky, sB2, PB2, rfl, hny, -, -, -⟩
      · clear hnone2
        go_wp2
        simp only [Exit.jump]
        go_ret
        exact ⟨⟨true, rfl, fun _ => HEQ.out, fun _ => rfl⟩, HC5.out.alloc _⟩
      · rw [HNE.out.2] at hny
        cases hny
    · obtain ⟨y, B', hnb, hy1, hy2⟩ := next_some HL.out hnx
      obtain ⟨kxo, kxc, rfl, -, -⟩ := hkx.shape
      have hT3 := HT.out.stepA hk3 hWA hsA
      obtain ⟨xm, hxm⟩ : ∃ m, m = x.k.length := ⟨_, rfl⟩
      rw [← hxm] at hkx ⊢
      obtain ⟨W3, hW3⟩ : ∃ W3, W3 = w3.alloc (.cells #[.int .i64 x.n, .string x.s, .slice kxo xm kxc] 30) := ⟨_, rfl⟩
      obtain ⟨bx, hbx⟩ : ∃ b, b = w3.heap.size := ⟨_, rfl⟩
      have hT4 : Two w w1 w2 X W3 gA sA2 PA2 gB sB PB (d + 1) := by rw [hW3]; exact hT3.keep ((Chg.refl [] w3).alloc _)
      have hxB : bx ∉ wkB gB sB := fun hm => by have := hT3.b.lts bx hm; omega
      have hcx : W3.cell? ⟨bx, 0, none⟩ = some (.int .i64 x.n) ∧ W3.cell? ⟨bx, 1, none⟩ = some (.string x.s) ∧ W3.cell? ⟨bx, 2, none⟩ = some (.slice kxo xm kxc) := by rw [hW3, hbx]; simp
      have HNB := Lib.hid (nextW_any X w2 W3 gB sB PB (d + 1) hT4.b (by omega))
      have HT4 := Lib.hid hT4
      have HX := Lib.hid (And.intro hcx hxB)
      have HKX := Lib.hid hkx; have HXM := Lib.hid hxm; have HNX := Lib.hid hnx; have HNY := Lib.hid hnb; have HY1 := Lib.hid hy1; have HY2 := Lib.hid hy2
      have HW3 := Lib.hid hW3; have HBX := Lib.hid hbx
      clear hT3 hT4 hxB hcx hkx hxm hnx hnb hy1 hy2 hW3 hbx hk3 hWA hsA
      unfold tv
      go_wp2_with fail
      rw [← HBX.out, ← HW3.out]
      (with_reducible refine HNB.out.mono ?_)
      rintro e w5 ⟨hout2, hk5⟩
      rcases hout2 with ⟨hnone2, cy, rfl⟩ | ⟨y2, ky, sB2, PB2, rfl, hny, hky, hWB, hsB⟩
      · rw [HNY.out] at hnone2
        cases hnone2
      · rw [HNY.out] at hny
        injection hny with hny
        injection hny with e1 e2
        subst e1 e2
        obtain ⟨kyo, kyc, rfl, -, -⟩ := hky.shape
        have hT5 := HT4.out.stepB hk5 hWB hsB
        have hx5 : w5.cell? ⟨bx, 0, none⟩ = some (.int .i64 x.n) ∧ w5.cell? ⟨bx, 1, none⟩ = some (.string x.s) ∧ w5.cell? ⟨bx, 2, none⟩ = some (.slice kxo xm kxc) := ⟨hk5.cell HX.out.1.1 HX.out.2, hk5.cell HX.out.1.2.1 HX.out.2, hk5.cell HX.out.1.2.2 HX.out.2⟩
        obtain ⟨ym, hym⟩ : ∃ m, m = y.k.length := ⟨_, rfl⟩
        rw [← hym] at hky ⊢
        obtain ⟨W5, hW5⟩ : ∃ W5, W5 = w5.alloc (.cells #[.int .i64 y.n, .string y.s, .slice kyo ym kyc] 30) := ⟨_, rfl⟩
        obtain ⟨by5, hby⟩ : ∃ b, b = w5.heap.size := ⟨_, rfl⟩
        have hT6 : Two w w1 w2 X W5 gA sA2 PA2 gB sB2 PB2 (d + 1) := by rw [hW5]; exact hT5.keep ((Chg.refl [] w5).alloc _)
        have hcy : W5.cell? ⟨by5, 0, none⟩ = some (.int .i64 y.n) ∧ W5.cell? ⟨by5, 1, none⟩ = some (.string y.s) ∧ W5.cell? ⟨by5, 2, none⟩ = some (.slice kyo ym kyc) := by rw [hW5, hby]; simp
        have hcx : W5.cell? ⟨bx, 0, none⟩ = some (.int .i64 x.n) ∧ W5.cell? ⟨bx, 1, none⟩ = some (.string x.s) ∧ W5.cell? ⟨bx, 2, none⟩ = some (.slice kxo xm kxc) := by
          rw [hW5]
          have hc := (Chg.refl [] w5).alloc (.cells #[.int .i64 y.n, .string y.s, .slice kyo ym kyc] 30)
          exact ⟨hc.cell hx5.1 (by simp), hc.cell hx5.2.1 (by simp), hc.cell hx5.2.2 (by simp)⟩
        obtain ⟨cx0, cx1, cx2⟩ := hcx
        obtain ⟨cy0, cy1, cy2⟩ := hcy
        have HAK := Lib.hid (fun (W : World) (hc : Chg [] W5 W) => alike_any (d + 1) x y (.slice kxo xm kxc) (.slice kyo ym kyc) W ((HKX.out.at.keep hT6.a.c0).keep hc) (((KidsIn.keep hT6.b.c0 (fun g hg => hg) hky).at).keep hc))
        have HT6 := Lib.hid hT6
        have HW5 := Lib.hid hW5; have HBY := Lib.hid hby
        have HNZ := Lib.hid (show n + 1 + szS (stk PA2) = Z by have h1 := HN.out; have h2 := szS_next HNX.out; omega)
        have hnz2 : n < Z := by have h1 := HNZ.out; omega
        have hq : (n : Int) < 160000 := by omega
        have hw1 : IntKind.i64.wrap ((n : Int) + 1) = (n : Int) + 1 := IntWalk.i64_in _ (by omega)
        clear hky hk5 hT5 hx5 hym hW5 hby hT6 hWB hsB
        rw [show tv y.n y.s (.slice kyo ym kyc) = .agg #[.int .i64 y.n, .string y.s, .slice kyo ym kyc] from rfl]
        go_upto_region 5 with fail
        rw [← HBY.out, ← HW5.out]
        clear HBY HW5 HBX HW3
        go_wp2_with fail
        (with_reducible refine (HAK.out _ (Chg.refl _ _)).mono ?_)
        rintro e w6 ⟨⟨r, rfl, hr⟩, hk6⟩
        have HC6 := Lib.hid hk6
        cases r with
        | true =>
          have HA := Lib.hid (HY1.out (hr.1 rfl))
          clear hr hk6
          go_wp2
          refine wp_goto ?_
          refine ⟨rfl, ⟨w1, w2, X, gA, sA2, PA2, gB, sB2, PB2, n + 1, T8F_of rfl, HT6.out.keep HC6.out, HNZ.out, HA.out.1, HQ.out.trans HA.out.2⟩, ?_⟩
          simp [intOf]
          omega
        | false =>
          have HA := Lib.hid (HY2.out fun h => by have := hr.2 h; cases this)
          clear hr hk6
          go_wp2
          simp only [Exit.jump]
          go_ret
          exact ⟨⟨false, rfl, (fun h => by cases h), fun h => absurd (HQ.out.1 h) HA.out⟩, HT6.out.c.trans HC6.out (by simp)⟩

end Go.Proofs.Ythhcnlmjcpkbnaa
