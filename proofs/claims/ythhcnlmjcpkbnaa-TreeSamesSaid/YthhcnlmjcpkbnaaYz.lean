/- TreeSames, but for turn. -/
import Derived.Test.YthhcnlmjcpkbnaaYu
import Derived.Test.YthhcnlmjcpkbnaaYq
import Derived.Test.YthhcnlmjcpkbnaaMw
import Derived.Test.YthhcnlmjcpkbnaaW8
import Derived.Test.YthhcnlmjcpkbnaaZc
import Derived.Test.YthhcnlmjcpkbnaaYy
namespace Go.Proofs.Ythhcnlmjcpkbnaa
open Go.RowKit
set_option linter.unusedVariables false

def RTurn : Prop := ∀ d, TurnAt d

theorem sm_true {t : Tr} {e : Ending} (h : SmOut t t e) : e = .returned (.bool true) := by
  obtain ⟨r, rfl, hr⟩ := h
  rw [hr.2 rfl]

open Classical in
noncomputable def smB (a b : Tr) : Bool := decide (a = b)

open Classical in
theorem sm_is {a b : Tr} {e : Ending} (h : SmOut a b e) : e = .returned (.bool (smB a b)) := by
  unfold smB
  obtain ⟨r, rfl, hr⟩ := h
  have : r = decide (a = b) := by
    by_cases hx : a = b
    · rw [hr.2 hx]; simp [hx]
    · cases r
      · simp [hx]
      · exact absurd (hr.1 rfl) hx
  rw [this]

theorem chg_cells {w w' : World} (h : Chg [] w w') : ∀ p : Addr, p.block < w.heap.size → w'.cell? p = w.cell? p := fun p hp => World.cell?_of_block (h.block p.block hp (by simp))
theorem chg_frozen {w w' : World} (h : Chg [] w w') : ∀ p : Addr, p.block < w.heap.size → w'.frozen? p = w.frozen? p := fun p hp => by
  have := h.block p.block hp (by simp)
  unfold World.frozen?
  rw [this]

theorem u_new {w4 wt : World} {D : Nat} {U T : Tr} {uo : Option Addr} {uc : Nat} (hck : Chg [] w4 wt) (hku : KidsAt wt (D + 1) U.k (.slice uo U.k.length uc)) (hzu : szT U ≤ szT T + 51) :
    ∃ (g : Nat) (U' : Tr) (uo' : Option Addr) (uc' : Nat), Value.pointer (some ⟨wt.heap.size, 0, none⟩) = .pointer (some ⟨g, 0, none⟩) ∧ Chg [] w4 (wt.alloc (.cells #[.int .i64 U.n, .string U.s, .slice uo U.k.length uc] 30)) ∧ (wt.alloc (.cells #[.int .i64 U.n, .string U.s, .slice uo U.k.length uc] 30)).heap[g]? = some (.cells #[.int .i64 U'.n, .string U'.s, .slice uo' U'.k.length uc'] 30 (0, 0)) ∧ KidsAt (wt.alloc (.cells #[.int .i64 U.n, .string U.s, .slice uo U.k.length uc] 30)) (D + 1) U'.k (.slice uo' U'.k.length uc') ∧ szT U' ≤ szT T + 51 :=
  ⟨_, U, uo, uc, rfl, hck.alloc _, heap_alloc_new wt _, hku.keep ((Chg.refl [] wt).alloc _), hzu⟩

theorem u_old {W w4 wt : World} {D g : Nat} {U T : Tr} {uo : Option Addr} {uc : Nat} {x y z : Value} (hkt : Chg [] W wt) (hck : Chg [] w4 wt) (hku : KidsIn (fun q => q ∉ [g]) wt (D + 1) U.k (.slice uo U.k.length uc)) (hzu : szT U ≤ szT T + 51)
    (hb : W.heap[g]? = some (.cells #[x, y, z] 30 (0, 0))) (hg : w4.heap.size ≤ g) :
    ∃ (g' : Nat) (U' : Tr) (uo' : Option Addr) (uc' : Nat), Value.pointer (some ⟨g, 0, none⟩) = .pointer (some ⟨g', 0, none⟩) ∧ Chg [] w4 (((wt.setCell ⟨g, 0, none⟩ (.int .i64 U.n)).setCell ⟨g, 1, none⟩ (.string U.s)).setCell ⟨g, 2, none⟩ (.slice uo U.k.length uc)) ∧ (((wt.setCell ⟨g, 0, none⟩ (.int .i64 U.n)).setCell ⟨g, 1, none⟩ (.string U.s)).setCell ⟨g, 2, none⟩ (.slice uo U.k.length uc)).heap[g']? = some (.cells #[.int .i64 U'.n, .string U'.s, .slice uo' U'.k.length uc'] 30 (0, 0)) ∧ KidsAt (((wt.setCell ⟨g, 0, none⟩ (.int .i64 U.n)).setCell ⟨g, 1, none⟩ (.string U.s)).setCell ⟨g, 2, none⟩ (.slice uo U.k.length uc)) (D + 1) U'.k (.slice uo' U'.k.length uc') ∧ szT U' ≤ szT T + 51 := by
  have hb2 := hkt.heap hb (by simp)
  exact ⟨g, U, uo, uc, rfl, chg3 hck (.inr hg) _ _ _, set3 hb2 _ _ _, (KidsIn.keep (chg3 (S := [g]) (Chg.refl _ wt) (gr := g) (by simp) _ _ _) (fun q hq => hq) hku).at, hzu⟩

def other8 : ByteArray := { data := #[111, 116, 104, 101, 114] }

set_option maxRecDepth 100000 in
set_option maxHeartbeats 8000000 in
theorem sames_of (hR : RTurn) (a0 : Option Addr) (len0 cap0 : Nat) (z0 : List Int) (a1 : Option Addr) (len1 cap1 : Nat) (z1 : List Int) (a2 : Option Addr) (len2 cap2 : Nat) (z2 : List Int) (a3 a4 : Int) (w : World) (w0 : IsRow .i64 w a0 len0 cap0 z0) (w1 : IsRow .i64 w a1 len1 cap1 z1) (w2 : IsRow .i64 w a2 len2 cap2 z2) (w3 : (Lit.int .i64 a3).wf = true) (w4 : (Lit.int .i64 a4).wf = true) :
    Calls Try.prog 8 #[.slice a0 len0 cap0, .slice a1 len1 cap1, .slice a2 len2 cap2, .int .i64 a3, .int .i64 a4] w fun e w' => e = .returned (.bool true) ∧ Below w.heap.size w w' := by
  obtain ⟨ns, hS, hlen, hwf⟩ := w0.seenI
  obtain ⟨rs, hS2, hlen2, hwf2⟩ := w1.seenI
  obtain ⟨ats, hS3, hlen3, hwf3⟩ := w2.seenI
  have HS := Lib.hid hS; have HWF := Lib.hid hwf; have HS2 := Lib.hid hS2; have HWF2 := Lib.hid hwf2; have HS3 := Lib.hid hS3; have HWF3 := Lib.hid hwf3
  have HWR := Lib.hid (fun wx => w8_int a3 3 3 wx rfl (by decide) (by decide) w3)
  have HRT := Lib.hid hR
  have HA4 := Lib.hid w4
  obtain ⟨wh, hwh⟩ : ∃ x : Int, x = (((a3 % ((3 : Nat) : Int)).toNat : Nat) : Int) := ⟨_, rfl⟩
  have HWH := Lib.hid (show (Lit.int .i64 wh).wf = true by
    have h1 : 0 ≤ wh ∧ wh < 3 := by omega
    exact wf64_of wh (by omega))
  have HW6 := Lib.hid (show (wh % ((6 : Nat) : Int)).toNat < 3 by
    have h1 : 0 ≤ wh ∧ wh < 3 := by omega
    omega)
  clear w0 w1 w2 w3 w4 hS hwf hlen hS2 hwf2 hlen2 hS3 hwf3 hlen3 hR
  have hmk := mk_ok ns
  have hgd := chk_good (mk_chk ns)
  obtain ⟨l, hl⟩ : ∃ l, l = mk ns := ⟨_, rfl⟩
  rw [← hl] at hmk hgd
  have HL := Lib.hid hl
  have hln := hmk.le
  have hlp : 1 ≤ l.length := hmk.pos
  have HFC := Lib.hid (show ∀ f ∈ l, f.c ≤ 9223372036854775807 from fun f hf => by have := hmk.c f hf; omega)
  have hsz := mk8_sz rs hgd hlp hln
  obtain ⟨T, hT⟩ : ∃ T, T = mk8 l rs := ⟨_, rfl⟩
  rw [← hT] at hsz
  have HSL := Lib.hid (show Slim l.length T by rw [hT]; exact fit_slim (by omega) _ 0 _ (mk8_fits rs (by rw [hl]; exact mk_chk ns)).1)
  have HT := Lib.hid hT
  clear hmk hl hgd hT
  go_enter Try.func8, Try.ntmps8
  go_wp2_with fail
  (with_reducible refine (known8_any _).mono ?_)
  rintro e w1 ⟨rfl, hk⟩
  have HK1 := Lib.hid hk
  clear hk
  go_wp2_with fail
  (with_reducible refine (make_any _ ns _ (HS.out.keep HK1.out) HWF.out).mono ?_)
  rintro e w2 ⟨sv, rfl, hown, hk⟩
  rw [← HL.out] at hown
  have hSv := SeenF.own hown rfl
  obtain ⟨sa, sc, rfl⟩ := own_shape hown
  have HSF := Lib.hid hSv
  have HK2 := Lib.hid (HK1.out.trans hk (by simp))
  clear hown hSv hk
  go_wp2_with fail
  (with_reducible refine (make8_any _ _ l rs _ HSF.out (HS2.out.keep HK2.out) hlp (by omega) HFC.out HWF2.out).mono ?_)
  rintro e w3 ⟨kv, rfl, hkv, hk⟩
  rw [← HT.out] at hkv ⊢
  have hka := hkv.at
  obtain ⟨ko, kcap, rfl, hc1, hc2⟩ := hka.shape
  have HK23 := Lib.hid hk
  have HK3 := Lib.hid (HK2.out.trans hk (by simp))
  obtain ⟨D, hD⟩ : ∃ D, D = l.length := ⟨_, rfl⟩
  have HD := Lib.hid hD
  rw [← hD] at hka hln HSL
  have HKA := Lib.hid hka
  obtain ⟨tn, htn⟩ : ∃ n, n = T.n := ⟨_, rfl⟩
  obtain ⟨ts, hts⟩ : ∃ s, s = T.s := ⟨_, rfl⟩
  obtain ⟨m, hm⟩ : ∃ m, m = T.k.length := ⟨_, rfl⟩
  have HTQ := Lib.hid (And.intro htn (And.intro hts hm))
  rw [← htn, ← hts, ← hm]
  obtain ⟨w4, hw4⟩ : ∃ w4, w4 = w3.alloc (.cells #[.int .i64 tn, .string ts, .slice ko m kcap] 30) := ⟨_, rfl⟩
  obtain ⟨b, hb⟩ : ∃ b, b = w3.heap.size := ⟨_, rfl⟩
  have HB := Lib.hid (show w4.cell? ⟨b, 0, none⟩ = some (.int .i64 tn) ∧ w4.cell? ⟨b, 1, none⟩ = some (.string ts) ∧ w4.cell? ⟨b, 2, none⟩ = some (.slice ko m kcap) by rw [hw4, hb]; simp)
  have HC4 := Lib.hid (show Chg [] w3 w4 by rw [hw4]; exact (Chg.refl [] w3).alloc _)
  have HW4 := Lib.hid hw4; have HBB := Lib.hid hb
  have HTN := Lib.hid (fun (X : List Nat) W (hk : Chg [] w4 W) (hX : ∀ g ∈ X, w4.heap.size ≤ g) (hX2 : ∀ g ∈ X, g < W.heap.size) => HRT.out D X T (.slice ko T.k.length kcap) (.slice a2 len2 cap2) ats 0 wh a4 { data := #[111, 116, 104, 101, 114] } W (KidsIn.keep hk (fun g _ => by simp) (KidsAt.out (X := X) (HKA.out.keep HC4.out) hX)) HSL.out (by omega) hX2 (((HS3.out.keep HK3.out).keep HC4.out).keep hk) HWF3.out (by decide) (by decide) HW6.out HWH.out HA4.out)
  rw [← htn, ← hts, ← hm] at HTN
  rw [← hwh] at HWR
  have HTN1 := Lib.hid (fun (o : Obj) => HTN.out [w4.heap.size] (w4.alloc o).drew ((Chg.refl [] w4).alloc o).drew (by simp) (by simp))
  have HTN2 := Lib.hid (HTN.out [] w4.drew (Chg.refl [] w4).drew (by simp) (by simp))
  clear hkv hk hka htn hts hm hw4 hb hD hwh
  go_upto_region 5 with fail
  rw [← HBB.out, ← HW4.out]
  obtain ⟨t0, t1, t2⟩ := HB.out
  have hbl : b < w4.heap.size := World.block_lt_of_cell? w4 _ t0
  go_cut [13] (fun s13 wx => ∃ (g : Nat) (U : Tr) (uo : Option Addr) (uc : Nat), s13 = .pointer (some ⟨g, 0, none⟩) ∧ Chg [] w4 wx ∧ wx.heap[g]? = some (.cells #[.int .i64 U.n, .string U.s, .slice uo U.k.length uc] 30 (0, 0)) ∧ KidsAt wx (D + 1) U.k (.slice uo U.k.length uc) ∧ szT U ≤ szT T + 51)
  case first =>
    go_region_with (first
      | (go_at_call 39; (with_reducible refine (HWR.out _).mono ?_); rintro e wq ⟨rfl, rfl⟩)
      | (go_at_call 38; (with_reducible refine (HTN1.out _).mono ?_); rintro e wt ⟨⟨U, kvu, rfl, hku, hzu⟩, hkt⟩; obtain ⟨uo, uc, rfl, -, -⟩ := hku.shape; have hcq := chg_cells hkt; have hfq := chg_frozen hkt)
      | (go_at_call 38; (with_reducible refine HTN2.out.mono ?_); rintro e wt ⟨⟨U, kvu, rfl, hku, hzu⟩, hkt⟩; obtain ⟨uo, uc, rfl, -, -⟩ := hku.shape; have hcq := chg_cells hkt; have hfq := chg_frozen hkt))
    all_goals
      have hck : Chg [] w4 wt := Chg.trans (by repeat (first | exact Chg.refl _ _ | refine Chg.drew ?_ | refine Chg.drewN ?_ _ | refine Chg.alloc ?_ _)) hkt (by simp)
      go_wp2_with fail
      go_meet
      first
        | exact u_new hck hku.at hzu
        | exact u_old hkt hck hku hzu (by first | exact heap_alloc_new _ _ | exact (Chg.refl [] _).drew.heap (heap_alloc_new _ _) (by simp)) (Nat.le_refl _)
  case rest =>
    obtain ⟨g, U, uo, uc, rfl, hc5, hbu, hku, hzu⟩ := hcut
    have hd0 : Chg [] wc wc := Chg.refl _ _
    have HKX := Lib.hid hd0
    have HSC := Lib.hid (fun (w' : World) (hk : Chg [] wc w') => show w'.cell? ⟨b, 0, none⟩ = some (.int .i64 tn) ∧ w'.cell? ⟨b, 1, none⟩ = some (.string ts) ∧ w'.cell? ⟨b, 2, none⟩ = some (.slice ko m kcap) ∧ w'.cell? ⟨g, 0, none⟩ = some (.int .i64 U.n) ∧ w'.cell? ⟨g, 1, none⟩ = some (.string U.s) ∧ w'.cell? ⟨g, 2, none⟩ = some (.slice uo U.k.length uc) from
      ⟨hk.cell (hc5.cell HB.out.1 (by simp)) (by simp), hk.cell (hc5.cell HB.out.2.1 (by simp)) (by simp), hk.cell (hc5.cell HB.out.2.2 (by simp)) (by simp), by rw [cell_of_row w' g 0 _ _ _ (hk.heap hbu (by simp))]; rfl, by rw [cell_of_row w' g 1 _ _ _ (hk.heap hbu (by simp))]; rfl, by rw [cell_of_row w' g 2 _ _ _ (hk.heap hbu (by simp))]; rfl⟩)
    have hka : KidsAt wc D T.k (.slice ko T.k.length kcap) := (HKA.out.keep HC4.out).keep hc5
    have hka2 : KidsAt wc (D + 1) T.k (.slice ko T.k.length kcap) := hka.mono (Nat.le_succ D)
    have hfl := HD.out
    have HMK := Lib.hid (fun (W : World) (hk : Chg [] wc W) => make8_any (.slice sa l.length sc) (.slice a1 len1 cap1) l rs W (((HSF.out.keep HK23.out).keep HC4.out).keep hc5 |>.keep hk) ((((HS2.out.keep HK3.out).keep HC4.out).keep hc5).keep hk) hlp (by omega) HFC.out HWF2.out)
    have HS1 := Lib.hid (fun (W : World) (hk : Chg [] wc W) (kv2 : Value) (hk2 : KidsAt W D T.k kv2) => (same8_any T T (.slice ko T.k.length kcap) kv2 D W (hka.keep hk) hk2 (by omega) (by omega)).mono fun e w' h => (⟨sm_true h.1, h.2⟩ : e = .returned (.bool true) ∧ Chg [] W w'))
    have HS2 := Lib.hid (fun (W : World) (hk : Chg [] wc W) => (same8_any T U (.slice ko T.k.length kcap) (.slice uo U.k.length uc) (D + 1) W (hka2.keep hk) (hku.keep hk) (by omega) (by omega)).mono fun e w' h => (⟨sm_is h.1, h.2⟩ : e = .returned (.bool (smB T U)) ∧ Chg [] W w'))
    have HS3 := Lib.hid (fun (W : World) (hk : Chg [] wc W) => (same8_any U T (.slice uo U.k.length uc) (.slice ko T.k.length kcap) (D + 1) W (hku.keep hk) (hka2.keep hk) (by omega) (by omega)).mono fun e w' h => (⟨sm_is h.1, h.2⟩ : e = .returned (.bool (smB U T)) ∧ Chg [] W w'))
    have HR2 := Lib.hid (fun (W : World) (hk : Chg [] wc W) => (rsame8_any (D + 1) T U (.slice ko T.k.length kcap) (.slice uo U.k.length uc) W (hka2.keep hk) (hku.keep hk)).mono fun e w' h => (⟨sm_is h.1, h.2⟩ : e = .returned (.bool (smB T U)) ∧ Chg [] W w'))
    have HR3 := Lib.hid (fun (W : World) (hk : Chg [] wc W) => (rsame8_any (D + 1) U T (.slice uo U.k.length uc) (.slice ko T.k.length kcap) W (hku.keep hk) (hka2.keep hk)).mono fun e w' h => (⟨sm_is h.1, h.2⟩ : e = .returned (.bool (smB U T)) ∧ Chg [] W w'))
    have HZ1 := Lib.hid (fun (W : World) (hk : Chg [] wc W) => size8_any T (.slice ko T.k.length kcap) D W (hka.keep hk) (by omega) (by omega))
    have HY1 := Lib.hid (fun (W : World) (hk : Chg [] wc W) => rsize_any D T (.slice ko T.k.length kcap) W (hka.keep hk) (by omega))
    have HZ2 := Lib.hid (fun (W : World) (hk : Chg [] wc W) => size8_any U (.slice uo U.k.length uc) (D + 1) W (hku.keep hk) (by omega) (by omega))
    have HY2 := Lib.hid (fun (W : World) (hk : Chg [] wc W) => rsize_any (D + 1) U (.slice uo U.k.length uc) W (hku.keep hk) (by omega))
    rw [← HT.out] at HMK
    rw [← HTQ.out.1, ← HTQ.out.2.1] at HMK HS1 HS2 HS3 HR2 HR3 HZ1 HY1
    rw [← HTQ.out.2.2] at HS1 HS2 HS3 HR2 HR3 HZ1 HY1
    obtain ⟨r2, hr2⟩ : ∃ r, r = smB T U := ⟨_, rfl⟩
    obtain ⟨r3, hr3⟩ : ∃ r, r = smB U T := ⟨_, rfl⟩
    rw [← hr2] at HS2 HR2
    rw [← hr3] at HS3 HR3
    obtain ⟨zT, hzT⟩ : ∃ z, z = szT T := ⟨_, rfl⟩
    obtain ⟨zU, hzU⟩ : ∃ z, z = szT U := ⟨_, rfl⟩
    rw [← hzT] at HZ1 HY1
    rw [← hzU] at HZ2 HY2
    have HC5 := Lib.hid hc5
    clear hd0 hka hka2 hku hbu hc5 hr2 hr3 hzT hzU hzu hsz
    go_upto_region 6 with fail
    go_region_held3 (fun w' => w'.cell? ⟨b, 0, none⟩ = some (.int .i64 tn) ∧ w'.cell? ⟨b, 1, none⟩ = some (.string ts) ∧ w'.cell? ⟨b, 2, none⟩ = some (.slice ko m kcap) ∧ w'.cell? ⟨g, 0, none⟩ = some (.int .i64 U.n) ∧ w'.cell? ⟨g, 1, none⟩ = some (.string U.s) ∧ w'.cell? ⟨g, 2, none⟩ = some (.slice uo U.k.length uc)) (exact HSC.out _ (by first | exact HKX.out | exact HKX.out.drew | exact HKX.out.drewN _)) (first
    | (go_at_call 19; (with_reducible refine (HMK.out _ (by first | exact HKX.out | exact HKX.out.drew | exact HKX.out.drewN _)).mono ?_); rintro e wx ⟨kv2, rfl, hkv2, hk⟩; have HKX := Lib.hid (show Chg [] wc wx from by first | exact HKX.out.trans hk (by simp) | exact HKX.out.drew.trans hk (by simp) | exact (HKX.out.drewN _).trans hk (by simp)); clear hk; have HKV := Lib.hid (show KidsAt wx D T.k kv2 by rw [HD.out]; exact hkv2.at); clear hkv2)
    | (go_at_call 40; (with_reducible refine (HS1.out _ (by first | exact HKX.out | exact HKX.out.drew | exact HKX.out.drewN _) _ (by first | exact HKV.out | exact HKV.out.keep (Chg.refl [] _).drew | exact HKV.out.keep ((Chg.refl [] _).drewN _))).mono ?_); rintro e wx ⟨rfl, hk⟩; have HKX := Lib.hid (show Chg [] wc wx from by first | exact HKX.out.trans hk (by simp) | exact HKX.out.drew.trans hk (by simp) | exact (HKX.out.drewN _).trans hk (by simp)); clear hk)
    | (go_at_call 40; (with_reducible refine (HS2.out _ (by first | exact HKX.out | exact HKX.out.drew | exact HKX.out.drewN _)).mono ?_); rintro e wx ⟨rfl, hk⟩; have HKX := Lib.hid (show Chg [] wc wx from by first | exact HKX.out.trans hk (by simp) | exact HKX.out.drew.trans hk (by simp) | exact (HKX.out.drewN _).trans hk (by simp)); clear hk)
    | (go_at_call 40; (with_reducible refine (HS3.out _ (by first | exact HKX.out | exact HKX.out.drew | exact HKX.out.drewN _)).mono ?_); rintro e wx ⟨rfl, hk⟩; have HKX := Lib.hid (show Chg [] wc wx from by first | exact HKX.out.trans hk (by simp) | exact HKX.out.drew.trans hk (by simp) | exact (HKX.out.drewN _).trans hk (by simp)); clear hk)
    | (go_at_call 25; (with_reducible refine (HR2.out _ (by first | exact HKX.out | exact HKX.out.drew | exact HKX.out.drewN _)).mono ?_); rintro e wx ⟨rfl, hk⟩; have HKX := Lib.hid (show Chg [] wc wx from by first | exact HKX.out.trans hk (by simp) | exact HKX.out.drew.trans hk (by simp) | exact (HKX.out.drewN _).trans hk (by simp)); clear hk)
    | (go_at_call 25; (with_reducible refine (HR3.out _ (by first | exact HKX.out | exact HKX.out.drew | exact HKX.out.drewN _)).mono ?_); rintro e wx ⟨rfl, hk⟩; have HKX := Lib.hid (show Chg [] wc wx from by first | exact HKX.out.trans hk (by simp) | exact HKX.out.drew.trans hk (by simp) | exact (HKX.out.drewN _).trans hk (by simp)); clear hk)
    | (go_at_call 41; (with_reducible refine (HZ1.out _ (by first | exact HKX.out | exact HKX.out.drew | exact HKX.out.drewN _)).mono ?_); rintro e wx ⟨rfl, hk⟩; have HKX := Lib.hid (show Chg [] wc wx from by first | exact HKX.out.trans hk (by simp) | exact HKX.out.drew.trans hk (by simp) | exact (HKX.out.drewN _).trans hk (by simp)); clear hk)
    | (go_at_call 41; (with_reducible refine (HZ2.out _ (by first | exact HKX.out | exact HKX.out.drew | exact HKX.out.drewN _)).mono ?_); rintro e wx ⟨rfl, hk⟩; have HKX := Lib.hid (show Chg [] wc wx from by first | exact HKX.out.trans hk (by simp) | exact HKX.out.drew.trans hk (by simp) | exact (HKX.out.drewN _).trans hk (by simp)); clear hk)
    | (go_at_call 42; (with_reducible refine (HY1.out _ (by first | exact HKX.out | exact HKX.out.drew | exact HKX.out.drewN _)).mono ?_); rintro e wx ⟨rfl, hk⟩; have HKX := Lib.hid (show Chg [] wc wx from by first | exact HKX.out.trans hk (by simp) | exact HKX.out.drew.trans hk (by simp) | exact (HKX.out.drewN _).trans hk (by simp)); clear hk)
    | (go_at_call 42; (with_reducible refine (HY2.out _ (by first | exact HKX.out | exact HKX.out.drew | exact HKX.out.drewN _)).mono ?_); rintro e wx ⟨rfl, hk⟩; have HKX := Lib.hid (show Chg [] wc wx from by first | exact HKX.out.trans hk (by simp) | exact HKX.out.drew.trans hk (by simp) | exact (HKX.out.drewN _).trans hk (by simp)); clear hk))
    go_wp2
    go_ret
    exact ⟨rfl, ((HK3.out.trans HC4.out (by simp)).trans (HC5.out.trans HKX.out (by simp)) (by simp)).below (Nat.le_refl _) (by simp)⟩

end Go.Proofs.Ythhcnlmjcpkbnaa
