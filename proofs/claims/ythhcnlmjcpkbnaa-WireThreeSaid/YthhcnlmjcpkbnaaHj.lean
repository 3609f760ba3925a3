/- wire: Parse. -/
import Derived.Test.YthhcnlmjcpkbnaaHh
import Derived.Test.YthhcnlmjcpkbnaaHi
import Derived.Test.YthhcnlmjcpkbnaaA4
namespace Go.Proofs.Ythhcnlmjcpkbnaa
open Go.RowKit
set_option linter.unusedVariables false
set_option linter.unusedSimpArgs false

/-- What Parse tells. -/
def pEnd (q : List Tr × St) : List Tr × Nat :=
  if q.2.1 = [] then (if q.2.2 = 0 then (q.1, 0) else ([], q.2.2)) else ([], 9)
def pAll (fo : Fo) (b : List Nat) : List Tr × Nat := pEnd (pVals (pGrp (pF fo)) (pCount 200 4 (b, 0)).1 (pCount 200 4 (b, 0)).2)

def endE (q : List Tr × St) : Nat := if q.2.1 = [] then q.2.2 else 9
theorem pEnd_eq (q : List Tr × St) : pEnd q = if endE q = 0 then (q.1, 0) else ([], endE q) := by
  unfold pEnd endE
  split
  · rfl
  · rw [if_neg (by decide)]

theorem Fo.sg_le : ∀ k : Fo, k.sg.length ≤ 3 * k.flat.length
  | .nil => Nat.le_refl _
  | .leaf f t => by have := t.sg_le; have := (sg_len f).2; simp [Fo.sg, Fo.flat]; omega
  | .group f k t => by have := t.sg_le; have := k.sg_le; have := (sg_len f).2; simp [Fo.sg, Fo.flat]; omega

theorem fmS_eq {r0 : F} {fo : Fo} (h1 : r0.k = 0) (h2 : r0.r = 0) : (Fo.group r0 fo .nil).sg = fmS fo := by
  have e : sg r0 = [40] := by unfold sg; rw [h1, h2]; rfl
  simp [Fo.sg, fmS, e]

set_option maxRecDepth 100000 in
set_option maxHeartbeats 4000000 in
theorem parse_any9 (sv bv : Value) (l : List F) (r0 : F) (fo : Fo) (b : List Nat) (w : World) (hS : SeenF w sv l) (hl : l = r0 :: fo.flat) (hr1 : r0.k = 0) (hr2 : r0.r = 0) (hr3 : r0.c = fo.num) (hwf : fo.wf) (hchk : chk l = 0) (hn : l.length ≤ 1000) (hc : ∀ f ∈ l, f.c ≤ 9223372036854775807) (hnm : ∀ f ∈ l, f.n.size ≤ 1000000)
    (hB : Seen w bv (nv .u8 b)) (hb : ∀ x ∈ b, x < 256) (hbl : b.length ≤ 1000000) :
    Calls Try.prog 46 #[sv, bv] w fun e w' => ∃ lv, e = .returned (.tuple #[lv, .int .i64 ((pAll fo b).2 : Nat)]) ∧ ListIn (w.heap.size ≤ ·) w' (fo.hi + 1) (pAll fo b).1 lv ∧ Chg [] w w' := by
  obtain ⟨ao, cap, rfl, hc1, hc2⟩ := hS.shape
  obtain ⟨bo, bcap, rfl, hb1, hb2⟩ := hB.shape
  have HCK := Lib.hid (check_any _ l w hS hc hnm)
  have hfl : (fmS fo).length ≤ 100000 := by
    rw [← fmS_eq hr1 hr2]
    have h := (Fo.group r0 fo .nil).sg_le
    have h2 : (Fo.group r0 fo .nil).flat.length = l.length := by rw [hl]; simp [Fo.flat]
    omega
  have HFO := Lib.hid (show ∀ wx, Chg [] w wx → Calls Try.prog 76 #[.slice ao l.length cap] wx fun e w' => ∃ x, e = .returned x ∧ Made 21 .i32 (fmS fo) wx x w' from fun wx hk => by
    rw [← fmS_eq hr1 hr2]
    exact formOf_any _ l (.group r0 fo .nil) wx (hS.keep hk) (by rw [hl]; simp [Fo.flat]) ⟨hr1, hr3, hwf, trivial⟩ hn (by rw [fmS_eq hr1 hr2]; exact hfl))
  have HB := Lib.hid hB
  have HNW := Lib.hid (fun (wx : World) (hk : Chg [] w wx) => new_any (.slice bo (nv .u8 b).length bcap) (zi b) wx (by rw [zi_length]; omega) (by rw [bys_zi]; exact hB.keep hk))
  rw [hchk] at HCK
  rw [nv_length] at HB HNW ⊢
  have HW := Lib.hid hwf; have HFL := Lib.hid hfl; have HBB := Lib.hid hb
  obtain ⟨n, hnn⟩ : ∃ n, n = l.length := ⟨_, rfl⟩
  rw [← hnn] at HCK HFO ⊢
  obtain ⟨bn, hbn⟩ : ∃ n, n = b.length := ⟨_, rfl⟩
  rw [← hbn] at HB HNW ⊢
  have HBN := Lib.hid hbn
  clear hS hB hl hwf hchk hc hnm hfl hb hnn hbn hr1 hr2 hr3
  go_enter Try.func46, Try.ntmps46
  go_wp2_with fail
  (with_reducible refine HCK.out.mono ?_)
  rintro e w0 ⟨rfl, hk0⟩
  have HK0 := Lib.hid hk0
  clear hk0
  go_wp2_with (first
    | (go_at_call 76; (with_reducible refine (HFO.out _ HK0.out).mono ?_); rintro e w1 ⟨fv, rfl, hm1⟩; obtain ⟨fa, fc, rfl⟩ := own_shape hm1.2; have HM1 := Lib.hid hm1; have HK1 := Lib.hid (HK0.out.trans hm1.1 (by simp)); clear hm1)
    | (go_at_call 79; (with_reducible refine (HNW.out _ HK1.out).mono ?_); rintro e w2 ⟨gr, rfl, hk2, hgr, hr2⟩; have HK2 := Lib.hid hk2; have HGR := Lib.hid hgr; have HR2 := Lib.hid hr2; clear hk2 hgr hr2)
    | fail)
  have hps : WPS w1 (w2.alloc (.cells #[.slice fa (fmS fo).length fc, .slice bo bn bcap, .pointer (some ⟨gr, 0, none⟩)] 121)) w2.heap.size gr (w2.heap.size + 1) (.slice fa (fmS fo).length fc) (.slice bo bn bcap) (fmS fo) b (b, 0) := by
    have hgl := HR2.out.lt
    refine ⟨(reads_of_own HM1.out.2).seen, HB.out.keep HK1.out, HBB.out, hbl, HK2.out.alloc _, HGR.out, HK2.out.size, by omega, by omega, by omega, by simp, heap_alloc_new w2 _, ?_, by simp, ⟨0, Nat.zero_le _, rfl⟩⟩
    exact (HR2.out.keep0 ((Chg.refl [] w2).alloc _)).mono (by omega)
  have HP := Lib.hid hps
  have hgpr : gr < w2.heap.size := HR2.out.lt
  have HC := Lib.hid (count_any9 200 4 (by decide) (by decide) hps)
  rw [show ((200 : Nat) : Int) = 200 from rfl, show ((4 : Nat) : Int) = 4 from rfl] at HC
  have HLE := Lib.hid (pCount_le 200 4 (b, 0))
  obtain ⟨v, hv⟩ : ∃ v, v = (pCount 200 4 (b, 0)).1 := ⟨_, rfl⟩
  obtain ⟨s2, hs2⟩ : ∃ v, v = (pCount 200 4 (b, 0)).2 := ⟨_, rfl⟩
  have HE := Lib.hid (show pAll fo b = pEnd (pVals (pGrp (pF fo)) v s2) by unfold pAll; rw [hv, hs2])
  rw [← hv] at HC HLE
  rw [← hs2] at HC
  have HVV := Lib.hid (fun (wx : World) (hp : WPS w1 wx w2.heap.size gr (w2.heap.size + 1) (.slice fa (fmS fo).length fc) (.slice bo bn bcap) (fmS fo) b s2) => values_any9 (records9 HW.out HFL.out) wx s2 v (Nat.le_trans HLE.out (by decide)) hp)
  obtain ⟨gp, hgp⟩ : ∃ gp, gp = w2.heap.size := ⟨_, rfl⟩
  have HC12 := Lib.hid (HK1.out.trans HK2.out (by simp))
  have HZG := Lib.hid (show w.heap.size ≤ gr from Nat.le_trans HK1.out.size HGR.out)
  have HZ2 := Lib.hid HC12.out.size
  clear hps hv hs2
  rw [← hgp] at HC HVV HP ⊢
  have HGP := Lib.hid hgp
  clear hgp
  rw [show ((0 : Nat) : Int) = 0 from rfl] at HVV
  (with_reducible refine HC.out.mono ?_)
  rintro e w3 ⟨rfl, hp3, hk3⟩
  have HK3 := Lib.hid (((Chg.refl [gr] w2).alloc _).trans hk3 (by simp))
  have HVX := Lib.hid (HVV.out w3 hp3)
  clear hp3 hk3
  obtain ⟨q, hq⟩ : ∃ q, q = pVals (pGrp (pF fo)) v s2 := ⟨_, rfl⟩
  rw [← hq] at HE HVX
  clear hq HVV HC
  have hE := HE.out
  rw [pEnd_eq] at hE
  go_wp2_with fail
  (with_reducible refine HVX.out.mono ?_)
  rintro e w4 ⟨lv, rfl, hl4, hp4, hk4⟩
  obtain ⟨lo, lc, rfl, -, -⟩ := hl4.shape
  obtain ⟨-, -, c2⟩ := hp4.cells
  have hn4 := end_any gr (zi q.2.1) (q.2.2 : Nat) w4 (by rw [zi_length]; have := hp4.len; omega) hp4.rd
  rw [show (if zi q.2.1 = [] then ((q.2.2 : Nat) : Int) else 9) = ((endE q : Nat) : Int) by
    unfold endE
    by_cases h : q.2.1 = []
    · rw [if_pos h, h]; rfl
    · rw [if_neg h, if_neg (show ¬ zi q.2.1 = [] from fun e => h (List.map_eq_nil_iff.1 e))]; rfl] at hn4
  have HN4 := Lib.hid hn4
  have HL4 := Lib.hid hl4; have HK4 := Lib.hid (HK3.out.trans hk4 (by simp))
  clear hl4 hp4 hk4 hn4
  obtain ⟨ee, hee⟩ : ∃ x, x = endE q := ⟨_, rfl⟩
  rw [← hee] at HN4 hE
  clear hee HE
  have HFIN := Lib.hid (show Chg [] w w4 from HC12.out.trans HK4.out (fun t ht => .inr (by simp at ht; rw [ht]; exact HZG.out)))
  have HZ3 := Lib.hid (show w2.heap.size ≤ w3.heap.size from HK3.out.size)
  by_cases h0 : ee = 0
  · rw [if_pos h0] at hE
    have E := Lib.hid hE
    subst h0
    clear hE
    rw [show ((0 : Nat) : Int) = 0 from rfl] at HN4
    go_wp2_with (first
      | (go_at_call 82; (with_reducible refine HN4.out.mono ?_); rintro e w5 ⟨rfl, rfl⟩)
      | fail)
    go_ret2
    rw [E.out]
    exact ⟨_, rfl, HL4.out.mono (fun x hx => Nat.le_trans (Nat.le_trans HZ2.out HZ3.out) hx) (Nat.le_refl _), HFIN.out⟩
  · rw [if_neg h0] at hE
    have E := Lib.hid hE
    have hb1 : ¬ ((ee : Int) = 0) := by omega
    have hb : ((ee : Int) != 0) = true := by simpa using hb1
    clear hE h0
    go_wp2_with (first
      | (go_at_call 82; (with_reducible refine HN4.out.mono ?_); rintro e w5 ⟨rfl, rfl⟩)
      | fail)
    go_ret2
    rw [E.out]
    exact ⟨_, rfl, listIn_nil, HFIN.out⟩

end Go.Proofs.Ythhcnlmjcpkbnaa
