/- ShredOne. -/
import Derived.Test.YtbbedkkinhccjaaShv
namespace Go.Proofs.Ytbbedkkinhccjaa
open Go.RowKit
set_option linter.unusedVariables false
set_option linter.unusedSimpArgs false

/-- The blocks that may change. -/
def T16 (g : Nat) (a b c : Value) : List Nat := g :: (a.ownBlock.toList ++ b.ownBlock.toList ++ c.ownBlock.toList)

/-- What the slots beside held is named. -/
theorem region_base {P : Program} {md : Region.Mode} {ops : Array Oper} {Q : Exit → Act → World → Prop} {fuel : Nat} {listed : Array Bool} {a : Act} {w : World} (G : (Nat → Value) → (Nat → Value) → Act) (h : a = G (fun j => a.tmps.getD j undef) (fun j => a.tmps.getD j undef))
    (k : ∀ base u : Nat → Value, (∀ j, base j = a.tmps.getD j undef) → wpAny P md ops Q fuel listed (G base u) w) : wpAny P md ops Q fuel listed a w := by
  have h2 := k (fun j => a.tmps.getD j undef) (fun j => a.tmps.getD j undef) (fun _ => rfl)
  rw [← h] at h2
  exact h2

abbrev FRO16 (N k gG gx nR nD nV mR mD mV B M : Nat) (ro dO vo xo yo zo : Option Addr) (rc dc vc xc yc zc : Nat) (F : Nat → Value) (X : Nat → Rw) (L1 L2 Y1 Y2 : List Int) (L3 Y3 : List V) (A0 : Array Value) (av1 : Option Addr) (cv1 : Nat) (av2 : Option Addr) (cv2 : Nat) (av3 : Option Addr) (cv3 : Nat) (base u : Nat → Value) : Act := { tmps := #[base 0, base 1, base 2, base 3, base 4, base 5, base 6, base 7, base 8, .slice (some ⟨gG, 0, none⟩) N N, base 10, .slice (some ⟨gx, 0, none⟩) N N, base 12, .int .i64 (k : Int), base 14, base 15, base 16, base 17, base 18, base 19, base 20, base 21, base 22, base 23, base 24, base 25, base 26, base 27, base 28, base 29, base 30, base 31, base 32, base 33, base 34, base 35, base 36, base 37, base 38, base 39, base 40, base 41, base 42, base 43, base 44, base 45, base 46, base 47, base 48, base 49, base 50, base 51, base 52, base 53, base 54, base 55, base 56, base 57, base 58, base 59, base 60, u 61, u 62, u 63, u 64, u 65, u 66, u 67, u 68, u 69, u 70, u 71, u 72, u 73, u 74, u 75, u 76, u 77, u 78, u 79, u 80, u 81, u 82, u 83, u 84, u 85, u 86, u 87, u 88, u 89, u 90, u 91, u 92, u 93, u 94, u 95, u 96, u 97, base 98, base 99, base 100, base 101, base 102, base 103, base 104], defers := [] }

structure RIO16 (N k gG gx nR nD nV mR mD mV B M : Nat) (ro dO vo xo yo zo : Option Addr) (rc dc vc xc yc zc : Nat) (F : Nat → Value) (X : Nat → Rw) (L1 L2 Y1 Y2 : List Int) (L3 Y3 : List V) (A0 : Array Value) (wc : World) (b : Nat → Bool) (u : Nat → Value) (av1 : Option Addr) (cv1 : Nat) (av2 : Option Addr) (cv2 : Nat) (av3 : Option Addr) (cv3 : Nat) (w' : World) : Prop where
  c0 : b 0 = true → u 61 = .slice (some ⟨gG, 0, none⟩) N N
  c1 : b 1 = true → u 62 = .int .i64 (k : Int)
  c2 : b 2 = true → u 63 = .slice (some ⟨gG, 0, none⟩) N N
  c3 : b 3 = true → u 64 = .int .i64 (k : Int)
  c4 : b 4 = true → u 65 = .pointer (some ⟨gG, k * 3, none⟩)
  c5 : b 5 = true → u 66 = .pointer (some ⟨gG, k * 3, none⟩)
  c6 : b 6 = true → u 67 = .slice ro nR rc
  c7 : b 7 = true → u 68 = .slice (some ⟨gx, 0, none⟩) N N
  c8 : b 8 = true → u 69 = .int .i64 (k : Int)
  c9 : b 9 = true → u 70 = .pointer (some ⟨gx, k * 3, none⟩)
  c10 : b 10 = true → u 71 = .pointer (some ⟨gx, k * 3, none⟩)
  c11 : b 11 = true → u 72 = .slice xo mR xc
  c12 : b 12 = true → u 73 = .slice av1 (nR + mR) cv1
  c13 : b 13 = true → u 74 = .slice (some ⟨gG, 0, none⟩) N N
  c14 : b 14 = true → u 75 = .int .i64 (k : Int)
  c15 : b 15 = true → u 76 = .pointer (some ⟨gG, k * 3, none⟩)
  c16 : b 16 = true → u 77 = .pointer (some ⟨gG, k * 3 + 1, none⟩)
  c17 : b 17 = true → u 78 = .slice dO nD dc
  c18 : b 18 = true → u 79 = .slice (some ⟨gx, 0, none⟩) N N
  c19 : b 19 = true → u 80 = .int .i64 (k : Int)
  c20 : b 20 = true → u 81 = .pointer (some ⟨gx, k * 3, none⟩)
  c21 : b 21 = true → u 82 = .pointer (some ⟨gx, k * 3 + 1, none⟩)
  c22 : b 22 = true → u 83 = .slice yo mD yc
  c23 : b 23 = true → u 84 = .slice av2 (nD + mD) cv2
  c24 : b 24 = true → u 85 = .slice (some ⟨gG, 0, none⟩) N N
  c25 : b 25 = true → u 86 = .int .i64 (k : Int)
  c26 : b 26 = true → u 87 = .pointer (some ⟨gG, k * 3, none⟩)
  c27 : b 27 = true → u 88 = .pointer (some ⟨gG, k * 3 + 2, none⟩)
  c28 : b 28 = true → u 89 = .slice vo nV vc
  c29 : b 29 = true → u 90 = .slice (some ⟨gx, 0, none⟩) N N
  c30 : b 30 = true → u 91 = .int .i64 (k : Int)
  c31 : b 31 = true → u 92 = .pointer (some ⟨gx, k * 3, none⟩)
  c32 : b 32 = true → u 93 = .pointer (some ⟨gx, k * 3 + 2, none⟩)
  c33 : b 33 = true → u 94 = .slice zo mV zc
  c34 : b 34 = true → u 95 = .slice av3 (nV + mV) cv3
  c35 : b 35 = true → u 96 = .agg #[.slice av1 (nR + mR) cv1, .slice av2 (nD + mD) cv2, .slice av3 (nV + mV) cv3]
  c36 : b 36 = true → u 97 = .pointer (some ⟨gG, k * 3, none⟩)
  cg : Chg (T16 gG (.slice ro nR rc) (.slice dO nD dc) (.slice vo nV vc)) wc w'
  gr : GR w' B M (FB F (k * 3) (b 12) (b 23) (b 34) (.slice av1 (nR + mR) cv1) (.slice av2 (nD + mD) cv2) (.slice av3 (nV + mV) cv3)) (FB X (k * 3) (b 12) (b 23) (b 34) (.i (L1 ++ Y1)) (.i (L2 ++ Y2)) (.v (L3 ++ Y3)))
  gk : b 37 = false → w'.heap[gG]? = some (.cells A0 36 (0, 0))
  gs : b 37 = true → w'.heap[gG]? = some (.cells (((A0.setIfInBounds (k * 3) (.slice av1 (nR + mR) cv1)).setIfInBounds (k * 3 + 1) (.slice av2 (nD + mD) cv2)).setIfInBounds (k * 3 + 2) (.slice av3 (nV + mV) cv3)) 36 (0, 0))
  q1 : b 12 = true → ∀ g, (Value.slice av1 (nR + mR) cv1).ownBlock = some g → (Value.slice ro nR rc).ownBlock = some g ∨ wc.heap.size ≤ g
  q2 : b 23 = true → ∀ g, (Value.slice av2 (nD + mD) cv2).ownBlock = some g → (Value.slice dO nD dc).ownBlock = some g ∨ wc.heap.size ≤ g
  q3 : b 34 = true → ∀ g, (Value.slice av3 (nV + mV) cv3).ownBlock = some g → (Value.slice vo nV vc).ownBlock = some g ∨ wc.heap.size ≤ g
  z35_12 : b 35 = true → b 12 = true
  z35_23 : b 35 = true → b 23 = true
  z35_34 : b 35 = true → b 34 = true
  z12_6 : b 12 = true → b 6 = true
  z23_17 : b 23 = true → b 17 = true
  z34_28 : b 34 = true → b 28 = true
  z37_35 : b 37 = true → b 35 = true
  z37_36 : b 37 = true → b 36 = true
  z37_12 : b 37 = true → b 12 = true
  z37_23 : b 37 = true → b 23 = true
  z37_34 : b 37 = true → b 34 = true
  z37_6 : b 37 = true → b 6 = true
  z37_17 : b 37 = true → b 17 = true
  z37_28 : b 37 = true → b 28 = true

def JIO16 (N k gG gx nR nD nV mR mD mV B M : Nat) (ro dO vo xo yo zo : Option Addr) (rc dc vc xc yc zc : Nat) (F : Nat → Value) (X : Nat → Rw) (L1 L2 Y1 Y2 : List Int) (L3 Y3 : List V) (A0 : Array Value) (base : Nat → Value) (wc : World) (listed : Array Bool) (a' : Act) (w' : World) : Prop :=
  ∃ (b : Nat → Bool) (u : Nat → Value) (av1 : Option Addr) (cv1 : Nat) (av2 : Option Addr) (cv2 : Nat) (av3 : Option Addr) (cv3 : Nat), listed = #[b 0, b 1, b 2, b 3, b 4, b 5, b 6, b 7, b 8, b 9, b 10, b 11, b 12, b 13, b 14, b 15, b 16, b 17, b 18, b 19, b 20, b 21, b 22, b 23, b 24, b 25, b 26, b 27, b 28, b 29, b 30, b 31, b 32, b 33, b 34, b 35, b 36, b 37] ∧ a' = FRO16 N k gG gx nR nD nV mR mD mV B M ro dO vo xo yo zo rc dc vc xc yc zc F X L1 L2 Y1 Y2 L3 Y3 A0 av1 cv1 av2 cv2 av3 cv3 base u ∧ RIO16 N k gG gx nR nD nV mR mD mV B M ro dO vo xo yo zo rc dc vc xc yc zc F X L1 L2 Y1 Y2 L3 Y3 A0 wc b u av1 cv1 av2 cv2 av3 cv3 w'

theorem JIO16_start {N k gG gx nR nD nV mR mD mV B M : Nat} {ro dO vo xo yo zo : Option Addr} {rc dc vc xc yc zc : Nat} {F : Nat → Value} {X : Nat → Rw} {L1 L2 Y1 Y2 : List Int} {L3 Y3 : List V} {A0 : Array Value} {wc w' : World} {base u0 : Nat → Value} (hc : Chg (T16 gG (.slice ro nR rc) (.slice dO nD dc) (.slice vo nV vc)) wc w') (hg0 : GR w' B M F X) (hk0 : w'.heap[gG]? = some (.cells A0 36 (0, 0))) : JIO16 N k gG gx nR nD nV mR mD mV B M ro dO vo xo yo zo rc dc vc xc yc zc F X L1 L2 Y1 Y2 L3 Y3 A0 base wc (Array.replicate 38 false) (FRO16 N k gG gx nR nD nV mR mD mV B M ro dO vo xo yo zo rc dc vc xc yc zc F X L1 L2 Y1 Y2 L3 Y3 A0 none 0 none 0 none 0 base u0) w' :=
  ⟨fun _ => false, _, none, 0, none, 0, none, 0, rfl, rfl, by constructor <;> simp [hc, hk0, FB_none, hg0]⟩

theorem ltO16 : ∀ i : Nat, i < 38 → i = 0 ∨ i = 1 ∨ i = 2 ∨ i = 3 ∨ i = 4 ∨ i = 5 ∨ i = 6 ∨ i = 7 ∨ i = 8 ∨ i = 9 ∨ i = 10 ∨ i = 11 ∨ i = 12 ∨ i = 13 ∨ i = 14 ∨ i = 15 ∨ i = 16 ∨ i = 17 ∨ i = 18 ∨ i = 19 ∨ i = 20 ∨ i = 21 ∨ i = 22 ∨ i = 23 ∨ i = 24 ∨ i = 25 ∨ i = 26 ∨ i = 27 ∨ i = 28 ∨ i = 29 ∨ i = 30 ∨ i = 31 ∨ i = 32 ∨ i = 33 ∨ i = 34 ∨ i = 35 ∨ i = 36 ∨ i = 37 := by intro i h; omega


/-- What the rows of got hold once column j has the cells of h j records. -/
def oneX (Ls : List L) (WS : List (List Stp)) (TS : List Tr) (h : Nat → Nat) (p : Nat) : Rw :=
  if p % 3 = 2 then .v (colV (Ls.getD (p / 3) default).d (colC (WS.getD (p / 3) []) (TS.take (h (p / 3))))) else .i (if p % 3 = 1 then colD (colC (WS.getD (p / 3) []) (TS.take (h (p / 3)))) else colR (colC (WS.getD (p / 3) []) (TS.take (h (p / 3)))))

theorem oneX_at (Ls : List L) (WS : List (List Stp)) (TS : List Tr) (h : Nat → Nat) (k : Nat) :
    oneX Ls WS TS h (k * 3) = .i (colR (colC (WS.getD k []) (TS.take (h k)))) ∧ oneX Ls WS TS h (k * 3 + 1) = .i (colD (colC (WS.getD k []) (TS.take (h k)))) ∧ oneX Ls WS TS h (k * 3 + 2) = .v (colV (Ls.getD k default).d (colC (WS.getD k []) (TS.take (h k)))) := by
  have e0 : k * 3 / 3 = k := by omega
  have e1 : (k * 3 + 1) / 3 = k := by omega
  have e2 : (k * 3 + 2) / 3 = k := by omega
  unfold oneX
  refine ⟨?_, ?_, ?_⟩
  · rw [if_neg (by omega), if_neg (by omega), e0]
  · rw [if_neg (by omega), if_pos (by omega), e1]
  · rw [if_pos (by omega), e2]

theorem oneX_step (Ls : List L) (WS : List (List Stp)) (TS : List Tr) (i k : Nat) (t : Tr) (ht : TS[i]? = some t) (q : Nat) :
    oneX Ls WS TS (fun j => if j < k + 1 then i + 1 else i) q = FB (oneX Ls WS TS (fun j => if j < k then i + 1 else i)) (k * 3) true true true
      (.i (colR (colC (WS.getD k []) (TS.take i)) ++ colR (colC (WS.getD k []) [t]))) (.i (colD (colC (WS.getD k []) (TS.take i)) ++ colD (colC (WS.getD k []) [t]))) (.v (colV (Ls.getD k default).d (colC (WS.getD k []) (TS.take i)) ++ colV (Ls.getD k default).d (colC (WS.getD k []) [t]))) q := by
  have hc : colC (WS.getD k []) (TS.take (i + 1)) = colC (WS.getD k []) (TS.take i) ++ colC (WS.getD k []) [t] := by
    rw [List.take_add_one, ht, ← col_app]; rfl
  obtain ⟨a0, a1, a2⟩ := oneX_at Ls WS TS (fun j => if j < k + 1 then i + 1 else i) k
  simp only [Nat.lt_succ_self, if_true, hc] at a0 a1 a2
  rw [FB_all]
  by_cases e2 : q = k * 3 + 2
  · subst e2; rw [if_pos rfl, a2]; simp [colV]
  · rw [if_neg e2]
    by_cases e1 : q = k * 3 + 1
    · subst e1; rw [if_pos rfl, a1]; simp [colD]
    · rw [if_neg e1]
      by_cases e0 : q = k * 3
      · subst e0; rw [if_pos rfl, a0]; simp [colR]
      · rw [if_neg e0]
        have hne : q / 3 ≠ k := by omega
        unfold oneX
        have e : (if q / 3 < k + 1 then i + 1 else i) = (if q / 3 < k then i + 1 else i) := by
          by_cases hlt : q / 3 < k
          · rw [if_pos hlt, if_pos (by omega)]
          · rw [if_neg hlt, if_neg (by omega)]
        simp only [e]

set_option maxRecDepth 100000 in
set_option maxHeartbeats 8000000 in
theorem walk_ShredOne (a0 : Option Addr) (len0 cap0 : Nat) (z0 : List Int) (a1 : Option Addr) (len1 cap1 : Nat) (rs : List (List Int)) (w : World) (w0 : IsRow .i64 w a0 len0 cap0 z0) (w1 : RowsI w (.slice a1 len1 cap1) rs) :
    Calls Try.prog 3 #[.slice a0 len0 cap0, .slice a1 len1 cap1] w fun e w' => e = .returned (.bool true) ∧ Below w.heap.size w w' := by
  obtain ⟨i0, hi, hz0, hz1, hz2⟩ := info_int
  obtain ⟨i1, hi1, hy0, hy1, hy2⟩ := info_value
  obtain ⟨i2, ji, jz0, jz1, jz2⟩ := info_col
  obtain ⟨ns, hS, hlen, hwf⟩ := w0.seenI
  have HS := Lib.hid hS; have HWF := Lib.hid hwf; have HR := Lib.hid w1
  clear w0 hS hwf hlen
  have hmk := mk_ok ns
  obtain ⟨l, hl⟩ : ∃ l, l = mk ns := ⟨_, rfl⟩
  have HL := Lib.hid hl
  obtain ⟨TS, hTS⟩ : ∃ TS, TS = (rs.take 16).map (mk8 l) := ⟨_, rfl⟩
  have hTl : TS.length ≤ 16 := by rw [hTS, List.length_map, List.length_take]; omega
  have HLM := Lib.hid (show ∀ t ∈ TS, ∃ r, t = mk8 (mk ns) r from fun t ht => by rw [hTS, hl] at ht; obtain ⟨r, -, rfl⟩ := List.mem_map.1 ht; exact ⟨r, rfl⟩)
  have hln := hmk.le
  have hlp := hmk.pos
  rw [← hl] at hmk hln hlp
  have HFC := Lib.hid (show ∀ f ∈ l, f.c ≤ 9223372036854775807 from fun f hf => by have := hmk.c f hf; omega)
  have HMK := Lib.hid (show ∀ wx sv, SeenF wx sv l → Chg [] w wx → Calls Try.prog 12 #[sv, .slice a1 len1 cap1] wx fun e w' => ∃ lv, e = .returned lv ∧ ListIn (wx.heap.size ≤ ·) w' l.length TS lv ∧ Chg [] wx w' from fun wx sv hs hk => by
    rw [hTS]
    exact many_any sv (.slice a1 len1 cap1) l rs wx hs (HR.out.keep hk) hlp (by omega) HFC.out)
  have HCM := Lib.hid (show ∀ sv lv wx L0, L0.length ≤ 16 → (∀ t ∈ L0, t ∈ TS) → SeenF wx sv l → ListAt wx l.length L0 lv → _ from fun sv lv wx L0 h16 hsub hs hL => columns_made sv lv ns L0 l.length wx (by rw [← hl]; exact hs) hL (fun t ht => HLM.out t (hsub t ht)) h16)
  have HCB := Lib.hid (show ∀ i, ∀ W ∈ lways (mk ns), (colC W (TS.take i)).length ≤ 4000 from fun i W hW => ((made_cols ns (TS.take i) (fun t ht => HLM.out t (List.mem_of_mem_take ht)) (by rw [List.length_take]; omega)).2 W hW).2.2)
  obtain ⟨m, hm⟩ : ∃ m, m = TS.length := ⟨_, rfl⟩
  have HM := Lib.hid hm
  obtain ⟨N, hN⟩ : ∃ N, N = (leavesL (mk ns)).length := ⟨_, rfl⟩
  have hN40 : N ≤ 40 := by have h := leavesTo_le (mk ns) (mk ns).length; rw [hN]; unfold leavesL; rw [hl] at hln; omega
  have HNN := Lib.hid hN
  have HLW := Lib.hid (show (lways (mk ns)).length = N by rw [lways_len, ← hN])
  rw [← hN] at HCM
  rw [← hm] at hTl
  have q1 : ((N : Int) != (N : Int)) = false := by simp
  clear w1 hmk hl hTS hm hN
  go_enter Try.func3, Try.ntmps3
  go_wp2_with fail
  refine (known14_any _).mono ?_
  rintro e wA ⟨rfl, hk⟩
  have HK1 := Lib.hid hk
  clear hk
  go_wp2_with fail
  refine (make_any _ ns _ (HS.out.keep HK1.out) HWF.out).mono ?_
  rintro e wB ⟨sv, rfl, hown, hk⟩
  rw [← HL.out] at hown
  have hSv := SeenF.own hown rfl
  obtain ⟨sa, sc, rfl⟩ := own_shape hown
  have HSF := Lib.hid hSv
  have HK2 := Lib.hid (HK1.out.trans hk (by simp))
  clear hown hSv hk
  go_wp2_with fail
  refine (HMK.out wB _ HSF.out HK2.out).mono ?_
  rintro e wC ⟨lv, rfl, hli, hk⟩
  have hla := hli.at
  obtain ⟨lo, lc, rfl, hlc1, hlc2⟩ := hla.shape
  rw [← HM.out] at hla hlc1 ⊢
  have HLV := Lib.hid hla
  have HK3 := Lib.hid (HK2.out.trans hk (by simp)); have HSF3 := Lib.hid (HSF.out.keep hk)
  clear hli hk hla
  go_wp2_with fail
  refine (HCM.out _ _ wC TS (by rw [← HM.out]; exact hTl) (fun t h => h) HSF3.out HLV.out).mono ?_
  rintro e wD ⟨gA, RA, rfl, hk, hJ⟩
  have HK4 := Lib.hid hk
  have HJA := Lib.hid (hJ.seen (by omega) HNN.out.symm HLW.out)
  clear hk hJ
  go_wp2_with (at_make; refine wpList_make_full _ rfl _ _ 30 rfl wD.heap.size 36 i2 (.agg #[.slice none 0 0, .slice none 0 0, .slice none 0 0]) 3 Try.underlying30 ji jz0 jz1 .i64 .i64 _ _ N rfl rfl rfl rfl ?c1 ?c2 (Nat.le_refl _) ?_)
  case c1 => rw [jz2]; omega
  case c2 => unfold maxLen; omega
  intro wE hown1 hg1
  obtain ⟨gG, hgG⟩ : ∃ g, g = wD.heap.size := ⟨_, rfl⟩
  rw [← hgG] at hown1 ⊢
  have hbk := blk_of_own3 hown1 rfl
  rw [show ((madeCells #[.slice none 0 0, .slice none 0 0, .slice none 0 0] (N * 3)).toList).toArray = cellsF (N * 3) (fun _ => nil0) by
    apply Array.ext_getElem?
    intro j
    rw [cells_cols]
    by_cases hj : j < N * 3
    · rw [cellsF_get _ _ _ hj]
      have h3 : j % 3 = 0 ∨ j % 3 = 1 ∨ j % 3 = 2 := by omega
      have key : ∀ u, (encC C3.nil)[j % 3]? = some u → ((List.replicate N C3.nil).flatMap encC)[j]? = some u := fun u hu => by
        have h := flat_get encC_len (List.replicate N C3.nil) (j / 3) C3.nil (j % 3) u (by rw [List.getElem?_replicate, if_pos (by omega)]) hu
        rwa [show j / 3 * 3 + j % 3 = j by omega] at h
      rw [List.getElem?_toArray]
      apply key
      rcases h3 with h3 | h3 | h3 <;> rw [h3] <;> rfl
    · rw [Array.getElem?_eq_none (by simp [flat_length encC_len]; omega), Array.getElem?_eq_none (by simp [cellsF]; omega)]] at hbk
  have HBK := Lib.hid hbk
  have HDE := Lib.hid ((Chg.refl [] wD).grown hg1 (by simp))
  have hgE : gG < wE.heap.size := Go.lt_of_block hbk
  have hgD : wD.heap.size ≤ gG := by omega
  clear hown1 hg1 hbk hgG
  go_wp2
  go_loopw [10] (fun x w' => ∃ (i : Nat) (F : Nat → Value), x = .int .i64 (i : Int) ∧ i ≤ m ∧ Chg [] wD w' ∧ w'.heap[gG]? = some (.cells (cellsF (N * 3) F) 36 (0, 0)) ∧ GR w' wD.heap.size (N * 3) F (oneX (leavesL (mk ns)) (lways (mk ns)) TS (fun _ => i))) (fun x _ => m - (intOf x).toNat)
  case atStart => exact ⟨0, fun _ => nil0, rfl, Nat.zero_le _, HDE.out, HBK.out, GR.nils _ _ _ _ fun p => by unfold oneX; by_cases h : p % 3 = 2 <;> simp [h, colC, colV, colD, colR]⟩
  case round =>
    obtain ⟨i, F, rfl, him, hc, hb, hgr⟩ := hrel
    obtain ⟨wq, rfl⟩ : ∃ wq, wq = wr := ⟨_, rfl⟩
    have HC := Lib.hid hc; have HB := Lib.hid hb; have HG := Lib.hid hgr
    clear hc hb hgr
    by_cases hlt : i < m
    · have d0 : decide ((i : Int) < (m : Int)) = true := by simp; omega
      obtain ⟨t, ht⟩ : ∃ t, TS[i]? = some t := ⟨_, List.getElem?_eq_getElem (by rw [← HM.out]; exact hlt)⟩
      obtain ⟨mo, mc, hml, hmr⟩ := HLV.out.mid HM.out i t ht
      have HT := Lib.hid ht; have HML := Lib.hid hml
      have hCq : Chg [] wC wq := HK4.out.trans HC.out (by simp)
      have HCQ := Lib.hid hCq
      clear ht hml hCq
      go_wp2_with fail
      refine (HCM.out _ _ wq [t] (by simp) (by intro y hy; simp at hy; subst hy; exact List.mem_of_getElem? HT.out) (HSF3.out.keep HCQ.out) (HML.out.keep HCQ.out)).mono ?_
      rintro e wX ⟨gx, RX, rfl, hk, hJ⟩
      have HKX := Lib.hid hk
      have HJX := Lib.hid hJ
      have HBX := Lib.hid (hk.heap HB.out (by simp)); have HGX := Lib.hid (HG.out.keep hk)
      have HCX := Lib.hid (HC.out.trans hk (by simp))
      clear hk hJ hmr
      go_wp2
      go_loopw [13] (fun x w' => ∃ (k : Nat) (F : Nat → Value), x = .int .i64 (k : Int) ∧ k ≤ N ∧ Chg [] wD w' ∧ (∃ S, Chg S wX w' ∧ ∀ g ∈ S, g < wq.heap.size ∨ wX.heap.size ≤ g) ∧ w'.heap[gG]? = some (.cells (cellsF (N * 3) F) 36 (0, 0)) ∧ GR w' wD.heap.size (N * 3) F (oneX (leavesL (mk ns)) (lways (mk ns)) TS (fun j => if j < k then i + 1 else i)) ∧ ∀ p, p < N * 3 → ∀ g, (F p).ownBlock = some g → g < wq.heap.size ∨ wX.heap.size ≤ g) (fun x _ => N - (intOf x).toNat)
      case atStart => exact ⟨0, F, rfl, Nat.zero_le _, HCX.out, ⟨[], Chg.refl _ _, by simp⟩, HBX.out, by simpa using HGX.out, fun p hp g hg => .inl ((HG.out.own p hp).lt g hg).2⟩
      case round =>
        obtain ⟨k, F2, rfl, hkN, hc, ⟨S, hcS, hSS⟩, hb, hgr, hiv⟩ := hrel
        have HC2 := Lib.hid hc; have HCS := Lib.hid hcS; have HSS := Lib.hid hSS; have HB2 := Lib.hid hb; have HG2 := Lib.hid hgr; have HIV := Lib.hid hiv
        by_cases hkl : k < N
        · have d1 : decide ((k : Int) < (N : Int)) = true := by simp; omega
          have e1 : (leavesL (mk ns))[k]? = some ((leavesL (mk ns)).getD k default) := by rw [List.getD, List.getElem?_eq_getElem (by rw [← HNN.out]; exact hkl)]; rfl
          have e2 : (lways (mk ns))[k]? = some ((lways (mk ns)).getD k []) := by rw [List.getD, List.getElem?_eq_getElem (by rw [HLW.out]; exact hkl)]; rfl
          obtain ⟨W, hW⟩ : ∃ W, W = (lways (mk ns)).getD k [] := ⟨_, rfl⟩
          obtain ⟨dd, hdd⟩ : ∃ dd, dd = ((leavesL (mk ns)).getD k default).d := ⟨_, rfl⟩
          obtain ⟨e, -, ⟨hxt, hxs, hxg⟩, hxl, x0, x1, x2⟩ := HJX.out.get hkl e1 e2
          have hgl := HJX.out.gl
          rw [← hW] at hxt
          rw [← hdd] at hxt
          obtain ⟨X2, hX2⟩ : ∃ X : Nat → Rw, X = oneX (leavesL (mk ns)) (lways (mk ns)) TS (fun j => if j < k then i + 1 else i) := ⟨_, rfl⟩
          obtain ⟨y0, y1, y2⟩ := oneX_at (leavesL (mk ns)) (lways (mk ns)) TS (fun j => if j < k then i + 1 else i) k
          rw [← hX2, ← hW] at y0 y1 y2
          rw [← hdd] at y2
          simp only [Nat.lt_irrefl, if_false] at y0 y1 y2
          rw [← hX2] at hgr
          have hC0 : (colC W (TS.take i)).length ≤ 4000 := HCB.out i W (by rw [hW, List.getD, List.getElem?_eq_getElem (by rw [HLW.out]; exact hkl)]; exact List.getElem_mem _)
          have hC1 : (colC W [t]).length ≤ 4000 := by
            have h := HCB.out (i + 1) W (by rw [hW, List.getD, List.getElem?_eq_getElem (by rw [HLW.out]; exact hkl)]; exact List.getElem_mem _)
            rw [List.take_add_one, HT.out, col_app, List.length_append] at h
            exact Nat.le_trans (by simp) h
          have hvl : ∀ C : List Cl, (colV dd C).length ≤ C.length := fun C => by unfold colV; rw [List.length_map]; exact List.length_filter_le _ _
          have hv0 := hvl (colC W (TS.take i))
          have hv1 := hvl (colC W [t])
          obtain ⟨L1, hL1⟩ : ∃ L, L = colR (colC W (TS.take i)) := ⟨_, rfl⟩
          obtain ⟨L2, hL2⟩ : ∃ L, L = colD (colC W (TS.take i)) := ⟨_, rfl⟩
          obtain ⟨L3, hL3⟩ : ∃ L, L = colV dd (colC W (TS.take i)) := ⟨_, rfl⟩
          obtain ⟨Y1, hY1⟩ : ∃ L, L = colR (colC W [t]) := ⟨_, rfl⟩
          obtain ⟨Y2, hY2⟩ : ∃ L, L = colD (colC W [t]) := ⟨_, rfl⟩
          obtain ⟨Y3, hY3⟩ : ∃ L, L = colV dd (colC W [t]) := ⟨_, rfl⟩
          have hl1 : L1.length = (colC W (TS.take i)).length ∧ L2.length = (colC W (TS.take i)).length ∧ Y1.length = (colC W [t]).length ∧ Y2.length = (colC W [t]).length := by rw [hL1, hL2, hY1, hY2]; simp
          rw [← hL1] at y0
          rw [← hL2] at y1
          rw [← hL3] at y2 hv0
          rw [← hY3] at hv1
          rw [← hY1, ← hY2, ← hY3] at hxt
          have HST := Lib.hid (show ∀ q, oneX (leavesL (mk ns)) (lways (mk ns)) TS (fun j => if j < k + 1 then i + 1 else i) q = FB X2 (k * 3) true true true (.i (L1 ++ Y1)) (.i (L2 ++ Y2)) (.v (L3 ++ Y3)) q from fun q => by
            rw [oneX_step _ _ _ i k t HT.out q, ← hX2, ← hW, ← hdd, ← hL1, ← hL2, ← hL3, ← hY1, ← hY2, ← hY3])
          have o0 := hgr.own (k * 3) (by omega)
          have o1 := hgr.own (k * 3 + 1) (by omega)
          have o2 := hgr.own (k * 3 + 2) (by omega)
          rw [y0] at o0
          rw [y1] at o1
          rw [y2] at o2
          unfold OwnR at o0 o1 o2
          obtain ⟨nR, hnR⟩ : ∃ n, n = L1.length := ⟨_, rfl⟩
          obtain ⟨nD, hnD⟩ : ∃ n, n = L2.length := ⟨_, rfl⟩
          obtain ⟨nV, hnV⟩ : ∃ n, n = L3.length := ⟨_, rfl⟩
          obtain ⟨mR, hmR⟩ : ∃ n, n = Y1.length := ⟨_, rfl⟩
          obtain ⟨mD, hmD⟩ : ∃ n, n = Y2.length := ⟨_, rfl⟩
          obtain ⟨mV, hmV⟩ : ∃ n, n = Y3.length := ⟨_, rfl⟩
          simp only at o0 o1 o2
          rw [← hnR] at o0
          rw [← hnD] at o1
          rw [← hnV] at o2
          obtain ⟨ro, rc, hf0⟩ := own_shape o0
          obtain ⟨dO, dc, hf1⟩ := own_shape o1
          obtain ⟨vo, vc, hf2⟩ := own_shape o2
          have xr := hxt.r; have xd := hxt.d; have xv := hxt.v
          rw [show (colC W [t]).length = mR by rw [hmR, hl1.2.2.1]] at xr
          rw [show (colC W [t]).length = mD by rw [hmD, hl1.2.2.2]] at xd
          rw [← hmV] at xv
          obtain ⟨er, ed, ev, eb, eh⟩ := e
          simp only at xr xd xv x0 x1 x2 hxs hxg hxl
          obtain ⟨xo, xc, rfl⟩ := own_shape xr
          obtain ⟨yo, yc, rfl⟩ := own_shape xd
          obtain ⟨zo, zc, rfl⟩ := own_shape xv
          have HN := Lib.hid (show nR = L1.length ∧ nD = L2.length ∧ nV = L3.length from ⟨hnR, hnD, hnV⟩)
          have HNX := Lib.hid (show mR = Y1.length ∧ mD = Y2.length ∧ mV = Y3.length from ⟨hmR, hmD, hmV⟩)
          have hbd : nR ≤ 4000 ∧ nD ≤ 4000 ∧ nV ≤ 4000 ∧ mR ≤ 4000 ∧ mD ≤ 4000 ∧ mV ≤ 4000 := by omega
          have HMX := Lib.hid (show nR + mR ≤ maxLen ∧ nD + mD ≤ maxLen ∧ nV + mV ≤ maxLen from by unfold maxLen; omega)
          have HM3 := Lib.hid (show (nR + mR) * 8 ≤ 140737488355328 ∧ (nD + mD) * 8 ≤ 140737488355328 ∧ (nV + mV) * 24 ≤ 140737488355328 from by omega)
          have HBW := Lib.hid hc.size
          have HF0 := Lib.hid (show F2 (k * 3) = .slice ro nR rc ∧ F2 (k * 3 + 1) = .slice dO nD dc ∧ F2 (k * 3 + 2) = .slice vo nV vc from ⟨hf0, hf1, hf2⟩)
          have HX0 := Lib.hid (show X2 (k * 3) = .i L1 ∧ X2 (k * 3 + 1) = .i L2 ∧ X2 (k * 3 + 2) = .v L3 from ⟨y0, y1, y2⟩)
          have HA0 := Lib.hid (show (cellsF (N * 3) F2)[k * 3]? = some (.slice ro nR rc) ∧ (cellsF (N * 3) F2)[k * 3 + 1]? = some (.slice dO nD dc) ∧ (cellsF (N * 3) F2)[k * 3 + 2]? = some (.slice vo nV vc) from ⟨by rw [cellsF_get _ _ _ (by omega), hf0], by rw [cellsF_get _ _ _ (by omega), hf1], by rw [cellsF_get _ _ _ (by omega), hf2]⟩)
          have HG0 := Lib.hid (show GR wr.drew wD.heap.size (N * 3) F2 X2 ∧ wr.drew.heap[gG]? = some (.cells (cellsF (N * 3) F2) 36 (0, 0)) from ⟨hgr.keep (Chg.refl [] wr).drew, hb⟩)
          have hgq : gG < wq.heap.size := Go.lt_of_block HB.out
          have hT16 : ∀ g ∈ T16 gG (.slice ro nR rc) (.slice dO nD dc) (.slice vo nV vc), g < wq.heap.size ∨ wX.heap.size ≤ g := fun g hg => by
            unfold T16 at hg
            simp only [List.mem_cons, List.mem_append, Option.mem_toList] at hg
            rcases hg with rfl | (hg | hg) | hg
            · exact .inl hgq
            · exact hiv (k * 3) (by omega) g (by rw [hf0]; exact hg)
            · exact hiv (k * 3 + 1) (by omega) g (by rw [hf1]; exact hg)
            · exact hiv (k * 3 + 2) (by omega) g (by rw [hf2]; exact hg)
          have HT16 := Lib.hid hT16
          have HTD := Lib.hid (show ∀ g ∈ T16 gG (.slice ro nR rc) (.slice dO nD dc) (.slice vo nV vc), wD.heap.size ≤ g from fun g hg => by
            unfold T16 at hg
            simp only [List.mem_cons, List.mem_append, Option.mem_toList] at hg
            rcases hg with rfl | (hg | hg) | hg
            · exact hgD
            · exact ((hgr.own (k * 3) (by omega)).lt g (by rw [hf0]; exact hg)).1
            · exact ((hgr.own (k * 3 + 1) (by omega)).lt g (by rw [hf1]; exact hg)).1
            · exact ((hgr.own (k * 3 + 2) (by omega)).lt g (by rw [hf2]; exact hg)).1)
          have HWX := Lib.hid (hcS.size)
          obtain ⟨B2, hB2e⟩ : ∃ B2, B2 = eb := ⟨_, rfl⟩
          rw [← hB2e] at xr xd xv hxl
          have HX := Lib.hid (show ∀ w', Chg (T16 gG (.slice ro nR rc) (.slice dO nD dc) (.slice vo nV vc)) wr w' → (w'.cell? ⟨gx, k * 3, none⟩ = some (.slice xo mR xc) ∧ w'.cell? ⟨gx, k * 3 + 1, none⟩ = some (.slice yo mD yc) ∧ w'.cell? ⟨gx, k * 3 + 2, none⟩ = some (.slice zo mV zc)) ∧ w'.ownsRow B2 3 1 (.slice xo mR xc) mR (iv Y1) ∧ w'.ownsRow B2 3 1 (.slice yo mD yc) mD (iv Y2) ∧ w'.ownsRow B2 42 2 (.slice zo mV zc) mV (Y3.flatMap V.cs) from fun w' hc' => by
            have n1 : ∀ g, wq.heap.size ≤ g → g < wX.heap.size → g ∉ S := fun g h1 h2 hm => by have := hSS g hm; omega
            have n2 : ∀ g, wq.heap.size ≤ g → g < wX.heap.size → g ∉ T16 gG (.slice ro nR rc) (.slice dO nD dc) (.slice vo nV vc) := fun g h1 h2 hm => by have := hT16 g hm; omega
            have hgx1 : wq.heap.size ≤ gx := hgl.1
            have hgx2 : gx < wX.heap.size := hgl.2
            have k1 : ∀ g, B2 ≤ g → g < wX.heap.size → wq.heap.size ≤ g := fun g h1 h2 => by omega
            refine ⟨⟨hc'.cell (hcS.cell x0 (n1 _ hgx1 hgx2)) (n2 _ hgx1 hgx2), hc'.cell (hcS.cell x1 (n1 _ hgx1 hgx2)) (n2 _ hgx1 hgx2), hc'.cell (hcS.cell x2 (n1 _ hgx1 hgx2)) (n2 _ hgx1 hgx2)⟩, ?_, ?_, ?_⟩
            · exact own_chg (own_chg xr hcS (fun g hg => n1 g (k1 g (own_ge xr g hg) (own_lt xr g hg)) (own_lt xr g hg))) hc' (fun g hg => n2 g (k1 g (own_ge xr g hg) (own_lt xr g hg)) (own_lt xr g hg))
            · exact own_chg (own_chg xd hcS (fun g hg => n1 g (k1 g (own_ge xd g hg) (own_lt xd g hg)) (own_lt xd g hg))) hc' (fun g hg => n2 g (k1 g (own_ge xd g hg) (own_lt xd g hg)) (own_lt xd g hg))
            · exact own_chg (own_chg xv hcS (fun g hg => n1 g (k1 g (own_ge xv g hg) (own_lt xv g hg)) (own_lt xv g hg))) hc' (fun g hg => n2 g (k1 g (own_ge xv g hg) (own_lt xv g hg)) (own_lt xv g hg)))
          clear hc hcS hSS hb hgr hiv e1 e2 hW hdd hxt hxs hxg hxl x0 x1 x2 hgl hX2 y0 y1 y2 hC0 hC1 hvl hv0 hv1 hL1 hL2 hL3 hY1 hY2 hY3 hl1 o0 o1 o2 hnR hnD hnV hmR hmD hmV hf0 hf1 hf2 xr xd xv hgq hT16 hB2e
          go_upto_region 16 with fail
          refine wp_region_any (by kernel_rfl) ?_
          change wpAny _ _ _ _ _ _ _ (World.drew _)
          refine region_base (fun base u => FRO16 N k gG gx nR nD nV mR mD mV wD.heap.size (N * 3) ro dO vo xo yo zo rc dc vc xc yc zc F2 X2 L1 L2 Y1 Y2 L3 Y3 (cellsF (N * 3) F2) none 0 none 0 none 0 base u) rfl (fun base u0 hbase => ?_)
          have HBS := Lib.hid hbase
          clear hbase
          refine wpAny_inv (JIO16 N k gG gx nR nD nV mR mD mV wD.heap.size (N * 3) ro dO vo xo yo zo rc dc vc xc yc zc F2 X2 L1 L2 Y1 Y2 L3 Y3 (cellsF (N * 3) F2) base wr) ?_ (fun listed a' w' hI hr => ?_) _ _ _ _ ?_ ?_
          rotate_left 2
          focus exact JIO16_start ((Chg.refl _ wr).drew) HG0.out.1 HG0.out.2
          focus exact count_rep _
          focus
            intro listed a' w' hI ii hi hr
            obtain ⟨b, u, av1, cv1, av2, cv2, av3, cv3, rfl, rfl, R⟩ := hI
            have hcs := ltO16 ii hi
            clear hi
            unfold FRO16
            rcases hcs with rfl | rfl | rfl | rfl | rfl | rfl | rfl | rfl | rfl | rfl | rfl | rfl | rfl | rfl | rfl | rfl | rfl | rfl | rfl | rfl | rfl | rfl | rfl | rfl | rfl | rfl | rfl | rfl | rfl | rfl | rfl | rfl | rfl | rfl | rfl | rfl | rfl | rfl
            · have hrd := ready_at rfl hr
              clear hr
              simp [Region.binds] at hrd
              clear hrd
              refine wpOp_step rfl (fun K hK => ?_)
              go_simp
              refine hK _ _ ?_
              exact ⟨upd b 0 true, (upd u 61 (.slice (some ⟨gG, 0, none⟩) N N)), av1, cv1, av2, cv2, av3, cv3, rfl, rfl, ⟨(fun _ => rfl), R.c1, R.c2, R.c3, R.c4, R.c5, R.c6, R.c7, R.c8, R.c9, R.c10, R.c11, R.c12, R.c13, R.c14, R.c15, R.c16, R.c17, R.c18, R.c19, R.c20, R.c21, R.c22, R.c23, R.c24, R.c25, R.c26, R.c27, R.c28, R.c29, R.c30, R.c31, R.c32, R.c33, R.c34, R.c35, R.c36, R.cg, R.gr, R.gk, R.gs, R.q1, R.q2, R.q3, R.z35_12, R.z35_23, R.z35_34, R.z12_6, R.z23_17, R.z34_28, R.z37_35, R.z37_36, R.z37_12, R.z37_23, R.z37_34, R.z37_6, R.z37_17, R.z37_28⟩⟩
            · have hrd := ready_at rfl hr
              clear hr
              simp [Region.binds] at hrd
              clear hrd
              refine wpOp_step rfl (fun K hK => ?_)
              go_simp
              refine hK _ _ ?_
              exact ⟨upd b 1 true, (upd u 62 (.int .i64 (k : Int))), av1, cv1, av2, cv2, av3, cv3, rfl, rfl, ⟨R.c0, (fun _ => rfl), R.c2, R.c3, R.c4, R.c5, R.c6, R.c7, R.c8, R.c9, R.c10, R.c11, R.c12, R.c13, R.c14, R.c15, R.c16, R.c17, R.c18, R.c19, R.c20, R.c21, R.c22, R.c23, R.c24, R.c25, R.c26, R.c27, R.c28, R.c29, R.c30, R.c31, R.c32, R.c33, R.c34, R.c35, R.c36, R.cg, R.gr, R.gk, R.gs, R.q1, R.q2, R.q3, R.z35_12, R.z35_23, R.z35_34, R.z12_6, R.z23_17, R.z34_28, R.z37_35, R.z37_36, R.z37_12, R.z37_23, R.z37_34, R.z37_6, R.z37_17, R.z37_28⟩⟩
            · have hrd := ready_at rfl hr
              clear hr
              simp [Region.binds] at hrd
              clear hrd
              refine wpOp_step rfl (fun K hK => ?_)
              go_simp
              refine hK _ _ ?_
              exact ⟨upd b 2 true, (upd u 63 (.slice (some ⟨gG, 0, none⟩) N N)), av1, cv1, av2, cv2, av3, cv3, rfl, rfl, ⟨R.c0, R.c1, (fun _ => rfl), R.c3, R.c4, R.c5, R.c6, R.c7, R.c8, R.c9, R.c10, R.c11, R.c12, R.c13, R.c14, R.c15, R.c16, R.c17, R.c18, R.c19, R.c20, R.c21, R.c22, R.c23, R.c24, R.c25, R.c26, R.c27, R.c28, R.c29, R.c30, R.c31, R.c32, R.c33, R.c34, R.c35, R.c36, R.cg, R.gr, R.gk, R.gs, R.q1, R.q2, R.q3, R.z35_12, R.z35_23, R.z35_34, R.z12_6, R.z23_17, R.z34_28, R.z37_35, R.z37_36, R.z37_12, R.z37_23, R.z37_34, R.z37_6, R.z37_17, R.z37_28⟩⟩
            · have hrd := ready_at rfl hr
              clear hr
              simp [Region.binds] at hrd
              clear hrd
              refine wpOp_step rfl (fun K hK => ?_)
              go_simp
              refine hK _ _ ?_
              exact ⟨upd b 3 true, (upd u 64 (.int .i64 (k : Int))), av1, cv1, av2, cv2, av3, cv3, rfl, rfl, ⟨R.c0, R.c1, R.c2, (fun _ => rfl), R.c4, R.c5, R.c6, R.c7, R.c8, R.c9, R.c10, R.c11, R.c12, R.c13, R.c14, R.c15, R.c16, R.c17, R.c18, R.c19, R.c20, R.c21, R.c22, R.c23, R.c24, R.c25, R.c26, R.c27, R.c28, R.c29, R.c30, R.c31, R.c32, R.c33, R.c34, R.c35, R.c36, R.cg, R.gr, R.gk, R.gs, R.q1, R.q2, R.q3, R.z35_12, R.z35_23, R.z35_34, R.z12_6, R.z23_17, R.z34_28, R.z37_35, R.z37_36, R.z37_12, R.z37_23, R.z37_34, R.z37_6, R.z37_17, R.z37_28⟩⟩
            · have hrd := ready_at rfl hr
              clear hr
              simp [Region.binds] at hrd
              have h2 : b 2 = true := by simp [hrd]
              have e2 := R.c2 h2
              have h3 : b 3 = true := by simp [hrd]
              have e3 := R.c3 h3
              clear hrd
              refine wpOp_step rfl (fun K hK => ?_)
              go_simp
              refine hK _ _ ?_
              exact ⟨upd b 4 true, (upd (upd (upd u 63 (.slice (some ⟨gG, 0, none⟩) N N)) 64 (.int .i64 (k : Int))) 65 (.pointer (some ⟨gG, k * 3, none⟩))), av1, cv1, av2, cv2, av3, cv3, rfl, rfl, ⟨R.c0, R.c1, (fun _ => rfl), (fun _ => rfl), (fun _ => rfl), R.c5, R.c6, R.c7, R.c8, R.c9, R.c10, R.c11, R.c12, R.c13, R.c14, R.c15, R.c16, R.c17, R.c18, R.c19, R.c20, R.c21, R.c22, R.c23, R.c24, R.c25, R.c26, R.c27, R.c28, R.c29, R.c30, R.c31, R.c32, R.c33, R.c34, R.c35, R.c36, R.cg, R.gr, R.gk, R.gs, R.q1, R.q2, R.q3, R.z35_12, R.z35_23, R.z35_34, R.z12_6, R.z23_17, R.z34_28, R.z37_35, R.z37_36, R.z37_12, R.z37_23, R.z37_34, R.z37_6, R.z37_17, R.z37_28⟩⟩
            · have hrd := ready_at rfl hr
              clear hr
              simp [Region.binds] at hrd
              have h4 : b 4 = true := by simp [hrd]
              have e4 := R.c4 h4
              clear hrd
              refine wpOp_step rfl (fun K hK => ?_)
              go_simp
              refine hK _ _ ?_
              exact ⟨upd b 5 true, (upd (upd u 65 (.pointer (some ⟨gG, k * 3, none⟩))) 66 (.pointer (some ⟨gG, k * 3, none⟩))), av1, cv1, av2, cv2, av3, cv3, rfl, rfl, ⟨R.c0, R.c1, R.c2, R.c3, (fun _ => rfl), (fun _ => rfl), R.c6, R.c7, R.c8, R.c9, R.c10, R.c11, R.c12, R.c13, R.c14, R.c15, R.c16, R.c17, R.c18, R.c19, R.c20, R.c21, R.c22, R.c23, R.c24, R.c25, R.c26, R.c27, R.c28, R.c29, R.c30, R.c31, R.c32, R.c33, R.c34, R.c35, R.c36, R.cg, R.gr, R.gk, R.gs, R.q1, R.q2, R.q3, R.z35_12, R.z35_23, R.z35_34, R.z12_6, R.z23_17, R.z34_28, R.z37_35, R.z37_36, R.z37_12, R.z37_23, R.z37_34, R.z37_6, R.z37_17, R.z37_28⟩⟩
            · have hrd := ready_at rfl hr
              clear hr
              simp [Region.binds] at hrd
              have h5 : b 5 = true := by simp [hrd]
              have e5 := R.c5 h5
              have hb6 : b 6 = false := by simp [hrd]
              clear hrd
              have hgk := R.gk (by cases h : b 37 with | false => rfl | true => exact absurd (R.z37_6 h) (by rw [hb6]; decide))
              have hld : w'.cell? ⟨gG, k * 3, none⟩ = some (.slice ro nR rc) := by rw [cell_of_row w' gG _ _ _ _ hgk]; exact HA0.out.1
              clear hgk
              refine wpOp_step rfl (fun K hK => ?_)
              go_simp
              refine hK _ _ ?_
              exact ⟨upd b 6 true, (upd (upd u 66 (.pointer (some ⟨gG, k * 3, none⟩))) 67 (.slice ro nR rc)), av1, cv1, av2, cv2, av3, cv3, rfl, rfl, ⟨R.c0, R.c1, R.c2, R.c3, R.c4, (fun _ => rfl), (fun _ => rfl), R.c7, R.c8, R.c9, R.c10, R.c11, R.c12, R.c13, R.c14, R.c15, R.c16, R.c17, R.c18, R.c19, R.c20, R.c21, R.c22, R.c23, R.c24, R.c25, R.c26, R.c27, R.c28, R.c29, R.c30, R.c31, R.c32, R.c33, R.c34, R.c35, R.c36, R.cg, R.gr, R.gk, R.gs, R.q1, R.q2, R.q3, R.z35_12, R.z35_23, R.z35_34, (fun _ => rfl), R.z23_17, R.z34_28, R.z37_35, R.z37_36, R.z37_12, R.z37_23, R.z37_34, (fun _ => rfl), R.z37_17, R.z37_28⟩⟩
            · have hrd := ready_at rfl hr
              clear hr
              simp [Region.binds] at hrd
              clear hrd
              refine wpOp_step rfl (fun K hK => ?_)
              go_simp
              refine hK _ _ ?_
              exact ⟨upd b 7 true, (upd u 68 (.slice (some ⟨gx, 0, none⟩) N N)), av1, cv1, av2, cv2, av3, cv3, rfl, rfl, ⟨R.c0, R.c1, R.c2, R.c3, R.c4, R.c5, R.c6, (fun _ => rfl), R.c8, R.c9, R.c10, R.c11, R.c12, R.c13, R.c14, R.c15, R.c16, R.c17, R.c18, R.c19, R.c20, R.c21, R.c22, R.c23, R.c24, R.c25, R.c26, R.c27, R.c28, R.c29, R.c30, R.c31, R.c32, R.c33, R.c34, R.c35, R.c36, R.cg, R.gr, R.gk, R.gs, R.q1, R.q2, R.q3, R.z35_12, R.z35_23, R.z35_34, R.z12_6, R.z23_17, R.z34_28, R.z37_35, R.z37_36, R.z37_12, R.z37_23, R.z37_34, R.z37_6, R.z37_17, R.z37_28⟩⟩
            · have hrd := ready_at rfl hr
              clear hr
              simp [Region.binds] at hrd
              clear hrd
              refine wpOp_step rfl (fun K hK => ?_)
              go_simp
              refine hK _ _ ?_
              exact ⟨upd b 8 true, (upd u 69 (.int .i64 (k : Int))), av1, cv1, av2, cv2, av3, cv3, rfl, rfl, ⟨R.c0, R.c1, R.c2, R.c3, R.c4, R.c5, R.c6, R.c7, (fun _ => rfl), R.c9, R.c10, R.c11, R.c12, R.c13, R.c14, R.c15, R.c16, R.c17, R.c18, R.c19, R.c20, R.c21, R.c22, R.c23, R.c24, R.c25, R.c26, R.c27, R.c28, R.c29, R.c30, R.c31, R.c32, R.c33, R.c34, R.c35, R.c36, R.cg, R.gr, R.gk, R.gs, R.q1, R.q2, R.q3, R.z35_12, R.z35_23, R.z35_34, R.z12_6, R.z23_17, R.z34_28, R.z37_35, R.z37_36, R.z37_12, R.z37_23, R.z37_34, R.z37_6, R.z37_17, R.z37_28⟩⟩
            · have hrd := ready_at rfl hr
              clear hr
              simp [Region.binds] at hrd
              have h7 : b 7 = true := by simp [hrd]
              have e7 := R.c7 h7
              have h8 : b 8 = true := by simp [hrd]
              have e8 := R.c8 h8
              clear hrd
              refine wpOp_step rfl (fun K hK => ?_)
              go_simp
              refine hK _ _ ?_
              exact ⟨upd b 9 true, (upd (upd (upd u 68 (.slice (some ⟨gx, 0, none⟩) N N)) 69 (.int .i64 (k : Int))) 70 (.pointer (some ⟨gx, k * 3, none⟩))), av1, cv1, av2, cv2, av3, cv3, rfl, rfl, ⟨R.c0, R.c1, R.c2, R.c3, R.c4, R.c5, R.c6, (fun _ => rfl), (fun _ => rfl), (fun _ => rfl), R.c10, R.c11, R.c12, R.c13, R.c14, R.c15, R.c16, R.c17, R.c18, R.c19, R.c20, R.c21, R.c22, R.c23, R.c24, R.c25, R.c26, R.c27, R.c28, R.c29, R.c30, R.c31, R.c32, R.c33, R.c34, R.c35, R.c36, R.cg, R.gr, R.gk, R.gs, R.q1, R.q2, R.q3, R.z35_12, R.z35_23, R.z35_34, R.z12_6, R.z23_17, R.z34_28, R.z37_35, R.z37_36, R.z37_12, R.z37_23, R.z37_34, R.z37_6, R.z37_17, R.z37_28⟩⟩
            · have hrd := ready_at rfl hr
              clear hr
              simp [Region.binds] at hrd
              have h9 : b 9 = true := by simp [hrd]
              have e9 := R.c9 h9
              clear hrd
              refine wpOp_step rfl (fun K hK => ?_)
              go_simp
              refine hK _ _ ?_
              exact ⟨upd b 10 true, (upd (upd u 70 (.pointer (some ⟨gx, k * 3, none⟩))) 71 (.pointer (some ⟨gx, k * 3, none⟩))), av1, cv1, av2, cv2, av3, cv3, rfl, rfl, ⟨R.c0, R.c1, R.c2, R.c3, R.c4, R.c5, R.c6, R.c7, R.c8, (fun _ => rfl), (fun _ => rfl), R.c11, R.c12, R.c13, R.c14, R.c15, R.c16, R.c17, R.c18, R.c19, R.c20, R.c21, R.c22, R.c23, R.c24, R.c25, R.c26, R.c27, R.c28, R.c29, R.c30, R.c31, R.c32, R.c33, R.c34, R.c35, R.c36, R.cg, R.gr, R.gk, R.gs, R.q1, R.q2, R.q3, R.z35_12, R.z35_23, R.z35_34, R.z12_6, R.z23_17, R.z34_28, R.z37_35, R.z37_36, R.z37_12, R.z37_23, R.z37_34, R.z37_6, R.z37_17, R.z37_28⟩⟩
            · have hrd := ready_at rfl hr
              clear hr
              simp [Region.binds] at hrd
              have h10 : b 10 = true := by simp [hrd]
              have e10 := R.c10 h10
              clear hrd
              have hld := (HX.out w' R.cg).1.1
              refine wpOp_step rfl (fun K hK => ?_)
              go_simp
              refine hK _ _ ?_
              exact ⟨upd b 11 true, (upd (upd u 71 (.pointer (some ⟨gx, k * 3, none⟩))) 72 (.slice xo mR xc)), av1, cv1, av2, cv2, av3, cv3, rfl, rfl, ⟨R.c0, R.c1, R.c2, R.c3, R.c4, R.c5, R.c6, R.c7, R.c8, R.c9, (fun _ => rfl), (fun _ => rfl), R.c12, R.c13, R.c14, R.c15, R.c16, R.c17, R.c18, R.c19, R.c20, R.c21, R.c22, R.c23, R.c24, R.c25, R.c26, R.c27, R.c28, R.c29, R.c30, R.c31, R.c32, R.c33, R.c34, R.c35, R.c36, R.cg, R.gr, R.gk, R.gs, R.q1, R.q2, R.q3, R.z35_12, R.z35_23, R.z35_34, R.z12_6, R.z23_17, R.z34_28, R.z37_35, R.z37_36, R.z37_12, R.z37_23, R.z37_34, R.z37_6, R.z37_17, R.z37_28⟩⟩
            · have hrd := ready_at rfl hr
              clear hr
              simp [Region.binds] at hrd
              have h6 : b 6 = true := by simp [hrd]
              have e6 := R.c6 h6
              have h11 : b 11 = true := by simp [hrd]
              have e11 := R.c11 h11
              have hb12 : b 12 = false := by simp [hrd]
              clear hrd
              have hgk := R.gk (by cases h : b 37 with | false => rfl | true => exact absurd (R.z37_12 h) (by rw [hb12]; decide))
              have hgr : GR w' wD.heap.size (N * 3) (FB F2 (k * 3) false (b 23) (b 34) (.slice av1 (nR + mR) cv1) (.slice av2 (nD + mD) cv2) (.slice av3 (nV + mV) cv3)) (FB X2 (k * 3) false (b 23) (b 34) (.i (L1 ++ Y1)) (.i (L2 ++ Y2)) (.v (L3 ++ Y3))) := by have h := R.gr; rwa [hb12] at h
              have how := hgr.own (k * 3) (by omega)
              rw [FB_at0, FB_at0, HF0.out.1, HX0.out.1] at how
              replace how : w'.ownsRow wD.heap.size 3 1 (.slice ro nR rc) nR (iv L1) := by rw [HN.out.1]; rw [HN.out.1] at how; exact how
              have hxo := (HX.out w' R.cg).2.1
              have hnG : gG ∉ (Value.slice ro nR rc).ownBlock.toList := fun hm => (tagged_of_own how).ne hgk (by decide) gG (by simpa using hm) rfl
              refine wpOp_step rfl (fun K hK => ?_)
              rw [e6, e11]
              refine wp_append_row w' (.tmp 67) (.tmp 72) 22 rfl wD.heap.size B2 3 i0 (.int .i64 0) 1 8 Try.underlying22 hi hz0 hz1 hz2 rfl (by omega) (.slice ro nR rc) nR (iv L1) rfl how (.slice xo mR xc) mR (iv Y1) rfl hxo (fun u hu => by simp [iv] at hu; obtain ⟨_, _, rfl⟩ := hu; rfl) HMX.out.1 HM3.out.1 (Nat.le_trans HBW.out R.cg.size) ?_
              intro v4 w4 hown4 hg4 hat4
              obtain ⟨a4, c4, rfl⟩ := own_shape hown4
              have hs4 : Chg (Value.slice ro nR rc).ownBlock.toList w' w4 := (Chg.refl _ w').grown hg4 (fun q hq => .inl (by simp [← hq]))
              have hgr4 : GR w4 wD.heap.size (N * 3) (FB F2 (k * 3) true (b 23) (b 34) (.slice a4 (nR + mR) c4) (.slice av2 (nD + mD) cv2) (.slice av3 (nV + mV) cv3)) (FB X2 (k * 3) true (b 23) (b 34) (.i (L1 ++ Y1)) (.i (L2 ++ Y2)) (.v (L3 ++ Y3))) := hgr.step (p := k * 3) (by omega) (by rw [FB_at0, HF0.out.1]; exact hg4) (v' := .slice a4 (nR + mR) c4) (x' := .i (L1 ++ Y1)) (by unfold OwnR; simp only [List.length_append]; rw [← HN.out.1, ← HNX.out.1]; rw [show iv (L1 ++ Y1) = iv L1 ++ iv Y1 by simp [iv]]; exact hown4) (by rw [FB_at0, HF0.out.1]; exact hat4) (FB_step0 _ _ _ _ _ _ _ _) (FB_step0 _ _ _ _ _ _ _ _)
              go_simp
              refine hK _ _ ?_
              exact ⟨upd b 12 true, (upd (upd (upd u 67 (.slice ro nR rc)) 72 (.slice xo mR xc)) 73 (.slice a4 (nR + mR) c4)), a4, c4, av2, cv2, av3, cv3, rfl, rfl, ⟨R.c0, R.c1, R.c2, R.c3, R.c4, R.c5, (fun _ => rfl), R.c7, R.c8, R.c9, R.c10, (fun _ => rfl), (fun _ => rfl), R.c13, R.c14, R.c15, R.c16, R.c17, R.c18, R.c19, R.c20, R.c21, R.c22, R.c23, R.c24, R.c25, R.c26, R.c27, R.c28, R.c29, R.c30, R.c31, R.c32, R.c33, R.c34, (fun h => absurd (R.z35_12 h) (by rw [hb12]; decide)), R.c36, (R.cg.grown hg4 (fun q hq => .inl (by unfold T16; simp [hq]))), hgr4, (fun _ => hs4.heap hgk hnG), (fun h => absurd (R.z37_12 h) (by rw [hb12]; decide)), (fun _ g hg => hat4.elim (fun e => .inl (by rw [← e]; exact hg)) (fun e => .inr (by rw [e] at hg; injection hg with hg; have := R.cg.size; omega))), R.q2, R.q3, (fun _ => rfl), R.z35_23, R.z35_34, (fun _ => h6), R.z23_17, R.z34_28, R.z37_35, R.z37_36, (fun _ => rfl), R.z37_23, R.z37_34, R.z37_6, R.z37_17, R.z37_28⟩⟩
            · have hrd := ready_at rfl hr
              clear hr
              simp [Region.binds] at hrd
              clear hrd
              refine wpOp_step rfl (fun K hK => ?_)
              go_simp
              refine hK _ _ ?_
              exact ⟨upd b 13 true, (upd u 74 (.slice (some ⟨gG, 0, none⟩) N N)), av1, cv1, av2, cv2, av3, cv3, rfl, rfl, ⟨R.c0, R.c1, R.c2, R.c3, R.c4, R.c5, R.c6, R.c7, R.c8, R.c9, R.c10, R.c11, R.c12, (fun _ => rfl), R.c14, R.c15, R.c16, R.c17, R.c18, R.c19, R.c20, R.c21, R.c22, R.c23, R.c24, R.c25, R.c26, R.c27, R.c28, R.c29, R.c30, R.c31, R.c32, R.c33, R.c34, R.c35, R.c36, R.cg, R.gr, R.gk, R.gs, R.q1, R.q2, R.q3, R.z35_12, R.z35_23, R.z35_34, R.z12_6, R.z23_17, R.z34_28, R.z37_35, R.z37_36, R.z37_12, R.z37_23, R.z37_34, R.z37_6, R.z37_17, R.z37_28⟩⟩
            · have hrd := ready_at rfl hr
              clear hr
              simp [Region.binds] at hrd
              clear hrd
              refine wpOp_step rfl (fun K hK => ?_)
              go_simp
              refine hK _ _ ?_
              exact ⟨upd b 14 true, (upd u 75 (.int .i64 (k : Int))), av1, cv1, av2, cv2, av3, cv3, rfl, rfl, ⟨R.c0, R.c1, R.c2, R.c3, R.c4, R.c5, R.c6, R.c7, R.c8, R.c9, R.c10, R.c11, R.c12, R.c13, (fun _ => rfl), R.c15, R.c16, R.c17, R.c18, R.c19, R.c20, R.c21, R.c22, R.c23, R.c24, R.c25, R.c26, R.c27, R.c28, R.c29, R.c30, R.c31, R.c32, R.c33, R.c34, R.c35, R.c36, R.cg, R.gr, R.gk, R.gs, R.q1, R.q2, R.q3, R.z35_12, R.z35_23, R.z35_34, R.z12_6, R.z23_17, R.z34_28, R.z37_35, R.z37_36, R.z37_12, R.z37_23, R.z37_34, R.z37_6, R.z37_17, R.z37_28⟩⟩
            · have hrd := ready_at rfl hr
              clear hr
              simp [Region.binds] at hrd
              have h13 : b 13 = true := by simp [hrd]
              have e13 := R.c13 h13
              have h14 : b 14 = true := by simp [hrd]
              have e14 := R.c14 h14
              clear hrd
              refine wpOp_step rfl (fun K hK => ?_)
              go_simp
              refine hK _ _ ?_
              exact ⟨upd b 15 true, (upd (upd (upd u 74 (.slice (some ⟨gG, 0, none⟩) N N)) 75 (.int .i64 (k : Int))) 76 (.pointer (some ⟨gG, k * 3, none⟩))), av1, cv1, av2, cv2, av3, cv3, rfl, rfl, ⟨R.c0, R.c1, R.c2, R.c3, R.c4, R.c5, R.c6, R.c7, R.c8, R.c9, R.c10, R.c11, R.c12, (fun _ => rfl), (fun _ => rfl), (fun _ => rfl), R.c16, R.c17, R.c18, R.c19, R.c20, R.c21, R.c22, R.c23, R.c24, R.c25, R.c26, R.c27, R.c28, R.c29, R.c30, R.c31, R.c32, R.c33, R.c34, R.c35, R.c36, R.cg, R.gr, R.gk, R.gs, R.q1, R.q2, R.q3, R.z35_12, R.z35_23, R.z35_34, R.z12_6, R.z23_17, R.z34_28, R.z37_35, R.z37_36, R.z37_12, R.z37_23, R.z37_34, R.z37_6, R.z37_17, R.z37_28⟩⟩
            · have hrd := ready_at rfl hr
              clear hr
              simp [Region.binds] at hrd
              have h15 : b 15 = true := by simp [hrd]
              have e15 := R.c15 h15
              clear hrd
              refine wpOp_step rfl (fun K hK => ?_)
              go_simp
              refine hK _ _ ?_
              exact ⟨upd b 16 true, (upd (upd u 76 (.pointer (some ⟨gG, k * 3, none⟩))) 77 (.pointer (some ⟨gG, k * 3 + 1, none⟩))), av1, cv1, av2, cv2, av3, cv3, rfl, rfl, ⟨R.c0, R.c1, R.c2, R.c3, R.c4, R.c5, R.c6, R.c7, R.c8, R.c9, R.c10, R.c11, R.c12, R.c13, R.c14, (fun _ => rfl), (fun _ => rfl), R.c17, R.c18, R.c19, R.c20, R.c21, R.c22, R.c23, R.c24, R.c25, R.c26, R.c27, R.c28, R.c29, R.c30, R.c31, R.c32, R.c33, R.c34, R.c35, R.c36, R.cg, R.gr, R.gk, R.gs, R.q1, R.q2, R.q3, R.z35_12, R.z35_23, R.z35_34, R.z12_6, R.z23_17, R.z34_28, R.z37_35, R.z37_36, R.z37_12, R.z37_23, R.z37_34, R.z37_6, R.z37_17, R.z37_28⟩⟩
            · have hrd := ready_at rfl hr
              clear hr
              simp [Region.binds] at hrd
              have h16 : b 16 = true := by simp [hrd]
              have e16 := R.c16 h16
              have hb17 : b 17 = false := by simp [hrd]
              clear hrd
              have hgk := R.gk (by cases h : b 37 with | false => rfl | true => exact absurd (R.z37_17 h) (by rw [hb17]; decide))
              have hld : w'.cell? ⟨gG, k * 3 + 1, none⟩ = some (.slice dO nD dc) := by rw [cell_of_row w' gG _ _ _ _ hgk]; exact HA0.out.2.1
              clear hgk
              refine wpOp_step rfl (fun K hK => ?_)
              go_simp
              refine hK _ _ ?_
              exact ⟨upd b 17 true, (upd (upd u 77 (.pointer (some ⟨gG, k * 3 + 1, none⟩))) 78 (.slice dO nD dc)), av1, cv1, av2, cv2, av3, cv3, rfl, rfl, ⟨R.c0, R.c1, R.c2, R.c3, R.c4, R.c5, R.c6, R.c7, R.c8, R.c9, R.c10, R.c11, R.c12, R.c13, R.c14, R.c15, (fun _ => rfl), (fun _ => rfl), R.c18, R.c19, R.c20, R.c21, R.c22, R.c23, R.c24, R.c25, R.c26, R.c27, R.c28, R.c29, R.c30, R.c31, R.c32, R.c33, R.c34, R.c35, R.c36, R.cg, R.gr, R.gk, R.gs, R.q1, R.q2, R.q3, R.z35_12, R.z35_23, R.z35_34, R.z12_6, (fun _ => rfl), R.z34_28, R.z37_35, R.z37_36, R.z37_12, R.z37_23, R.z37_34, R.z37_6, (fun _ => rfl), R.z37_28⟩⟩
            · have hrd := ready_at rfl hr
              clear hr
              simp [Region.binds] at hrd
              clear hrd
              refine wpOp_step rfl (fun K hK => ?_)
              go_simp
              refine hK _ _ ?_
              exact ⟨upd b 18 true, (upd u 79 (.slice (some ⟨gx, 0, none⟩) N N)), av1, cv1, av2, cv2, av3, cv3, rfl, rfl, ⟨R.c0, R.c1, R.c2, R.c3, R.c4, R.c5, R.c6, R.c7, R.c8, R.c9, R.c10, R.c11, R.c12, R.c13, R.c14, R.c15, R.c16, R.c17, (fun _ => rfl), R.c19, R.c20, R.c21, R.c22, R.c23, R.c24, R.c25, R.c26, R.c27, R.c28, R.c29, R.c30, R.c31, R.c32, R.c33, R.c34, R.c35, R.c36, R.cg, R.gr, R.gk, R.gs, R.q1, R.q2, R.q3, R.z35_12, R.z35_23, R.z35_34, R.z12_6, R.z23_17, R.z34_28, R.z37_35, R.z37_36, R.z37_12, R.z37_23, R.z37_34, R.z37_6, R.z37_17, R.z37_28⟩⟩
            · have hrd := ready_at rfl hr
              clear hr
              simp [Region.binds] at hrd
              clear hrd
              refine wpOp_step rfl (fun K hK => ?_)
              go_simp
              refine hK _ _ ?_
              exact ⟨upd b 19 true, (upd u 80 (.int .i64 (k : Int))), av1, cv1, av2, cv2, av3, cv3, rfl, rfl, ⟨R.c0, R.c1, R.c2, R.c3, R.c4, R.c5, R.c6, R.c7, R.c8, R.c9, R.c10, R.c11, R.c12, R.c13, R.c14, R.c15, R.c16, R.c17, R.c18, (fun _ => rfl), R.c20, R.c21, R.c22, R.c23, R.c24, R.c25, R.c26, R.c27, R.c28, R.c29, R.c30, R.c31, R.c32, R.c33, R.c34, R.c35, R.c36, R.cg, R.gr, R.gk, R.gs, R.q1, R.q2, R.q3, R.z35_12, R.z35_23, R.z35_34, R.z12_6, R.z23_17, R.z34_28, R.z37_35, R.z37_36, R.z37_12, R.z37_23, R.z37_34, R.z37_6, R.z37_17, R.z37_28⟩⟩
            · have hrd := ready_at rfl hr
              clear hr
              simp [Region.binds] at hrd
              have h18 : b 18 = true := by simp [hrd]
              have e18 := R.c18 h18
              have h19 : b 19 = true := by simp [hrd]
              have e19 := R.c19 h19
              clear hrd
              refine wpOp_step rfl (fun K hK => ?_)
              go_simp
              refine hK _ _ ?_
              exact ⟨upd b 20 true, (upd (upd (upd u 79 (.slice (some ⟨gx, 0, none⟩) N N)) 80 (.int .i64 (k : Int))) 81 (.pointer (some ⟨gx, k * 3, none⟩))), av1, cv1, av2, cv2, av3, cv3, rfl, rfl, ⟨R.c0, R.c1, R.c2, R.c3, R.c4, R.c5, R.c6, R.c7, R.c8, R.c9, R.c10, R.c11, R.c12, R.c13, R.c14, R.c15, R.c16, R.c17, (fun _ => rfl), (fun _ => rfl), (fun _ => rfl), R.c21, R.c22, R.c23, R.c24, R.c25, R.c26, R.c27, R.c28, R.c29, R.c30, R.c31, R.c32, R.c33, R.c34, R.c35, R.c36, R.cg, R.gr, R.gk, R.gs, R.q1, R.q2, R.q3, R.z35_12, R.z35_23, R.z35_34, R.z12_6, R.z23_17, R.z34_28, R.z37_35, R.z37_36, R.z37_12, R.z37_23, R.z37_34, R.z37_6, R.z37_17, R.z37_28⟩⟩
            · have hrd := ready_at rfl hr
              clear hr
              simp [Region.binds] at hrd
              have h20 : b 20 = true := by simp [hrd]
              have e20 := R.c20 h20
              clear hrd
              refine wpOp_step rfl (fun K hK => ?_)
              go_simp
              refine hK _ _ ?_
              exact ⟨upd b 21 true, (upd (upd u 81 (.pointer (some ⟨gx, k * 3, none⟩))) 82 (.pointer (some ⟨gx, k * 3 + 1, none⟩))), av1, cv1, av2, cv2, av3, cv3, rfl, rfl, ⟨R.c0, R.c1, R.c2, R.c3, R.c4, R.c5, R.c6, R.c7, R.c8, R.c9, R.c10, R.c11, R.c12, R.c13, R.c14, R.c15, R.c16, R.c17, R.c18, R.c19, (fun _ => rfl), (fun _ => rfl), R.c22, R.c23, R.c24, R.c25, R.c26, R.c27, R.c28, R.c29, R.c30, R.c31, R.c32, R.c33, R.c34, R.c35, R.c36, R.cg, R.gr, R.gk, R.gs, R.q1, R.q2, R.q3, R.z35_12, R.z35_23, R.z35_34, R.z12_6, R.z23_17, R.z34_28, R.z37_35, R.z37_36, R.z37_12, R.z37_23, R.z37_34, R.z37_6, R.z37_17, R.z37_28⟩⟩
            · have hrd := ready_at rfl hr
              clear hr
              simp [Region.binds] at hrd
              have h21 : b 21 = true := by simp [hrd]
              have e21 := R.c21 h21
              clear hrd
              have hld := (HX.out w' R.cg).1.2.1
              refine wpOp_step rfl (fun K hK => ?_)
              go_simp
              refine hK _ _ ?_
              exact ⟨upd b 22 true, (upd (upd u 82 (.pointer (some ⟨gx, k * 3 + 1, none⟩))) 83 (.slice yo mD yc)), av1, cv1, av2, cv2, av3, cv3, rfl, rfl, ⟨R.c0, R.c1, R.c2, R.c3, R.c4, R.c5, R.c6, R.c7, R.c8, R.c9, R.c10, R.c11, R.c12, R.c13, R.c14, R.c15, R.c16, R.c17, R.c18, R.c19, R.c20, (fun _ => rfl), (fun _ => rfl), R.c23, R.c24, R.c25, R.c26, R.c27, R.c28, R.c29, R.c30, R.c31, R.c32, R.c33, R.c34, R.c35, R.c36, R.cg, R.gr, R.gk, R.gs, R.q1, R.q2, R.q3, R.z35_12, R.z35_23, R.z35_34, R.z12_6, R.z23_17, R.z34_28, R.z37_35, R.z37_36, R.z37_12, R.z37_23, R.z37_34, R.z37_6, R.z37_17, R.z37_28⟩⟩
            · have hrd := ready_at rfl hr
              clear hr
              simp [Region.binds] at hrd
              have h17 : b 17 = true := by simp [hrd]
              have e17 := R.c17 h17
              have h22 : b 22 = true := by simp [hrd]
              have e22 := R.c22 h22
              have hb23 : b 23 = false := by simp [hrd]
              clear hrd
              have hgk := R.gk (by cases h : b 37 with | false => rfl | true => exact absurd (R.z37_23 h) (by rw [hb23]; decide))
              have hgr : GR w' wD.heap.size (N * 3) (FB F2 (k * 3) (b 12) false (b 34) (.slice av1 (nR + mR) cv1) (.slice av2 (nD + mD) cv2) (.slice av3 (nV + mV) cv3)) (FB X2 (k * 3) (b 12) false (b 34) (.i (L1 ++ Y1)) (.i (L2 ++ Y2)) (.v (L3 ++ Y3))) := by have h := R.gr; rwa [hb23] at h
              have how := hgr.own (k * 3 + 1) (by omega)
              rw [FB_at1, FB_at1, HF0.out.2.1, HX0.out.2.1] at how
              replace how : w'.ownsRow wD.heap.size 3 1 (.slice dO nD dc) nD (iv L2) := by rw [HN.out.2.1]; rw [HN.out.2.1] at how; exact how
              have hxo := (HX.out w' R.cg).2.2.1
              have hnG : gG ∉ (Value.slice dO nD dc).ownBlock.toList := fun hm => (tagged_of_own how).ne hgk (by decide) gG (by simpa using hm) rfl
              refine wpOp_step rfl (fun K hK => ?_)
              rw [e17, e22]
              refine wp_append_row w' (.tmp 78) (.tmp 83) 22 rfl wD.heap.size B2 3 i0 (.int .i64 0) 1 8 Try.underlying22 hi hz0 hz1 hz2 rfl (by omega) (.slice dO nD dc) nD (iv L2) rfl how (.slice yo mD yc) mD (iv Y2) rfl hxo (fun u hu => by simp [iv] at hu; obtain ⟨_, _, rfl⟩ := hu; rfl) HMX.out.2.1 HM3.out.2.1 (Nat.le_trans HBW.out R.cg.size) ?_
              intro v4 w4 hown4 hg4 hat4
              obtain ⟨a4, c4, rfl⟩ := own_shape hown4
              have hs4 : Chg (Value.slice dO nD dc).ownBlock.toList w' w4 := (Chg.refl _ w').grown hg4 (fun q hq => .inl (by simp [← hq]))
              have hgr4 : GR w4 wD.heap.size (N * 3) (FB F2 (k * 3) (b 12) true (b 34) (.slice av1 (nR + mR) cv1) (.slice a4 (nD + mD) c4) (.slice av3 (nV + mV) cv3)) (FB X2 (k * 3) (b 12) true (b 34) (.i (L1 ++ Y1)) (.i (L2 ++ Y2)) (.v (L3 ++ Y3))) := hgr.step (p := k * 3 + 1) (by omega) (by rw [FB_at1, HF0.out.2.1]; exact hg4) (v' := .slice a4 (nD + mD) c4) (x' := .i (L2 ++ Y2)) (by unfold OwnR; simp only [List.length_append]; rw [← HN.out.2.1, ← HNX.out.2.1]; rw [show iv (L2 ++ Y2) = iv L2 ++ iv Y2 by simp [iv]]; exact hown4) (by rw [FB_at1, HF0.out.2.1]; exact hat4) (FB_step1 _ _ _ _ _ _ _ _) (FB_step1 _ _ _ _ _ _ _ _)
              go_simp
              refine hK _ _ ?_
              exact ⟨upd b 23 true, (upd (upd (upd u 78 (.slice dO nD dc)) 83 (.slice yo mD yc)) 84 (.slice a4 (nD + mD) c4)), av1, cv1, a4, c4, av3, cv3, rfl, rfl, ⟨R.c0, R.c1, R.c2, R.c3, R.c4, R.c5, R.c6, R.c7, R.c8, R.c9, R.c10, R.c11, R.c12, R.c13, R.c14, R.c15, R.c16, (fun _ => rfl), R.c18, R.c19, R.c20, R.c21, (fun _ => rfl), (fun _ => rfl), R.c24, R.c25, R.c26, R.c27, R.c28, R.c29, R.c30, R.c31, R.c32, R.c33, R.c34, (fun h => absurd (R.z35_23 h) (by rw [hb23]; decide)), R.c36, (R.cg.grown hg4 (fun q hq => .inl (by unfold T16; simp [hq]))), hgr4, (fun _ => hs4.heap hgk hnG), (fun h => absurd (R.z37_23 h) (by rw [hb23]; decide)), R.q1, (fun _ g hg => hat4.elim (fun e => .inl (by rw [← e]; exact hg)) (fun e => .inr (by rw [e] at hg; injection hg with hg; have := R.cg.size; omega))), R.q3, R.z35_12, (fun _ => rfl), R.z35_34, R.z12_6, (fun _ => h17), R.z34_28, R.z37_35, R.z37_36, R.z37_12, (fun _ => rfl), R.z37_34, R.z37_6, R.z37_17, R.z37_28⟩⟩
            · have hrd := ready_at rfl hr
              clear hr
              simp [Region.binds] at hrd
              clear hrd
              refine wpOp_step rfl (fun K hK => ?_)
              go_simp
              refine hK _ _ ?_
              exact ⟨upd b 24 true, (upd u 85 (.slice (some ⟨gG, 0, none⟩) N N)), av1, cv1, av2, cv2, av3, cv3, rfl, rfl, ⟨R.c0, R.c1, R.c2, R.c3, R.c4, R.c5, R.c6, R.c7, R.c8, R.c9, R.c10, R.c11, R.c12, R.c13, R.c14, R.c15, R.c16, R.c17, R.c18, R.c19, R.c20, R.c21, R.c22, R.c23, (fun _ => rfl), R.c25, R.c26, R.c27, R.c28, R.c29, R.c30, R.c31, R.c32, R.c33, R.c34, R.c35, R.c36, R.cg, R.gr, R.gk, R.gs, R.q1, R.q2, R.q3, R.z35_12, R.z35_23, R.z35_34, R.z12_6, R.z23_17, R.z34_28, R.z37_35, R.z37_36, R.z37_12, R.z37_23, R.z37_34, R.z37_6, R.z37_17, R.z37_28⟩⟩
            · have hrd := ready_at rfl hr
              clear hr
              simp [Region.binds] at hrd
              clear hrd
              refine wpOp_step rfl (fun K hK => ?_)
              go_simp
              refine hK _ _ ?_
              exact ⟨upd b 25 true, (upd u 86 (.int .i64 (k : Int))), av1, cv1, av2, cv2, av3, cv3, rfl, rfl, ⟨R.c0, R.c1, R.c2, R.c3, R.c4, R.c5, R.c6, R.c7, R.c8, R.c9, R.c10, R.c11, R.c12, R.c13, R.c14, R.c15, R.c16, R.c17, R.c18, R.c19, R.c20, R.c21, R.c22, R.c23, R.c24, (fun _ => rfl), R.c26, R.c27, R.c28, R.c29, R.c30, R.c31, R.c32, R.c33, R.c34, R.c35, R.c36, R.cg, R.gr, R.gk, R.gs, R.q1, R.q2, R.q3, R.z35_12, R.z35_23, R.z35_34, R.z12_6, R.z23_17, R.z34_28, R.z37_35, R.z37_36, R.z37_12, R.z37_23, R.z37_34, R.z37_6, R.z37_17, R.z37_28⟩⟩
            · have hrd := ready_at rfl hr
              clear hr
              simp [Region.binds] at hrd
              have h24 : b 24 = true := by simp [hrd]
              have e24 := R.c24 h24
              have h25 : b 25 = true := by simp [hrd]
              have e25 := R.c25 h25
              clear hrd
              refine wpOp_step rfl (fun K hK => ?_)
              go_simp
              refine hK _ _ ?_
              exact ⟨upd b 26 true, (upd (upd (upd u 85 (.slice (some ⟨gG, 0, none⟩) N N)) 86 (.int .i64 (k : Int))) 87 (.pointer (some ⟨gG, k * 3, none⟩))), av1, cv1, av2, cv2, av3, cv3, rfl, rfl, ⟨R.c0, R.c1, R.c2, R.c3, R.c4, R.c5, R.c6, R.c7, R.c8, R.c9, R.c10, R.c11, R.c12, R.c13, R.c14, R.c15, R.c16, R.c17, R.c18, R.c19, R.c20, R.c21, R.c22, R.c23, (fun _ => rfl), (fun _ => rfl), (fun _ => rfl), R.c27, R.c28, R.c29, R.c30, R.c31, R.c32, R.c33, R.c34, R.c35, R.c36, R.cg, R.gr, R.gk, R.gs, R.q1, R.q2, R.q3, R.z35_12, R.z35_23, R.z35_34, R.z12_6, R.z23_17, R.z34_28, R.z37_35, R.z37_36, R.z37_12, R.z37_23, R.z37_34, R.z37_6, R.z37_17, R.z37_28⟩⟩
            · have hrd := ready_at rfl hr
              clear hr
              simp [Region.binds] at hrd
              have h26 : b 26 = true := by simp [hrd]
              have e26 := R.c26 h26
              clear hrd
              refine wpOp_step rfl (fun K hK => ?_)
              go_simp
              refine hK _ _ ?_
              exact ⟨upd b 27 true, (upd (upd u 87 (.pointer (some ⟨gG, k * 3, none⟩))) 88 (.pointer (some ⟨gG, k * 3 + 2, none⟩))), av1, cv1, av2, cv2, av3, cv3, rfl, rfl, ⟨R.c0, R.c1, R.c2, R.c3, R.c4, R.c5, R.c6, R.c7, R.c8, R.c9, R.c10, R.c11, R.c12, R.c13, R.c14, R.c15, R.c16, R.c17, R.c18, R.c19, R.c20, R.c21, R.c22, R.c23, R.c24, R.c25, (fun _ => rfl), (fun _ => rfl), R.c28, R.c29, R.c30, R.c31, R.c32, R.c33, R.c34, R.c35, R.c36, R.cg, R.gr, R.gk, R.gs, R.q1, R.q2, R.q3, R.z35_12, R.z35_23, R.z35_34, R.z12_6, R.z23_17, R.z34_28, R.z37_35, R.z37_36, R.z37_12, R.z37_23, R.z37_34, R.z37_6, R.z37_17, R.z37_28⟩⟩
            · have hrd := ready_at rfl hr
              clear hr
              simp [Region.binds] at hrd
              have h27 : b 27 = true := by simp [hrd]
              have e27 := R.c27 h27
              have hb28 : b 28 = false := by simp [hrd]
              clear hrd
              have hgk := R.gk (by cases h : b 37 with | false => rfl | true => exact absurd (R.z37_28 h) (by rw [hb28]; decide))
              have hld : w'.cell? ⟨gG, k * 3 + 2, none⟩ = some (.slice vo nV vc) := by rw [cell_of_row w' gG _ _ _ _ hgk]; exact HA0.out.2.2
              clear hgk
              refine wpOp_step rfl (fun K hK => ?_)
              go_simp
              refine hK _ _ ?_
              exact ⟨upd b 28 true, (upd (upd u 88 (.pointer (some ⟨gG, k * 3 + 2, none⟩))) 89 (.slice vo nV vc)), av1, cv1, av2, cv2, av3, cv3, rfl, rfl, ⟨R.c0, R.c1, R.c2, R.c3, R.c4, R.c5, R.c6, R.c7, R.c8, R.c9, R.c10, R.c11, R.c12, R.c13, R.c14, R.c15, R.c16, R.c17, R.c18, R.c19, R.c20, R.c21, R.c22, R.c23, R.c24, R.c25, R.c26, (fun _ => rfl), (fun _ => rfl), R.c29, R.c30, R.c31, R.c32, R.c33, R.c34, R.c35, R.c36, R.cg, R.gr, R.gk, R.gs, R.q1, R.q2, R.q3, R.z35_12, R.z35_23, R.z35_34, R.z12_6, R.z23_17, (fun _ => rfl), R.z37_35, R.z37_36, R.z37_12, R.z37_23, R.z37_34, R.z37_6, R.z37_17, (fun _ => rfl)⟩⟩
            · have hrd := ready_at rfl hr
              clear hr
              simp [Region.binds] at hrd
              clear hrd
              refine wpOp_step rfl (fun K hK => ?_)
              go_simp
              refine hK _ _ ?_
              exact ⟨upd b 29 true, (upd u 90 (.slice (some ⟨gx, 0, none⟩) N N)), av1, cv1, av2, cv2, av3, cv3, rfl, rfl, ⟨R.c0, R.c1, R.c2, R.c3, R.c4, R.c5, R.c6, R.c7, R.c8, R.c9, R.c10, R.c11, R.c12, R.c13, R.c14, R.c15, R.c16, R.c17, R.c18, R.c19, R.c20, R.c21, R.c22, R.c23, R.c24, R.c25, R.c26, R.c27, R.c28, (fun _ => rfl), R.c30, R.c31, R.c32, R.c33, R.c34, R.c35, R.c36, R.cg, R.gr, R.gk, R.gs, R.q1, R.q2, R.q3, R.z35_12, R.z35_23, R.z35_34, R.z12_6, R.z23_17, R.z34_28, R.z37_35, R.z37_36, R.z37_12, R.z37_23, R.z37_34, R.z37_6, R.z37_17, R.z37_28⟩⟩
            · have hrd := ready_at rfl hr
              clear hr
              simp [Region.binds] at hrd
              clear hrd
              refine wpOp_step rfl (fun K hK => ?_)
              go_simp
              refine hK _ _ ?_
              exact ⟨upd b 30 true, (upd u 91 (.int .i64 (k : Int))), av1, cv1, av2, cv2, av3, cv3, rfl, rfl, ⟨R.c0, R.c1, R.c2, R.c3, R.c4, R.c5, R.c6, R.c7, R.c8, R.c9, R.c10, R.c11, R.c12, R.c13, R.c14, R.c15, R.c16, R.c17, R.c18, R.c19, R.c20, R.c21, R.c22, R.c23, R.c24, R.c25, R.c26, R.c27, R.c28, R.c29, (fun _ => rfl), R.c31, R.c32, R.c33, R.c34, R.c35, R.c36, R.cg, R.gr, R.gk, R.gs, R.q1, R.q2, R.q3, R.z35_12, R.z35_23, R.z35_34, R.z12_6, R.z23_17, R.z34_28, R.z37_35, R.z37_36, R.z37_12, R.z37_23, R.z37_34, R.z37_6, R.z37_17, R.z37_28⟩⟩
            · have hrd := ready_at rfl hr
              clear hr
              simp [Region.binds] at hrd
              have h29 : b 29 = true := by simp [hrd]
              have e29 := R.c29 h29
              have h30 : b 30 = true := by simp [hrd]
              have e30 := R.c30 h30
              clear hrd
              refine wpOp_step rfl (fun K hK => ?_)
              go_simp
              refine hK _ _ ?_
              exact ⟨upd b 31 true, (upd (upd (upd u 90 (.slice (some ⟨gx, 0, none⟩) N N)) 91 (.int .i64 (k : Int))) 92 (.pointer (some ⟨gx, k * 3, none⟩))), av1, cv1, av2, cv2, av3, cv3, rfl, rfl, ⟨R.c0, R.c1, R.c2, R.c3, R.c4, R.c5, R.c6, R.c7, R.c8, R.c9, R.c10, R.c11, R.c12, R.c13, R.c14, R.c15, R.c16, R.c17, R.c18, R.c19, R.c20, R.c21, R.c22, R.c23, R.c24, R.c25, R.c26, R.c27, R.c28, (fun _ => rfl), (fun _ => rfl), (fun _ => rfl), R.c32, R.c33, R.c34, R.c35, R.c36, R.cg, R.gr, R.gk, R.gs, R.q1, R.q2, R.q3, R.z35_12, R.z35_23, R.z35_34, R.z12_6, R.z23_17, R.z34_28, R.z37_35, R.z37_36, R.z37_12, R.z37_23, R.z37_34, R.z37_6, R.z37_17, R.z37_28⟩⟩
            · have hrd := ready_at rfl hr
              clear hr
              simp [Region.binds] at hrd
              have h31 : b 31 = true := by simp [hrd]
              have e31 := R.c31 h31
              clear hrd
              refine wpOp_step rfl (fun K hK => ?_)
              go_simp
              refine hK _ _ ?_
              exact ⟨upd b 32 true, (upd (upd u 92 (.pointer (some ⟨gx, k * 3, none⟩))) 93 (.pointer (some ⟨gx, k * 3 + 2, none⟩))), av1, cv1, av2, cv2, av3, cv3, rfl, rfl, ⟨R.c0, R.c1, R.c2, R.c3, R.c4, R.c5, R.c6, R.c7, R.c8, R.c9, R.c10, R.c11, R.c12, R.c13, R.c14, R.c15, R.c16, R.c17, R.c18, R.c19, R.c20, R.c21, R.c22, R.c23, R.c24, R.c25, R.c26, R.c27, R.c28, R.c29, R.c30, (fun _ => rfl), (fun _ => rfl), R.c33, R.c34, R.c35, R.c36, R.cg, R.gr, R.gk, R.gs, R.q1, R.q2, R.q3, R.z35_12, R.z35_23, R.z35_34, R.z12_6, R.z23_17, R.z34_28, R.z37_35, R.z37_36, R.z37_12, R.z37_23, R.z37_34, R.z37_6, R.z37_17, R.z37_28⟩⟩
            · have hrd := ready_at rfl hr
              clear hr
              simp [Region.binds] at hrd
              have h32 : b 32 = true := by simp [hrd]
              have e32 := R.c32 h32
              clear hrd
              have hld := (HX.out w' R.cg).1.2.2
              refine wpOp_step rfl (fun K hK => ?_)
              go_simp
              refine hK _ _ ?_
              exact ⟨upd b 33 true, (upd (upd u 93 (.pointer (some ⟨gx, k * 3 + 2, none⟩))) 94 (.slice zo mV zc)), av1, cv1, av2, cv2, av3, cv3, rfl, rfl, ⟨R.c0, R.c1, R.c2, R.c3, R.c4, R.c5, R.c6, R.c7, R.c8, R.c9, R.c10, R.c11, R.c12, R.c13, R.c14, R.c15, R.c16, R.c17, R.c18, R.c19, R.c20, R.c21, R.c22, R.c23, R.c24, R.c25, R.c26, R.c27, R.c28, R.c29, R.c30, R.c31, (fun _ => rfl), (fun _ => rfl), R.c34, R.c35, R.c36, R.cg, R.gr, R.gk, R.gs, R.q1, R.q2, R.q3, R.z35_12, R.z35_23, R.z35_34, R.z12_6, R.z23_17, R.z34_28, R.z37_35, R.z37_36, R.z37_12, R.z37_23, R.z37_34, R.z37_6, R.z37_17, R.z37_28⟩⟩
            · have hrd := ready_at rfl hr
              clear hr
              simp [Region.binds] at hrd
              have h28 : b 28 = true := by simp [hrd]
              have e28 := R.c28 h28
              have h33 : b 33 = true := by simp [hrd]
              have e33 := R.c33 h33
              have hb34 : b 34 = false := by simp [hrd]
              clear hrd
              have hgk := R.gk (by cases h : b 37 with | false => rfl | true => exact absurd (R.z37_34 h) (by rw [hb34]; decide))
              have hgr : GR w' wD.heap.size (N * 3) (FB F2 (k * 3) (b 12) (b 23) false (.slice av1 (nR + mR) cv1) (.slice av2 (nD + mD) cv2) (.slice av3 (nV + mV) cv3)) (FB X2 (k * 3) (b 12) (b 23) false (.i (L1 ++ Y1)) (.i (L2 ++ Y2)) (.v (L3 ++ Y3))) := by have h := R.gr; rwa [hb34] at h
              have how := hgr.own (k * 3 + 2) (by omega)
              rw [FB_at2, FB_at2, HF0.out.2.2, HX0.out.2.2] at how
              replace how : w'.ownsRow wD.heap.size 42 2 (.slice vo nV vc) nV (L3.flatMap V.cs) := by rw [HN.out.2.2]; rw [HN.out.2.2] at how; exact how
              have hxo := (HX.out w' R.cg).2.2.2
              have hnG : gG ∉ (Value.slice vo nV vc).ownBlock.toList := fun hm => (tagged_of_own how).ne hgk (by decide) gG (by simpa using hm) rfl
              refine wpOp_step rfl (fun K hK => ?_)
              rw [e28, e33]
              refine wp_append_row w' (.tmp 89) (.tmp 94) 34 rfl wD.heap.size B2 42 i1 (.agg #[.int .i64 0, .string ByteArray.empty]) 2 24 Try.underlying34 hi1 hy0 hy1 hy2 rfl (by omega) (.slice vo nV vc) nV (L3.flatMap V.cs) rfl how (.slice zo mV zc) mV (Y3.flatMap V.cs) rfl hxo (fun u hu => by obtain ⟨x, _, h⟩ := List.mem_flatMap.1 hu; exact V.one x u h) HMX.out.2.2 HM3.out.2.2 (Nat.le_trans HBW.out R.cg.size) ?_
              intro v4 w4 hown4 hg4 hat4
              obtain ⟨a4, c4, rfl⟩ := own_shape hown4
              have hs4 : Chg (Value.slice vo nV vc).ownBlock.toList w' w4 := (Chg.refl _ w').grown hg4 (fun q hq => .inl (by simp [← hq]))
              have hgr4 : GR w4 wD.heap.size (N * 3) (FB F2 (k * 3) (b 12) (b 23) true (.slice av1 (nR + mR) cv1) (.slice av2 (nD + mD) cv2) (.slice a4 (nV + mV) c4)) (FB X2 (k * 3) (b 12) (b 23) true (.i (L1 ++ Y1)) (.i (L2 ++ Y2)) (.v (L3 ++ Y3))) := hgr.step (p := k * 3 + 2) (by omega) (by rw [FB_at2, HF0.out.2.2]; exact hg4) (v' := .slice a4 (nV + mV) c4) (x' := .v (L3 ++ Y3)) (by unfold OwnR; simp only [List.length_append]; rw [← HN.out.2.2, ← HNX.out.2.2]; rw [List.flatMap_append]; exact hown4) (by rw [FB_at2, HF0.out.2.2]; exact hat4) (FB_step2 _ _ _ _ _ _ _ _) (FB_step2 _ _ _ _ _ _ _ _)
              go_simp
              refine hK _ _ ?_
              exact ⟨upd b 34 true, (upd (upd (upd u 89 (.slice vo nV vc)) 94 (.slice zo mV zc)) 95 (.slice a4 (nV + mV) c4)), av1, cv1, av2, cv2, a4, c4, rfl, rfl, ⟨R.c0, R.c1, R.c2, R.c3, R.c4, R.c5, R.c6, R.c7, R.c8, R.c9, R.c10, R.c11, R.c12, R.c13, R.c14, R.c15, R.c16, R.c17, R.c18, R.c19, R.c20, R.c21, R.c22, R.c23, R.c24, R.c25, R.c26, R.c27, (fun _ => rfl), R.c29, R.c30, R.c31, R.c32, (fun _ => rfl), (fun _ => rfl), (fun h => absurd (R.z35_34 h) (by rw [hb34]; decide)), R.c36, (R.cg.grown hg4 (fun q hq => .inl (by unfold T16; simp [hq]))), hgr4, (fun _ => hs4.heap hgk hnG), (fun h => absurd (R.z37_34 h) (by rw [hb34]; decide)), R.q1, R.q2, (fun _ g hg => hat4.elim (fun e => .inl (by rw [← e]; exact hg)) (fun e => .inr (by rw [e] at hg; injection hg with hg; have := R.cg.size; omega))), R.z35_12, R.z35_23, (fun _ => rfl), R.z12_6, R.z23_17, (fun _ => h28), R.z37_35, R.z37_36, R.z37_12, R.z37_23, (fun _ => rfl), R.z37_6, R.z37_17, R.z37_28⟩⟩
            · have hrd := ready_at rfl hr
              clear hr
              simp [Region.binds] at hrd
              have h12 : b 12 = true := by simp [hrd]
              have e12 := R.c12 h12
              have h23 : b 23 = true := by simp [hrd]
              have e23 := R.c23 h23
              have h34 : b 34 = true := by simp [hrd]
              have e34 := R.c34 h34
              clear hrd
              refine wpOp_step rfl (fun K hK => ?_)
              go_simp
              refine hK _ _ ?_
              exact ⟨upd b 35 true, (upd (upd (upd (upd u 73 (.slice av1 (nR + mR) cv1)) 84 (.slice av2 (nD + mD) cv2)) 95 (.slice av3 (nV + mV) cv3)) 96 (.agg #[.slice av1 (nR + mR) cv1, .slice av2 (nD + mD) cv2, .slice av3 (nV + mV) cv3])), av1, cv1, av2, cv2, av3, cv3, rfl, rfl, ⟨R.c0, R.c1, R.c2, R.c3, R.c4, R.c5, R.c6, R.c7, R.c8, R.c9, R.c10, R.c11, (fun _ => rfl), R.c13, R.c14, R.c15, R.c16, R.c17, R.c18, R.c19, R.c20, R.c21, R.c22, (fun _ => rfl), R.c24, R.c25, R.c26, R.c27, R.c28, R.c29, R.c30, R.c31, R.c32, R.c33, (fun _ => rfl), (fun _ => rfl), R.c36, R.cg, R.gr, R.gk, R.gs, R.q1, R.q2, R.q3, (fun _ => h12), (fun _ => h23), (fun _ => h34), R.z12_6, R.z23_17, R.z34_28, (fun _ => rfl), R.z37_36, R.z37_12, R.z37_23, R.z37_34, R.z37_6, R.z37_17, R.z37_28⟩⟩
            · have hrd := ready_at rfl hr
              clear hr
              simp [Region.binds] at hrd
              have h0 : b 0 = true := by simp [hrd]
              have e0 := R.c0 h0
              have h1 : b 1 = true := by simp [hrd]
              have e1 := R.c1 h1
              clear hrd
              refine wpOp_step rfl (fun K hK => ?_)
              go_simp
              refine hK _ _ ?_
              exact ⟨upd b 36 true, (upd (upd (upd u 61 (.slice (some ⟨gG, 0, none⟩) N N)) 62 (.int .i64 (k : Int))) 97 (.pointer (some ⟨gG, k * 3, none⟩))), av1, cv1, av2, cv2, av3, cv3, rfl, rfl, ⟨(fun _ => rfl), (fun _ => rfl), R.c2, R.c3, R.c4, R.c5, R.c6, R.c7, R.c8, R.c9, R.c10, R.c11, R.c12, R.c13, R.c14, R.c15, R.c16, R.c17, R.c18, R.c19, R.c20, R.c21, R.c22, R.c23, R.c24, R.c25, R.c26, R.c27, R.c28, R.c29, R.c30, R.c31, R.c32, R.c33, R.c34, R.c35, (fun _ => rfl), R.cg, R.gr, R.gk, R.gs, R.q1, R.q2, R.q3, R.z35_12, R.z35_23, R.z35_34, R.z12_6, R.z23_17, R.z34_28, R.z37_35, (fun _ => rfl), R.z37_12, R.z37_23, R.z37_34, R.z37_6, R.z37_17, R.z37_28⟩⟩
            · have hrd := ready_at rfl hr
              clear hr
              simp [Region.binds] at hrd
              have h35 : b 35 = true := by simp [hrd]
              have e35 := R.c35 h35
              have h36 : b 36 = true := by simp [hrd]
              have e36 := R.c36 h36
              have hb37 : b 37 = false := by simp [hrd]
              clear hrd
              have hgk := R.gk hb37
              have hk0 : w'.cell? ⟨gG, k * 3, none⟩ = some (.slice ro nR rc) := by rw [cell_of_row w' gG _ _ _ _ hgk]; exact HA0.out.1
              have hk1 : w'.cell? ⟨gG, k * 3 + 1, none⟩ = some (.slice dO nD dc) := by rw [cell_of_row w' gG _ _ _ _ hgk]; exact HA0.out.2.1
              have hk2 : w'.cell? ⟨gG, k * 3 + 2, none⟩ = some (.slice vo nV vc) := by rw [cell_of_row w' gG _ _ _ _ hgk]; exact HA0.out.2.2
              have hf0 : w'.frozen? ⟨gG, k * 3, none⟩ = false := by simp [World.frozen?, hgk]
              have hf1 : w'.frozen? ⟨gG, k * 3 + 1, none⟩ = false := by simp [World.frozen?, hgk]
              have hf2 : w'.frozen? ⟨gG, k * 3 + 2, none⟩ = false := by simp [World.frozen?, hgk]
              refine wpOp_step rfl (fun K hK => ?_)
              go_simp
              refine hK _ _ ?_
              exact ⟨upd b 37 true, (upd (upd u 96 (.agg #[.slice av1 (nR + mR) cv1, .slice av2 (nD + mD) cv2, .slice av3 (nV + mV) cv3])) 97 (.pointer (some ⟨gG, k * 3, none⟩))), av1, cv1, av2, cv2, av3, cv3, rfl, rfl, ⟨R.c0, R.c1, R.c2, R.c3, R.c4, R.c5, R.c6, R.c7, R.c8, R.c9, R.c10, R.c11, R.c12, R.c13, R.c14, R.c15, R.c16, R.c17, R.c18, R.c19, R.c20, R.c21, R.c22, R.c23, R.c24, R.c25, R.c26, R.c27, R.c28, R.c29, R.c30, R.c31, R.c32, R.c33, R.c34, (fun _ => rfl), (fun _ => rfl), (((R.cg.setCell (.inl (by simp [T16])) _).setCell (.inl (by simp [T16])) _).setCell (.inl (by simp [T16])) _), (R.gr.chg ((((Chg.refl [gG] w').setCell (p := ⟨gG, k * 3, none⟩) (by simp) _).setCell (p := ⟨gG, k * 3 + 1, none⟩) (by simp) _).setCell (p := ⟨gG, k * 3 + 2, none⟩) (by simp) _) (R.gr.ne hgk (by decide) (by decide))), (fun h => by cases h), (fun _ => heap_set (heap_set (heap_set hgk _) _) _), R.q1, R.q2, R.q3, R.z35_12, R.z35_23, R.z35_34, R.z12_6, R.z23_17, R.z34_28, (fun _ => h35), (fun _ => h36), (fun _ => R.z35_12 h35), (fun _ => R.z35_23 h35), (fun _ => R.z35_34 h35), (fun _ => R.z12_6 (R.z35_12 h35)), (fun _ => R.z23_17 (R.z35_23 h35)), (fun _ => R.z34_28 (R.z35_34 h35))⟩⟩
          obtain ⟨b, u, av1, cv1, av2, cv2, av3, cv3, rfl, rfl, R⟩ := hI
          have hall := ready_all2 hr rfl (by kernel_rfl)
          have h12 : b 12 = true := Option.some.inj (hall 12 (by decide))
          have e12 := R.c12 h12
          have h23 : b 23 = true := Option.some.inj (hall 23 (by decide))
          have e23 := R.c23 h23
          have h34 : b 34 = true := Option.some.inj (hall 34 (by decide))
          have e34 := R.c34 h34
          have h37 : b 37 = true := Option.some.inj (hall 37 (by decide))
          have GRX := Lib.hid (by have h := R.gr; rw [h12, h23, h34] at h; exact h)
          have GSX := Lib.hid (R.gs h37)
          have QQ := Lib.hid (show (∀ g, _ → _) ∧ (∀ g, _ → _) ∧ (∀ g, _ → _) from ⟨R.q1 h12, R.q2 h23, R.q3 h34⟩)
          have HCG := Lib.hid R.cg
          unfold FRO16
          rw [e12, e23, e34]
          clear e12 e23 e34
          clear R hr hall h12 h23 h34 h37
          have hbe : base = _ := funext HBS.out
          subst hbe
          go_wp2
          go_roundw
          case rel =>
            refine ⟨k + 1, by go_num, by omega, HC2.out.trans HCG.out (fun t ht => .inr (HTD.out t ht)), ⟨S ++ T16 gG (.slice ro nR rc) (.slice dO nD dc) (.slice vo nV vc), (HCS.out.mono (fun q hq => .inl (List.mem_append_left _ hq))).trans HCG.out (fun q hq => .inl (List.mem_append_right _ hq)), fun g hg => ?_⟩, FB F2 (k * 3) true true true (.slice av1 (nR + mR) cv1) (.slice av2 (nD + mD) cv2) (.slice av3 (nV + mV) cv3), ?_, ?_, fun p hp g hg => ?_⟩
            · rcases List.mem_append.1 hg with hg | hg
              · exact HSS.out g hg
              · exact HT16.out g hg
            · have h := GSX.out
              rw [cellsF_set (N * 3) F2 _ (k * 3) _ _ _ (FB_all _ _ _ _ _)] at h
              exact h
            · rw [show oneX (leavesL (mk ns)) (lways (mk ns)) TS (fun j => if j < k + 1 then i + 1 else i) = _ from funext HST.out]
              exact GRX.out
            · rw [FB_all] at hg
              by_cases e2 : p = k * 3 + 2
              · rw [if_pos e2] at hg
                rcases QQ.out.2.2 g hg with h | h
                · exact HIV.out p hp g (by rw [e2, HF0.out.2.2]; exact h)
                · exact .inr (Nat.le_trans HWX.out h)
              · rw [if_neg e2] at hg
                by_cases e1 : p = k * 3 + 1
                · rw [if_pos e1] at hg
                  rcases QQ.out.2.1 g hg with h | h
                  · exact HIV.out p hp g (by rw [e1, HF0.out.2.1]; exact h)
                  · exact .inr (Nat.le_trans HWX.out h)
                · rw [if_neg e1] at hg
                  by_cases e0 : p = k * 3
                  · rw [if_pos e0] at hg
                    rcases QQ.out.1 g hg with h | h
                    · exact HIV.out p hp g (by rw [e0, HF0.out.1]; exact h)
                    · exact .inr (Nat.le_trans HWX.out h)
                  · rw [if_neg e0] at hg
                    exact HIV.out p hp g hg
          case measure => simp [intOf]; omega
        · have d1 : decide ((k : Int) < (N : Int)) = false := by simp; omega
          have hkN2 : k = N := by omega
          have HKN := Lib.hid hkN2
          clear hkN2 hc hcS hSS hb hgr hiv
          go_wp2
          go_roundw
          case rel =>
            refine ⟨i + 1, F2, by go_num, by omega, HC2.out, HB2.out, ⟨fun p hp => ?_, HG2.out.sep⟩⟩
            have h := HG2.out.own p hp
            have e : oneX (leavesL (mk ns)) (lways (mk ns)) TS (fun j => if j < k then i + 1 else i) p = oneX (leavesL (mk ns)) (lways (mk ns)) TS (fun _ => i + 1) p := by
              unfold oneX
              simp only [show p / 3 < k by rw [HKN.out]; omega, if_true]
            rwa [e] at h
          case measure => simp [intOf]; omega
    · have d0 : decide ((i : Int) < (m : Int)) = false := by simp; omega
      have him2 : i = m := by omega
      have HJ1 := Lib.hid (show ColsS wq gG N (fun j => colR (colC ((lways (mk ns)).getD j []) TS)) (fun j => colD (colC ((lways (mk ns)).getD j []) TS)) (fun j => colV ((leavesL (mk ns)).getD j default).d (colC ((lways (mk ns)).getD j []) TS)) from by
        refine ⟨by omega, fun j hj => ?_⟩
        obtain ⟨y0, y1, y2⟩ := oneX_at (leavesL (mk ns)) (lways (mk ns)) TS (fun _ => i) j
        rw [show TS.take i = TS by rw [him2, HM.out, List.take_length]] at y0 y1 y2
        have o0 := HG.out.own (j * 3) (by omega)
        have o1 := HG.out.own (j * 3 + 1) (by omega)
        have o2 := HG.out.own (j * 3 + 2) (by omega)
        rw [y0] at o0
        rw [y1] at o1
        rw [y2] at o2
        refine ⟨F (j * 3), F (j * 3 + 1), F (j * 3 + 2), ?_, ?_, ?_, seenI_of_own o0 rfl, seenI_of_own o1 rfl, SeenK.own V.cs_len o2 rfl⟩
        · rw [cell_of_row wq gG _ _ _ _ HB.out]; exact cellsF_get _ _ _ (by omega)
        · rw [cell_of_row wq gG _ _ _ _ HB.out]; exact cellsF_get _ _ _ (by omega)
        · rw [cell_of_row wq gG _ _ _ _ HB.out]; exact cellsF_get _ _ _ (by omega))
      clear him2
      go_wp2_with fail
      refine (lcolumns_any gG gA N _ _ _ wq HJ1.out (HJA.out.keep HC.out)).mono ?_
      rintro e wZ ⟨rfl, hk⟩
      have HKZ := Lib.hid (HC.out.trans hk (by simp))
      clear hk
      go_wp2
      go_ret
      exact ⟨rfl, ((HK3.out.trans HK4.out (by simp)).trans HKZ.out (by simp)).below (Nat.le_refl _) (by simp)⟩

end Go.Proofs.Ytbbedkkinhccjaa
