/- Ub, Uc, Ud: texts of one group, one behind the other. -/
import Derived.Test.YtohgnbgijleoaaaDoorUa
import Derived.Test.YtohgnbgijleoaaaDoorLay
import Derived.Test.YtohgnbgijleoaaaDoorSa
import Derived.Test.YtohgnbgijleoaaaDoorRef
import Derived.Deep.DeepCutAuto
import Derived.Deep.CutBlock
import Derived.Deep.CutRange
namespace Go.Proofs.YtohgnbgijleoaaaDoor
open Go.RowKit
set_option linter.unusedVariables false
set_option linter.unusedSimpArgs false

/-- A kind's sign. -/
def sgK (k : Nat) : Int := if k = 1 then 98 else if k = 2 then 52 else if k = 3 then 56 else 116
/-- The sign of any number. -/
def sgI (k : Int) : Int := if k < 1 ∨ 4 < k then 45 else sgK k.toNat
theorem sgI_nat (k : Nat) (h : 1 ≤ k ∧ k ≤ 4) : sgI (k : Int) = sgK k := by unfold sgI; rw [if_neg (by omega), Int.toNat_natCast]

set_option maxRecDepth 100000 in
set_option maxHeartbeats 1000000 in
theorem signOf_any (k : Int) (w : World) (hk : -9223372036854775808 ≤ k ∧ k ≤ 9223372036854775807) (hL : Laid w) :
    Calls Tryd.prog 30 #[.int .i64 k] w fun e w' => e = .returned (.int .i32 (sgI k)) ∧ w = w' := by
  by_cases h1 : k < 0
  · have E := Lib.hid (show sgI k = 45 by unfold sgI; rw [if_pos (by omega)])
    rw [E.out]
    go_enter Tryd.func30, Tryd.ntmps30
    go_wp2
    go_ret
    exact ⟨rfl, rfl⟩
  · by_cases h2 : 5 ≤ k
    · have E := Lib.hid (show sgI k = 45 by unfold sgI; rw [if_pos (by omega)])
      rw [E.out]
      go_enter Tryd.func30, Tryd.ntmps30
      go_wp2
      go_ret
      exact ⟨rfl, rfl⟩
    · have x0 := hL.cell 0 (by decide)
      have x1 := hL.cell 1 (by decide)
      have x2 := hL.cell 2 (by decide)
      have x3 := hL.cell 3 (by decide)
      have x4 := hL.cell 4 (by decide)
      have hc : k = 0 ∨ k = 1 ∨ k = 2 ∨ k = 3 ∨ k = 4 := by omega
      clear hL
      rcases hc with rfl | rfl | rfl | rfl | rfl
      · have E := Lib.hid (show sgI 0 = 45 from rfl)
        rw [E.out]
        change w.cell? ⟨1, 0, none⟩ = some (.int .i32 45) at x0
        go_enter Tryd.func30, Tryd.ntmps30
        go_wp2
        go_ret
        exact ⟨rfl, rfl⟩
      · have E := Lib.hid (show sgI 1 = 98 from rfl)
        rw [E.out]
        change w.cell? ⟨1, 1, none⟩ = some (.int .i32 98) at x1
        go_enter Tryd.func30, Tryd.ntmps30
        go_wp2
        go_ret
        exact ⟨rfl, rfl⟩
      · have E := Lib.hid (show sgI 2 = 52 from rfl)
        rw [E.out]
        change w.cell? ⟨1, 2, none⟩ = some (.int .i32 52) at x2
        go_enter Tryd.func30, Tryd.ntmps30
        go_wp2
        go_ret
        exact ⟨rfl, rfl⟩
      · have E := Lib.hid (show sgI 3 = 56 from rfl)
        rw [E.out]
        change w.cell? ⟨1, 3, none⟩ = some (.int .i32 56) at x3
        go_enter Tryd.func30, Tryd.ntmps30
        go_wp2
        go_ret
        exact ⟨rfl, rfl⟩
      · have E := Lib.hid (show sgI 4 = 116 from rfl)
        rw [E.out]
        change w.cell? ⟨1, 4, none⟩ = some (.int .i32 116) at x4
        go_enter Tryd.func30, Tryd.ntmps30
        go_wp2
        go_ret
        exact ⟨rfl, rfl⟩

/-- How many bytes the number at the front of a value has. -/
def szK (k : Nat) : Nat := if k = 3 then 8 else 4

set_option maxRecDepth 100000 in
set_option maxHeartbeats 1000000 in
theorem psize_any (k : Nat) (w : World) (hk : k = 2 ∨ k = 3 ∨ k = 4) :
    Calls Tryd.prog 74 #[.int .i32 (sgK k)] w fun e w' => e = .returned (.int .i64 ((szK k : Nat) : Int)) ∧ w = w' := by
  rcases hk with rfl | rfl | rfl
  · rw [show sgK 2 = 52 from rfl, show ((szK 2 : Nat) : Int) = 4 from rfl]
    go_enter Tryd.func74, Tryd.ntmps74
    go_wp2
    go_ret
    exact ⟨rfl, rfl⟩
  · rw [show sgK 3 = 56 from rfl, show ((szK 3 : Nat) : Int) = 8 from rfl]
    go_enter Tryd.func74, Tryd.ntmps74
    go_wp2
    go_ret
    exact ⟨rfl, rfl⟩
  · rw [show sgK 4 = 116 from rfl, show ((szK 4 : Nat) : Int) = 4 from rfl]
    go_enter Tryd.func74, Tryd.ntmps74
    go_wp2
    go_ret
    exact ⟨rfl, rfl⟩

/-- How the writer stands. -/
structure WP (w0 w : World) (gw B : Nat) (sg : Int) (out ts : List Nat) : Prop where
  c0 : Chg [] w0 w
  g0 : w0.heap.size ≤ gw
  g1 : gw < B
  lB : B ≤ w.heap.size
  st : ∃ bv tv, w.heap[gw]? = some (.cells #[.int .i32 sg, bv, tv] 57 (0, 0)) ∧ w.ownsRow B 5 1 bv out.length (nv .u8 out) ∧ w.ownsRow B 67 1 tv ts.length (nv .u64 ts)

theorem WP.keep {w0 w w' : World} {gw B : Nat} {sg : Int} {out ts : List Nat} (h : WP w0 w gw B sg out ts) (hc : Chg [] w w') : WP w0 w' gw B sg out ts := by
  obtain ⟨bv, tv, h1, h2, h3⟩ := h.st
  exact ⟨h.c0.trans hc (by simp), h.g0, h.g1, Nat.le_trans h.lB hc.size, bv, tv, hc.heap h1 (by simp), own_chg h2 hc (by simp), own_chg h3 hc (by simp)⟩

theorem own_apart {w : World} {B B' T T' s s' : Nat} {v v' : Value} {n n' : Nat} {xs ys : List Value} (h : w.ownsRow B T s v n xs) (h' : w.ownsRow B' T' s' v' n' ys) (hT : T ≠ T') : ∀ g, v.ownBlock = some g → g ∉ v'.ownBlock.toList := by
  intro g hg hm
  simp at hm
  obtain ⟨cur, fr, hb⟩ := tagged_of_own h' g hm
  exact (tagged_of_own h).ne hb hT g hg rfl

/-- The writer's bytes grew, and were stored. -/
theorem WP.grow {w0 w w3 : World} {gw B n : Nat} {sg : Int} {bv tv v3 : Value} {out ts news : List Nat} (h : WP w0 w gw B sg out ts) (hbv : w.heap[gw]? = some (.cells #[.int .i32 sg, bv, tv] 57 (0, 0))) (hob : w.ownsRow B 5 1 bv out.length (nv .u8 out)) (hot : w.ownsRow B 67 1 tv ts.length (nv .u64 ts)) (hc : Chg bv.ownBlock.toList w w3) (ho : w3.ownsRow B 5 1 v3 n (nv .u8 out ++ nv .u8 news)) (hn : n = out.length + news.length) : WP w0 (w3.setCell ⟨gw, 1, none⟩ v3) gw B sg (out ++ news) ts := by
  have hg1 := h.g1
  have hB := own_ge hob
  have hBt := own_ge hot
  have hb3 : w3.heap[gw]? = some (.cells #[.int .i32 sg, bv, tv] 57 (0, 0)) := hc.heap hbv (fun hm => by simp at hm; have := hB gw hm; omega)
  have hs : Chg [gw] w3 (w3.setCell ⟨gw, 1, none⟩ v3) := (Chg.refl [gw] w3).setCell (by simp) _
  refine ⟨(h.c0.trans hc (fun t ht => .inr ?_)).trans hs (fun t ht => .inr ?_), h.g0, h.g1, Nat.le_trans (Nat.le_trans h.lB hc.size) hs.size, v3, tv, set31 hb3 _, ?_, ?_⟩
  · simp at ht
    have := hB t ht
    have := h.g0
    omega
  · simp at ht
    rw [ht]
    exact h.g0
  · rw [List.length_append, ← hn, show nv .u8 (out ++ news) = nv .u8 out ++ nv .u8 news by simp [nv]]
    exact own_chg ho hs (fun g hg hm => by simp at hm; have := own_ge ho g hg; omega)
  · exact own_chg (own_chg hot hc (own_apart hot hob (by decide))) hs (fun g hg hm => by simp at hm; have := hBt g hg; omega)

/-- The writer's truths grew, and were stored. -/
theorem WP.growT {w0 w w3 : World} {gw B n : Nat} {sg : Int} {bv tv v3 : Value} {out ts news : List Nat} (h : WP w0 w gw B sg out ts) (hbv : w.heap[gw]? = some (.cells #[.int .i32 sg, bv, tv] 57 (0, 0))) (hob : w.ownsRow B 5 1 bv out.length (nv .u8 out)) (hot : w.ownsRow B 67 1 tv ts.length (nv .u64 ts)) (hc : Chg tv.ownBlock.toList w w3) (ho : w3.ownsRow B 67 1 v3 n (nv .u64 ts ++ nv .u64 news)) (hn : n = ts.length + news.length) : WP w0 (w3.setCell ⟨gw, 2, none⟩ v3) gw B sg out (ts ++ news) := by
  have hg1 := h.g1
  have hB := own_ge hot
  have hBt := own_ge hob
  have hb3 : w3.heap[gw]? = some (.cells #[.int .i32 sg, bv, tv] 57 (0, 0)) := hc.heap hbv (fun hm => by simp at hm; have := hB gw hm; omega)
  have hs : Chg [gw] w3 (w3.setCell ⟨gw, 2, none⟩ v3) := (Chg.refl [gw] w3).setCell (by simp) _
  refine ⟨(h.c0.trans hc (fun t ht => .inr ?_)).trans hs (fun t ht => .inr ?_), h.g0, h.g1, Nat.le_trans (Nat.le_trans h.lB hc.size) hs.size, bv, v3, set32 hb3 _, ?_, ?_⟩
  · simp at ht
    have := hB t ht
    have := h.g0
    omega
  · simp at ht
    rw [ht]
    exact h.g0
  · exact own_chg (own_chg hob hc (own_apart hob hot (by decide))) hs (fun g hg hm => by simp at hm; have := hBt g hg; omega)
  · rw [List.length_append, ← hn, show nv .u64 (ts ++ news) = nv .u64 ts ++ nv .u64 news by simp [nv]]
    exact own_chg ho hs (fun g hg hm => by simp at hm; have := own_ge ho g hg; omega)

/-- Other blocks than the writer's and its bytes' are as they were. -/
def PKeep (gw : Nat) (w w' : World) : Prop := ∀ (g : Nat) (o : Obj), w.heap[g]? = some o → g ≠ gw → (∀ bv, w.cell? ⟨gw, 1, none⟩ = some bv → bv.ownBlock ≠ some g) → w'.heap[g]? = some o

set_option maxRecDepth 100000 in
set_option maxHeartbeats 4000000 in
theorem pnumber_any {w0 w : World} {gw B k : Nat} {out ts : List Nat} (hk : k = 2 ∨ k = 3 ∨ k = 4) (n : Int) (h : WP w0 w gw B (sgK k) out ts) (hl : out.length ≤ 100000000) :
    Calls Tryd.prog 60 #[.pointer (some ⟨gw, 0, none⟩), .int .i64 n] w fun e w' => e = .returned (.tuple #[]) ∧ WP w0 w' gw B (sgK k) (out ++ lo (szK k) (un n)) ts ∧ PKeep gw w w' := by
  obtain ⟨i0, hi, hz0, hz1, hz2⟩ := info_u8
  obtain ⟨bv, tv, hb, ho, hot⟩ := h.st
  obtain ⟨ba, bc, rfl⟩ := own_shape ho
  obtain ⟨c0, c1, -, f0, f1, -⟩ := cells3 hb
  have hsz : szK k ≤ 8 := by unfold szK; split <;> omega
  have HPS := Lib.hid (fun wx : World => psize_any k wx hk)
  obtain ⟨q, hq⟩ : ∃ q, q = szK k := ⟨_, rfl⟩
  obtain ⟨sg, hsg⟩ : ∃ s, s = sgK k := ⟨_, rfl⟩
  rw [← hq] at hsz HPS ⊢
  rw [← hsg] at h hb HPS c0 ⊢
  have HB := Lib.hid hb; have HO := Lib.hid ho; have HW := Lib.hid h; have HCL := Lib.hid c1; have HOT := Lib.hid hot
  have hv := un_wrap n
  have hu := un_lt n
  obtain ⟨u, hue⟩ : ∃ u, u = un n := ⟨_, rfl⟩
  rw [← hue] at hv hu ⊢
  have hvl := lo_length q u
  have HP := Lib.hid (fun (wx : World) => cput_nat (.slice none 0 0) [] q u wx hsz hu (by decide) (Seen.nil wx))
  obtain ⟨L, hLe⟩ : ∃ L, L = lo q u := ⟨_, rfl⟩
  rw [← hLe] at hvl HP ⊢
  obtain ⟨m, hm⟩ : ∃ m, m = out.length := ⟨_, rfl⟩
  rw [← hm] at hl HO HB c1 HCL
  have HM := Lib.hid hm
  have HGE := Lib.hid (show ∀ g, (Value.slice ba m bc).ownBlock = some g → B ≤ g from fun g hg => own_ge HO.out g hg)
  have HG1 := Lib.hid h.g1
  have HLB := Lib.hid h.lB
  clear h hb ho hm hk hq hsg hue hot hLe
  have HWS := Lib.hid (show ∀ w2, Chg [] w w2 → w2.cell? ⟨gw, 1, none⟩ = some (.slice ba m bc) ∧ w2.frozen? ⟨gw, 1, none⟩ = false from fun w2 hc => by
    obtain ⟨-, k1, -, -, k2, -⟩ := cells3 (hc.heap HB.out (by simp))
    exact ⟨k1, k2⟩)
  have HWT := Lib.hid (show ∀ w2 w3, Chg [] w w2 → Chg (Value.slice ba m bc).ownBlock.toList w2 w3 → w3.cell? ⟨gw, 1, none⟩ = some (.slice ba m bc) ∧ w3.frozen? ⟨gw, 1, none⟩ = false from fun w2 w3 hc hd => by
    obtain ⟨-, k1, -, -, k2, -⟩ := cells3 (hd.heap (hc.heap HB.out (by simp)) (fun hm => by simp at hm; have := HGE.out gw hm; have := HG1.out; omega))
    exact ⟨k1, k2⟩)
  have HONE := Lib.hid (nv_one .u8 L)
  have HM1 := Lib.hid (show m + (nv .u8 L).length ≤ maxLen by rw [nv_length]; unfold maxLen; omega)
  have HM2 := Lib.hid (show (m + (nv .u8 L).length) * 1 ≤ 140737488355328 by rw [nv_length]; omega)
  clear hvl
  go_enter Tryd.func60, Tryd.ntmps60
  go_upto_region 0 with fail
  go_region_law (first
    | (go_simp; go_at_call 74; (with_reducible refine (HPS.out _).mono ?_); rintro e w1 ⟨rfl, rfl⟩)
    | (go_simp; go_at_call 73; (with_reducible refine (HP.out _).mono ?_); rintro e w2 ⟨x, rfl, hc2, ho2⟩; obtain ⟨xa, xc, rfl⟩ := own_shape ho2; rw [List.nil_append] at ho2 ⊢; have hcc : Chg [] w w2 := (by first | exact hc2 | exact ((Chg.refl [] w).drew).trans hc2 (by simp) | exact ((Chg.refl [] w).drewN _).trans hc2 (by simp)); obtain ⟨k1, k2⟩ := HWS.out w2 hcc; have HO2 := Lib.hid (own_chg HO.out hcc (by simp)); have HX2 := Lib.hid (reads_of_own ho2).seen; have HC2 := Lib.hid hcc; have HL2 := Lib.hid (Nat.le_trans HLB.out hcc.size); clear hc2 ho2 hcc)
    | (refine step_append_reads (by rfl) (.tmp 8) (.tmp 16) 26 26 (by rfl) B 5 5 i0 (.int .u8 0) 1 Tryd.underlying26 Tryd.underlying26 hi hz0 hz1 hz2 (by rfl) (.slice ba m bc) m (nv .u8 out) (by rfl) HO2.out (.slice xa L.length xc) (nv .u8 L) (by rfl) HX2.out HONE.out HM1.out HM2.out HL2.out ?_; intro v3 w3 hown3 hgrow3; rw [nv_length] at hown3; obtain ⟨va, vc, rfl⟩ := own_shape hown3; have hcd : Chg (Value.slice ba m bc).ownBlock.toList w2 w3 := ((Chg.refl _ w2)).grown hgrow3 (fun g hg => .inl (by simp [hg])); obtain ⟨k3, k4⟩ := HWT.out w2 w3 HC2.out hcd; have HO3 := Lib.hid hown3; have HC3 := Lib.hid hcd; clear hown3 hgrow3 hcd))
  all_goals
    go_end0
    refine ⟨rfl, (HW.out.keep HC2.out).grow (HC2.out.heap HB.out (by simp)) (by rw [← HM.out]; exact own_chg HO.out HC2.out (by simp)) (own_chg HOT.out HC2.out (by simp)) HC3.out HO3.out (by rw [← HM.out]), fun g o hg hne hbb => ?_⟩
    have hr := hbb _ HCL.out
    exact ((Chg.refl [gw] w3).setCell (p := ⟨gw, 1, none⟩) (by simp) _).heap (HC3.out.heap (HC2.out.heap hg (by simp)) (fun hm => hr (by simpa using hm))) (by simpa using hne)

end Go.Proofs.YtohgnbgijleoaaaDoor

namespace Go.Proofs.YtohgnbgijleoaaaDoor
open Go.RowKit
set_option linter.unusedVariables false
set_option linter.unusedSimpArgs false

/-- A value, as an argument. -/
abbrev vvV (v : V) : Value := .agg #[.int .i64 v.n, .string v.s]
/-- A value's own block. -/
abbrev vo (v : V) : Obj := .cells #[.int .i64 v.n, .string v.s] 39

set_option maxRecDepth 100000 in
set_option maxHeartbeats 4000000 in
theorem pvalue_1 {w0 w : World} {gw B : Nat} {out ts : List Nat} (v : V) (h : WP w0 w gw B (sgK 1) out ts) (hl : ts.length ≤ 100000000) :
    Calls Tryd.prog 32 #[.pointer (some ⟨gw, 0, none⟩), vvV v] w fun e w' => e = .returned (.tuple #[]) ∧ WP w0 w' gw B (sgK 1) out (ts ++ [un v.n]) := by
  obtain ⟨i0, hi, hz0, hz1, hz2⟩ := info_u64
  have HW1 := Lib.hid (h.keep ((Chg.refl [] w).alloc (vo v)))
  obtain ⟨bv, tv, hb, ho, hot⟩ := HW1.out.st
  obtain ⟨ta, tc, rfl⟩ := own_shape hot
  have hb : (w.alloc (vo v)).heap[gw]? = some (.cells #[.int .i32 98, bv, .slice ta ts.length tc] 57 (0, 0)) := hb
  obtain ⟨p0, -, p2, -, -, f2⟩ := cells3 hb
  have hu := un_wrap v.n
  obtain ⟨u, hue⟩ : ∃ u, u = un v.n := ⟨_, rfl⟩
  rw [← hue] at hu ⊢
  obtain ⟨m, hm⟩ : ∃ m, m = ts.length := ⟨_, rfl⟩
  rw [← hm] at hb hot hl p2
  have HB := Lib.hid hb; have HO := Lib.hid ho; have HT := Lib.hid hot; have HM := Lib.hid hm
  have q0 : (w.alloc (vo v)).cell? ⟨w.heap.size, 0, none⟩ = some (.int .i64 v.n) := by rw [cell_of_row _ _ 0 _ _ _ (heap_alloc_new w (vo v))]; rfl
  obtain ⟨gb, hgb⟩ : ∃ gb, gb = w.heap.size := ⟨_, rfl⟩
  have HGB := Lib.hid hgb
  have hlB := HW1.out.lB
  have HM1 := Lib.hid (show m + 1 ≤ maxLen by unfold maxLen; omega)
  have HM2 := Lib.hid (show (m + 1) * 8 ≤ 140737488355328 by omega)
  have HGE := Lib.hid (own_ge hot)
  have HG1 := Lib.hid h.g1
  clear h hb ho hot hm hue
  go_enter Tryd.func32, Tryd.ntmps32
  go_upto_region 3 with fail
  obtain ⟨wa, hwa⟩ : ∃ wa, wa = w.alloc (vo v) := ⟨_, rfl⟩
  rw [← hwa] at HW1 HB HO HT p0 p2 f2 q0 hlB ⊢
  rw [← hgb] at q0 ⊢
  have HLB := Lib.hid hlB
  clear hwa hgb hlB
  have HWS := Lib.hid (show ∀ w2, Chg [] wa w2 → w2.cell? ⟨gw, 2, none⟩ = some (.slice ta m tc) ∧ w2.frozen? ⟨gw, 2, none⟩ = false ∧ w2.cell? ⟨gb, 0, none⟩ = some (.int .i64 v.n) from fun w2 hc => by
    obtain ⟨-, -, k1, -, -, k2⟩ := cells3 (hc.heap HB.out (by simp))
    exact ⟨k1, k2, hc.cell q0 (by simp)⟩)
  obtain ⟨r1, r2, r3⟩ := HWS.out (wa.drew.alloc (.cells #[.int .u64 (u : Int)] 67)) ((Chg.refl [] wa).drew.alloc _)
  obtain ⟨r4, r5, r6⟩ := HWS.out (wa.alloc (.cells #[.int .u64 (u : Int)] 67)) ((Chg.refl [] wa).alloc _)
  have HWT := Lib.hid (show ∀ w3, Chg (Value.slice ta m tc).ownBlock.toList (wa.drew.alloc (.cells #[.int .u64 (u : Int)] 67)) w3 → w3.cell? ⟨gw, 2, none⟩ = some (.slice ta m tc) ∧ w3.frozen? ⟨gw, 2, none⟩ = false from fun w3 hd => by
    obtain ⟨-, -, k1, -, -, k2⟩ := cells3 (hd.heap (((Chg.refl [] wa).drew.alloc (.cells #[.int .u64 (u : Int)] 67)).heap HB.out (by simp)) (fun hm => by simp at hm; have := HGE.out gw hm; have := HG1.out; omega))
    exact ⟨k1, k2⟩)
  go_region_law (first
    | (refine step_append_cells (by rfl) (.tmp 14) (.tmp 18) 55 (by rfl) B 67 i0 (.int .u64 0) 1 8 Tryd.underlying55 hi hz0 hz1 hz2 (by rfl) (by decide) (.slice ta m tc) m (nv .u64 ts) (by rfl) (own_chg HT.out ((Chg.refl [] wa).drew.alloc (.cells #[.int .u64 (u : Int)] 67)) (by simp)) ⟨wa.heap.size, 0, none⟩ 1 1 [.int .u64 (u : Int)] (by rfl) (by rfl) (new_cells (C := #[.int .u64 (u : Int)]) wa.heap.size rfl) (by simp [Value.oneCell']) HM1.out HM2.out (Nat.le_trans HLB.out ((Chg.refl [] wa).drew.alloc _).size) ?_; intro v3 w3 hown3 hgrow3; obtain ⟨va, vc, rfl⟩ := own_shape hown3; have hcd : Chg (Value.slice ta m tc).ownBlock.toList (wa.drew.alloc (.cells #[.int .u64 (u : Int)] 67)) w3 := (Chg.refl _ _).grown hgrow3 (fun g hg => .inl (by simp [hg])); obtain ⟨k3, k4⟩ := HWT.out w3 hcd; have HO3 := Lib.hid hown3; have HC3 := Lib.hid hcd; clear hown3 hgrow3 hcd))
  all_goals
    go_end0
    have hca : Chg [] wa (wa.drew.alloc (.cells #[.int .u64 (u : Int)] 67)) := (Chg.refl [] wa).drew.alloc _
    exact ⟨rfl, (HW1.out.keep hca).growT (hca.heap HB.out (by simp)) (own_chg HO.out hca (by simp)) (by rw [← HM.out]; exact own_chg HT.out hca (by simp)) HC3.out (by simpa [nv] using HO3.out) (by rw [← HM.out]; rfl)⟩

set_option maxRecDepth 100000 in
set_option maxHeartbeats 4000000 in
theorem pvalue_23 {w0 w : World} {gw B k : Nat} {out ts : List Nat} (hk : k = 2 ∨ k = 3) (v : V) (h : WP w0 w gw B (sgK k) out ts) (hl : out.length ≤ 100000000) :
    Calls Tryd.prog 32 #[.pointer (some ⟨gw, 0, none⟩), vvV v] w fun e w' => e = .returned (.tuple #[]) ∧ WP w0 w' gw B (sgK k) (out ++ enc1 k v) ts := by
  have HW1 := Lib.hid (h.keep ((Chg.refl [] w).alloc (vo v)))
  obtain ⟨bv, tv, hb, ho, hot⟩ := HW1.out.st
  have HT := Lib.hid (pnumber_any (by omega) v.n HW1.out hl)
  obtain ⟨p0, -, -, -, -, -⟩ := cells3 hb
  clear h hb ho hot hl
  rcases hk with rfl | rfl
  · rw [show sgK 2 = 52 from rfl] at p0
    rw [enc1_2]
    go_enter Tryd.func32, Tryd.ntmps32
    go_wp2_with (first
      | (go_at_call 60; (with_reducible refine HT.out.mono ?_); rintro e w2 ⟨rfl, hw2, -⟩; have HW2 := Lib.hid hw2; clear hw2)
      | fail)
    go_end0
    exact ⟨rfl, HW2.out⟩
  · rw [show sgK 3 = 56 from rfl] at p0
    rw [enc1_3]
    go_enter Tryd.func32, Tryd.ntmps32
    go_wp2_with (first
      | (go_at_call 60; (with_reducible refine HT.out.mono ?_); rintro e w2 ⟨rfl, hw2, -⟩; have HW2 := Lib.hid hw2; clear hw2)
      | fail)
    go_end0
    exact ⟨rfl, HW2.out⟩

set_option maxRecDepth 100000 in
set_option maxHeartbeats 4000000 in
theorem pvalue_4 {w0 w : World} {gw B : Nat} {out ts : List Nat} (v : V) (h : WP w0 w gw B (sgK 4) out ts) (hl : out.length ≤ 100000000) (hs : v.s.size ≤ 1000000) :
    Calls Tryd.prog 32 #[.pointer (some ⟨gw, 0, none⟩), vvV v] w fun e w' => e = .returned (.tuple #[]) ∧ WP w0 w' gw B (sgK 4) (out ++ enc1 4 v) ts := by
  have HW1 := Lib.hid (h.keep ((Chg.refl [] w).alloc (vo v)))
  have HT := Lib.hid (pnumber_any (k := 4) (by omega) (v.s.size : Int) HW1.out hl)
  rw [un_nat _ (by omega), show szK 4 = 4 from rfl] at HT
  rw [enc1_4]
  have HBX := Lib.hid (heap_alloc_new w (vo v))
  have HNE := Lib.hid (show w.heap.size ≠ gw from by have := h.g1; have := h.lB; omega)
  have HNB := Lib.hid (show ∀ bv, (w.alloc (vo v)).cell? ⟨gw, 1, none⟩ = some bv → bv.ownBlock ≠ some w.heap.size from fun bv hbv e => by
    obtain ⟨bv', tv', hb', ho', -⟩ := h.st
    have h1 := (cells3 (((Chg.refl [] w).alloc (vo v)).heap hb' (by simp))).2.1
    rw [h1] at hbv
    injection hbv with hbv
    subst hbv
    have := (ho'.lt _ e).2
    omega)
  obtain ⟨bv, tv, hb, ho, hot⟩ := HW1.out.st
  obtain ⟨p0, -, -, -, -, -⟩ := cells3 hb
  rw [show sgK 4 = 116 from rfl] at p0
  have HFS := Lib.hid h.g1
  have q0 : (w.alloc (vo v)).cell? ⟨w.heap.size, 1, none⟩ = some (.string v.s) := by rw [cell_of_row _ _ 1 _ _ _ (heap_alloc_new w (vo v))]; rfl
  obtain ⟨gb, hgb⟩ : ∃ gb, gb = w.heap.size := ⟨_, rfl⟩
  rw [← hgb] at HBX HNE HNB
  have HGB := Lib.hid hgb
  clear h hb ho hot hgb
  go_enter Tryd.func32, Tryd.ntmps32
  go_upto_region 9 with (first
    | (go_at_call 60; (with_reducible refine HT.out.mono ?_); rintro e w2 ⟨rfl, hw2, hk2⟩; have HW2 := Lib.hid hw2; have HX2 := Lib.hid (hk2 gb _ HBX.out HNE.out HNB.out); clear hw2 hk2)
    | fail)
  rw [← HGB.out]
  obtain ⟨bv, tv, hb2, ho2, hot2⟩ := HW2.out.st
  obtain ⟨ba, bc, rfl⟩ := own_shape ho2
  obtain ⟨-, c1, -, -, f1, -⟩ := cells3 hb2
  have r1 : w2.cell? ⟨gb, 1, none⟩ = some (.string v.s) := by rw [cell_of_row w2 gb 1 _ _ _ HX2.out]; rfl
  obtain ⟨L, hL⟩ : ∃ L, L = out ++ lo 4 v.s.size := ⟨_, rfl⟩
  have hLl : L.length ≤ 100000004 := by rw [hL, List.length_append, lo_length]; omega
  have HL := Lib.hid hL
  rw [← hL] at hb2 ho2 c1 HW2
  obtain ⟨m, hm⟩ : ∃ m, m = L.length := ⟨_, rfl⟩
  rw [← hm] at hb2 ho2 c1
  have HB2 := Lib.hid hb2; have HO2 := Lib.hid ho2; have HOT := Lib.hid hot2
  have HM := Lib.hid hm
  have HGE := Lib.hid (show ∀ g, (Value.slice ba m bc).ownBlock = some g → B ≤ g from fun g hg => own_ge HO2.out g hg)
  have HLB := Lib.hid HW2.out.lB
  have HMB := Lib.hid (show m + v.s.size ≤ 140737488355328 by omega)
  have HWT := Lib.hid (show ∀ w3, Chg (Value.slice ba m bc).ownBlock.toList w2 w3 → w3.cell? ⟨gw, 1, none⟩ = some (.slice ba m bc) ∧ w3.frozen? ⟨gw, 1, none⟩ = false from fun w3 hd => by
    obtain ⟨-, k1, -, -, k2, -⟩ := cells3 (hd.heap HB2.out (fun hm => by simp at hm; have := HGE.out gw hm; have := HFS.out; omega))
    exact ⟨k1, k2⟩)
  clear hb2 ho2 hm hot2 hL
  go_region_law (first
    | (refine step_append_text (by rfl) (.tmp 40) (.tmp 42) (by rfl) B (.slice ba m bc) m (nv .u8 L) (by rfl) HO2.out v.s (by rfl) HMB.out HLB.out ?_; intro v3 w3 hown3 hgrow3; obtain ⟨va, vc, rfl⟩ := own_shape hown3; have hcd : Chg (Value.slice ba m bc).ownBlock.toList w2 w3 := (Chg.refl _ w2).grown (w := w2) (by first | exact hgrow3 | exact ⟨hgrow3.os, hgrow3.tape, hgrow3.output, hgrow3.size, hgrow3.block⟩) (fun g hg => .inl (by simp [hg])); obtain ⟨k3, k4⟩ := HWT.out w3 hcd; have HO3 := Lib.hid hown3; have HC3 := Lib.hid hcd; clear hown3 hgrow3 hcd))
  all_goals
    go_end0
    rw [← List.append_assoc, ← HL.out]
    exact ⟨rfl, HW2.out.grow HB2.out (by rw [← HM.out]; exact HO2.out) HOT.out HC3.out HO3.out (by rw [← HM.out, bl_length])⟩

end Go.Proofs.YtohgnbgijleoaaaDoor

namespace Go.Proofs.YtohgnbgijleoaaaDoor
open Go.RowKit
set_option linter.unusedVariables false
set_option linter.unusedSimpArgs false

theorem SeenK.sliced {α : Type} {enc : α → List Value} {k : Nat} {w : World} {ao : Option Addr} {len cap : Nat} {l : List α} (h : SeenK enc k w (.slice ao len cap) l) (lo hi : Nat) (h1 : lo ≤ hi) (h2 : hi ≤ len) :
    SeenK enc k w (Go.sliced ao lo hi cap k) ((l.take hi).drop lo) := by
  obtain ⟨ao', cap', he, hc, hm, hx⟩ := h
  injection he with e1 e2 e3
  subst e1 e2 e3
  have hlen : ((l.take hi).drop lo).length = hi - lo := by simp; omega
  unfold Go.sliced
  rw [← hlen]
  refine ⟨_, _, rfl, by rw [hlen]; omega, by omega, fun hp => ?_⟩
  rw [hlen] at hp
  obtain ⟨g, off, rfl, hcell⟩ := hx (by omega)
  refine ⟨g, off + lo * k, ?_, fun j x i u hj hu => ?_⟩
  · rw [if_neg (by omega)]
    simp only [Option.map_some, addr_add]
  · rw [List.getElem?_drop, List.getElem?_take] at hj
    split at hj
    · have := hcell (lo + j) x i u hj hu
      rw [Nat.add_mul, ← Nat.add_assoc] at this
      exact this
    · cases hj

theorem elem_values : Tryd.prog.elem 22 = 39 := by kernel_rfl
theorem info_value : ∃ i, Tryd.prog.info? 39 = some i ∧ i.zero = some (.agg #[.int .i64 0, .string ByteArray.empty]) ∧ i.size = 2 ∧ i.bytes = 24 :=
  info_parts (show (Tryd.prog.info? 39).map (fun i => (i.zero, i.size, i.bytes)) = some (some (.agg #[.int .i64 0, .string ByteArray.empty]), 2, 24) by kernel_rfl)

/-- l[lo:], as a run equation, of values. -/
theorem run_back_v {w : World} {ao : Option Addr} {len cap : Nat} {l : List V} (h : SeenV w (.slice ao len cap) l) (hl : l.length = len) (hc : len ≤ cap) (lo : Nat) (h2 : lo ≤ len) :
    ∃ ao' cap', SeenV w (.slice ao' (len - lo) cap') (l.drop lo) ∧ ∀ wx, (Instr.slice 22 (.slice ao len cap) (some (.int .i64 (lo : Int))) none none).run Tryd.prog wx = .ok (.slice ao' (len - lo) cap') wx := by
  have hs := h.sliced lo len h2 (Nat.le_refl _)
  rw [show l.take len = l by rw [← hl, List.take_length]] at hs
  refine ⟨_, _, hs, fun wx => ?_⟩
  obtain ⟨i0, hi0, _, hz1, _⟩ := info_value
  rw [run_slice_l wx 22 ao len cap (by rw [elem_values]; exact Tryd.underlying22) .i64 lo (by omega) (by omega), elem_values]
  simp [sizeOf, typeInfo, hi0, hz1, Go.sliced]

/-- l[:hi], as a run equation, of values. -/
theorem run_front_v {w : World} {ao : Option Addr} {len cap : Nat} {l : List V} (h : SeenV w (.slice ao len cap) l) (hc : len ≤ cap) (hi : Nat) (h2 : hi ≤ len) :
    ∃ ao' cap', SeenV w (.slice ao' hi cap') (l.take hi) ∧ ∀ wx, (Instr.slice 22 (.slice ao len cap) none (some (.int .i64 (hi : Int))) none).run Tryd.prog wx = .ok (.slice ao' hi cap') wx := by
  have hs := h.sliced 0 hi (Nat.zero_le _) h2
  rw [List.drop_zero] at hs
  refine ⟨_, _, hs, fun wx => ?_⟩
  obtain ⟨i0, hi0, _, hz1, _⟩ := info_value
  rw [run_slice_h wx 22 ao len cap (by rw [elem_values]; exact Tryd.underlying22) .i64 hi (by omega) (by omega), elem_values]
  simp [sizeOf, typeInfo, hi0, hz1]
  rfl

/-- A row of values, the first of them. -/
theorem SeenV.get {w : World} {ao : Option Addr} {n cap : Nat} {l : List V} (h : SeenV w (.slice ao n cap) l) (hn : 0 < n) : ∃ g off, ao = some ⟨g, off, none⟩ ∧ ∀ j v, l[j]? = some v → w.cell? ⟨g, off + j * 2, none⟩ = some (.int .i64 v.n) ∧ w.cell? ⟨g, off + j * 2 + 1, none⟩ = some (.string v.s) := by
  obtain ⟨g, off, rfl, hc⟩ := h.at hn
  exact ⟨g, off, rfl, fun j v hv => ⟨by simpa using hc j v 0 _ hv rfl, hc j v 1 _ hv rfl⟩⟩

/-- What all answers. -/
def allB (k : Nat) (out ts : List Nat) : List Nat := if k = 1 then packed 1 ts else out

set_option maxRecDepth 100000 in
set_option maxHeartbeats 4000000 in
theorem pall_any {w0 w : World} {gw B k : Nat} {out ts : List Nat} (hk : 1 ≤ k ∧ k ≤ 4) (h : WP w0 w gw B (sgK k) out ts) (hl : ts.length ≤ 1000000) (hts : ∀ x ∈ ts, x < 2 ^ 64) :
    Calls Tryd.prog 31 #[.pointer (some ⟨gw, 0, none⟩)] w fun e w' => ∃ x, e = .returned x ∧ Chg [] w w' ∧ w'.ownsRow B 5 1 x (allB k out ts).length (nv .u8 (allB k out ts)) := by
  obtain ⟨bv, tv, hb, ho, hot⟩ := h.st
  obtain ⟨ba, bc, rfl⟩ := own_shape ho
  obtain ⟨ta, tc, rfl⟩ := own_shape hot
  obtain ⟨c0, c1, c2, -, -, -⟩ := cells3 hb
  have HO := Lib.hid ho
  have HP := Lib.hid (pack_yes _ ts 1 w (by decide) hl (reads_of_own hot).seen hts)
  rw [show ((1 : Nat) : Int) = 1 from rfl] at HP
  have HLB := Lib.hid h.lB
  by_cases h1 : k = 1
  · subst h1
    have E := Lib.hid (show allB 1 out ts = packed 1 ts by unfold allB; rw [if_pos rfl])
    rw [E.out]
    rw [show sgK 1 = 98 from rfl] at c0
    obtain ⟨n, hn⟩ : ∃ n, n = (packed 1 ts).length := ⟨_, rfl⟩
    rw [← hn] at HP ⊢
    have HN := Lib.hid hn
    clear h hb ho hot hk hn hl hts
    go_enter Tryd.func31, Tryd.ntmps31
    go_wp2_with (first
      | (go_at_call 59; (with_reducible refine HP.out.mono ?_); rintro e w2 ⟨g, rfl, hc, ho⟩; have HC := Lib.hid hc; have HO2 := Lib.hid ho; clear hc ho)
      | fail)
    go_ret
    exact ⟨_, rfl, HC.out, by have h := own_mono HO2.out HLB.out; rw [← HN.out] at h; exact h⟩
  · have E := Lib.hid (show allB k out ts = out by unfold allB; rw [if_neg h1])
    rw [E.out]
    have hb : (sgK k == 98) = false := by
      have : k = 2 ∨ k = 3 ∨ k = 4 := by omega
      rcases this with rfl | rfl | rfl <;> rfl
    obtain ⟨sg, hsg⟩ : ∃ s, s = sgK k := ⟨_, rfl⟩
    rw [← hsg] at c0 hb
    clear h hot hk hsg hl hts h1 ho HP
    go_enter Tryd.func31, Tryd.ntmps31
    go_wp2
    go_ret
    exact ⟨_, rfl, Chg.refl _ _, HO.out⟩

/-- The bytes and the truths behind some values. -/
def outL (k : Nat) (l : List V) : List Nat := if k = 1 then [] else l.flatMap (enc1 k)
def tsL (k : Nat) (l : List V) : List Nat := if k = 1 then l.map (fun v => un v.n) else []

theorem all_enc (k : Nat) (l : List V) : allB k (outL k l) (tsL k l) = encP k l := by
  unfold allB outL tsL encP
  split <;> rfl

theorem pvalue_any {w0 w : World} {gw B k : Nat} {l : List V} (hk : 1 ≤ k ∧ k ≤ 4) (v : V) (h : WP w0 w gw B (sgK k) (outL k l) (tsL k l)) (hl : l.length ≤ 100000) (hs : ∀ x ∈ l, x.s.size ≤ 100) (hv : v.s.size ≤ 100) :
    Calls Tryd.prog 32 #[.pointer (some ⟨gw, 0, none⟩), vvV v] w fun e w' => e = .returned (.tuple #[]) ∧ WP w0 w' gw B (sgK k) (outL k (l ++ [v])) (tsL k (l ++ [v])) := by
  have hlen : (l.flatMap (enc1 k)).length ≤ 104 * l.length := by
    clear hl h
    induction l with
    | nil => simp
    | cons v l ih =>
      have h1 := enc1_len k v (hs v (by simp))
      have h2 := ih fun x hx => hs x (by simp [hx])
      rw [List.flatMap_cons, List.length_append, List.length_cons]
      omega
  by_cases h1 : k = 1
  · subst h1
    have e1 : outL 1 (l ++ [v]) = outL 1 l := rfl
    have e2 : tsL 1 (l ++ [v]) = tsL 1 l ++ [un v.n] := by
      show (l ++ [v]).map (fun v => un v.n) = l.map (fun v => un v.n) ++ [un v.n]
      simp
    rw [e1, e2]
    exact pvalue_1 v h (by show (l.map (fun v => un v.n)).length ≤ _; rw [List.length_map]; omega)
  · have e1 : outL k (l ++ [v]) = outL k l ++ enc1 k v := by unfold outL; rw [if_neg h1, if_neg h1]; simp
    have e2 : tsL k (l ++ [v]) = tsL k l := by unfold tsL; rw [if_neg h1, if_neg h1]
    have e3 : (outL k l).length ≤ 100000000 := by unfold outL; rw [if_neg h1]; omega
    rw [e1, e2]
    by_cases h4 : k = 4
    · subst h4
      exact pvalue_4 v h e3 (by omega)
    · exact pvalue_23 (by omega) v h e3

set_option maxRecDepth 100000 in
set_option maxHeartbeats 4000000 in
theorem pencode_any (k : Nat) (hk : 1 ≤ k ∧ k ≤ 4) (lv : Value) (l : List V) (w : World) (hL : Laid w) (hS : SeenV w lv l) (hl : l.length ≤ 100000) (hs : ∀ x ∈ l, x.s.size ≤ 100) :
    Calls Tryd.prog 18 #[.int .i64 (k : Int), lv] w fun e w' => ∃ x, e = .returned x ∧ Made 5 .u8 (encP k l) w x w' := by
  obtain ⟨ao, cap, rfl, hc1, hc2⟩ := hS.shape
  have HL := Lib.hid hL; have HS := Lib.hid hS; have HSZ := Lib.hid hs
  have HSG := Lib.hid (signOf_any (k : Int) w (by omega) hL)
  rw [sgI_nat k hk] at HSG
  obtain ⟨n, hn⟩ : ∃ n, n = l.length := ⟨_, rfl⟩
  rw [← hn] at hl hc1 HS ⊢
  have HN := Lib.hid hn
  obtain ⟨sg, hsg⟩ : ∃ s, s = sgK k := ⟨_, rfl⟩
  rw [← hsg] at HSG
  have HG := Lib.hid hsg
  have HWP := Lib.hid (show WP w (w.alloc (.cells #[.int .i32 sg, .slice none 0 0, .slice none 0 0] 57)) w.heap.size (w.heap.size + 1) (sgK k) (outL k []) (tsL k []) from by
    refine ⟨(Chg.refl [] w).alloc _, Nat.le_refl _, by omega, by simp, _, _, by rw [heap_alloc_new, hsg], ?_, ?_⟩
    · have : outL k [] = [] := by unfold outL; split <;> rfl
      rw [this]; exact World.ownsRow_nil _ _ _ _
    · have : tsL k [] = [] := by unfold tsL; split <;> rfl
      rw [this]; exact World.ownsRow_nil _ _ _ _)
  clear hL hS hs hn hsg
  go_enter Tryd.func18, Tryd.ntmps18
  go_wp2
  refine wp_scope_pre 0 (fun a' w' => ∃ (j : Nat) (bo : Option Addr) (bc : Nat) (u6 u7 u8 u9 u10 u11 u12 u13 u14 u15 u16 u17 u18 : Value), j ≤ n ∧ n - j ≤ bc ∧ a' = { tmps := #[.int .i64 (k : Int), .slice bo (n - j) bc, undef, undef, .slice none 0 0, .pointer (some ⟨w.heap.size, 0, none⟩), u6, u7, u8, u9, u10, u11, u12, u13, u14, u15, u16, u17, u18], defers := [] } ∧ SeenV w (.slice bo (n - j) bc) (l.drop j) ∧ WP w w' w.heap.size (w.heap.size + 1) (sgK k) (outL k (l.take j)) (tsL k (l.take j))) (fun a' _ => slen (a'.tmps.getD 1 undef)) rfl ?_ ?_
  · go_wp2_with (first
      | (go_at_call 30; (with_reducible refine HSG.out.mono ?_); rintro e w2 ⟨rfl, rfl⟩)
      | fail)
    exact ⟨0, ao, cap, _, _, _, _, _, _, _, _, _, _, _, _, _, Nat.zero_le _, hc1, rfl, HS.out, HWP.out⟩
  · rintro a' wi ⟨j, bo, bc, u6, u7, u8, u9, u10, u11, u12, u13, u14, u15, u16, u17, u18, hj, hbc, rfl, hs, hwp⟩
    have HSJ := Lib.hid hs; have HWJ := Lib.hid hwp
    have hjl : (l.drop j).length = n - j := by rw [List.length_drop, ← HN.out]
    clear hs hwp
    by_cases hjn : j = n
    · have e0 : n - j = 0 := by omega
      have E1 := Lib.hid (show l.take j = l by rw [hjn, HN.out, List.take_length])
      have HA := Lib.hid (pall_any hk HWJ.out (by rw [E1.out]; have h := HN.out; unfold tsL; split <;> simp <;> omega) (by
        unfold tsL
        split
        · intro x hx
          obtain ⟨v, -, rfl⟩ := List.mem_map.1 hx
          exact un_lt v.n
        · simp))
      rw [E1.out, all_enc] at HA
      rw [e0]
      clear e0 hjl hjn hbc
      go_wp2_with (first
        | (go_at_call 31; (with_reducible refine HA.out.mono ?_); rintro e w2 ⟨x, rfl, hc, ho⟩; have HC := Lib.hid hc; have HO := Lib.hid ho; clear hc ho)
        | fail)
      simp only [Exit.jump]
      go_ret
      exact ⟨_, rfl, HWJ.out.c0.trans HC.out (by simp), own_mono HO.out (by omega)⟩
    · have hlt : j < n := by omega
      have hp : 0 < n - j := by omega
      have hlen : ¬ (((n - j : Nat) : Int) = 0) := by omega
      have hlb : (((n - j : Nat) : Int) == 0) = false := by simpa using hlen
      obtain ⟨v, hv⟩ : ∃ v, l[j]? = some v := ⟨_, List.getElem?_eq_getElem (by rw [← HN.out]; exact hlt)⟩
      have hv0 : (l.drop j)[0]? = some v := by rw [List.getElem?_drop]; simpa using hv
      obtain ⟨g, off, rfl, hcell⟩ := HSJ.out.get hp
      obtain ⟨q0, q1⟩ := hcell 0 v hv0
      have x0 := HWJ.out.c0.cell q0 (by simp)
      have x1 := HWJ.out.c0.cell q1 (by simp)
      rw [Nat.zero_mul, Nat.add_zero] at x0 x1
      have hs2 := HSJ.out.sliced 1 (n - j) (by omega) (Nat.le_refl _)
      rw [show (l.drop j).take (n - j) = l.drop j by rw [← hjl, List.take_length]] at hs2
      have ht : l.take (j + 1) = l.take j ++ [v] := by rw [List.take_add_one, hv]; rfl
      have HV := Lib.hid (pvalue_any hk v HWJ.out (by rw [List.length_take]; omega) (fun x hx => HSZ.out x (List.mem_of_mem_take hx)) (HSZ.out v (List.mem_of_getElem? hv)))
      rw [← ht] at HV
      rw [List.drop_drop] at hs2
      have HS2 := Lib.hid hs2
      have HJ2 := Lib.hid (show n - j - 1 = n - (j + 1) by omega)
      clear hcell q0 q1 ht hv hv0 hs2 hjl
      go_wp2_with (first
        | (go_at_call 32; (with_reducible refine HV.out.mono ?_); rintro e w2 ⟨rfl, hw2⟩; have HW2 := Lib.hid hw2; clear hw2)
        | fail)
      all_goals
        go_step3
        have h2 := HS2.out
        have h3 := HJ2.out
        simp only [Go.sliced, Option.map_some, addr_add, Nat.one_mul, *, if_true, if_false] at h2
        rw [h3]
        exact ⟨rfl, ⟨j + 1, _, _, _, _, _, _, _, _, _, _, _, _, _, _, _, hlt, by omega, rfl, by simpa using h2, HW2.out⟩, by simp [slen]; omega⟩

end Go.Proofs.YtohgnbgijleoaaaDoor
