/- plain: signs, sizes; the writer: what it holds; number. -/
import Derived.Test.YtohgnbgijleoaaaDoorUa
import Derived.Test.YtohgnbgijleoaaaDoorLay
import Derived.Test.YtohgnbgijleoaaaDoorSa
import Derived.Test.YtohgnbgijleoaaaDoorRef
import Derived.Deep.DeepCutAuto
import Derived.Deep.CutBlock
import Derived.Deep.CutRange
namespace Go.Proofs.YtohgnbgijleoaaaDoor
open Go.RowKit
set_option linter.unusedVariables false
set_option linter.unusedSimpArgs false

/-- A kind's sign. -/
def sgK (k : Nat) : Int := if k = 1 then 98 else if k = 2 then 52 else if k = 3 then 56 else 116
/-- The sign of any number. -/
def sgI (k : Int) : Int := if k < 1 ∨ 4 < k then 45 else sgK k.toNat
theorem sgI_nat (k : Nat) (h : 1 ≤ k ∧ k ≤ 4) : sgI (k : Int) = sgK k := by unfold sgI; rw [if_neg (by omega), Int.toNat_natCast]

set_option maxRecDepth 100000 in
set_option maxHeartbeats 1000000 in
theorem signOf_any (k : Int) (w : World) (hk : -9223372036854775808 ≤ k ∧ k ≤ 9223372036854775807) (hL : Laid w) :
    Calls Tryd.prog 30 #[.int .i64 k] w fun e w' => e = .returned (.int .i32 (sgI k)) ∧ w = w' := by
  by_cases h1 : k < 0
  · have E := Lib.hid (show sgI k = 45 by unfold sgI; rw [if_pos (by omega)])
    rw [E.out]
    go_enter Tryd.func30, Tryd.ntmps30
    go_wp2
    go_ret
    exact ⟨rfl, rfl⟩
  · by_cases h2 : 5 ≤ k
    · have E := Lib.hid (show sgI k = 45 by unfold sgI; rw [if_pos (by omega)])
      rw [E.out]
      go_enter Tryd.func30, Tryd.ntmps30
      go_wp2
      go_ret
      exact ⟨rfl, rfl⟩
    · have x0 := hL.cell 0 (by decide)
      have x1 := hL.cell 1 (by decide)
      have x2 := hL.cell 2 (by decide)
      have x3 := hL.cell 3 (by decide)
      have x4 := hL.cell 4 (by decide)
      have hc : k = 0 ∨ k = 1 ∨ k = 2 ∨ k = 3 ∨ k = 4 := by omega
      clear hL
      rcases hc with rfl | rfl | rfl | rfl | rfl
      · have E := Lib.hid (show sgI 0 = 45 from rfl)
        rw [E.out]
        change w.cell? ⟨1, 0, none⟩ = some (.int .i32 45) at x0
        go_enter Tryd.func30, Tryd.ntmps30
        go_wp2
        go_ret
        exact ⟨rfl, rfl⟩
      · have E := Lib.hid (show sgI 1 = 98 from rfl)
        rw [E.out]
        change w.cell? ⟨1, 1, none⟩ = some (.int .i32 98) at x1
        go_enter Tryd.func30, Tryd.ntmps30
        go_wp2
        go_ret
        exact ⟨rfl, rfl⟩
      · have E := Lib.hid (show sgI 2 = 52 from rfl)
        rw [E.out]
        change w.cell? ⟨1, 2, none⟩ = some (.int .i32 52) at x2
        go_enter Tryd.func30, Tryd.ntmps30
        go_wp2
        go_ret
        exact ⟨rfl, rfl⟩
      · have E := Lib.hid (show sgI 3 = 56 from rfl)
        rw [E.out]
        change w.cell? ⟨1, 3, none⟩ = some (.int .i32 56) at x3
        go_enter Tryd.func30, Tryd.ntmps30
        go_wp2
        go_ret
        exact ⟨rfl, rfl⟩
      · have E := Lib.hid (show sgI 4 = 116 from rfl)
        rw [E.out]
        change w.cell? ⟨1, 4, none⟩ = some (.int .i32 116) at x4
        go_enter Tryd.func30, Tryd.ntmps30
        go_wp2
        go_ret
        exact ⟨rfl, rfl⟩

/-- How many bytes the number at the front of a value has. -/
def szK (k : Nat) : Nat := if k = 3 then 8 else 4

set_option maxRecDepth 100000 in
set_option maxHeartbeats 1000000 in
theorem psize_any (k : Nat) (w : World) (hk : k = 2 ∨ k = 3 ∨ k = 4) :
    Calls Tryd.prog 74 #[.int .i32 (sgK k)] w fun e w' => e = .returned (.int .i64 ((szK k : Nat) : Int)) ∧ w = w' := by
  rcases hk with rfl | rfl | rfl
  · rw [show sgK 2 = 52 from rfl, show ((szK 2 : Nat) : Int) = 4 from rfl]
    go_enter Tryd.func74, Tryd.ntmps74
    go_wp2
    go_ret
    exact ⟨rfl, rfl⟩
  · rw [show sgK 3 = 56 from rfl, show ((szK 3 : Nat) : Int) = 8 from rfl]
    go_enter Tryd.func74, Tryd.ntmps74
    go_wp2
    go_ret
    exact ⟨rfl, rfl⟩
  · rw [show sgK 4 = 116 from rfl, show ((szK 4 : Nat) : Int) = 4 from rfl]
    go_enter Tryd.func74, Tryd.ntmps74
    go_wp2
    go_ret
    exact ⟨rfl, rfl⟩

/-- How the writer stands. -/
structure WP (w0 w : World) (gw B : Nat) (sg : Int) (out ts : List Nat) : Prop where
  c0 : Chg [] w0 w
  g0 : w0.heap.size ≤ gw
  g1 : gw < B
  lB : B ≤ w.heap.size
  st : ∃ bv tv, w.heap[gw]? = some (.cells #[.int .i32 sg, bv, tv] 57 (0, 0)) ∧ w.ownsRow B 5 1 bv out.length (nv .u8 out) ∧ w.ownsRow B 67 1 tv ts.length (nv .u64 ts)

theorem WP.keep {w0 w w' : World} {gw B : Nat} {sg : Int} {out ts : List Nat} (h : WP w0 w gw B sg out ts) (hc : Chg [] w w') : WP w0 w' gw B sg out ts := by
  obtain ⟨bv, tv, h1, h2, h3⟩ := h.st
  exact ⟨h.c0.trans hc (by simp), h.g0, h.g1, Nat.le_trans h.lB hc.size, bv, tv, hc.heap h1 (by simp), own_chg h2 hc (by simp), own_chg h3 hc (by simp)⟩

theorem own_apart {w : World} {B B' T T' s s' : Nat} {v v' : Value} {n n' : Nat} {xs ys : List Value} (h : w.ownsRow B T s v n xs) (h' : w.ownsRow B' T' s' v' n' ys) (hT : T ≠ T') : ∀ g, v.ownBlock = some g → g ∉ v'.ownBlock.toList := by
  intro g hg hm
  simp at hm
  obtain ⟨cur, fr, hb⟩ := tagged_of_own h' g hm
  exact (tagged_of_own h).ne hb hT g hg rfl

/-- The writer's bytes grew, and were stored. -/
theorem WP.grow {w0 w w3 : World} {gw B n : Nat} {sg : Int} {bv tv v3 : Value} {out ts news : List Nat} (h : WP w0 w gw B sg out ts) (hbv : w.heap[gw]? = some (.cells #[.int .i32 sg, bv, tv] 57 (0, 0))) (hob : w.ownsRow B 5 1 bv out.length (nv .u8 out)) (hot : w.ownsRow B 67 1 tv ts.length (nv .u64 ts)) (hc : Chg bv.ownBlock.toList w w3) (ho : w3.ownsRow B 5 1 v3 n (nv .u8 out ++ nv .u8 news)) (hn : n = out.length + news.length) : WP w0 (w3.setCell ⟨gw, 1, none⟩ v3) gw B sg (out ++ news) ts := by
  have hg1 := h.g1
  have hB := own_ge hob
  have hBt := own_ge hot
  have hb3 : w3.heap[gw]? = some (.cells #[.int .i32 sg, bv, tv] 57 (0, 0)) := hc.heap hbv (fun hm => by simp at hm; have := hB gw hm; omega)
  have hs : Chg [gw] w3 (w3.setCell ⟨gw, 1, none⟩ v3) := (Chg.refl [gw] w3).setCell (by simp) _
  refine ⟨(h.c0.trans hc (fun t ht => .inr ?_)).trans hs (fun t ht => .inr ?_), h.g0, h.g1, Nat.le_trans (Nat.le_trans h.lB hc.size) hs.size, v3, tv, set31 hb3 _, ?_, ?_⟩
  · simp at ht
    have := hB t ht
    have := h.g0
    omega
  · simp at ht
    rw [ht]
    exact h.g0
  · rw [List.length_append, ← hn, show nv .u8 (out ++ news) = nv .u8 out ++ nv .u8 news by simp [nv]]
    exact own_chg ho hs (fun g hg hm => by simp at hm; have := own_ge ho g hg; omega)
  · exact own_chg (own_chg hot hc (own_apart hot hob (by decide))) hs (fun g hg hm => by simp at hm; have := hBt g hg; omega)

/-- The writer's truths grew, and were stored. -/
theorem WP.growT {w0 w w3 : World} {gw B n : Nat} {sg : Int} {bv tv v3 : Value} {out ts news : List Nat} (h : WP w0 w gw B sg out ts) (hbv : w.heap[gw]? = some (.cells #[.int .i32 sg, bv, tv] 57 (0, 0))) (hob : w.ownsRow B 5 1 bv out.length (nv .u8 out)) (hot : w.ownsRow B 67 1 tv ts.length (nv .u64 ts)) (hc : Chg tv.ownBlock.toList w w3) (ho : w3.ownsRow B 67 1 v3 n (nv .u64 ts ++ nv .u64 news)) (hn : n = ts.length + news.length) : WP w0 (w3.setCell ⟨gw, 2, none⟩ v3) gw B sg out (ts ++ news) := by
  have hg1 := h.g1
  have hB := own_ge hot
  have hBt := own_ge hob
  have hb3 : w3.heap[gw]? = some (.cells #[.int .i32 sg, bv, tv] 57 (0, 0)) := hc.heap hbv (fun hm => by simp at hm; have := hB gw hm; omega)
  have hs : Chg [gw] w3 (w3.setCell ⟨gw, 2, none⟩ v3) := (Chg.refl [gw] w3).setCell (by simp) _
  refine ⟨(h.c0.trans hc (fun t ht => .inr ?_)).trans hs (fun t ht => .inr ?_), h.g0, h.g1, Nat.le_trans (Nat.le_trans h.lB hc.size) hs.size, bv, v3, set32 hb3 _, ?_, ?_⟩
  · simp at ht
    have := hB t ht
    have := h.g0
    omega
  · simp at ht
    rw [ht]
    exact h.g0
  · exact own_chg (own_chg hob hc (own_apart hob hot (by decide))) hs (fun g hg hm => by simp at hm; have := hBt g hg; omega)
  · rw [List.length_append, ← hn, show nv .u64 (ts ++ news) = nv .u64 ts ++ nv .u64 news by simp [nv]]
    exact own_chg ho hs (fun g hg hm => by simp at hm; have := own_ge ho g hg; omega)

/-- Other blocks than the writer's and its bytes' are as they were. -/
def PKeep (gw : Nat) (w w' : World) : Prop := ∀ (g : Nat) (o : Obj), w.heap[g]? = some o → g ≠ gw → (∀ bv, w.cell? ⟨gw, 1, none⟩ = some bv → bv.ownBlock ≠ some g) → w'.heap[g]? = some o

set_option maxRecDepth 100000 in
set_option maxHeartbeats 4000000 in
theorem pnumber_any {w0 w : World} {gw B k : Nat} {out ts : List Nat} (hk : k = 2 ∨ k = 3 ∨ k = 4) (n : Int) (h : WP w0 w gw B (sgK k) out ts) (hl : out.length ≤ 100000000) :
    Calls Tryd.prog 60 #[.pointer (some ⟨gw, 0, none⟩), .int .i64 n] w fun e w' => e = .returned (.tuple #[]) ∧ WP w0 w' gw B (sgK k) (out ++ lo (szK k) (un n)) ts ∧ PKeep gw w w' := by
  obtain ⟨i0, hi, hz0, hz1, hz2⟩ := info_u8
  obtain ⟨bv, tv, hb, ho, hot⟩ := h.st
  obtain ⟨ba, bc, rfl⟩ := own_shape ho
  obtain ⟨c0, c1, -, f0, f1, -⟩ := cells3 hb
  have hsz : szK k ≤ 8 := by unfold szK; split <;> omega
  have HPS := Lib.hid (fun wx : World => psize_any k wx hk)
  obtain ⟨q, hq⟩ : ∃ q, q = szK k := ⟨_, rfl⟩
  obtain ⟨sg, hsg⟩ : ∃ s, s = sgK k := ⟨_, rfl⟩
  rw [← hq] at hsz HPS ⊢
  rw [← hsg] at h hb HPS c0 ⊢
  have HB := Lib.hid hb; have HO := Lib.hid ho; have HW := Lib.hid h; have HCL := Lib.hid c1; have HOT := Lib.hid hot
  have hv := un_wrap n
  have hu := un_lt n
  obtain ⟨u, hue⟩ : ∃ u, u = un n := ⟨_, rfl⟩
  rw [← hue] at hv hu ⊢
  have hvl := lo_length q u
  have HP := Lib.hid (fun (wx : World) => cput_nat (.slice none 0 0) [] q u wx hsz hu (by decide) (Seen.nil wx))
  obtain ⟨L, hLe⟩ : ∃ L, L = lo q u := ⟨_, rfl⟩
  rw [← hLe] at hvl HP ⊢
  obtain ⟨m, hm⟩ : ∃ m, m = out.length := ⟨_, rfl⟩
  rw [← hm] at hl HO HB c1 HCL
  have HM := Lib.hid hm
  have HGE := Lib.hid (show ∀ g, (Value.slice ba m bc).ownBlock = some g → B ≤ g from fun g hg => own_ge HO.out g hg)
  have HG1 := Lib.hid h.g1
  have HLB := Lib.hid h.lB
  clear h hb ho hm hk hq hsg hue hot hLe
  have HWS := Lib.hid (show ∀ w2, Chg [] w w2 → w2.cell? ⟨gw, 1, none⟩ = some (.slice ba m bc) ∧ w2.frozen? ⟨gw, 1, none⟩ = false from fun w2 hc => by
    obtain ⟨-, k1, -, -, k2, -⟩ := cells3 (hc.heap HB.out (by simp))
    exact ⟨k1, k2⟩)
  have HWT := Lib.hid (show ∀ w2 w3, Chg [] w w2 → Chg (Value.slice ba m bc).ownBlock.toList w2 w3 → w3.cell? ⟨gw, 1, none⟩ = some (.slice ba m bc) ∧ w3.frozen? ⟨gw, 1, none⟩ = false from fun w2 w3 hc hd => by
    obtain ⟨-, k1, -, -, k2, -⟩ := cells3 (hd.heap (hc.heap HB.out (by simp)) (fun hm => by simp at hm; have := HGE.out gw hm; have := HG1.out; omega))
    exact ⟨k1, k2⟩)
  have HONE := Lib.hid (nv_one .u8 L)
  have HM1 := Lib.hid (show m + (nv .u8 L).length ≤ maxLen by rw [nv_length]; unfold maxLen; omega)
  have HM2 := Lib.hid (show (m + (nv .u8 L).length) * 1 ≤ 140737488355328 by rw [nv_length]; omega)
  clear hvl
  go_enter Tryd.func60, Tryd.ntmps60
  go_upto_region 0 with fail
  go_region_law (first
    | (go_simp; go_at_call 74; (with_reducible refine (HPS.out _).mono ?_); rintro e w1 ⟨rfl, rfl⟩)
    | (go_simp; go_at_call 73; (with_reducible refine (HP.out _).mono ?_); rintro e w2 ⟨x, rfl, hc2, ho2⟩; obtain ⟨xa, xc, rfl⟩ := own_shape ho2; rw [List.nil_append] at ho2 ⊢; have hcc : Chg [] w w2 := (by first | exact hc2 | exact ((Chg.refl [] w).drew).trans hc2 (by simp) | exact ((Chg.refl [] w).drewN _).trans hc2 (by simp)); obtain ⟨k1, k2⟩ := HWS.out w2 hcc; have HO2 := Lib.hid (own_chg HO.out hcc (by simp)); have HX2 := Lib.hid (reads_of_own ho2).seen; have HC2 := Lib.hid hcc; have HL2 := Lib.hid (Nat.le_trans HLB.out hcc.size); clear hc2 ho2 hcc)
    | (refine step_append_reads (by rfl) (.tmp 8) (.tmp 16) 26 26 (by rfl) B 5 5 i0 (.int .u8 0) 1 Tryd.underlying26 Tryd.underlying26 hi hz0 hz1 hz2 (by rfl) (.slice ba m bc) m (nv .u8 out) (by rfl) HO2.out (.slice xa L.length xc) (nv .u8 L) (by rfl) HX2.out HONE.out HM1.out HM2.out HL2.out ?_; intro v3 w3 hown3 hgrow3; rw [nv_length] at hown3; obtain ⟨va, vc, rfl⟩ := own_shape hown3; have hcd : Chg (Value.slice ba m bc).ownBlock.toList w2 w3 := ((Chg.refl _ w2)).grown hgrow3 (fun g hg => .inl (by simp [hg])); obtain ⟨k3, k4⟩ := HWT.out w2 w3 HC2.out hcd; have HO3 := Lib.hid hown3; have HC3 := Lib.hid hcd; clear hown3 hgrow3 hcd))
  all_goals
    go_end0
    refine ⟨rfl, (HW.out.keep HC2.out).grow (HC2.out.heap HB.out (by simp)) (by rw [← HM.out]; exact own_chg HO.out HC2.out (by simp)) (own_chg HOT.out HC2.out (by simp)) HC3.out HO3.out (by rw [← HM.out]), fun g o hg hne hbb => ?_⟩
    have hr := hbb _ HCL.out
    exact ((Chg.refl [gw] w3).setCell (p := ⟨gw, 1, none⟩) (by simp) _).heap (HC3.out.heap (HC2.out.heap hg (by simp)) (fun hm => hr (by simpa using hm))) (by simpa using hne)

end Go.Proofs.YtohgnbgijleoaaaDoor
