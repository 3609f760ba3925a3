/- stat: Of. -/
import Derived.Test.YtgfjmbjpikcffaaSown
import Derived.Test.YtgfjmbjpikcffaaUv
import Derived.Test.YtgfjmbjpikcffaaOg
import Derived.Deep.RegionHeld3
import Derived.StillTailTactics
namespace Go.Proofs.Ytgfjmbjpikcffaa
open Go.RowKit
set_option linter.unusedVariables false
set_option linter.unusedSimpArgs false

abbrev OfA (lf cl : Value) (B : Nat) (s5 s6 : Value) (u : Nat → Value) : Act :=
  { tmps := #[lf, cl, .pointer (some ⟨B, 0, none⟩), .pointer (some ⟨B + 1, 0, none⟩), .pointer (some ⟨B + 2, 0, none⟩), s5, s6, u 7, u 8, u 9, u 10, u 11, u 12, u 13, u 14, u 15, u 16, u 17, u 18, u 19, u 20, u 21, u 22, u 23, u 24, u 25, u 26, u 27, u 28, u 29, u 30, u 31, u 32, u 33, u 34, u 35, u 36, u 37, u 38, u 39, u 40, u 41, u 42, u 43, u 44, u 45, u 46, u 47], defers := [] }
theorem OfA_of {lf cl : Value} {B : Nat} {s5 s6 : Value} {x : Act} (h : x = OfA lf cl B s5 s6 (fun j => x.tmps.getD j undef)) : ∃ u, x = OfA lf cl B s5 s6 u := ⟨_, h⟩

/-- What is known, as a row. -/
abbrev stC (s : St) : Array Value := #[.int .i64 s.n, .bool s.h, .int .i64 s.a.n, .string s.a.s, .int .i64 s.b.n, .string s.b.s]

/-- How long a slice is. -/
def lenS : Value → Nat
  | .slice _ n _ => n
  | _ => 0

/-- How many there are. -/
def cntD (D : Int) (l : List Int) : Nat := (l.filter fun d => decide (d = D)).length

structure OfJ (k : Nat) (f r D : Int) (ds : List Int) (l : List V) (w w' : World) (i j : Nat) (s5 s6 : Value) : Prop where
  hi : i ≤ ds.length
  hj : j ≤ l.length
  hij : j ≤ i
  s5 : ∃ ao cap, s5 = .slice ao (ds.length - i) cap ∧ SeenI w s5 (ds.drop i)
  s6 : ∃ ao cap, s6 = .slice ao (l.length - j) cap ∧ SeenV w s6 (l.drop j)
  cnt : l.length - j = cntD D (ds.drop i)
  st : ∃ s, w'.heap[w.heap.size + 2]? = some (.cells (stC s) 37 (0, 0)) ∧ Is k (i - j) (l.take j) s
  b0 : w'.heap[w.heap.size]? = some (.cells #[.int .i64 f, .int .i64 r, .int .i64 D, .int .i64 (k : Int)] 28 (0, 0))
  cg : Chg [] w w'

theorem elem_ints17 : Try.prog.elem 29 = 3 := by kernel_rfl

theorem run_back_I {w : World} {ao : Option Addr} {n cap : Nat} {l : List Int} (h : SeenI w (.slice ao n cap) l) (hl : l.length = n) (hc : n ≤ cap) (lo : Nat) (h1 : lo ≤ n) :
    ∃ ao' cap', SeenI w (.slice ao' (n - lo) cap') (l.drop lo) ∧ ∀ wx, (Instr.slice 29 (.slice ao n cap) (some (.int .i64 (lo : Int))) none none).run Try.prog wx = .ok (.slice ao' (n - lo) cap') wx := by
  have hs := h.sliced lo n h1 (Nat.le_refl _)
  rw [show l.take n = l by rw [← hl, List.take_length]] at hs
  refine ⟨_, _, hs, fun wx => ?_⟩
  obtain ⟨i0, hi0, _, hz1, _⟩ := info_int
  rw [run_slice_l wx 29 ao n cap (by rw [elem_ints17]; exact Try.underlying29) .i64 lo (by omega) (by omega), elem_ints17]
  simp [sizeOf, typeInfo, hi0, hz1, Go.sliced]

/-- x[1:]. -/
theorem run_tail_i {w : World} {ao : Option Addr} {n cap : Nat} {l : List Int} (h : SeenI w (.slice ao n cap) l) (hl : l.length = n) (h1 : 1 ≤ n) :
    ∃ ao' cap', SeenI w (.slice ao' (n - 1) cap') (l.drop 1) ∧ ∀ wx, (Instr.slice 29 (.slice ao n cap) (some (.int .i64 1)) none none).run Try.prog wx = .ok (.slice ao' (n - 1) cap') wx := by
  obtain ⟨ao2, cap2, he, hc1, hc2⟩ := h.shape
  injection he with e1 e2 e3
  subst e1 e3
  exact run_back_I h hl (by omega) 1 h1

theorem run_tail_v {w : World} {ao : Option Addr} {n cap : Nat} {l : List V} (h : SeenV w (.slice ao n cap) l) (hl : l.length = n) (h1 : 1 ≤ n) :
    ∃ ao' cap', SeenV w (.slice ao' (n - 1) cap') (l.drop 1) ∧ ∀ wx, (Instr.slice 22 (.slice ao n cap) (some (.int .i64 1)) none none).run Try.prog wx = .ok (.slice ao' (n - 1) cap') wx := by
  obtain ⟨ao2, cap2, he, hc1, hc2⟩ := h.shape
  injection he with e1 e2 e3
  subst e1 e3
  exact run_back_v h hl (by omega) 1 h1

set_option maxRecDepth 100000 in
set_option maxHeartbeats 4000000 in
theorem of17_any (k : Nat) (hk : 1 ≤ k ∧ k ≤ 4) (f r D : Int) (rv dv vv : Value) (ds : List Int) (l : List V) (w : World) (hd : SeenI w dv ds) (hv : SeenV w vv l) (hl : ds.length ≤ 1000) (hok : ∀ x ∈ l, okV k x) (hc : l.length = cntD D ds) :
    Calls Try.prog 12 #[.agg #[.int .i64 f, .int .i64 r, .int .i64 D, .int .i64 (k : Int)], .agg #[rv, dv, vv]] w fun e w' => ∃ s, e = .returned (stV s) ∧ Chg [] w w' ∧ Is k (ds.length - l.length) l s := by
  obtain ⟨dao, dcap, rfl, dc1, dc2⟩ := hd.shape
  obtain ⟨vao, vcap, rfl, vc1, vc2⟩ := hv.shape
  have HCnt := Lib.hid hc
  clear hc
  go_enter Try.func12, Try.ntmps12
  go_wp2_with fail
  refine wp_scope_pre 0 (fun a' w' => ∃ s5 s6 i j, (∃ u, a' = OfA (.agg #[.int .i64 f, .int .i64 r, .int .i64 D, .int .i64 (k : Int)]) (.agg #[rv, .slice dao ds.length dcap, .slice vao l.length vcap]) w.heap.size s5 s6 u) ∧ OfJ k f r D ds l w w' i j s5 s6) (fun a' _ => lenS (a'.tmps.getD 5 undef)) rfl ?_ ?_
  · have X0 := ((Chg.refl [] _).alloc (.cells (stC ⟨0, false, v0, v0⟩) 37)).heap (((Chg.refl [] _).alloc (.cells #[rv, .slice dao ds.length dcap, .slice vao l.length vcap] 31)).heap (heap_alloc_new w (.cells #[.int .i64 f, .int .i64 r, .int .i64 D, .int .i64 (k : Int)] 28)) (by simp)) (by simp)
    have X2 : ((((w.alloc (.cells #[.int .i64 f, .int .i64 r, .int .i64 D, .int .i64 (k : Int)] 28)).alloc (.cells #[rv, .slice dao ds.length dcap, .slice vao l.length vcap] 31)).alloc (.cells (stC ⟨0, false, v0, v0⟩) 37))).heap[w.heap.size + 2]? = some (.cells (stC ⟨0, false, v0, v0⟩) 37 (0, 0)) := by
      have := heap_alloc_new ((w.alloc (.cells #[.int .i64 f, .int .i64 r, .int .i64 D, .int .i64 (k : Int)] 28)).alloc (.cells #[rv, .slice dao ds.length dcap, .slice vao l.length vcap] 31)) (.cells (stC ⟨0, false, v0, v0⟩) 37)
      simpa using this
    have HX0 := Lib.hid X0; have HX2 := Lib.hid X2
    have HC := Lib.hid ((((Chg.refl [] w).alloc (.cells #[.int .i64 f, .int .i64 r, .int .i64 D, .int .i64 (k : Int)] 28)).alloc (.cells #[rv, .slice dao ds.length dcap, .slice vao l.length vcap] 31)).alloc (.cells (stC ⟨0, false, v0, v0⟩) 37))
    clear X0 X2
    go_upto_region 1 with fail
    go_quiet (fail)
    go_wp2
    refine ⟨_, _, 0, 0, OfA_of rfl, ⟨Nat.zero_le _, Nat.zero_le _, Nat.le_refl _, ⟨_, _, rfl, hd⟩, ⟨_, _, rfl, hv⟩, HCnt.out, ⟨⟨0, false, v0, v0⟩, HX2.out, Is.zero k⟩, HX0.out, HC.out.drewN _⟩⟩
  · rintro a' w' ⟨s5, s6, i, j, ⟨u, rfl⟩, hJ⟩
    obtain ⟨hi, hj, hij, ⟨ao, cap, rfl, h5⟩, ⟨bo, bcap, rfl, h6⟩, hcnt, ⟨s, hst, hIs⟩, hb0, hcg⟩ := hJ
    have HS5 := Lib.hid h5; have HS6 := Lib.hid h6; have HST := Lib.hid hst; have HIS := Lib.hid hIs; have HB0 := Lib.hid hb0; have HCG := Lib.hid hcg
    have HSM := Lib.hid (hIs.small hk (by omega) (fun x hx => hok x (List.mem_of_mem_take hx)))
    obtain ⟨⟨p0, p1, p2, p3, p4, p5⟩, p6⟩ := six_cells hst
    have c2 : w'.cell? ⟨w.heap.size, 2, none⟩ = some (.int .i64 D) := by rw [cell_of_row _ _ _ _ _ _ hb0]; rfl
    have c3 : w'.cell? ⟨w.heap.size, 3, none⟩ = some (.int .i64 (k : Int)) := by rw [cell_of_row _ _ _ _ _ _ hb0]; rfl
    obtain ⟨n, hn⟩ : ∃ n, n = ds.length - i := ⟨_, rfl⟩
    obtain ⟨m, hm⟩ : ∃ m, m = l.length - j := ⟨_, rfl⟩
    rw [← hn] at HS5 ⊢
    rw [← hm] at HS6 hcnt ⊢
    have HN := Lib.hid hn; have HM := Lib.hid hm; have HCN := Lib.hid hcnt
    clear h5 h6 hst hIs hb0 hcg hn hm hcnt
    unfold OfA
    by_cases h0 : n = 0
    · subst h0
      have HE := Lib.hid (show i - j = ds.length - l.length ∧ l.take j = l by
        have a1 := HN.out; have a2 := HM.out; have a3 := HCN.out
        rw [List.drop_of_length_le (by omega)] at a3
        have a4 : m = 0 := a3
        exact ⟨by omega, List.take_of_length_le (by omega)⟩)
      have HO := Lib.hid (fun wx => own17_any s wx HSM.out)
      go_wp2_with (first
        | (go_at_call 20; (with_reducible refine (HO.out _).mono ?_); rintro e w2 ⟨rfl, hk2⟩; have HC2 := Lib.hid (HCG.out.trans hk2 (by simp)); have X2 := Lib.hid (hk2.heap HST.out (by simp)); obtain ⟨⟨q0, q1, q2, q3, q4, q5⟩, q6⟩ := six_cells X2.out; clear hk2)
        | fail)
      simp only [Exit.jump]
      refine ret_stat rfl rfl rfl (set6 X2.out _ _ _ _ _ _) ⟨s, rfl, ?_, by have := HIS.out; rw [HE.out.1, HE.out.2] at this; exact this⟩
      exact (((((HC2.out.setCell (.inr (by dsimp only; omega)) _).setCell (.inr (by dsimp only; omega)) _).setCell (.inr (by dsimp only; omega)) _).setCell (.inr (by dsimp only; omega)) _).setCell (.inr (by dsimp only; omega)) _).setCell (.inr (by dsimp only; omega)) _
    · have hni : i < ds.length := by have := HN.out; omega
      obtain ⟨x, hx⟩ : ∃ x, ds[i]? = some x := ⟨_, List.getElem?_eq_getElem hni⟩
      have HDR := Lib.hid (show ds.drop i = x :: ds.drop (i + 1) by rw [List.drop_eq_getElem_cons hni]; congr 1; rw [List.getElem?_eq_getElem hni] at hx; injection hx)
      have hlen : (ds.drop i).length = n := by have := HN.out; simp; omega
      obtain ⟨g, off, rfl, hget⟩ := SeenI.get HS5.out (by omega) hlen
      have x0 := HCG.out.cell (hget 0 (by omega)) (by simp)
      rw [HDR.out] at x0
      simp only [List.getD_cons_zero, Nat.add_zero] at x0
      obtain ⟨tao, tcap, HT, htl⟩ := run_tail_i HS5.out hlen (by omega)
      rw [HDR.out, List.drop_one, List.tail_cons] at HT
      have HTL := Lib.hid HT
      have d0 : ((n : Int) == 0) = false := by simp; omega
      have hb : n ≤ 1000 := by have := HN.out; omega
      clear hget hlen HT
      by_cases hxD : x = D
      · have hm0 : 0 < m := by
          have a3 := HCN.out
          rw [HDR.out] at a3
          unfold cntD at a3
          rw [List.filter_cons_of_pos (by simpa using hxD)] at a3
          simp at a3; omega
        have d1 : (x == D) = true := by simpa using hxD
        have d2 : decide (0 < (m : Int)) = true := by simp; omega
        have hlen2 : (l.drop j).length = m := by have := HM.out; simp; omega
        obtain ⟨g2, off2, rfl, hget2⟩ := SeenV.get HS6.out (by omega)
        obtain ⟨v, hv2⟩ : ∃ v, (l.drop j)[0]? = some v := ⟨_, List.getElem?_eq_getElem (by omega)⟩
        obtain ⟨z0, z1⟩ := hget2 0 v hv2
        rw [Nat.zero_mul, Nat.add_zero] at z0 z1
        have y0 := HCG.out.cell z0 (by simp)
        have y1 := HCG.out.cell z1 (by simp)
        obtain ⟨uao, ucap, HU, hul⟩ := run_tail_v HS6.out hlen2 (by omega)
        rw [List.drop_drop] at HU
        have HUL := Lib.hid HU
        have hok1 := hok v (List.mem_of_mem_drop (List.mem_of_getElem? hv2))
        have HB := Lib.hid (fun wx => both17_any k s ⟨0, true, v, v⟩ wx HSM.out ⟨by simp, ok_size hk hok1, ok_size hk hok1⟩)
        have HJ := Lib.hid (show Is k (i + 1 - (j + 1)) (l.take (j + 1)) (jnS k s ⟨0, true, v, v⟩) by
          have := HIS.out.join (Is.one k v)
          rw [show i + 1 - (j + 1) = i - j + 0 by omega, List.take_add_one]
          rw [List.getElem?_drop, Nat.add_zero] at hv2
          rw [hv2]
          exact this)
        have HCN2 := Lib.hid (show m - 1 = cntD D (ds.drop (i + 1)) by
          have a3 := HCN.out
          rw [HDR.out] at a3
          unfold cntD at a3 ⊢
          rw [List.filter_cons_of_pos (by simpa using hxD)] at a3
          simp at a3; omega)
        generalize jnS k s ⟨0, true, v, v⟩ = sj at HB HJ
        have HCL := Lib.hid (show ∀ wx, Chg [w.heap.size + 2] w' wx → wx.cell? ⟨w.heap.size, 3, none⟩ = some (.int .i64 (k : Int)) ∧ wx.cell? ⟨g2, off2, none⟩ = some (.int .i64 v.n) ∧ wx.cell? ⟨g2, off2 + 1, none⟩ = some (.string v.s) from fun wx h => ⟨h.cell c3 (by simp), (HCG.out.trans h (by simp)).cell z0 (by simp), (HCG.out.trans h (by simp)).cell z1 (by simp)⟩)
        clear hget2 hlen2 hv2 HU hok1
        go_upto_region 5 with fail
        go_quiet (fail)
        go_upto_region 6 with fail
        go_cut [43] (fun s43 wx => wx.heap[w.heap.size + 2]? = some (.cells (stC sj) 37 (0, 0)) ∧ Chg [w.heap.size + 2] w' wx)
        case first =>
          refine wp_region_held_drew (S := (fun wx => wx.cell? ⟨w.heap.size, 3, none⟩ = some (.int .i64 (k : Int)) ∧ wx.cell? ⟨g2, off2, none⟩ = some (.int .i64 v.n) ∧ wx.cell? ⟨g2, off2 + 1, none⟩ = some (.string v.s))) (by kernel_rfl) (HCL.out _ ((Chg.refl _ _).drewN _).drew) (fun hHeld => ?_)
          refine wpAnyH_take (i := 0) (oi := _) (v := ?_) rfl (by kernel_rfl) (by kernel_rfl) (by kernel_rfl) (fun _ _ _ h => h) (Or.inl ⟨by rfl, ?_⟩) (by assumption) ?_
          rotate_left
          · intro w hSw; (try dsimp only at hSw); go_simp; (try with_reducible rfl)
          try simp only [List.getElem_toArray, List.getElem_cons_succ, List.getElem_cons_zero, Act.put, List.setIfInBounds_toArray, List.set_cons_zero, List.set_cons_succ]
          refine wpAnyH_take (i := 1) (oi := _) (v := ?_) rfl (by kernel_rfl) (by kernel_rfl) (by kernel_rfl) (fun _ _ _ h => h) (Or.inl ⟨by rfl, ?_⟩) (by assumption) ?_
          rotate_left
          · intro w hSw; (try dsimp only at hSw); go_simp; (try with_reducible rfl)
          try simp only [List.getElem_toArray, List.getElem_cons_succ, List.getElem_cons_zero, Act.put, List.setIfInBounds_toArray, List.set_cons_zero, List.set_cons_succ]
          refine wpAnyH_take (i := 3) (oi := _) (v := ?_) rfl (by kernel_rfl) (by kernel_rfl) (by kernel_rfl) (fun _ _ _ h => h) (Or.inl ⟨by rfl, ?_⟩) (by assumption) ?_
          rotate_left
          · intro w hSw; (try dsimp only at hSw); go_simp; (try with_reducible rfl)
          try simp only [List.getElem_toArray, List.getElem_cons_succ, List.getElem_cons_zero, Act.put, List.setIfInBounds_toArray, List.set_cons_zero, List.set_cons_succ]
          refine wpAnyH_take (i := 4) (oi := _) (v := ?_) rfl (by kernel_rfl) (by kernel_rfl) (by kernel_rfl) (fun _ _ _ h => h) (Or.inl ⟨by rfl, ?_⟩) (by assumption) ?_
          rotate_left
          · intro w hSw; (try dsimp only at hSw); go_simp; (try with_reducible rfl)
          try simp only [List.getElem_toArray, List.getElem_cons_succ, List.getElem_cons_zero, Act.put, List.setIfInBounds_toArray, List.set_cons_zero, List.set_cons_succ]
          refine wpAnyH_take (i := 5) (oi := _) (v := ?_) rfl (by kernel_rfl) (by kernel_rfl) (by kernel_rfl) (fun _ _ _ h => h) (Or.inl ⟨by rfl, ?_⟩) (by assumption) ?_
          rotate_left
          · intro w hSw; (try dsimp only at hSw); go_simp; (try with_reducible rfl)
          try simp only [List.getElem_toArray, List.getElem_cons_succ, List.getElem_cons_zero, Act.put, List.setIfInBounds_toArray, List.set_cons_zero, List.set_cons_succ]
          refine wpAnyH_take (i := 6) (oi := _) (v := ?_) rfl (by kernel_rfl) (by kernel_rfl) (by kernel_rfl) (fun _ _ _ h => h) (Or.inl ⟨by rfl, ?_⟩) (by assumption) ?_
          rotate_left
          · intro w hSw; (try dsimp only at hSw); go_simp; (try with_reducible rfl)
          try simp only [List.getElem_toArray, List.getElem_cons_succ, List.getElem_cons_zero, Act.put, List.setIfInBounds_toArray, List.set_cons_zero, List.set_cons_succ]
          refine wpAnyH_take (i := 7) (oi := _) (v := ?_) rfl (by kernel_rfl) (by kernel_rfl) (by kernel_rfl) (fun _ _ _ h => h) (Or.inl ⟨by rfl, ?_⟩) (by assumption) ?_
          rotate_left
          · intro w hSw; (try dsimp only at hSw); go_simp; (try with_reducible rfl)
          try simp only [List.getElem_toArray, List.getElem_cons_succ, List.getElem_cons_zero, Act.put, List.setIfInBounds_toArray, List.set_cons_zero, List.set_cons_succ]
          refine wpAnyH_take (i := 8) (oi := _) (v := ?_) rfl (by kernel_rfl) (by kernel_rfl) (by kernel_rfl) (fun _ _ _ h => h) (Or.inl ⟨by rfl, ?_⟩) (by assumption) ?_
          rotate_left
          · intro w hSw; (try dsimp only at hSw); go_simp; (try with_reducible rfl)
          try simp only [List.getElem_toArray, List.getElem_cons_succ, List.getElem_cons_zero, Act.put, List.setIfInBounds_toArray, List.set_cons_zero, List.set_cons_succ]
          refine wpAnyH_take (i := 9) (oi := _) (v := ?_) rfl (by kernel_rfl) (by kernel_rfl) (by kernel_rfl) (fun _ _ _ h => h) (Or.inl ⟨by rfl, ?_⟩) (by assumption) ?_
          rotate_left
          · intro w hSw; (try dsimp only at hSw); go_simp; (try with_reducible rfl)
          try simp only [List.getElem_toArray, List.getElem_cons_succ, List.getElem_cons_zero, Act.put, List.setIfInBounds_toArray, List.set_cons_zero, List.set_cons_succ]
          refine wpAnyH_ready (rs := [2]) (by kernel_rfl) (by simp) ?_
          refine AllReadyH.cons (o := _) rfl (fun K hK => ?_) AllReadyH.nil
          go_simp
          refine hK.out _ _ (HCL.out _ ((Chg.refl _ _).drewN _).drew) (fun hHeld2 => ?_)
          clear hK K
          try simp only [Act.put, List.setIfInBounds_toArray, List.set_cons_zero, List.set_cons_succ]
          refine wpAnyH_ready (rs := [10]) (by kernel_rfl) (by simp) ?_
          refine AllReadyH.cons (o := _) rfl (fun K hK => ?_) AllReadyH.nil
          go_simp
          go_at_call 21; (with_reducible refine (HB.out _).mono ?_); rintro e w3 ⟨rfl, hk3⟩; have HK3 := Lib.hid ((((Chg.refl [] w').drewN _).drew).trans hk3 (by simp)); have X3 := Lib.hid (HK3.out.heap HST.out (by simp)); obtain ⟨⟨q0, q1, q2, q3, q4, q5⟩, q6⟩ := six_cells X3.out; clear hk3
          simp only [Act.put, List.setIfInBounds_toArray, List.set_cons_zero, List.set_cons_succ]
          refine hK.out _ _ (HCL.out _ (HK3.out.mono (by simp))) (fun hHeld3 => ?_)
          clear hK K
          try simp only [Act.put, List.setIfInBounds_toArray, List.set_cons_zero, List.set_cons_succ]
          refine wpAnyH_ready (rs := [11]) (by kernel_rfl) (by simp) ?_
          refine AllReadyH.cons (o := _) rfl (fun K hK => ?_) AllReadyH.nil
          go_simp
          refine hK.out _ _ (HCL.out _ (by refine Chg.setCell (Chg.setCell (Chg.setCell (Chg.setCell (Chg.setCell (Chg.setCell (HK3.out.mono (by simp)) (.inl (by simp)) _) (.inl (by simp)) _) (.inl (by simp)) _) (.inl (by simp)) _) (.inl (by simp)) _) (.inl (by simp)) _)) (fun hHeld4 => ?_)
          clear hK K
          try simp only [Act.put, List.setIfInBounds_toArray, List.set_cons_zero, List.set_cons_succ]
          refine wpAnyH_done (by kernel_rfl) ?_ _
          all_goals
            try go_wp2
            go_meet
            case rel => 
              refine ⟨set6 X3.out _ _ _ _ _ _, ?_⟩
              have h0 : Chg [w.heap.size + 2] w' _ := HK3.out.mono (by simp)
              exact (((((h0.setCell (.inl (by simp)) _).setCell (.inl (by simp)) _).setCell (.inl (by simp)) _).setCell (.inl (by simp)) _).setCell (.inl (by simp)) _).setCell (.inl (by simp)) _
        case rest =>
          obtain ⟨hst2, hcg2⟩ := hcut
          have HST2 := Lib.hid hst2; have HCG2 := Lib.hid hcg2
          clear hst2 hcg2
          go_wp2
          refine wp_goto ?_
          refine ⟨rfl, ⟨_, _, i + 1, j + 1, OfA_of rfl, ?_⟩, ?_⟩
          · have a1 := HN.out; have a2 := HM.out
            refine ⟨by omega, by omega, by omega, ⟨tao, tcap, by rw [show ds.length - (i + 1) = n - 1 by omega], ?_⟩, ⟨uao, ucap, by rw [show l.length - (j + 1) = m - 1 by omega], ?_⟩, ?_, ⟨sj, HST2.out, HJ.out⟩, HCG2.out.heap HB0.out (by simp), HCG.out.trans HCG2.out (by simp)⟩
            · exact HTL.out
            · exact HUL.out
            · rw [← HCN2.out]; omega
          · simp [lenS]; omega
      · have d1 : (x == D) = false := by simpa using hxD
        have HCN2 := Lib.hid (show m = cntD D (ds.drop (i + 1)) by
          have a3 := HCN.out
          rw [HDR.out] at a3
          unfold cntD at a3 ⊢
          rw [List.filter_cons_of_neg (by simpa using hxD)] at a3
          exact a3)
        have HJ := Lib.hid (show Is k (i + 1 - j) (l.take j) ⟨s.n + 1, s.h, s.a, s.b⟩ by
          have := HIS.out.null
          rw [show i + 1 - j = i - j + 1 by omega]
          exact this)
        have hsn := HSM.out.n
        go_upto_region 5 with fail
        go_quiet (fail)
        have HK := Lib.hid ((Chg.refl [] w').drewN nq)
        generalize w'.drewN nq = w2 at HK ⊢
        have X2 := Lib.hid (HK.out.heap HST.out (by simp))
        obtain ⟨⟨r0, r1, r2, r3, r4, r5⟩, r6⟩ := six_cells X2.out
        go_wp2
        refine wp_goto ?_
        refine ⟨rfl, ⟨_, _, i + 1, j, OfA_of rfl, ?_⟩, ?_⟩
        · have a1 := HN.out; have a2 := HM.out
          have hq : Chg [w.heap.size + 2] w' (w2.setCell ⟨w.heap.size + 2, 0, none⟩ (.int .i64 (s.n + 1))) := Chg.setCell (HK.out.mono (by simp)) (.inl (by simp)) _
          refine ⟨by omega, hj, by omega, ⟨tao, tcap, by rw [show ds.length - (i + 1) = n - 1 by omega], ?_⟩, ⟨bo, bcap, by rw [← HM.out], HS6.out⟩, ?_, ⟨_, heap_set X2.out _, HJ.out⟩, hq.heap HB0.out (by simp), HCG.out.trans hq (by simp)⟩
          · exact HTL.out
          · rw [← HCN2.out]; omega
        · simp [lenS]; omega

end Go.Proofs.Ytgfjmbjpikcffaa
