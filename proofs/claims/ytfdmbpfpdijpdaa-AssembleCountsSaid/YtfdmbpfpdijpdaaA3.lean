/- Pa, Ct: texts of one group, one behind the other. -/
import Derived.Test.YtfdmbpfpdijpdaaA1
namespace Go.Proofs.Ytfdmbpfpdijpdaa
open Go.RowKit
set_option linter.unusedVariables false

/-- How Parents stands at its label: field i is next. -/
structure PJ (l : List F) (n : Nat) (w w' : World) (b2 i : Nat) (g : Int) (P C : List Int) (st : List (Nat × Int)) : Prop where
  le : i ≤ n
  lt : w.heap.size < b2
  lp : P.length = n
  lc : C.length = n
  bp : BlkI w' w.heap.size P
  bc : BlkI w' b2 C
  ch : Chain P C g st
  de : Desc i st
  eq : P.take i ++ par i (l.drop i) st = parents l
  cg : Chg [] w w'
  bd : ∀ x ∈ C, x ≤ 9223372036854775807

/-- What the groups lack once the innermost one has one more. -/
def decC (C : List Int) : List (Nat × Int) → List Int
  | [] => C
  | (q, x) :: _ => C.set q (x - 1)

theorem Chain.dec {P C : List Int} {g : Int} {st : List (Nat × Int)} {b : Nat} (h : Chain P C g st) (hd : Desc b st) : ∃ C1 : List Int, C1.length = C.length ∧ (C1 = decC C st) ∧ Chain P C1 g (decS st) := by
  cases st with
  | nil => exact ⟨C, rfl, rfl, h⟩
  | cons a t =>
    obtain ⟨q, x⟩ := a
    obtain ⟨h1, h2, p, h3, h4⟩ := h
    refine ⟨C.set q (x - 1), by simp, rfl, h1, ?_, p, h3, h4.setC hd.2 (Nat.le_refl _) _⟩
    rw [List.getElem?_set_self (List.getElem?_eq_some_iff.1 h2).1]

theorem set_le {C : List Int} {m : Int} (h : ∀ x ∈ C, x ≤ m) {v : Int} (hv : v ≤ m) (i : Nat) : ∀ x ∈ C.set i v, x ≤ m := by
  intro x hx
  rcases List.mem_or_eq_of_mem_set hx with h1 | rfl
  · exact h x h1
  · exact hv

theorem decC_le {P C : List Int} {g : Int} {st : List (Nat × Int)} {m : Int} (hc : Chain P C g st) (h : ∀ x ∈ C, x ≤ m) : ∀ x ∈ decC C st, x ≤ m := by
  cases st with
  | nil => exact h
  | cons a t =>
    obtain ⟨q, x⟩ := a
    exact set_le h (by have := h x (List.mem_of_getElem? hc.2.1); omega) q

theorem take_set (P : List Int) (i : Nat) (v : Int) (h : i < P.length) : (P.set i v).take (i + 1) = P.take i ++ [v] := by
  rw [List.take_add_one, List.getElem?_set_self h, List.take_set_of_le (Nat.le_refl _)]
  rfl

theorem par_step {l : List F} {i : Nat} {f : F} {st : List (Nat × Int)} (hf : l[i]? = some f) (hp : popS st = st) : par i (l.drop i) st = topS st :: par (i + 1) (l.drop (i + 1)) (pushS i f (decS st)) := by
  have hi := (List.getElem?_eq_some_iff.1 hf).1
  rw [List.drop_eq_getElem_cons hi]
  simp only [par, hp]
  rw [List.getElem?_eq_getElem hi] at hf
  injection hf with hf
  rw [hf]

theorem Chain.top {P C : List Int} {g : Int} {st : List (Nat × Int)} (h : Chain P C g st) : topS st = g := by
  cases st with
  | nil => exact h.symm
  | cons a t => exact h.1.symm

theorem PJ.leaf {l : List F} {n : Nat} {w wi w' : World} {b2 i : Nat} {g : Int} {P C C1 : List Int} {st : List (Nat × Int)} {f : F} (hJ : PJ l n w wi b2 i g P C st) (hf : l[i]? = some f) (hn : n = l.length) (hp : popS st = st) (hk : f.k ≠ 0)
    (hC1 : C1 = decC C st) (hb : BlkI w' w.heap.size (P.set i g)) (hc : BlkI w' b2 C1) (hg : Chg [] w w') : PJ l n w w' b2 (i + 1) g (P.set i g) C1 (decS st) := by
  have hbd : ∀ x ∈ C1, x ≤ 9223372036854775807 := by rw [hC1]; exact decC_le hJ.ch hJ.bd
  have hi := (List.getElem?_eq_some_iff.1 hf).1
  obtain ⟨C1', e1, e2, e3⟩ := hJ.ch.dec hJ.de
  have e : C1' = C1 := by rw [e2, hC1]
  subst e
  refine ⟨by omega, hJ.lt, by simp [hJ.lp], by rw [e1, hJ.lc], hb, hc, e3.setP hJ.de.dec (Nat.le_refl _) _, hJ.de.dec.mono (Nat.le_succ i), ?_, hg, hbd⟩
  rw [take_set P i g (by rw [hJ.lp]; omega), ← hJ.eq, par_step hf hp, hJ.ch.top]
  simp [pushS, hk]

theorem PJ.group {l : List F} {n : Nat} {w wi w' : World} {b2 i : Nat} {g : Int} {P C C1 : List Int} {st : List (Nat × Int)} {f : F} (hJ : PJ l n w wi b2 i g P C st) (hf : l[i]? = some f) (hn : n = l.length) (hp : popS st = st) (hk : f.k = 0)
    (hC1 : C1 = decC C st) (hb : BlkI w' w.heap.size (P.set i g)) (hc : BlkI w' b2 (C1.set i f.c)) (hg : Chg [] w w') (hw : f.c ≤ 9223372036854775807) : PJ l n w w' b2 (i + 1) i (P.set i g) (C1.set i f.c) ((i, f.c) :: decS st) := by
  have hbd : ∀ x ∈ C1.set i f.c, x ≤ 9223372036854775807 := set_le (by rw [hC1]; exact decC_le hJ.ch hJ.bd) hw i
  have hi := (List.getElem?_eq_some_iff.1 hf).1
  obtain ⟨C1', e1, e2, e3⟩ := hJ.ch.dec hJ.de
  have e : C1' = C1 := by rw [e2, hC1]
  subst e
  have hlc : C1'.length = n := by rw [e1, hJ.lc]
  refine ⟨by omega, hJ.lt, by simp [hJ.lp], by simp [hlc], hb, hc, ⟨rfl, by rw [List.getElem?_set_self (by omega)], g, by rw [List.getElem?_set_self (by rw [hJ.lp]; omega)], (e3.setP hJ.de.dec (Nat.le_refl _) _).setC hJ.de.dec (Nat.le_refl _) _⟩, ⟨Nat.lt_succ_self i, hJ.de.dec⟩, ?_, hg, hbd⟩
  rw [take_set P i g (by rw [hJ.lp]; omega), ← hJ.eq, par_step hf hp, hJ.ch.top]
  simp [pushS, hk]

theorem measure_next (n i : Nat) (g g' : Int) (hi : i < n) (hg : g' ≤ i) (hg0 : -1 ≤ g) : (n - (i + 1)) * (n + 1) + (g' + 1).toNat < (n - i) * (n + 1) + (g + 1).toNat := by
  have e : (n - i) * (n + 1) = (n - (i + 1)) * (n + 1) + (n + 1) := by
    rw [show n - i = (n - (i + 1)) + 1 from by omega, Nat.succ_mul]
  omega

abbrev PF (ao : Option Addr) (n cap B b2 : Nat) (g : Int) (i : Nat) (u : Nat → Value) : Act :=
  { tmps := #[.slice ao n cap, undef, .slice none 0 0, .slice (some ⟨B, 0, none⟩) n n, .slice (some ⟨b2, 0, none⟩) n n, .int .i64 g, .int .i64 (i : Int), u 7, u 8, u 9, u 10, u 11, u 12, u 13, u 14, u 15, u 16, u 17, u 18, u 19, u 20, u 21, u 22, u 23, u 24, u 25, u 26, u 27, u 28, u 29, u 30, u 31, u 32, u 33, u 34, u 35, u 36, u 37, u 38, u 39, u 40, u 41, u 42, u 43, u 44, u 45, u 46, u 47, u 48, u 49, u 50, u 51, u 52, u 53, u 54, u 55, u 56, u 57, u 58, u 59, u 60, u 61, u 62], defers := [] }

theorem PF_of {ao : Option Addr} {n cap B b2 : Nat} {g : Int} {i : Nat} {a : Act} (h : a = PF ao n cap B b2 g i (fun j => a.tmps.getD j undef)) : ∃ u, a = PF ao n cap B b2 g i u := ⟨_, h⟩

set_option maxRecDepth 100000 in
set_option maxHeartbeats 1000000 in
theorem parents_any (sv : Value) (l : List F) (w : World) (hS : SeenF w sv l) (hl : l.length ≤ 1000000) (hw : ∀ f ∈ l, f.c ≤ 9223372036854775807) :
    Calls Try.prog 69 #[sv] w fun e w' => e = .returned (.slice (some ⟨w.heap.size, 0, none⟩) l.length l.length) ∧ BlkI w' w.heap.size (parents l) ∧ Chg [] w w' := by
  obtain ⟨i0, hi, hz0, hz1, hz2⟩ := info_int
  obtain ⟨ao, cap, rfl, hc1, hc2⟩ := hS.shape
  have HS := Lib.hid hS; have HW := Lib.hid hw
  clear hS hw
  obtain ⟨n, hn⟩ : ∃ n, n = l.length := ⟨_, rfl⟩
  rw [← hn] at hc1 hl HS ⊢
  have HN := Lib.hid hn
  clear hn
  have hnm : n ≤ maxLen := by unfold maxLen; omega
  go_enter Try.func69, Try.ntmps69
  go_wp2_with fail
  refine wp_scope_pre3 0 (fun a' w' => ∃ (b2 i : Nat) (g : Int) (P C : List Int) (st : List (Nat × Int)), (∃ u, a' = PF ao n cap w.heap.size b2 g i u) ∧ PJ l n w w' b2 i g P C st)
    (fun a' _ => (n - (intOf (a'.tmps.getD 6 undef)).toNat) * (n + 1) + (intOf (a'.tmps.getD 5 undef) + 1).toNat) rfl ?_ ?_
  · go_wp2_with (at_make; refine wpList_make_full _ rfl _ _ 22 rfl w.heap.size 3 i0 (.int .i64 0) 1 Try.underlying22 hi hz0 hz1 .i64 .i64 _ _ n rfl rfl rfl rfl ?c1 ?c2 (Nat.le_refl _) ?_)
    case c1 => rw [hz2]; omega
    case c2 => exact hnm
    intro w1 hown1 hg1
    have hlt1 : w.heap.size < w1.heap.size := (hown1.lt w.heap.size rfl).2
    rw [cells_zeroi] at hown1
    have HB1 := Lib.hid (blkI_of_own hown1 rfl)
    have HC1 := Lib.hid ((Chg.refl [] w).grown hg1 (by simp))
    clear hown1 hg1
    go_wp2_with (at_make; refine wpList_make_full _ rfl _ _ 22 rfl w1.heap.size 3 i0 (.int .i64 0) 1 Try.underlying22 hi hz0 hz1 .i64 .i64 _ _ n rfl rfl rfl rfl ?d1 ?d2 (Nat.le_refl _) ?_)
    case d1 => rw [hz2]; omega
    case d2 => exact hnm
    intro w2 hown2 hg2
    rw [cells_zeroi] at hown2
    have HB2 := Lib.hid (blkI_of_own hown2 rfl)
    have HC12 := Lib.hid ((Chg.refl [] w1).grown hg2 (by simp))
    clear hown2 hg2
    go_wp2
    refine ⟨w1.heap.size, 0, -1, List.replicate n 0, List.replicate n 0, [], PF_of rfl, ?_⟩
    exact ⟨by omega, hlt1, by simp, by simp, HB1.out.chg HC12.out (by simp), HB2.out, rfl, trivial, by simp [parents], HC1.out.trans HC12.out (by simp), by simp⟩
  rintro a' wi ⟨b2, i, g, P, C, st, ⟨u, rfl⟩, hJ⟩
  unfold PF
  have HJ := Lib.hid hJ
  have hle := hJ.le
  clear hJ
  by_cases hlt : i = n
  · have hb : ((i : Int) == (n : Int)) = true := by simp [hlt]
    have E := Lib.hid (show P = parents l from by
      have h1 := HJ.out.eq
      rw [hlt, List.take_of_length_le (by rw [HJ.out.lp]; omega), List.drop_of_length_le (by rw [← HN.out]; omega)] at h1
      simpa [par] using h1)
    clear hlt
    go_wp2
    simp only [Exit.jump]
    go_ret
    exact ⟨rfl, by rw [← E.out]; exact HJ.out.bp, HJ.out.cg⟩
  have hb : ((i : Int) == (n : Int)) = false := by simp; omega
  have hin : i < n := by omega
  clear hlt
  have hil : i < l.length := by rw [← HN.out]; exact hin
  obtain ⟨f, hf⟩ : ∃ f, f = l[i] := ⟨_, rfl⟩
  have hfs : l[i]? = some f := by rw [hf]; exact List.getElem?_eq_getElem hil
  obtain ⟨gs, off, rfl, hcs⟩ := (HS.out.keep HJ.out.cg).at (by omega)
  obtain ⟨-, -, hk, hc⟩ := SeenF.cells hcs hfs
  have hgs : gs < w.heap.size := by
    obtain ⟨gs', off', e, hcs'⟩ := HS.out.at (by omega)
    injection e with e; injection e with e1 e2
    subst e1
    exact World.block_lt_of_cell? w _ (SeenF.cells hcs' hfs).1
  have hlt2 := HJ.out.lt
  have hne1 : gs ≠ w.heap.size := by omega
  have hne2 : gs ≠ b2 := by omega
  have hne3 : b2 ≠ w.heap.size := by omega
  have hfr1 : wi.frozen? ⟨w.heap.size, i, none⟩ = false := HJ.out.bp.frozen i
  have hfr2 : ∀ j, wi.frozen? ⟨b2, j, none⟩ = false := fun j => HJ.out.bc.frozen j
  have hP : wi.cell? ⟨w.heap.size, i, none⟩ = some (.int .i64 (P.getD i 0)) := HJ.out.bp.cell (by rw [List.getD, List.getElem?_eq_getElem (by rw [HJ.out.lp]; exact hin)]; rfl)
  have hC : wi.cell? ⟨b2, i, none⟩ = some (.int .i64 (C.getD i 0)) := HJ.out.bc.cell (by rw [List.getD, List.getElem?_eq_getElem (by rw [HJ.out.lc]; exact hin)]; rfl)
  have HF := Lib.hid hfs
  clear hcs hfs hf hgs
  have HNX := Lib.hid (fun g' => measure_next n i g g' hin)
  rcases st with - | ⟨⟨h, x⟩, t⟩
  · have hg : g = -1 := HJ.out.ch
    subst hg
    by_cases hk0 : f.k = 0
    · have hkb : (f.k == 0) = true := by simp [hk0]
      go_wp2_with fail
      go_region
      go_wp2
      go_step3
      refine ⟨rfl, ⟨b2, i + 1, (i : Int), P.set i (-1), C.set i f.c, [(i, f.c)], PF_of rfl, ?_⟩, ?_⟩
      · exact HJ.out.group HF.out HN.out rfl hk0 rfl (((HJ.out.bp.set i _).far (by simp; omega) _)) ((HJ.out.bc.far (by simp; omega) _).set i _) (((HJ.out.cg.setCell (by simp) _).setCell (by simp; omega) _).drew) (HW.out _ (List.mem_of_getElem? HF.out))
      · simpa [intOf] using HNX.out (i : Int) (Int.le_refl _) (Int.le_refl _)
    · have hkb : (f.k == 0) = false := by simp [hk0]
      go_wp2_with fail
      go_step3
      refine ⟨rfl, ⟨b2, i + 1, (-1 : Int), P.set i (-1), C, [], PF_of rfl, ?_⟩, ?_⟩
      · exact HJ.out.leaf HF.out HN.out rfl hk0 rfl (HJ.out.bp.set i _) (HJ.out.bc.far (by simp; omega) _) (HJ.out.cg.setCell (by simp) _)
      · simpa [intOf] using HNX.out (-1 : Int) (by omega) (Int.le_refl _)
  · obtain ⟨hg, hx, p, hp, hch⟩ := HJ.out.ch
    have hhi := HJ.out.de.1
    subst hg
    have hpc : wi.cell? ⟨w.heap.size, h, none⟩ = some (.int .i64 p) := HJ.out.bp.cell hp
    have hxc : wi.cell? ⟨b2, h, none⟩ = some (.int .i64 x) := HJ.out.bc.cell hx
    have hn1 : ((h : Int) == -1) = false := by simp
    have hn2 : ((h : Int) != -1) = true := by simp
    have HP := Lib.hid hp; have HX := Lib.hid hx; have HCH := Lib.hid hch
    clear hx hp hch
    by_cases hx1 : x < 1
    · have hxb : decide (x < 1) = true := by simpa using hx1
      have hpt : p = -1 ∨ 0 ≤ p ∧ p < h := by
        have h1 := HCH.out.top
        have h2 := topS_lt HJ.out.de.2
        rw [h1] at h2
        exact h2
      go_wp2_with fail
      go_step3
      refine ⟨rfl, ⟨b2, i, p, P, C, t, PF_of rfl, ?_⟩, ?_⟩
      · have e := HJ.out.eq
        rw [← par_pop, show popS ((h, x) :: t) = popS t from by simp [popS, hx1], par_pop] at e
        exact ⟨HJ.out.le, HJ.out.lt, HJ.out.lp, HJ.out.lc, HJ.out.bp, HJ.out.bc, HCH.out, HJ.out.de.2.mono (Nat.le_of_lt HJ.out.de.1), e, HJ.out.cg, HJ.out.bd⟩
      · simp [intOf]
        omega
    · have hxb : decide (x < 1) = false := by simpa using hx1
      have hxm : x ≤ 9223372036854775807 := HJ.out.bd x (List.mem_of_getElem? HX.out)
      have hps : popS ((h, x) :: t) = (h, x) :: t := by simp [popS, hx1]
      have HPS := Lib.hid hps
      clear hps
      by_cases hk0 : f.k = 0
      · have hkb : (f.k == 0) = true := by simp [hk0]
        go_wp2_with fail
        go_region
        go_wp2
        go_step3
        refine ⟨rfl, ⟨b2, i + 1, (i : Int), P.set i h, (C.set h (x - 1)).set i f.c, (i, f.c) :: (h, x - 1) :: t, PF_of rfl, ?_⟩, ?_⟩
        · exact HJ.out.group HF.out HN.out HPS.out hk0 rfl ((((HJ.out.bp.far (by simp; omega) _).set i _).far (by simp; omega) _)) ((((HJ.out.bc.set h _).far (by simp; omega) _).set i _)) ((((HJ.out.cg.setCell (by simp; omega) _).setCell (by simp) _).setCell (by simp; omega) _).drew) (HW.out _ (List.mem_of_getElem? HF.out))
        · simpa [intOf] using HNX.out (i : Int) (Int.le_refl _) (by omega)
      · have hkb : (f.k == 0) = false := by simp [hk0]
        go_wp2_with fail
        go_step3
        refine ⟨rfl, ⟨b2, i + 1, (h : Int), P.set i h, C.set h (x - 1), (h, x - 1) :: t, PF_of rfl, ?_⟩, ?_⟩
        · exact HJ.out.leaf HF.out HN.out HPS.out hk0 rfl ((HJ.out.bp.far (by simp; omega) _).set i _) ((HJ.out.bc.set h _).far (by simp; omega) _) ((HJ.out.cg.setCell (by simp; omega) _).setCell (by simp) _)
        · simpa [intOf] using HNX.out (h : Int) (by omega) (by omega)

end Go.Proofs.Ytfdmbpfpdijpdaa

namespace Go.Proofs.Ytfdmbpfpdijpdaa
open Go.RowKit
set_option linter.unusedVariables false

theorem rep_split (n k : Nat) (h : k < n) : List.replicate (n - k) (0 : Int) = 0 :: List.replicate (n - (k + 1)) 0 := by
  rw [show n - k = (n - (k + 1)) + 1 from by omega, List.replicate_succ]

theorem set_at {X : List Int} {n k : Nat} (hk : X.length = k) (h : k < n) (v : Int) : (X ++ List.replicate (n - k) 0).set k v = X ++ [v] ++ List.replicate (n - (k + 1)) 0 := by
  rw [rep_split n k h, List.set_append, if_neg (by omega), hk, Nat.sub_self]
  simp

theorem set_last (X Y : List Int) (v u : Int) : (X ++ [v] ++ Y).set X.length u = X ++ [u] ++ Y := by
  rw [List.append_assoc, List.set_append, if_neg (by omega), Nat.sub_self]
  simp

set_option maxRecDepth 100000 in
set_option maxHeartbeats 1000000 in
theorem count_any (g : Nat) (lb : Array Value) (b : Nat → Bool) (sv : Value) (l : List F) (w : World) (hS : SeenF w sv l) (hl : l.length ≤ 1000000) (hw : ∀ f ∈ l, f.c ≤ 9223372036854775807)
    (eg : ∀ args w, (callFunc g args).run Try.prog w = .ok (.enter g args) w)
    (hp : ∀ w', Chg [] w w' → ∀ i : Nat, i < l.length → Calls Try.prog g (#[.int .i64 (i : Int)] ++ lb) w' fun e w'' => e = .returned (.bool (b i)) ∧ Chg [] w' w'') :
    Calls Try.prog 70 #[sv, .func (.func g) #[] lb] w fun e w' => e = .returned (.slice (some ⟨w.heap.size, 0, none⟩) l.length l.length) ∧ BlkI w' w.heap.size (cntL b (parents l)) ∧ Chg [] w w' := by
  obtain ⟨i0, hi, hz0, hz1, hz2⟩ := info_int
  obtain ⟨ao, cap, rfl, hc1, hc2⟩ := hS.shape
  have HS := Lib.hid hS; have HW := Lib.hid hw; have HP := Lib.hid hp
  clear hS hw hp
  obtain ⟨n, hn⟩ : ∃ n, n = l.length := ⟨_, rfl⟩
  rw [← hn] at hc1 HS HP ⊢
  have hnm : n ≤ maxLen := by unfold maxLen; omega
  have hn2 : n ≤ 1000000 := by omega
  have HN := Lib.hid hn; have HL := Lib.hid hl
  clear hl
  obtain ⟨ps, hps⟩ : ∃ ps, ps = parents l := ⟨_, rfl⟩
  have HPL := Lib.hid (show ∀ (j : Nat) (x : Int), ps[j]? = some x → x = -1 ∨ 0 ≤ x ∧ x < j from fun j x h => parents_lt (l := l) (by rw [← hps]; exact h))
  have HLN := Lib.hid (show ps.length = n by rw [hps, parents_length, hn])
  have HPS := Lib.hid hps
  rw [← hps]
  clear hps hn
  go_enter Try.func70, Try.ntmps70
  go_wp2_with (at_make; refine wpList_make_full _ rfl _ _ 22 rfl w.heap.size 3 i0 (.int .i64 0) 1 Try.underlying22 hi hz0 hz1 .i64 .i64 _ _ n rfl rfl rfl rfl ?c1 ?c2 (Nat.le_refl _) ?_)
  case c1 => rw [hz2]; omega
  case c2 => exact hnm
  intro w1 hown1 hg1
  have hlt1 : w.heap.size < w1.heap.size := (hown1.lt w.heap.size rfl).2
  rw [cells_zeroi] at hown1
  have HB1 := Lib.hid (blkI_of_own hown1 rfl)
  have HC1 := Lib.hid ((Chg.refl [] w).grown hg1 (by simp))
  clear hown1 hg1
  go_wp2_with fail
  (with_reducible refine (parents_any _ l w1 (HS.out.keep HC1.out) HL.out HW.out).mono ?_)
  rw [← HN.out]
  rintro e w2 ⟨rfl, hb2, hk⟩
  rw [← HPS.out] at hb2
  have HB2 := Lib.hid hb2
  have HBn := Lib.hid (HB1.out.chg hk (by simp))
  have HC2 := Lib.hid (HC1.out.trans hk (by simp))
  clear hb2 hk HB1 HC1
  obtain ⟨B2, hB2⟩ : ∃ B2, B2 = w1.heap.size := ⟨_, rfl⟩
  rw [← hB2] at HB2 hlt1 ⊢
  clear hB2
  go_wp2
  go_loopw [14] (fun x w' => ∃ k : Nat, x = .int .i64 (k : Int) ∧ k ≤ n ∧ Chg [] w w' ∧ BlkI w' B2 ps ∧ BlkI w' w.heap.size (cntL b (ps.take k) ++ List.replicate (n - k) 0)) (fun x w' => n - (intOf x).toNat)
  case atStart => exact ⟨0, rfl, Nat.zero_le _, HC2.out, HB2.out, by simpa [cntL] using HBn.out⟩
  case round =>
    obtain ⟨k, rfl, hk, hc, hbp, hbn⟩ := hrel
    have HC := Lib.hid hc; have HBP := Lib.hid hbp; have HBN := Lib.hid hbn
    clear hc hbp hbn HBn
    by_cases hlt : k < n
    · obtain ⟨p, hp⟩ : ∃ p, ps[k]? = some p := ⟨_, List.getElem?_eq_getElem (by rw [HLN.out]; exact hlt)⟩
      have hpr := HPL.out k p hp
      have hpc : wr.cell? ⟨B2, k, none⟩ = some (.int .i64 p) := HBP.out.cell hp
      obtain ⟨X, hX⟩ : ∃ X, X = cntL b (ps.take k) := ⟨_, rfl⟩
      have hXl : X.length = k := by rw [hX, cntL_length, List.length_take, HLN.out]; omega
      have HXL := Lib.hid hXl
      have HST := Lib.hid (show cntL b (ps.take (k + 1)) = X ++ [(if p = -1 then 0 else X.getD p.toNat 0) + (if b k then 1 else 0)] by rw [cntL_take b ps k p hp, hX])
      have HBD := Lib.hid (show ∀ (j : Nat) (x : Int), X[j]? = some x → 0 ≤ x ∧ x ≤ j + 1 by rw [hX]; exact cntL_bound b ps HPL.out k (by rw [HLN.out]; omega))
      rw [← hX] at HBN
      clear hX hp hXl
      have hfr : wr.frozen? ⟨w.heap.size, k, none⟩ = false := HBN.out.frozen k
      have hne : B2 ≠ w.heap.size := by omega
      by_cases hp1 : p = -1
      case' pos =>
        subst hp1
        clear hpr
        obtain ⟨base, hbase⟩ : ∃ base : Int, base = 0 := ⟨_, rfl⟩
        have HBX := Lib.hid (show BlkI wr w.heap.size (X ++ [base] ++ List.replicate (n - (k + 1)) 0) by rw [hbase]; have h := HBN.out; rw [rep_split n k hlt] at h; simpa using h)
        have HCX := HC
        have HTX := Lib.hid (show ∀ c : Int, c = (if b k then 1 else 0) → cntL b (ps.take (k + 1)) = X ++ [base + c] from fun c hc => by rw [HST.out, hc, hbase]; simp)
        have hb1 : 0 ≤ base := by omega
        have hb2 : base ≤ k := by omega
        clear hbase
        go_wp2_with fail
      case' neg =>
        have hq : 0 ≤ p ∧ p < k := by
          rcases hpr with h | h
          · contradiction
          · exact h
        clear hpr
        obtain ⟨q, rfl⟩ : ∃ q : Nat, p = q := ⟨p.toNat, by omega⟩
        obtain ⟨base, hbase⟩ : ∃ base, X[q]? = some base := ⟨_, List.getElem?_eq_getElem (by rw [HXL.out]; omega)⟩
        have hqc : wr.cell? ⟨w.heap.size, q, none⟩ = some (.int .i64 base) := HBN.out.cell (by rw [List.getElem?_append_left (by rw [HXL.out]; omega)]; exact hbase)
        have hkc : wr.cell? ⟨w.heap.size, k, none⟩ = some (.int .i64 0) := HBN.out.cell (by rw [List.getElem?_append_right (by rw [HXL.out]; omega), HXL.out, Nat.sub_self, rep_split n k hlt]; rfl)
        have hbd := HBD.out q base hbase
        have hb1 : 0 ≤ base := hbd.1
        have hb2 : base ≤ k := by omega
        have HBX := Lib.hid (show BlkI (wr.setCell ⟨w.heap.size, k, none⟩ (.int .i64 base)) w.heap.size (X ++ [base] ++ List.replicate (n - (k + 1)) 0) by have h := HBN.out.set k base; rw [set_at HXL.out hlt] at h; exact h)
        have HCX := Lib.hid (HC.out.setCell (p := ⟨w.heap.size, k, none⟩) (by simp) (.int .i64 base))
        have HTX := Lib.hid (show ∀ c : Int, c = (if b k then 1 else 0) → cntL b (ps.take (k + 1)) = X ++ [base + c] from fun c hc => by rw [HST.out, hc, if_neg hp1]; simp [List.getD, hbase])
        have hn1 : ((q : Int) != -1) = true := by simp
        clear hbase hbd hp1
        go_wp2_with fail
      all_goals
        refine (HP.out _ HCX.out k hlt).mono ?_
        rintro e w3 ⟨rfl, hk3⟩
        have HBY := Lib.hid (HBX.out.chg hk3 (by simp))
        have HCY := Lib.hid (HCX.out.trans hk3 (by simp))
        have HBP3 := Lib.hid (show BlkI w3 B2 ps from by
          have h1 : BlkI w3 B2 ps := by
            refine BlkI.chg ?_ hk3 (by simp)
            first
              | exact HBP.out
              | exact HBP.out.far (by simp; omega) _
          exact h1)
        clear hk3
        have hyc : w3.cell? ⟨w.heap.size, k, none⟩ = some (.int .i64 base) := HBY.out.cell (by rw [List.append_assoc, List.getElem?_append_right (by rw [HXL.out]; omega), HXL.out, Nat.sub_self]; rfl)
        have hfr3 : w3.frozen? ⟨w.heap.size, k, none⟩ = false := HBY.out.frozen k
        cases hbk : b k
        · have E := Lib.hid (HTX.out 0 (by rw [hbk]; rfl))
          clear hbk
          go_wp2
          go_roundw
          case rel => exact ⟨k + 1, by go_num, by omega, HCY.out, HBP3.out, by rw [E.out]; simpa using HBY.out⟩
          case measure => simp [intOf]; omega
        · have E := Lib.hid (HTX.out 1 (by rw [hbk]; rfl))
          clear hbk
          go_wp2
          go_roundw
          case rel => exact ⟨k + 1, by go_num, by omega, HCY.out.setCell (by simp) _, HBP3.out.far (by simp; omega) _, by rw [E.out]; have h := HBY.out.set k (base + 1); rw [← HXL.out, set_last, HXL.out] at h; exact h⟩
          case measure => simp [intOf]; omega
    · have e : k = n := by omega
      have E := Lib.hid (show cntL b (ps.take k) ++ List.replicate (n - k) 0 = cntL b ps by rw [e, List.take_of_length_le (by rw [HLN.out]; omega)]; simp)
      clear e
      go_wp2
      go_ret
      exact ⟨rfl, by rw [← E.out]; exact HBN.out, HC.out⟩

end Go.Proofs.Ytfdmbpfpdijpdaa
