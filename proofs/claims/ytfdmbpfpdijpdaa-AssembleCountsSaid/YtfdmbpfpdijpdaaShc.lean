/- shred: down a way, field by field. -/
import Derived.Test.YtfdmbpfpdijpdaaShb
namespace Go.Proofs.Ytfdmbpfpdijpdaa
open Go.RowKit
set_option linter.unusedVariables false
set_option linter.unusedSimpArgs false

def firstLoop : Code → Option Code
  | .loop c => some c
  | .seq a b => match firstLoop a with
    | some c => some c
    | none => firstLoop b
  | .block _ c => firstLoop c
  | .scope c => firstLoop c
  | .cond _ a b => match firstLoop a with
    | some c => some c
    | none => firstLoop b
  | _ => none

noncomputable def downC : Code := ((Try.f109.body.bind firstLoop).getD .skip)

abbrev LF (l b1 b2 b : Nat) (fv rv : Value) (u : Nat → Value) : Act :=
  { tmps := #[.func (.yield l) #[] #[], .pointer (some ⟨b1, 0, none⟩), .pointer (some ⟨b2, 0, none⟩), u 3, fv, .pointer (some ⟨b, 0, none⟩), .pointer (some ⟨b + 1, 0, none⟩), rv, u 8, u 9, u 10, u 11, u 12, u 13, u 14, u 15, u 16, u 17, u 18, u 19, u 20, u 21, u 22, u 23, u 24, u 25, u 26, u 27, u 28, u 29, u 30, u 31, u 32, u 33, u 34, u 35, u 36, u 37, u 38, u 39, u 40, u 41, u 42, u 43, u 44, u 45, u 46, u 47, u 48, u 49, u 50, u 51, u 52, u 53, u 54, u 55, u 56, .pointer (some ⟨b + 2, 0, none⟩), u 58, u 59, u 60, u 61, u 62, u 63, u 64, u 65, u 66, u 67, u 68, u 69, u 70, u 71, u 72, u 73, u 74, u 75, u 76, u 77, u 78, u 79, u 80, u 81, u 82, u 83, u 84, u 85, u 86, u 87, u 88, u 89, u 90, u 91, u 92, u 93, u 94, u 95, u 96, u 97, u 98, u 99, u 100, u 101, u 102, u 103, u 104, u 105, u 106, u 107, u 108], defers := [] }

theorem LF_of {l b1 b2 b : Nat} {fv rv : Value} {a : Act} (h : a = LF l b1 b2 b fv rv (fun j => a.tmps.getD j undef)) : ∃ u, a = LF l b1 b2 b fv rv u := ⟨_, h⟩

/-- What is known on the way down. -/
structure WR (w0 : World) (B b1 b2 b fp fr fd m : Nat) (flv lv pv : Value) (sg sub : ByteArray) (W : List Stp) (S : List Nat) (JP : World → Prop) (REST : List Cl) (i rr dd : Nat) (t : Tr) (tkv : Value) (E : List (Fk × Value)) (fv : Value) (wx : World) : Prop where
  i1 : fp + i ≤ m
  e1 : E.length ≤ fp + i + 1
  r1 : rr ≤ fp + i
  d1 : dd ≤ fp + i
  ds : DS w0 B b1 b2 b fp fr fd flv lv pv sg W S JP fv E wx
  hx : wx.heap[b + 1]? = some (.cells #[.int .i64 (fr : Int), .int .i64 (dd : Int), .int .i64 t.n, .string t.s, tkv] 151 (0, 0))
  hi : wx.heap[b + 2]? = some (.stringIter sub i)
  kt : ∃ D, KidsAt w0 D t.k tkv
  ok : WayOk (W.drop (fp + i)) t
  tot : REST = cellsV (W.drop (fp + i)) rr dd fr t ++ forksC W (E.map (·.1))

def WI (l : Nat) (w0 : World) (B b1 b2 b fp fr fd m : Nat) (flv lv pv : Value) (sg sub : ByteArray) (W : List Stp) (S : List Nat) (JP : World → Prop) (REST : List Cl) (a : Act) (wx : World) : Prop :=
  ∃ (i rr dd : Nat) (t : Tr) (tkv : Value) (E : List (Fk × Value)) (fv : Value), (∃ u, a = LF l b1 b2 b fv (.int .i64 (rr : Int)) u) ∧ WR w0 B b1 b2 b fp fr fd m flv lv pv sg sub W S JP REST i rr dd t tkv E fv wx

/-- How the way down ends. -/
structure WE (w0 : World) (B b1 b2 b fp fr fd m : Nat) (flv lv pv : Value) (sg : ByteArray) (W : List Stp) (S : List Nat) (JP : World → Prop) (REST : List Cl) (dd : Nat) (t : Tr) (tkv : Value) (E : List (Fk × Value)) (fv : Value) (wx : World) : Prop where
  e1 : E.length ≤ m + 1
  ds : DS w0 B b1 b2 b fp fr fd flv lv pv sg W S JP fv E wx
  hx : wx.heap[b + 1]? = some (.cells #[.int .i64 (fr : Int), .int .i64 (dd : Int), .int .i64 t.n, .string t.s, tkv] 151 (0, 0))
  kt : ∃ D, KidsAt w0 D t.k tkv
  tot : REST = ⟨fr, dd, t⟩ :: forksC W (E.map (·.1))

/-- What does not change on the way down. -/
structure WC (w0 : World) (B b1 b2 b : Nat) (m : Nat) (lv pv : Value) (sg sub : ByteArray) (fp : Nat) (W : List Stp) (S : List Nat) (JP : World → Prop) : Prop where
  le : m = W.length ∧ m ≤ 1000
  bb : w0.heap.size ≤ B ∧ b1 < B ∧ b2 < B ∧ B ≤ b
  ss : sub.size = m - fp
  get : ∀ j (h : j < sub.size) (x : Stp), W[fp + j]? = some x → (sub[j]'h).toNat = sgn x.2
  pl : SeenI w0 pv (plc W)
  kp : ∀ A A' T, JP A → Chg T A A' → (∀ k ∈ T, k ∉ S) → JP A'

def WX (l : Nat) (w0 : World) (B b1 b2 b fp fr fd m : Nat) (flv lv pv : Value) (sg : ByteArray) (W : List Stp) (S : List Nat) (JP : World → Prop) (REST : List Cl) (Q : Exit → Act → World → Prop) : Prop :=
  ∀ (dd : Nat) (t : Tr) (tkv : Value) (E : List (Fk × Value)) (fv rv : Value) (u : Nat → Value) (wx : World), WE w0 B b1 b2 b fp fr fd m flv lv pv sg W S JP REST dd t tkv E fv wx → Q (.exit 0) (LF l b1 b2 b fv rv u) wx

theorem WX.go {l : Nat} {w0 : World} {B b1 b2 b fp fr fd m : Nat} {flv lv pv : Value} {sg : ByteArray} {W : List Stp} {S : List Nat} {JP : World → Prop} {REST : List Cl} {Q : Exit → Act → World → Prop} (h : WX l w0 B b1 b2 b fp fr fd m flv lv pv sg W S JP REST Q) {a : Act} {fv rv : Value} (ha : ∃ u, a = LF l b1 b2 b fv rv u)
    {dd : Nat} {t : Tr} {tkv : Value} {E : List (Fk × Value)} {wx : World} (he : WE w0 B b1 b2 b fp fr fd m flv lv pv sg W S JP REST dd t tkv E fv wx) : Q (.exit 0) a wx := by
  obtain ⟨u, rfl⟩ := ha
  exact h dd t tkv E fv rv u wx he

set_option maxRecDepth 100000 in
set_option maxHeartbeats 4000000 in
theorem down_over {l : Nat} {w0 : World} {B b1 b2 b fp fr fd m : Nat} {flv lv pv : Value} {sg sub : ByteArray} {W : List Stp} {S : List Nat} {JP : World → Prop} {REST : List Cl} {Q : Exit → Act → World → Prop} {i rr dd : Nat} {t : Tr} {tkv : Value} {E : List (Fk × Value)} {fv : Value} {wr : World} (u : Nat → Value) (K : Act → World → Prop)
    (hC : WC w0 B b1 b2 b m lv pv sg sub fp W S JP) (hR : WR w0 B b1 b2 b fp fr fd m flv lv pv sg sub W S JP REST i rr dd t tkv E fv wr) (hX : WX l w0 B b1 b2 b fp fr fd m flv lv pv sg W S JP REST Q) (hlt : ¬ i < sub.size) :
    downC.wp Try.prog (Exit.then K Q) (LF l b1 b2 b fv (.int .i64 (rr : Int)) u) wr := by
  have hnx : ∀ ty, (Instr.next (.pointer (some ⟨b + 2, 0, none⟩)) true ty).run Try.prog wr = _ := fun ty => Lib.run_next_end_at wr (b + 2) sub i ty hR.hi hlt
  have HX := Lib.hid hX
  have HE := Lib.hid (show WE w0 B b1 b2 b fp fr fd m flv lv pv sg W S JP REST dd t tkv E fv wr from ⟨by have := hC.le; have := hR.e1; have := hR.i1; omega, hR.ds, hR.hx, hR.kt, by rw [hR.tot, down_end (by have := hC.le; have := hC.ss; have := hR.i1; omega)]⟩)
  clear hX hR hC hlt
  conv => arg 2; whnf
  go_wp2
  exact HX.out.go (LF_of rfl) HE.out

theorem Chg.iterAtS {S : List Nat} {a w : World} (h : Chg S a w) {k : Nat} (hk : k ∈ S ∨ a.heap.size ≤ k) (s : ByteArray) (q : Nat) : Chg S a (w.iterAt k s q) :=
  h.trans (T := [k]) ⟨rfl, rfl, rfl, by show _ ≤ (w.heap.setIfInBounds k _).size; simp, fun j _ hj => by
    show (w.heap.setIfInBounds k _)[j]? = _
    rw [Array.getElem?_setIfInBounds_ne (by simpa [eq_comm] using hj)]⟩ (by simpa using hk)

/-- The measure. -/
def Wmu (m b : Nat) (wx : World) : Nat := m - itpS wx (b + 2)

theorem xcells {w : World} {x : Nat} {r d n s kv : Value} {T : TypeId} (h : w.heap[x]? = some (.cells #[r, d, n, s, kv] T (0, 0))) : w.cell? ⟨x, 0, none⟩ = some r ∧ w.cell? ⟨x, 1, none⟩ = some d ∧ w.cell? ⟨x, 2, none⟩ = some n ∧ w.cell? ⟨x, 3, none⟩ = some s ∧ w.cell? ⟨x, 4, none⟩ = some kv ∧ ∀ i, w.frozen? ⟨x, i, none⟩ = false := by
  refine ⟨?_, ?_, ?_, ?_, ?_, fun i => by simp [World.frozen?, h]⟩
  all_goals (rw [cell_of_row w x _ _ _ _ h]; rfl)

theorem encK_one (e : Fk × Value) (h : e.2.oneCell' = true) : ∀ u ∈ encK e, u.oneCell' = true := by
  intro u hu
  simp [encK] at hu
  rcases hu with rfl | rfl | rfl | rfl
  · exact h
  all_goals rfl

theorem DS.push {w0 : World} {B b1 b2 b fp fr fd p r d : Nat} {flv lv pv : Value} {sg : ByteArray} {W : List Stp} {S : List Nat} {JP : World → Prop} {fv fv' xv : Value} {E : List (Fk × Value)} {X : List Tr} {A A' : World} {o : Obj} (h : DS w0 B b1 b2 b fp fr fd flv lv pv sg W S JP fv E A)
    (hJ : ∀ A A' T, JP A → Chg T A A' → (∀ k ∈ T, k ∉ S) → JP A') (hB : w0.heap.size ≤ B ∧ b1 < B ∧ b2 < B) (hsz : b + 2 < A.heap.size)
    (hown : A'.ownsRow B 173 4 fv' (E.length + 1) (E.flatMap encK ++ encK (⟨X, p, r, d⟩, xv))) (hg : (A.alloc o).grownBy A' fv.ownBlock) (hat : fv'.ownBlock = fv.ownBlock ∨ fv'.ownBlock = some (A.alloc o).heap.size)
    (hl : ∃ dd, ListAt w0 dd X xv) (hf : FkOk W ⟨X, p, r, d⟩) (hp : E.length ≤ p) (hr : r ≤ p ∧ d ≤ p) : DS w0 B b1 b2 b fp fr fd flv lv pv sg W S JP fv' (E ++ [(⟨X, p, r, d⟩, xv)]) A' ∧ Chg fv.ownBlock.toList A A' := by
  have hc : Chg fv.ownBlock.toList A A' := ((Chg.refl _ A).alloc o).grown hg (fun q hq => .inl (by simp [hq]))
  have hT : ∀ k ∈ fv.ownBlock.toList, fv.ownBlock = some k := fun k hk => by simpa using hk
  have hlen : (E ++ [((⟨X, p, r, d⟩ : Fk), xv)]).length = E.length + 1 := by simp
  have hA : (A.alloc o).heap.size = A.heap.size + 1 := by simp
  refine ⟨⟨h.ki.step hc fun k hk => ?_, hJ _ _ _ h.j hc fun k hk => h.ro.s k (hT k hk), ⟨?_, rfl, fun e he => ?_, fun q hq => ?_, fun e he => ?_, fun j e he => ?_, fun e he => ?_⟩, hc.heap h.fb fun hm => ?_, h.bS, h.bb, fun q hq => ?_⟩, hc⟩
  · have := (h.ro.o.lt k (hT k hk)).1
    omega
  · rw [hlen, List.flatMap_append]
    simpa using hown
  · rcases List.mem_append.1 he with he | he
    · exact h.ro.l e he
    · simp at he; subst he; exact hl
  · rcases hat with h1 | h1
    · exact h.ro.s q (by rw [← h1]; exact hq)
    · rw [h1] at hq
      injection hq with hq
      intro hm
      have := (h.ki.sB q hm).2
      omega
  · rcases List.mem_append.1 he with he | he
    · exact h.ro.k e he
    · simp at he; subst he; exact hf
  · by_cases hj : j < E.length
    · rw [List.getElem?_append_left hj] at he
      exact h.ro.p j e he
    · rw [List.getElem?_append_right (by omega)] at he
      have h0 : j - E.length = 0 := by have := (List.getElem?_eq_some_iff.1 he).1; simp at this; omega
      rw [h0] at he
      simp at he
      subst he
      show j ≤ p
      omega
  · rcases List.mem_append.1 he with he | he
    · exact h.ro.q e he
    · simp at he; subst he; exact hr
  · have := h.own b (hT b hm)
    omega
  · rcases hat with h1 | h1
    · exact h.own q (by rw [← h1]; exact hq)
    · rw [h1] at hq
      injection hq with hq
      omega

theorem xset3 {w : World} {x : Nat} {r d n s kv n' s' kv' : Value} {T : TypeId} (h : w.heap[x]? = some (.cells #[r, d, n, s, kv] T (0, 0))) : (((w.setCell ⟨x, 2, none⟩ n').setCell ⟨x, 3, none⟩ s').setCell ⟨x, 4, none⟩ kv').heap[x]? = some (.cells #[r, d, n', s', kv'] T (0, 0)) := by
  have h1 := heap_set (i := 2) h n'
  have h2 := heap_set (i := 3) h1 s'
  exact heap_set (i := 4) h2 kv'

theorem xset1 {w : World} {x : Nat} {r d n s kv d' : Value} {T : TypeId} (h : w.heap[x]? = some (.cells #[r, d, n, s, kv] T (0, 0))) : (w.setCell ⟨x, 1, none⟩ d').heap[x]? = some (.cells #[r, d', n, s, kv] T (0, 0)) := heap_set (i := 1) h d'

set_option maxRecDepth 100000 in
set_option maxHeartbeats 4000000 in
theorem down_go {l : Nat} {w0 : World} {B b1 b2 b fp fr fd m : Nat} {flv lv pv : Value} {sg sub : ByteArray} {W : List Stp} {S : List Nat} {JP : World → Prop} {REST : List Cl} {Q : Exit → Act → World → Prop} {i rr dd : Nat} {t : Tr} {tkv : Value} {E : List (Fk × Value)} {fv : Value} {wr : World} (u : Nat → Value)
    (hC : WC w0 B b1 b2 b m lv pv sg sub fp W S JP) (hR : WR w0 B b1 b2 b fp fr fd m flv lv pv sg sub W S JP REST i rr dd t tkv E fv wr) (hX : WX l w0 B b1 b2 b fp fr fd m flv lv pv sg W S JP REST Q) (hlt : i < sub.size) :
    downC.wp Try.prog (Exit.then (fun a' w' => WI l w0 B b1 b2 b fp fr fd m flv lv pv sg sub W S JP REST a' w' ∧ Wmu m b w' < Wmu m b wr) Q) (LF l b1 b2 b fv (.int .i64 (rr : Int)) u) wr := by
  obtain ⟨i0, hi0, hz0, hz1, hz2⟩ := info_fork
  obtain ⟨hm1, hm2⟩ := hC.le
  have hss := hC.ss
  have hi1 := hR.i1
  have he1 := hR.e1
  have hr1 := hR.r1
  have hd1 := hR.d1
  obtain ⟨q, hq⟩ : ∃ q, q = fp + i := ⟨_, rfl⟩
  obtain ⟨⟨p, k⟩, hW⟩ : ∃ x, W[q]? = some x := ⟨_, List.getElem?_eq_getElem (by omega)⟩
  have hch := hC.get i hlt (p, k) (by rw [← hq]; exact hW)
  simp only at hch
  have hok := hR.ok
  rw [← hq] at hok
  obtain ⟨o1, o2, o3, o4⟩ := hok.next hW
  obtain ⟨D, hkt⟩ := hR.kt
  obtain ⟨tko, tkc, rfl, hk1, hk2⟩ := hkt.shape
  obtain ⟨D', gk, koff, rfl, rfl, hck⟩ := KidsAt.get hkt (by omega)
  obtain ⟨L, hL⟩ : ∃ L, t.k[p]? = some L := ⟨_, List.getElem?_eq_getElem o1⟩
  have hLD : t.k.getD p [] = L := by rw [List.getD, hL]; rfl
  rw [hLD] at o3 o4
  obtain ⟨lv4, hlc0, hll⟩ := hck p L hL
  obtain ⟨llo, llc, rfl, hl1, hl2⟩ := hll.shape
  have hpl := hC.pl
  obtain ⟨po, pc, rfl, hp1, hp2⟩ := hpl.shape
  obtain ⟨pn, hpn⟩ : ∃ pn, pn = (plc W).length := ⟨_, rfl⟩
  rw [← hpn] at hpl hp1 hC hR hX ⊢
  rw [plc_length] at hpn
  obtain ⟨gp, poff, rfl, hpc⟩ := SeenI.get hpl (by omega) (by rw [plc_length, hpn])
  have hpq := hpc q (by omega)
  have hpv : (plc W).getD q 0 = (p : Int) := by simp [plc, List.getD, hW]
  rw [hpv] at hpq
  have hnx : ∀ ty, (Instr.next (.pointer (some ⟨b + 2, 0, none⟩)) true ty).run Try.prog wr = _ := fun ty => Lib.run_next_ascii_at wr (b + 2) sub i ty hR.hi hlt (by rw [hch]; exact sgn_lt k)
  rw [hch] at hnx
  have HI1 := Lib.hid (Lib.iterAt_heap wr (b + 2) sub i (i + 1) hR.hi)
  have HC1 := Lib.hid (Chg.iterAtS (Chg.refl [b + 2] wr) (k := b + 2) (.inl (by simp)) sub (i + 1))
  have HD1 := Lib.hid (hR.ds.turn hC.kp HC1.out (by intro j hj; simp at hj; omega))
  have HX1 := Lib.hid (HC1.out.heap hR.hx (by simp))
  have HTP := Lib.hid (itpS_of hR.hi)
  have HTOT := Lib.hid hR.tot
  have HXX := Lib.hid hX; have HWC := Lib.hid hC; have HLL := Lib.hid hll; have HW := Lib.hid hW; have HLD := Lib.hid hLD; have HO4 := Lib.hid o4; have HO2 := Lib.hid o2; have HHM := Lib.hid hm1
  have HQ := Lib.hid hq
  generalize wr.iterAt (b + 2) sub (i + 1) = W1 at hnx HI1 HC1 HD1 HX1
  obtain ⟨c0, c1, c2, c3, c4, cf⟩ := xcells HX1.out
  have r1 := HD1.out.ki.c2
  have r2 : W1.cell? ⟨b, 1, none⟩ = some (.int .i64 (fp : Int)) := by rw [cell_of_row W1 b 1 _ _ _ HD1.out.fb]; rfl
  have r3 := HD1.out.ki.c.cell hpq (by simp)
  have r4 := HD1.out.ki.c.cell hlc0 (by simp)
  have hqw : IntKind.i64.wrap ((fp : Int) + (i : Int)) = (q : Int) := by rw [hq, IntWalk.i64_in _ (by omega)]; simp
  have hqw1 : IntKind.i64.wrap ((q : Int) + 1) = (q : Int) + 1 := IntWalk.i64_in _ (by omega)
  have hqp : q < pn := by have := (List.getElem?_eq_some_iff.1 HW.out).1; omega
  have HR := Lib.hid hR
  clear hX hR hC hll hW hch hck hpc hlc0 hpl hpv hpq hL hLD hok hkt o4 o2 hp1 hp2 hm1 hk1 hk2 hq hpn
  conv => arg 2; whnf
  go_upto_region 10 with fail
  go_quiet (fail)
  obtain ⟨W2, hW2⟩ : ∃ W2, W2 = W1.drewN nq := ⟨_, rfl⟩
  have HC2 := Lib.hid (show Chg [] W1 W2 by rw [hW2]; exact (Chg.refl [] W1).drewN nq)
  have HC12 := Lib.hid (HC1.out.trans HC2.out (by simp))
  have HD2 := Lib.hid (HD1.out.turn HWC.out.kp HC2.out (by simp))
  have HX2 := Lib.hid (HC2.out.heap HX1.out (by simp))
  have HI2 := Lib.hid (HC2.out.heap HI1.out (by simp))
  rw [← hW2]
  clear c0 c1 c2 c3 c4 cf r1 r2 r3 r4 hW2 hnx
  cases L with
  | nil =>
    have HE := Lib.hid (show WE w0 B b1 b2 b fp fr fd m flv lv (.slice (some ⟨gp, poff, none⟩) pn pc) sg W S JP REST dd t (.slice (some ⟨gk, koff, none⟩) t.k.length tkc) E fv W2 from ⟨by omega, HD2.out, HX2.out, ⟨_, HR.out.kt.choose_spec⟩, by rw [HTOT.out, ← HQ.out, down_none HW.out HLD.out]⟩)
    go_wp2
    exact HXX.out.go (LF_of rfl) HE.out
  | cons x X =>
    obtain ⟨g4, off4, rfl, hc4⟩ := HLL.out.get (by simp)
    obtain ⟨xkv, y0', y1', y2', hxk⟩ := hc4 0 x rfl
    have y0 := HD2.out.ki.c.cell y0' (by simp)
    have y1 := HD2.out.ki.c.cell y1' (by simp)
    have y2 := HD2.out.ki.c.cell y2' (by simp)
    simp only [Nat.zero_mul, Nat.add_zero] at y0 y1 y2
    obtain ⟨xo, xc, rfl, -, -⟩ := hxk.shape
    obtain ⟨c0, c1, c2, c3, c4, cf⟩ := xcells HX2.out
    have f0 := cf 0; have f1 := cf 1; have f2 := cf 2; have f3 := cf 3; have f4 := cf 4
    obtain ⟨N, hN⟩ : ∃ N, N = X.length := ⟨_, rfl⟩
    have HNX := Lib.hid hN
    have hn0 : ((N : Int) + 1 == 0) = false := by simp; omega
    have hlen : (x :: X).length = N + 1 := by simp [hN]
    rw [hlen] at HLL ⊢
    have HXK := Lib.hid hxk
    have HO4x := Lib.hid (HO4.out x (by simp))
    clear hc4 y0' y1' y2' hxk hN hlen cf
    have HX3 := Lib.hid (xset3 (n' := .int .i64 x.n) (s' := .string x.s) (kv' := .slice xo x.k.length xc) HX2.out)
    have HC3 := Lib.hid (show Chg [b + 1] W2 (((W2.setCell ⟨b + 1, 2, none⟩ (.int .i64 x.n)).setCell ⟨b + 1, 3, none⟩ (.string x.s)).setCell ⟨b + 1, 4, none⟩ (.slice xo x.k.length xc)) from (((Chg.refl [b + 1] W2).setCell (.inl (by simp)) _).setCell (.inl (by simp)) _).setCell (.inl (by simp)) _)
    have HD3 := Lib.hid (HD2.out.turn HWC.out.kp HC3.out (by intro j hj; simp at hj; omega))
    have HI3 := Lib.hid (HC3.out.heap HI2.out (by simp))
    have hdw : IntKind.i64.wrap ((dd : Int) + 1) = (dd : Int) + 1 := IntWalk.i64_in _ (by omega)
    have hrw : IntKind.i64.wrap ((rr : Int) + 1) = (rr : Int) + 1 := IntWalk.i64_in _ (by omega)
    have HMU := Lib.hid (show ∀ wz : World, wz.heap[b + 2]? = some (.stringIter sub (i + 1)) → Wmu m b wz < Wmu m b wr from fun wz h => by unfold Wmu; rw [itpS_of h, HTP.out]; omega)
    rcases HO2.out with rfl | rfl | rfl
    · have b1' : (((sgn 0 : Nat) : Int) != 33) = false := by decide
      have b2' : (((sgn 0 : Nat) : Int) == 42) = false := by decide
      go_wp2
      exact ⟨⟨i + 1, rr, dd, x, _, E, fv, LF_of rfl, by omega, by omega, by omega, by omega, HD3.out, HX3.out, HI3.out, ⟨_, HXK.out⟩, by rw [← Nat.add_assoc, ← HQ.out]; exact HO4x.out, by rw [HTOT.out, ← Nat.add_assoc, ← HQ.out, down_step HW.out HLD.out (by decide), if_pos rfl]⟩, HMU.out _ HI3.out⟩
    · have b1' : (((sgn 1 : Nat) : Int) != 33) = true := by decide
      have b2' : (((sgn 1 : Nat) : Int) == 42) = false := by decide
      have HC4 := Lib.hid ((HC3.out.setCell (p := ⟨b + 1, 1, none⟩) (.inl (by simp)) (.int .i64 ((dd : Int) + 1))))
      have HX4 := Lib.hid (xset1 (d' := .int .i64 ((dd : Int) + 1)) HX3.out)
      have HD4 := Lib.hid (HD2.out.turn HWC.out.kp HC4.out (by intro j hj; simp at hj; omega))
      have HI4 := Lib.hid (HC4.out.heap HI2.out (by simp))
      go_wp2
      exact ⟨⟨i + 1, rr, dd + 1, x, _, E, fv, LF_of rfl, by omega, by omega, by omega, by omega, HD4.out, by have h := HX4.out; exact h, HI4.out, ⟨_, HXK.out⟩, by rw [← Nat.add_assoc, ← HQ.out]; exact HO4x.out, by rw [HTOT.out, ← Nat.add_assoc, ← HQ.out, down_step HW.out HLD.out (by decide), if_neg (by decide)]⟩, HMU.out _ HI4.out⟩
    · have b1' : (((sgn 2 : Nat) : Int) != 33) = true := by decide
      have b2' : (((sgn 2 : Nat) : Int) == 42) = true := by decide
      have HC4 := Lib.hid ((HC3.out.setCell (p := ⟨b + 1, 1, none⟩) (.inl (by simp)) (.int .i64 ((dd : Int) + 1))))
      have HX4 := Lib.hid (xset1 (d' := .int .i64 ((dd : Int) + 1)) HX3.out)
      have HD4 := Lib.hid (HD2.out.turn HWC.out.kp HC4.out (by intro j hj; simp at hj; omega))
      have HI4 := Lib.hid (HC4.out.heap HI2.out (by simp))
      have htl := HLL.out
      have htl2 : ListAt w0 D' (x :: X) (.slice (some ⟨g4, off4, none⟩) (N + 1) llc) := htl
      obtain ⟨to', tc, htx, hsl⟩ := htl2.tail
      rw [Nat.add_sub_cancel] at htx hsl
      obtain ⟨fo, fcap, rfl⟩ := own_shape HD4.out.ro.o
      obtain ⟨n, hn⟩ : ∃ n, n = E.length := ⟨_, rfl⟩
      have HN := Lib.hid hn
      have HTX := Lib.hid htx
      rw [← hn] at he1 ⊢
      have HO4' := Lib.hid (show ∀ W4 : World, W4 = ((((W2.setCell ⟨b + 1, 2, none⟩ (.int .i64 x.n)).setCell ⟨b + 1, 3, none⟩ (.string x.s)).setCell ⟨b + 1, 4, none⟩ (.slice xo x.k.length xc)).setCell ⟨b + 1, 1, none⟩ (.int .i64 ((dd : Int) + 1))) → W4.ownsRow B 173 4 (.slice fo n fcap) n (E.flatMap encK) from fun W4 h => by rw [h, hn]; exact HD4.out.ro.o)
      clear hn htl htl2 htx
      obtain ⟨W4, hW4⟩ : ∃ W4, W4 = ((((W2.setCell ⟨b + 1, 2, none⟩ (.int .i64 x.n)).setCell ⟨b + 1, 3, none⟩ (.string x.s)).setCell ⟨b + 1, 4, none⟩ (.slice xo x.k.length xc)).setCell ⟨b + 1, 1, none⟩ (.int .i64 ((dd : Int) + 1))) := ⟨_, rfl⟩
      have HOW := Lib.hid (HO4'.out W4 hW4)
      have HW4 := Lib.hid hW4
      rw [← hW4] at HC4 HX4 HD4 HI4
      have hB4 : B ≤ W4.heap.size := Nat.le_of_lt (Nat.lt_of_le_of_lt HWC.out.bb.2.2.2 (Go.lt_of_block HD4.out.fb))
      obtain ⟨d0, d1, d2, d3, d4, df⟩ := xcells HX4.out
      have e1 : W4.cell? ⟨b, 1, none⟩ = some (.int .i64 (fp : Int)) := by rw [cell_of_row W4 b 1 _ _ _ HD4.out.fb]; rfl
      have HPR := Lib.hid (And.intro e1 d1)
      have HPA := Lib.hid (show ∀ o, (W4.alloc o).cell? ⟨b, 1, none⟩ = some (.int .i64 (fp : Int)) ∧ (W4.alloc o).cell? ⟨b + 1, 1, none⟩ = some (.int .i64 ((dd : Int) + 1)) from fun o => ⟨((Chg.refl [] W4).alloc o).cell e1 (by simp), ((Chg.refl [] W4).alloc o).cell d1 (by simp)⟩)
      clear hW4 HO4'
      go_upto_region 17 with fail
      rw [← HW4.out]
      clear y0 y1 y2 c0 c1 c2 c3 c4 f0 f1 f2 f3 f4 d0 d2 d3 d4 df
      have HNC := Lib.hid (show ∀ j u, (encK (⟨X, q + 1, rr + 1, dd + 1⟩, .slice to' N tc))[j]? = some u → (W4.alloc (.cells #[.slice to' N tc, .int .i64 ((q : Int) + 1), .int .i64 ((rr : Int) + 1), .int .i64 ((dd : Int) + 1)] 173)).drew.cell? ((⟨W4.heap.size, 0, none⟩ : Addr).add j) = some u from fun j u hu => new_cells (w := W4) (C := #[.slice to' N tc, .int .i64 ((q : Int) + 1), .int .i64 ((rr : Int) + 1), .int .i64 ((dd : Int) + 1)]) (T := 173) _ rfl j u hu)
      have HPU := Lib.hid (show ∀ (v5 : Value) (w5 : World), w5.ownsRow B 173 4 v5 (n + 1) (E.flatMap encK ++ encK (⟨X, q + 1, rr + 1, dd + 1⟩, .slice to' N tc)) → (W4.alloc (.cells #[.slice to' N tc, .int .i64 ((q : Int) + 1), .int .i64 ((rr : Int) + 1), .int .i64 ((dd : Int) + 1)] 173)).drew.grownBy w5 (Value.slice fo n fcap).ownBlock → (v5.ownBlock = (Value.slice fo n fcap).ownBlock ∨ v5.ownBlock = some (W4.alloc (.cells #[.slice to' N tc, .int .i64 ((q : Int) + 1), .int .i64 ((rr : Int) + 1), .int .i64 ((dd : Int) + 1)] 173)).drew.heap.size) →
          DS w0 B b1 b2 b fp fr fd flv lv (.slice (some ⟨gp, poff, none⟩) pn pc) sg W S JP v5 (E ++ [(⟨X, q + 1, rr + 1, dd + 1⟩, .slice to' N tc)]) w5 ∧ w5.heap[b]? = some (.cells #[flv, .int .i64 (fp : Int), .int .i64 (fr : Int), .int .i64 (fd : Int)] 173 (0, 0)) ∧ w5.heap[b + 1]? = some (.cells #[.int .i64 (fr : Int), .int .i64 ((dd : Int) + 1), .int .i64 x.n, .string x.s, .slice xo x.k.length xc] 151 (0, 0)) ∧ w5.heap[b + 2]? = some (.stringIter sub (i + 1)) from fun v5 w5 h1 h2 h3 => by
        obtain ⟨p1, p2⟩ := HD4.out.push (o := .cells #[.slice to' N tc, .int .i64 ((q : Int) + 1), .int .i64 ((rr : Int) + 1), .int .i64 ((dd : Int) + 1)] 173) (fv' := v5) (A' := w5) (X := X) (xv := .slice to' N tc) (p := q + 1) (r := rr + 1) (d := dd + 1) HWC.out.kp ⟨HWC.out.bb.1, HWC.out.bb.2.1, HWC.out.bb.2.2.1⟩ (Go.lt_of_block HI4.out) (by rw [← HN.out]; exact h1) (by rw [← HN.out]; exact ⟨h2.os, h2.tape, h2.output, h2.size, h2.block⟩) (by rw [← HN.out]; exact h3) ⟨_, HTX.out⟩ ⟨by have := HHM.out; have := (List.getElem?_eq_some_iff.1 HW.out).1; show q + 1 ≤ _; omega, fun y hy => HO4.out y (by simp [hy])⟩ (by have := HN.out; have := HQ.out; omega) (by have := HQ.out; omega)
        have hno : ∀ j, b ≤ j → j ≤ b + 2 → j ∉ (Value.slice fo E.length fcap).ownBlock.toList := fun j h4 h5 hm => by have := HD4.out.own j (by simpa using hm); omega
        exact ⟨p1, p2.heap HD4.out.fb (hno b (by omega) (by omega)), p2.heap HX4.out (hno _ (by omega) (by omega)), p2.heap HI4.out (hno _ (by omega) (by omega))⟩)
      go_region_held3 (fun w' => w'.cell? ⟨b, 1, none⟩ = some (.int .i64 (fp : Int)) ∧ w'.cell? ⟨b + 1, 1, none⟩ = some (.int .i64 ((dd : Int) + 1))) (first | exact HPR.out | exact HPA.out _ | exact HPR5.out) (first
        | (refine step_append_at (by rfl) (.tmp 92) (.tmp 104) 174 (by rfl) B 173 i0 (.agg #[.slice none 0 0, .int .i64 0, .int .i64 0, .int .i64 0]) 4 48 Try.underlying174 hi0 hz0 hz1 hz2 (by rfl) (by decide) (.slice fo n fcap) n (E.flatMap encK) (by rfl) (HOW.out.alloc _) ⟨W4.heap.size, 0, none⟩ 1 1 (encK (⟨X, q + 1, rr + 1, dd + 1⟩, .slice to' N tc)) (by rfl) (by rfl) HNC.out (encK_one _ (by rfl)) (by unfold maxLen; omega) (by omega) (by simp; omega) ?_; intro v5 w5 hown5 hgrow5 hat5; have HZ5 := Lib.hid (HPU.out v5 w5 hown5 hgrow5 hat5); have HPR5 := Lib.hid (show w5.cell? ⟨b, 1, none⟩ = some (.int .i64 (fp : Int)) ∧ w5.cell? ⟨b + 1, 1, none⟩ = some (.int .i64 ((dd : Int) + 1)) from ⟨(by rw [cell_of_row w5 b 1 _ _ _ HZ5.out.2.1]; rfl), (xcells HZ5.out.2.2.1).2.1⟩)))
      obtain ⟨z1, z2, z3, z4⟩ := HZ5.out
      exact ⟨⟨i + 1, rr + 1, dd + 1, x, _, _, v5, LF_of rfl, by omega, by have := HN.out; simp; omega, by omega, by omega, z1, z3, z4, ⟨_, HXK.out⟩, by rw [← Nat.add_assoc, ← HQ.out]; exact HO4x.out, by rw [HTOT.out, ← Nat.add_assoc, ← HQ.out, down_many HW.out HLD.out, List.map_append]; rfl⟩, HMU.out _ z4⟩

theorem down_any {l : Nat} {w0 : World} {B b1 b2 b fp fr fd m : Nat} {flv lv pv : Value} {sg sub : ByteArray} {W : List Stp} {S : List Nat} {JP : World → Prop} {REST : List Cl} {Q : Exit → Act → World → Prop} {i rr dd : Nat} {t : Tr} {tkv : Value} {E : List (Fk × Value)} {fv : Value} {wr : World} {a : Act} (ha : ∃ u, a = LF l b1 b2 b fv (.int .i64 (rr : Int)) u)
    (hC : WC w0 B b1 b2 b m lv pv sg sub fp W S JP) (hR : WR w0 B b1 b2 b fp fr fd m flv lv pv sg sub W S JP REST i rr dd t tkv E fv wr) (hX : WX l w0 B b1 b2 b fp fr fd m flv lv pv sg W S JP REST Q) :
    (Code.loop downC).wp Try.prog Q a wr := by
  obtain ⟨u, rfl⟩ := ha
  refine wp_loop (WI l w0 B b1 b2 b fp fr fd m flv lv pv sg sub W S JP REST) (fun _ w => Wmu m b w) ⟨i, rr, dd, t, tkv, E, fv, ⟨u, rfl⟩, hR⟩ ?_
  rintro a w ⟨i, rr, dd, t, tkv, E, fv, ⟨u, rfl⟩, hR⟩
  by_cases hlt : i < sub.size
  · exact down_go u hC hR hX hlt
  · exact down_over u _ hC hR hX hlt

end Go.Proofs.Ytfdmbpfpdijpdaa
