/- The walk of the statements' Make. -/
import Derived.Test.YtfdmbpfpdijpdaaA1
import Derived.Test.YtfdmbpfpdijpdaaA4
import Derived.Deep.DeepCutAuto
import Derived.Deep.CutBlock
namespace Go.Proofs.Ytfdmbpfpdijpdaa
open Go.RowKit
set_option linter.unusedVariables false

theorem own_front {w : World} {B T g n cap : Nat} {xs : List Value} (h : w.ownsRow B T 1 (.slice (some ⟨g, 0, none⟩) n cap) n xs) (m : Nat) (hm : m ≤ n) : w.ownsRow B T 1 (.slice (some ⟨g, 0, none⟩) m cap) m (xs.take m) := by
  obtain ⟨hl, h1⟩ := h
  rcases h1 with ⟨he, hn⟩ | ⟨g', cap', cur, he, hb, hg, hc, hmx, hs, ht⟩
  · cases he
  · injection he with e1 e2 e3
    injection e1 with e1
    injection e1 with e1
    subst e1 e3
    refine ⟨by simp; omega, .inr ⟨g, cap, cur, rfl, hb, hg, by omega, hmx, hs, ?_⟩⟩
    rw [← ht, List.take_take]
    congr 1
    omega

/-- The groups that are open, as they lie in memory: the innermost one last. -/
def ov (o : List Nat) : List Int := o.reverse.map fun (n : Nat) => (n : Int)
@[simp] theorem ov_length (o : List Nat) : (ov o).length = o.length := by simp [ov]
theorem ov_last (g : Nat) (t : List Nat) : (ov (g :: t))[t.length]? = some (g : Int) := by
  simp [ov]
theorem ov_pop (g : Nat) (t : List Nat) : (ov (g :: t)).take t.length = ov t := by
  simp [ov]

theorem within_k (a n : Int) (m : Nat) (w : World) (hn : n = (m : Int)) (h1 : 1 ≤ m) (h2 : m ≤ 4611686018427387904) (h : (Lit.int .i64 a).wf = true) {Q : Ending → World → Prop} (hQ : Q (.returned (.int .i64 (((a % m).toNat : Nat) : Int))) w) :
    Calls Try.prog 39 #[.int .i64 a, .int .i64 n] w Q :=
  (within_int a n m w hn h1 h2 h).mono fun e w' h => by
    obtain ⟨rfl, rfl⟩ := h
    exact hQ

theorem cv_block {w : World} {g i : Nat} {T : TypeId} {fr : Nat × Nat} {nmI : ByteArray} (hb : w.heap[g]? = some (.cells #[.int .u8 (97 + (i : Int))] T fr)) (hn : nmI = str [97 + i] ∧ i < 12) :
    (convert 75 9 (.slice (some ⟨g, 0, none⟩) 1 1)).run Try.prog w = .ok (.string nmI) w := by
  rw [hn.1]
  refine conv_seen Try.underlying75 Try.underlying5 Try.underlying9 (.inr ⟨⟨g, 0, none⟩, 1, rfl, Nat.le_refl _, by decide, fun j u hu => ?_⟩) rfl (by intro x hx; simp at hx; have := hn.2; omega)
  rw [addr_add, Nat.zero_add, cell_of_row w g j _ _ _ hb, ← hu]
  simp [nv]

theorem hl_new {w : World} {g : Nat} {o : Obj} (h : g = w.heap.size) : (w.alloc o).heap[g]? = some o := by
  subst h
  exact heap_alloc_new w o
theorem hl_old {w : World} {g : Nat} {o p : Obj} (h : w.heap[g]? = some p) : (w.alloc o).heap[g]? = some p :=
  ((Chg.refl [] w).alloc o).heap h (by simp)

theorem Chg.four {S : List Nat} {wc w' : World} {g : Nat} {a b c d : Value} (h : Chg S wc w') (hg : wc.heap.size ≤ g) : Chg S wc ((((w'.setCell ⟨g, 0, none⟩ a).setCell ⟨g, 1, none⟩ b).setCell ⟨g, 2, none⟩ c).setCell ⟨g, 3, none⟩ d) :=
  (((h.setCell (.inr hg) _).setCell (.inr hg) _).setCell (.inr hg) _).setCell (.inr hg) _
theorem heap_far {w : World} {p : Addr} {g : Nat} {o : Obj} (h : w.heap[g]? = some o) (hp : g ≠ p.block) (u : Value) : (w.setCell p u).heap[g]? = some o := (Below.heap_setCell w p u g hp).trans h
theorem heap_four4 {w : World} {g : Nat} {p q r s a b c d : Value} {T : TypeId} (h : w.heap[g]? = some (.cells #[p, q, r, s] T (0, 0))) : ((((w.setCell ⟨g, 0, none⟩ a).setCell ⟨g, 1, none⟩ b).setCell ⟨g, 2, none⟩ c).setCell ⟨g, 3, none⟩ d).heap[g]? = some (.cells #[a, b, c, d] T (0, 0)) :=
  heap_set (heap_set (heap_set (heap_set h a) b) c) d
theorem heap_four {w : World} {g k : Nat} {p q r s a b c d : Value} {T : TypeId} {C : Array Value} {T' : TypeId} {fr : Nat × Nat} (h : w.heap[g]? = some (.cells #[p, q, r, s] T (0, 0))) (hk : w.heap[k]? = some (.cells C T' fr)) (hT : T' ≠ T) :
    ((((w.setCell ⟨g, 0, none⟩ a).setCell ⟨g, 1, none⟩ b).setCell ⟨g, 2, none⟩ c).setCell ⟨g, 3, none⟩ d).heap[k]? = some (.cells C T' fr) := by
  have hne : k ≠ g := fun e => by
    subst e
    rw [h] at hk
    injection hk with hk
    injection hk with _ h2
    exact hT h2.symm
  exact heap_far (heap_far (heap_far (heap_far hk hne _) hne _) hne _) hne _

theorem flat_set3 (l : List F) : ∀ (g : Nat) (f : F) (v : Int), l[g]? = some f → (l.flatMap F.cs).set (g * 4 + 3) (.int .i64 v) = (l.set g { f with c := v }).flatMap F.cs := by
  induction l with
  | nil => intro g f v h; simp at h
  | cons y l ih =>
    intro g f v h
    cases g with
    | zero =>
      simp at h
      subst h
      rfl
    | succ g =>
      rw [List.getElem?_cons_succ] at h
      rw [List.flatMap_cons, List.set_cons_succ, List.flatMap_cons, ← ih g f v h, List.set_append, if_neg (by rw [F.cs_len]; omega), F.cs_len]
      congr 2
      omega

theorem bump_flat {l : List F} {g : Nat} {f : F} (h : l[g]? = some f) : (l.flatMap F.cs).set (g * 4 + 3) (.int .i64 (f.c + 1)) = (bump l g).flatMap F.cs := by
  rw [flat_set3 l g f _ h]
  unfold bump
  have e : l.getD g default = f := by rw [List.getD, h]; rfl
  rw [e]

theorem finM_of {s : List F} {g : Nat} {t : List Nat} {fg : F} (h : s.getD g default = fg) : finM { s := s, o := g :: t } = if fg.c = 0 then bump s g ++ [⟨bz, 0, 4, 0⟩] else s := by
  subst h
  rfl

/-- f, but v at k. -/
def upd {α : Type} (f : Nat → α) (k : Nat) (v : α) (j : Nat) : α := bif Nat.beq j k then v else f j

abbrev FR (s0 s2 s3 s4 s5 s8 s9 s10 : Value) (base u : Nat → Value) : Act := { tmps := #[s0, undef, s2, s3, s4, s5, base 6, u 7, s8, s9, s10, base 11, base 12, base 13, base 14, base 15, base 16, base 17, base 18, base 19, base 20, base 21, base 22, base 23, base 24, base 25, base 26, base 27, base 28, base 29, base 30, base 31, base 32, base 33, base 34, base 35, base 36, base 37, base 38, base 39, base 40, base 41, base 42, base 43, base 44, base 45, base 46, base 47, base 48, base 49, base 50, base 51, base 52, base 53, u 54, u 55, u 56, u 57, u 58, u 59, u 60, u 61, u 62, u 63, u 64, u 65, u 66, u 67, u 68, u 69, u 70, u 71, base 72, base 73, base 74, base 75, base 76, base 77, base 78, base 79, base 80, base 81, base 82, base 83, base 84, base 85, base 86, base 87, base 88, base 89, base 90, base 91, base 92, base 93, base 94, base 95, base 96, base 97, base 98, base 99, base 100, base 101, base 102, base 103, base 104, base 105, base 106, undef, undef, undef, undef, undef, undef, undef, undef, undef, undef, undef, undef, undef, undef, undef, undef, undef, undef, undef, undef, undef, undef, undef, undef, undef, undef, undef, undef, undef], defers := [] }

/-- What is known in the region in which Make builds a field, whatever has come up. -/
structure RI (i : Nat) (x : Int) (s0 : Value) (pn : Addr) (nmI : ByteArray) (r k8 : Nat) (wc : World) (b : Nat → Bool) (u : Nat → Value) (g1 g2 : Nat) (w' : World) : Prop where
  c0 : b 0 = true → u 54 = .int .i64 (i : Int)
  c1 : b 1 = true → u 55 = .int .i64 (97 + (i : Int))
  c2 : b 2 = true → u 56 = .int .u8 (97 + (i : Int))
  c3 : b 3 = true → u 57 = .slice (some ⟨g1, 0, none⟩) 1 1
  c4 : b 4 = true → u 58 = .string nmI
  c5 : b 5 = true → u 59 = s0
  c6 : b 6 = true → u 60 = .int .i64 (i : Int)
  c7 : b 7 = true → u 61 = .pointer (some pn)
  c8 : b 8 = true → u 62 = .int .i64 x
  c9 : b 9 = true → u 63 = .int .i64 (x.tdiv 8)
  c10 : b 10 = true → u 64 = .int .i64 (r : Int)
  c11 : b 11 = true → u 65 = s0
  c12 : b 12 = true → u 66 = .int .i64 (i : Int)
  c13 : b 13 = true → u 67 = .pointer (some pn)
  c14 : b 14 = true → u 68 = .int .i64 x
  c15 : b 15 = true → u 69 = .int .i64 (k8 : Int)
  c16 : b 16 = true → u 70 = .int .i64 ((k8 : Int) % 5)
  c17 : b 17 = true → u 71 = .agg #[.string nmI, .int .i64 (r : Int), .int .i64 ((k8 : Int) % 5), .int .i64 0]
  c18 : b 18 = true → u 7 = .pointer (some ⟨g2, 0, none⟩)
  cg : Chg [] wc w'
  m1 : b 3 = true → w'.heap[g1]? = some (.cells #[.int .u8 (97 + (i : Int))] 5 (0, 0))
  m2 : b 18 = true → b 19 = false → w'.heap[g2]? = some (.cells #[.string ByteArray.empty, .int .i64 0, .int .i64 0, .int .i64 0] 62 (0, 0)) ∧ wc.heap.size ≤ g2
  m3 : b 19 = true → w'.heap[g2]? = some (.cells #[.string nmI, .int .i64 (r : Int), .int .i64 ((k8 : Int) % 5), .int .i64 0] 62 (0, 0)) ∧ wc.heap.size ≤ g2
  z : b 19 = true → b 18 = true

def JI (i : Nat) (x : Int) (s0 s2 s3 s4 s5 s8 s9 s10 : Value) (pn : Addr) (nmI : ByteArray) (r k8 : Nat) (wc : World) (listed : Array Bool) (a' : Act) (w' : World) : Prop :=
  ∃ (b : Nat → Bool) (base u : Nat → Value) (g1 g2 : Nat), listed = #[b 0, b 1, b 2, b 3, b 4, b 5, b 6, b 7, b 8, b 9, b 10, b 11, b 12, b 13, b 14, b 15, b 16, b 17, b 18, b 19] ∧ a' = FR s0 s2 s3 s4 s5 s8 s9 s10 base u ∧ RI i x s0 pn nmI r k8 wc b u g1 g2 w'

theorem JI_start {i : Nat} {x : Int} {s0 s2 s3 s4 s5 s8 s9 s10 : Value} {pn : Addr} {nmI : ByteArray} {r k8 : Nat} {wc w' : World} {a : Act} (h : a = FR s0 s2 s3 s4 s5 s8 s9 s10 (fun j => a.tmps.getD j undef) (fun j => a.tmps.getD j undef)) (hc : Chg [] wc w') :
    JI i x s0 s2 s3 s4 s5 s8 s9 s10 pn nmI r k8 wc (Array.replicate 20 false) a w' :=
  ⟨fun _ => false, _, _, 0, 0, rfl, h, by constructor <;> simp [hc]⟩

theorem lt20 : ∀ i : Nat, i < 20 → i = 0 ∨ i = 1 ∨ i = 2 ∨ i = 3 ∨ i = 4 ∨ i = 5 ∨ i = 6 ∨ i = 7 ∨ i = 8 ∨ i = 9 ∨ i = 10 ∨ i = 11 ∨ i = 12 ∨ i = 13 ∨ i = 14 ∨ i = 15 ∨ i = 16 ∨ i = 17 ∨ i = 18 ∨ i = 19 := by decide

/-- How Make stands ahead of number i. -/
structure MJ (ns : List Int) (w w' : World) (i : Nat) (m : MS) (sv o : Value) : Prop where
  ok : Okm i m
  eq : goM (ns.drop i) i m = goM ns 0 startM
  le : i ≤ 12
  ln : i ≤ ns.length
  cg : Chg [] w w'
  os : w'.ownsRow w.heap.size 62 4 sv (i + 1) (m.s.flatMap F.cs)
  oo : w'.ownsRow w.heap.size 3 1 o m.o.length (iv (ov m.o))

set_option maxRecDepth 100000 in
set_option maxHeartbeats 8000000 in
theorem make_any (nv : Value) (ns : List Int) (w : World) (hS : SeenI w nv ns) (hw : ∀ x ∈ ns, (Lit.int .i64 x).wf = true) :
    Calls Try.prog 16 #[nv] w fun e w' => ∃ v, e = .returned v ∧ w'.ownsRow w.heap.size 62 4 v (mk ns).length ((mk ns).flatMap F.cs) ∧ Chg [] w w' := by
  obtain ⟨i0, hi, hz0, hz1, hz2⟩ := info_field
  obtain ⟨i1, hi1, hy0, hy1, hy2⟩ := info_int
  obtain ⟨ao, cap, rfl, hc1, hc2⟩ := hS.shape
  have HS := Lib.hid hS; have HW := Lib.hid hw
  clear hS hw
  obtain ⟨n, hn⟩ : ∃ n, n = ns.length := ⟨_, rfl⟩
  rw [← hn] at hc1 HS ⊢
  have HN := Lib.hid hn
  clear hn
  have hnm : n ≤ 9223372036854775807 := by unfold maxLen at hc2; omega
  have HOS := Lib.hid (own_lit w w.heap.size w.heap.size rfl (Nat.le_refl _) 62 #[.string bm, .int .i64 0, .int .i64 0, .int .i64 0] (startM.s.flatMap F.cs) 1 4 rfl rfl (by decide))
  have HOO := Lib.hid (own_lit (w.alloc (.cells #[.string bm, .int .i64 0, .int .i64 0, .int .i64 0] 62)) (w.heap.size + 1) w.heap.size (by simp) (by omega) 3 #[.int .i64 0] (iv (ov startM.o)) 1 1 rfl rfl (by decide))
  go_enter Try.func16, Try.ntmps16
  go_wp2
  go_loopw [3, 4, 5] (fun sv o x w' => ∃ (i : Nat) (m : MS), x = .int .i64 (i : Int) ∧ MJ ns w w' i m sv o) (fun _ _ x _ => 12 - (intOf x).toNat)
  case atStart => exact ⟨0, startM, rfl, ⟨Okm.start, rfl, by omega, by omega, ((Chg.refl [] w).alloc _).alloc _, HOS.out.alloc _, HOO.out⟩⟩
  case round =>
    obtain ⟨i, m, rfl, hJ⟩ := hrel
    obtain ⟨sa, sc, rfl⟩ := own_shape hJ.os
    obtain ⟨oa, oc, rfl⟩ := own_shape hJ.oo
    have HJ := Lib.hid hJ
    have hle := hJ.le
    have hln := hJ.ln
    rw [← HN.out] at hln
    clear hJ
    by_cases hlt : i < n ∧ i < 12
    · obtain ⟨hin, hi12⟩ := hlt
      obtain ⟨x, hx⟩ : ∃ x, ns[i]? = some x := ⟨_, List.getElem?_eq_getElem (by rw [← HN.out]; exact hin)⟩
      have hxw := HW.out x (List.mem_of_getElem? hx)
      obtain ⟨gn, offn, rfl, hcn⟩ := HS.out.at (by omega)
      have hxc := HJ.out.cg.cell (SeenI.cell hcn hx) (by simp)
      have hd64 := tdiv_wf x 64 (by decide) hxw
      have hd8 := tdiv_wf x 8 (by decide) hxw
      have HX := Lib.hid hx; have HXW := Lib.hid hxw; have HD64 := Lib.hid hd64; have HD8 := Lib.hid hd8
      obtain ⟨-, q1, q2⟩ := hd64
      obtain ⟨-, q3, q4⟩ := hd8
      clear hx hxw hcn
      go_wp2_with fail
      (with_reducible refine (within_int _ 3 3 _ rfl (by decide) (by decide) HD64.out.1).mono ?_)
      rintro e w2 ⟨rfl, rfl⟩
      obtain ⟨k0, hk0⟩ : ∃ k0, k0 = (x.tdiv 64 % (3 : Nat)).toNat := ⟨_, rfl⟩
      rw [← hk0]
      have HK0 := Lib.hid hk0
      have hk03 : k0 < 3 := by rw [hk0]; exact within_lt _ 3 (by decide)
      clear hk0
      obtain ⟨O, hO⟩ : ∃ O, O = popK k0 m.s m.o := ⟨_, rfl⟩
      have HOD := Lib.hid hO
      clear hO
      obtain ⟨gs, rfl, hgsB, hgsw, hgsf, hgsc⟩ := own_ptr HJ.out.os (by omega)
      obtain ⟨go, rfl, hgoB, hgow, hgof, hgoc⟩ := own_ptr HJ.out.oo (by have := HJ.out.ok.ne; exact List.length_pos_iff.2 this)
      have HSC := Lib.hid (show ∀ (j : Nat) (f : F) (u : Nat) (v : Value), m.s[j]? = some f → (F.cs f)[u]? = some v → wr.cell? ⟨gs, j * 4 + u, none⟩ = some v from fun j f u v hf hv => hgsc _ _ (flat_get F.cs_len m.s j f u v hf hv))
      have HGSF := Lib.hid hgsf; have HGOF := Lib.hid hgof
      clear hgsc hgoc hgsf hgof
      go_upto_block 2 with fail
      go_cut [4, 6] (fun s4 s6 wx => s4 = .slice (some ⟨go, 0, none⟩) O.length oc ∧ wx = wr ∧ wr.ownsRow w.heap.size 3 1 (.slice (some ⟨go, 0, none⟩) O.length oc) O.length (iv (ov O)))
      case first =>
        go_wp2_with fail
        go_loop [4, 6] (fun o' x' => ∃ (k : Nat) (o1 : List Nat), x' = .int .i64 (k : Int) ∧ k ≤ k0 ∧ o1 ≠ [] ∧ o1 <:+ m.o ∧ popK k m.s o1 = O ∧ o' = .slice (some ⟨go, 0, none⟩) o1.length oc ∧ wr.ownsRow w.heap.size 3 1 (.slice (some ⟨go, 0, none⟩) o1.length oc) o1.length (iv (ov o1))) (fun _ x' => (intOf x').toNat)
        case atStart => exact ⟨k0, m.o, rfl, Nat.le_refl _, HJ.out.ok.ne, List.suffix_refl _, HOD.out.symm, rfl, HJ.out.oo⟩
        case round =>
          obtain ⟨k, o1, rfl, hk, hne, hsuf, hpop, rfl, hown⟩ := hrel
          cases o1 with
          | nil => exact absurd rfl hne
          | cons g t =>
            have hgi : g < i + 1 := HJ.out.ok.lt g (hsuf.subset (by simp))
            have hlen5 : (g :: t).length ≤ 5 := Nat.le_trans hsuf.length_le HJ.out.ok.sm
            obtain ⟨fg, hfg⟩ : ∃ fg, m.s[g]? = some fg := ⟨_, List.getElem?_eq_getElem (by rw [HJ.out.ok.len]; exact hgi)⟩
            have hcc : wr.cell? ⟨gs, g * 4 + 3, none⟩ = some (.int .i64 fg.c) := HSC.out g fg 3 _ hfg rfl
            obtain ⟨go', e', -, -, -, hoc⟩ := own_ptr hown (by simp)
            injection e' with e'
            injection e' with e'
            subst e'
            have hoc2 : wr.cell? ⟨go, t.length, none⟩ = some (.int .i64 (g : Int)) := hoc _ _ (by rw [iv, List.getElem?_map, ov_last]; rfl)
            have HFG := Lib.hid hfg; have HSUF := Lib.hid hsuf; have HPOP := Lib.hid hpop; have HOWN := Lib.hid hown
            obtain ⟨nt, hnt⟩ : ∃ nt, nt = t.length := ⟨_, rfl⟩
            have hroom := (own_room HOWN.out).1
            rw [List.length_cons, ← hnt] at hlen5 hroom ⊢
            have hoc0 : ¬ oc = 0 := by omega
            rw [← hnt] at hoc2
            have HNT := Lib.hid hnt
            clear hfg hsuf hpop hown hoc hne hnt
            by_cases hcont : 0 < k ∧ 0 < nt ∧ 0 < fg.c
            · obtain ⟨c1, c2, c3⟩ := hcont
              have hown2 := own_front HOWN.out nt (by rw [HNT.out]; simp)
              rw [show (iv (ov (g :: t))).take nt = iv (ov t) by rw [iv, ← List.map_take, HNT.out, ov_pop]; rfl] at hown2
              have HOWN2 := Lib.hid hown2
              clear hown2
              go_wp2
              go_round
              case rel =>
                refine ⟨k - 1, t, by go_num, by omega, ?_, (List.suffix_cons g t).trans HSUF.out, ?_, by rw [← HNT.out], by rw [← HNT.out]; exact HOWN2.out⟩
                · intro e; rw [HNT.out, e] at c2; simp at c2
                · have h := HPOP.out
                  rw [show k = (k - 1) + 1 by omega] at h
                  rw [popK, if_pos ⟨by intro e; rw [HNT.out, e] at c2; simp at c2, by rw [List.getD, HFG.out]; exact c3⟩] at h
                  exact h
              case measure => simp [intOf]; omega
            · have HO2 := Lib.hid (show O = g :: t from by
                rw [← HPOP.out]
                cases k with
                | zero => rfl
                | succ k =>
                  rw [popK, if_neg]
                  rintro ⟨h1, h2⟩
                  refine hcont ⟨by omega, ?_, ?_⟩
                  · rw [HNT.out]; exact List.length_pos_iff.2 h1
                  · rw [List.getD, HFG.out] at h2; exact h2)
              have hways : ¬ 0 < k ∨ 0 < k ∧ ¬ 0 < nt ∨ 0 < k ∧ 0 < nt ∧ ¬ 0 < fg.c := by omega
              clear hcont
              rcases hways with h | ⟨h, h'⟩ | ⟨h, h', h''⟩
              all_goals
                go_wp2_with fail
                go_meet
                case rel => exact ⟨by rw [HO2.out, List.length_cons, ← HNT.out], rfl, by rw [HO2.out]; exact HOWN.out⟩
      case rest =>
        obtain ⟨rfl, rfl, hown⟩ := hcut
        go_wp2_with fail
        obtain ⟨nmI, hnmI⟩ : ∃ s, s = str [97 + i] := ⟨_, rfl⟩
        have HNM := Lib.hid (show nmI = str [97 + i] ∧ i < 12 from ⟨hnmI, hi12⟩)
        obtain ⟨r, hr⟩ : ∃ r, r = (x.tdiv 8 % (3 : Nat)).toNat := ⟨_, rfl⟩
        obtain ⟨k8, hk8⟩ : ∃ k, k = (x % (8 : Nat)).toNat := ⟨_, rfl⟩
        have hk8l : k8 < 8 := by rw [hk8]; exact within_lt x 8 (by decide)
        have hrl : r < 3 := by rw [hr]; exact within_lt _ 3 (by decide)
        have HR := Lib.hid hr; have HK8 := Lib.hid hk8; have HXC := Lib.hid hxc
        have HOWN := Lib.hid hown
        clear hnmI hr hk8 hxc hown
        have hw1 : IntKind.i64.wrap (97 + (i : Int)) = 97 + (i : Int) := IntWalk.i64_in _ (by omega)
        have hw2 : IntKind.u8.wrap (97 + (i : Int)) = 97 + (i : Int) := by
          have e : IntKind.u8.wrap (97 + (i : Int)) = (97 + (i : Int)) % 256 := by simp [IntKind.wrap, IntKind.bits, IntKind.signed]
          rw [e]
          omega
        have hw3 : IntKind.i64.wrap (x.tdiv 8) = x.tdiv 8 := IntWalk.i64_in _ (by omega)
        have hw4 : IntKind.i64.wrap ((k8 : Int) % 5) = (k8 : Int) % 5 := IntWalk.i64_in _ (by omega)
        have hw5 : (k8 : Int).tmod 5 = (k8 : Int) % 5 := Int.tmod_eq_emod_of_nonneg (by omega)
        refine wp_region_any (by kernel_rfl) ?_
        change wpAny _ _ _ _ _ _ _ (World.drew _)
        refine wpAny_inv (JI i x (.slice (some ⟨gn, offn, none⟩) n cap) (.slice none 0 0) (.slice (some ⟨gs, 0, none⟩) (i + 1) sc) (.slice (some ⟨go, 0, none⟩) O.length oc) (.int .i64 (i : Int)) (.agg #[.string { data := #[109] }, .int .i64 0, .int .i64 0, .int .i64 0]) (.slice (some ⟨w.heap.size, 0, none⟩) 1 1) (.slice (some ⟨w.heap.size + 1, 0, none⟩) 1 1) ⟨gn, offn + i, none⟩ nmI r k8 wc) ?hs ?hq _ _ _ _ ?h0 ?hcnt
        case hcnt => exact count_rep _
        case h0 => exact JI_start rfl (Chg.refl [] wc).drew
        case hs =>
          intro listed a' w' hI
          intro ii hi hr
          obtain ⟨b, base, u, g1, g2, rfl, rfl, R⟩ := hI
          have hcs := lt20 ii hi
          clear hi
          unfold FR
          rcases hcs with rfl | rfl | rfl | rfl | rfl | rfl | rfl | rfl | rfl | rfl | rfl | rfl | rfl | rfl | rfl | rfl | rfl | rfl | rfl | rfl
          · have hrd := ready_at rfl hr
            clear hr
            simp [Region.binds] at hrd
            clear hrd
            refine wpOp_step rfl (fun K hK => ?_)
            go_simp
            refine hK _ _ ?_
            exact ⟨upd b 0 true, base, (upd u 54 (.int .i64 (i : Int))), g1, g2, rfl, rfl, ⟨(fun _ => rfl), R.c1, R.c2, R.c3, R.c4, R.c5, R.c6, R.c7, R.c8, R.c9, R.c10, R.c11, R.c12, R.c13, R.c14, R.c15, R.c16, R.c17, R.c18, R.cg, R.m1, R.m2, R.m3, R.z⟩⟩
          · have hrd := ready_at rfl hr
            clear hr
            simp [Region.binds] at hrd
            have h0 : b 0 = true := by simp [hrd]
            have e0 := R.c0 h0
            clear hrd
            refine wpOp_step rfl (fun K hK => ?_)
            go_simp
            refine hK _ _ ?_
            exact ⟨upd b 1 true, base, (upd (upd u 54 (.int .i64 (i : Int))) 55 (.int .i64 (97 + (i : Int)))), g1, g2, rfl, rfl, ⟨(fun _ => rfl), (fun _ => rfl), R.c2, R.c3, R.c4, R.c5, R.c6, R.c7, R.c8, R.c9, R.c10, R.c11, R.c12, R.c13, R.c14, R.c15, R.c16, R.c17, R.c18, R.cg, R.m1, R.m2, R.m3, R.z⟩⟩
          · have hrd := ready_at rfl hr
            clear hr
            simp [Region.binds] at hrd
            have h1 : b 1 = true := by simp [hrd]
            have e1 := R.c1 h1
            clear hrd
            refine wpOp_step rfl (fun K hK => ?_)
            go_simp
            refine hK _ _ ?_
            exact ⟨upd b 2 true, base, (upd (upd u 55 (.int .i64 (97 + (i : Int)))) 56 (.int .u8 (97 + (i : Int)))), g1, g2, rfl, rfl, ⟨R.c0, (fun _ => rfl), (fun _ => rfl), R.c3, R.c4, R.c5, R.c6, R.c7, R.c8, R.c9, R.c10, R.c11, R.c12, R.c13, R.c14, R.c15, R.c16, R.c17, R.c18, R.cg, R.m1, R.m2, R.m3, R.z⟩⟩
          · have hrd := ready_at rfl hr
            clear hr
            simp [Region.binds] at hrd
            have h2 : b 2 = true := by simp [hrd]
            have e2 := R.c2 h2
            clear hrd
            refine wpOp_step rfl (fun K hK => ?_)
            go_simp
            refine hK _ _ ?_
            exact ⟨upd b 3 true, base, (upd (upd u 56 (.int .u8 (97 + (i : Int)))) 57 (.slice (some ⟨w'.heap.size, 0, none⟩) 1 1)), w'.heap.size, g2, rfl, rfl, ⟨R.c0, R.c1, (fun _ => rfl), (fun _ => rfl), R.c4, R.c5, R.c6, R.c7, R.c8, R.c9, R.c10, R.c11, R.c12, R.c13, R.c14, R.c15, R.c16, R.c17, R.c18, (R.cg.alloc _), (fun _ => hl_new rfl), (fun h h' => ⟨hl_old (R.m2 h h').1, (R.m2 h h').2⟩), (fun h => ⟨hl_old (R.m3 h).1, (R.m3 h).2⟩), R.z⟩⟩
          · have hrd := ready_at rfl hr
            clear hr
            simp [Region.binds] at hrd
            have h3 : b 3 = true := by simp [hrd]
            have e3 := R.c3 h3
            clear hrd
            have hcv := cv_block (R.m1 h3) HNM.out
            refine wpOp_step rfl (fun K hK => ?_)
            go_simp
            refine hK _ _ ?_
            exact ⟨upd b 4 true, base, (upd (upd u 57 (.slice (some ⟨g1, 0, none⟩) 1 1)) 58 (.string nmI)), g1, g2, rfl, rfl, ⟨R.c0, R.c1, R.c2, (fun _ => rfl), (fun _ => rfl), R.c5, R.c6, R.c7, R.c8, R.c9, R.c10, R.c11, R.c12, R.c13, R.c14, R.c15, R.c16, R.c17, R.c18, R.cg, R.m1, R.m2, R.m3, R.z⟩⟩
          · have hrd := ready_at rfl hr
            clear hr
            simp [Region.binds] at hrd
            clear hrd
            refine wpOp_step rfl (fun K hK => ?_)
            go_simp
            refine hK _ _ ?_
            exact ⟨upd b 5 true, base, (upd u 59 (.slice (some ⟨gn, offn, none⟩) n cap)), g1, g2, rfl, rfl, ⟨R.c0, R.c1, R.c2, R.c3, R.c4, (fun _ => rfl), R.c6, R.c7, R.c8, R.c9, R.c10, R.c11, R.c12, R.c13, R.c14, R.c15, R.c16, R.c17, R.c18, R.cg, R.m1, R.m2, R.m3, R.z⟩⟩
          · have hrd := ready_at rfl hr
            clear hr
            simp [Region.binds] at hrd
            clear hrd
            refine wpOp_step rfl (fun K hK => ?_)
            go_simp
            refine hK _ _ ?_
            exact ⟨upd b 6 true, base, (upd u 60 (.int .i64 (i : Int))), g1, g2, rfl, rfl, ⟨R.c0, R.c1, R.c2, R.c3, R.c4, R.c5, (fun _ => rfl), R.c7, R.c8, R.c9, R.c10, R.c11, R.c12, R.c13, R.c14, R.c15, R.c16, R.c17, R.c18, R.cg, R.m1, R.m2, R.m3, R.z⟩⟩
          · have hrd := ready_at rfl hr
            clear hr
            simp [Region.binds] at hrd
            have h5 : b 5 = true := by simp [hrd]
            have e5 := R.c5 h5
            have h6 : b 6 = true := by simp [hrd]
            have e6 := R.c6 h6
            clear hrd
            refine wpOp_step rfl (fun K hK => ?_)
            go_simp
            refine hK _ _ ?_
            exact ⟨upd b 7 true, base, (upd (upd (upd u 59 (.slice (some ⟨gn, offn, none⟩) n cap)) 60 (.int .i64 (i : Int))) 61 (.pointer (some ⟨gn, offn + i, none⟩))), g1, g2, rfl, rfl, ⟨R.c0, R.c1, R.c2, R.c3, R.c4, (fun _ => rfl), (fun _ => rfl), (fun _ => rfl), R.c8, R.c9, R.c10, R.c11, R.c12, R.c13, R.c14, R.c15, R.c16, R.c17, R.c18, R.cg, R.m1, R.m2, R.m3, R.z⟩⟩
          · have hrd := ready_at rfl hr
            clear hr
            simp [Region.binds] at hrd
            have h7 : b 7 = true := by simp [hrd]
            have e7 := R.c7 h7
            clear hrd
            have hld := R.cg.cell HXC.out (by simp)
            refine wpOp_step rfl (fun K hK => ?_)
            go_simp
            refine hK _ _ ?_
            exact ⟨upd b 8 true, base, (upd (upd u 61 (.pointer (some ⟨gn, offn + i, none⟩))) 62 (.int .i64 x)), g1, g2, rfl, rfl, ⟨R.c0, R.c1, R.c2, R.c3, R.c4, R.c5, R.c6, (fun _ => rfl), (fun _ => rfl), R.c9, R.c10, R.c11, R.c12, R.c13, R.c14, R.c15, R.c16, R.c17, R.c18, R.cg, R.m1, R.m2, R.m3, R.z⟩⟩
          · have hrd := ready_at rfl hr
            clear hr
            simp [Region.binds] at hrd
            have h8 : b 8 = true := by simp [hrd]
            have e8 := R.c8 h8
            clear hrd
            refine wpOp_step rfl (fun K hK => ?_)
            go_simp
            refine hK _ _ ?_
            exact ⟨upd b 9 true, base, (upd (upd u 62 (.int .i64 x)) 63 (.int .i64 (x.tdiv 8))), g1, g2, rfl, rfl, ⟨R.c0, R.c1, R.c2, R.c3, R.c4, R.c5, R.c6, R.c7, (fun _ => rfl), (fun _ => rfl), R.c10, R.c11, R.c12, R.c13, R.c14, R.c15, R.c16, R.c17, R.c18, R.cg, R.m1, R.m2, R.m3, R.z⟩⟩
          · have hrd := ready_at rfl hr
            clear hr
            simp [Region.binds] at hrd
            have h9 : b 9 = true := by simp [hrd]
            have e9 := R.c9 h9
            clear hrd
            refine wpOp_step rfl (fun K hK => ?_)
            go_simp
            go_at_call 39
            with_reducible apply within_k (x.tdiv 8) 3 3 w' rfl (by decide) (by decide) HD8.out.1
            rw [← HR.out]
            refine hK _ _ ?_
            exact ⟨upd b 10 true, base, (upd (upd u 63 (.int .i64 (x.tdiv 8))) 64 (.int .i64 (r : Int))), g1, g2, rfl, rfl, ⟨R.c0, R.c1, R.c2, R.c3, R.c4, R.c5, R.c6, R.c7, R.c8, (fun _ => rfl), (fun _ => rfl), R.c11, R.c12, R.c13, R.c14, R.c15, R.c16, R.c17, R.c18, R.cg, R.m1, R.m2, R.m3, R.z⟩⟩
          · have hrd := ready_at rfl hr
            clear hr
            simp [Region.binds] at hrd
            clear hrd
            refine wpOp_step rfl (fun K hK => ?_)
            go_simp
            refine hK _ _ ?_
            exact ⟨upd b 11 true, base, (upd u 65 (.slice (some ⟨gn, offn, none⟩) n cap)), g1, g2, rfl, rfl, ⟨R.c0, R.c1, R.c2, R.c3, R.c4, R.c5, R.c6, R.c7, R.c8, R.c9, R.c10, (fun _ => rfl), R.c12, R.c13, R.c14, R.c15, R.c16, R.c17, R.c18, R.cg, R.m1, R.m2, R.m3, R.z⟩⟩
          · have hrd := ready_at rfl hr
            clear hr
            simp [Region.binds] at hrd
            clear hrd
            refine wpOp_step rfl (fun K hK => ?_)
            go_simp
            refine hK _ _ ?_
            exact ⟨upd b 12 true, base, (upd u 66 (.int .i64 (i : Int))), g1, g2, rfl, rfl, ⟨R.c0, R.c1, R.c2, R.c3, R.c4, R.c5, R.c6, R.c7, R.c8, R.c9, R.c10, R.c11, (fun _ => rfl), R.c13, R.c14, R.c15, R.c16, R.c17, R.c18, R.cg, R.m1, R.m2, R.m3, R.z⟩⟩
          · have hrd := ready_at rfl hr
            clear hr
            simp [Region.binds] at hrd
            have h11 : b 11 = true := by simp [hrd]
            have e11 := R.c11 h11
            have h12 : b 12 = true := by simp [hrd]
            have e12 := R.c12 h12
            clear hrd
            refine wpOp_step rfl (fun K hK => ?_)
            go_simp
            refine hK _ _ ?_
            exact ⟨upd b 13 true, base, (upd (upd (upd u 65 (.slice (some ⟨gn, offn, none⟩) n cap)) 66 (.int .i64 (i : Int))) 67 (.pointer (some ⟨gn, offn + i, none⟩))), g1, g2, rfl, rfl, ⟨R.c0, R.c1, R.c2, R.c3, R.c4, R.c5, R.c6, R.c7, R.c8, R.c9, R.c10, (fun _ => rfl), (fun _ => rfl), (fun _ => rfl), R.c14, R.c15, R.c16, R.c17, R.c18, R.cg, R.m1, R.m2, R.m3, R.z⟩⟩
          · have hrd := ready_at rfl hr
            clear hr
            simp [Region.binds] at hrd
            have h13 : b 13 = true := by simp [hrd]
            have e13 := R.c13 h13
            clear hrd
            have hld := R.cg.cell HXC.out (by simp)
            refine wpOp_step rfl (fun K hK => ?_)
            go_simp
            refine hK _ _ ?_
            exact ⟨upd b 14 true, base, (upd (upd u 67 (.pointer (some ⟨gn, offn + i, none⟩))) 68 (.int .i64 x)), g1, g2, rfl, rfl, ⟨R.c0, R.c1, R.c2, R.c3, R.c4, R.c5, R.c6, R.c7, R.c8, R.c9, R.c10, R.c11, R.c12, (fun _ => rfl), (fun _ => rfl), R.c15, R.c16, R.c17, R.c18, R.cg, R.m1, R.m2, R.m3, R.z⟩⟩
          · have hrd := ready_at rfl hr
            clear hr
            simp [Region.binds] at hrd
            have h14 : b 14 = true := by simp [hrd]
            have e14 := R.c14 h14
            clear hrd
            refine wpOp_step rfl (fun K hK => ?_)
            go_simp
            go_at_call 39
            with_reducible apply within_k (x) 8 8 w' rfl (by decide) (by decide) HXW.out
            rw [← HK8.out]
            refine hK _ _ ?_
            exact ⟨upd b 15 true, base, (upd (upd u 68 (.int .i64 x)) 69 (.int .i64 (k8 : Int))), g1, g2, rfl, rfl, ⟨R.c0, R.c1, R.c2, R.c3, R.c4, R.c5, R.c6, R.c7, R.c8, R.c9, R.c10, R.c11, R.c12, R.c13, (fun _ => rfl), (fun _ => rfl), R.c16, R.c17, R.c18, R.cg, R.m1, R.m2, R.m3, R.z⟩⟩
          · have hrd := ready_at rfl hr
            clear hr
            simp [Region.binds] at hrd
            have h15 : b 15 = true := by simp [hrd]
            have e15 := R.c15 h15
            clear hrd
            refine wpOp_step rfl (fun K hK => ?_)
            go_simp
            refine hK _ _ ?_
            exact ⟨upd b 16 true, base, (upd (upd u 69 (.int .i64 (k8 : Int))) 70 (.int .i64 ((k8 : Int) % 5))), g1, g2, rfl, rfl, ⟨R.c0, R.c1, R.c2, R.c3, R.c4, R.c5, R.c6, R.c7, R.c8, R.c9, R.c10, R.c11, R.c12, R.c13, R.c14, (fun _ => rfl), (fun _ => rfl), R.c17, R.c18, R.cg, R.m1, R.m2, R.m3, R.z⟩⟩
          · have hrd := ready_at rfl hr
            clear hr
            simp [Region.binds] at hrd
            have h4 : b 4 = true := by simp [hrd]
            have e4 := R.c4 h4
            have h10 : b 10 = true := by simp [hrd]
            have e10 := R.c10 h10
            have h16 : b 16 = true := by simp [hrd]
            have e16 := R.c16 h16
            clear hrd
            refine wpOp_step rfl (fun K hK => ?_)
            go_simp
            refine hK _ _ ?_
            exact ⟨upd b 17 true, base, (upd (upd (upd (upd u 58 (.string nmI)) 64 (.int .i64 (r : Int))) 70 (.int .i64 ((k8 : Int) % 5))) 71 (.agg #[.string nmI, .int .i64 (r : Int), .int .i64 ((k8 : Int) % 5), .int .i64 0])), g1, g2, rfl, rfl, ⟨R.c0, R.c1, R.c2, R.c3, (fun _ => rfl), R.c5, R.c6, R.c7, R.c8, R.c9, (fun _ => rfl), R.c11, R.c12, R.c13, R.c14, R.c15, (fun _ => rfl), (fun _ => rfl), R.c18, R.cg, R.m1, R.m2, R.m3, R.z⟩⟩
          · have hrd := ready_at rfl hr
            clear hr
            simp [Region.binds] at hrd
            have hb18 : b 18 = false := by simp [hrd]
            clear hrd
            refine wpOp_step rfl (fun K hK => ?_)
            go_simp
            refine hK _ _ ?_
            exact ⟨upd b 18 true, base, (upd u 7 (.pointer (some ⟨w'.heap.size, 0, none⟩))), g1, w'.heap.size, rfl, rfl, ⟨R.c0, R.c1, R.c2, R.c3, R.c4, R.c5, R.c6, R.c7, R.c8, R.c9, R.c10, R.c11, R.c12, R.c13, R.c14, R.c15, R.c16, R.c17, (fun _ => rfl), (R.cg.alloc _), (fun h => hl_old (R.m1 h)), (fun _ _ => ⟨hl_new rfl, R.cg.size⟩), (fun h => absurd (R.z h) (by rw [hb18]; decide)), (fun _ => rfl)⟩⟩
          · have hrd := ready_at rfl hr
            clear hr
            simp [Region.binds] at hrd
            have h17 : b 17 = true := by simp [hrd]
            have e17 := R.c17 h17
            have h18 : b 18 = true := by simp [hrd]
            have e18 := R.c18 h18
            have h19 : b 19 = false := by simp [hrd]
            clear hrd
            obtain ⟨hm2, hm2'⟩ := R.m2 h18 h19
            have hf0 : w'.frozen? ⟨g2, 0, none⟩ = false := by simp [World.frozen?, hm2]
            have hf1 : w'.frozen? ⟨g2, 1, none⟩ = false := by simp [World.frozen?, hm2]
            have hf2 : w'.frozen? ⟨g2, 2, none⟩ = false := by simp [World.frozen?, hm2]
            have hf3 : w'.frozen? ⟨g2, 3, none⟩ = false := by simp [World.frozen?, hm2]
            obtain ⟨z0, z1, z2, z3⟩ := cells4 hm2
            refine wpOp_step rfl (fun K hK => ?_)
            go_simp
            refine hK _ _ ?_
            exact ⟨upd b 19 true, base, (upd (upd u 71 (.agg #[.string nmI, .int .i64 (r : Int), .int .i64 ((k8 : Int) % 5), .int .i64 0])) 7 (.pointer (some ⟨g2, 0, none⟩))), g1, g2, rfl, rfl, ⟨R.c0, R.c1, R.c2, R.c3, R.c4, R.c5, R.c6, R.c7, R.c8, R.c9, R.c10, R.c11, R.c12, R.c13, R.c14, R.c15, R.c16, (fun _ => rfl), (fun _ => rfl), (Chg.four R.cg hm2'), (fun h => heap_four hm2 (R.m1 h) (by decide)), (fun _ h => by cases h), (fun _ => ⟨heap_four4 hm2, hm2'⟩), (fun _ => h18)⟩⟩
        case hq =>
          intro listed a' w' hI hr
          obtain ⟨b, base, u, g1, g2, rfl, rfl, R⟩ := hI
          have hall := ready_all hr rfl (by kernel_rfl)
          have h18 : b 18 = true := Option.some.inj (hall 18 (by decide))
          have h19 : b 19 = true := Option.some.inj (hall 19 (by decide))
          have e7 := R.c18 h18
          obtain ⟨hblk, hg2⟩ := R.m3 h19
          have HBLK := Lib.hid hblk
          have hcgx := R.cg
          have HCX := Lib.hid hcgx
          unfold FR
          rw [e7]
          clear e7 R hblk hcgx hr hall h18 h19
          have hgx : wc.heap.size ≤ g2 := hg2
          have hOne : O ≠ [] := by
            rw [HOD.out]
            rcases popK_sub k0 m.s m.o with h | h
            · exact h
            · exact absurd h HJ.out.ok.ne
          have hsuf : O <:+ m.o := by rw [HOD.out]; exact popK_suffix k0 m.s m.o
          obtain ⟨kd, hkd⟩ : ∃ kd, kd = kindM x O := ⟨_, rfl⟩
          have hx8 : x % 8 = (k8 : Int) := by
            have h1 := HK8.out
            have h2 := Int.emod_nonneg x (show (8 : Int) ≠ 0 by decide)
            have h3 : ((8 : Nat) : Int) = 8 := rfl
            rw [h3] at h1
            omega
          have hr3 : (x.tdiv 8) % 3 = (r : Int) := by
            have h1 := HR.out
            have h2 := Int.emod_nonneg (x.tdiv 8) (show (3 : Int) ≠ 0 by decide)
            have h3 : ((3 : Nat) : Int) = 3 := rfl
            rw [h3] at h1
            omega
          have HFM := Lib.hid (show fieldM i x O = ⟨nmI, (r : Int), kd, 0⟩ by unfold fieldM; rw [hr3, ← hkd, HNM.out.1])
          have hkd2 : kd = if 4 < O.length ∧ (k8 : Int) % 5 = 0 then 2 else (k8 : Int) % 5 := by rw [hkd]; unfold kindM; rw [hx8]
          have HKD := Lib.hid hkd
          have HSTEP := Lib.hid (show stepM i x m = { s := bump m.s (O.headD 0) ++ [⟨nmI, (r : Int), kd, 0⟩], o := if kd = 0 then m.s.length :: O else O } by
            unfold stepM
            rw [show ((x.tdiv 64) % 3).toNat = k0 from HK0.out.symm, ← HOD.out]
            dsimp only
            rw [HFM.out, ← hkd])
          clear hkd hx8 hr3
          cases O with
          | nil => exact absurd rfl hOne
          | cons g t =>
            have hgi : g < i + 1 := HJ.out.ok.lt g (hsuf.subset (by simp))
            have hlen5 : (g :: t).length ≤ 5 := Nat.le_trans hsuf.length_le HJ.out.ok.sm
            obtain ⟨fg, hfg⟩ : ∃ fg, m.s[g]? = some fg := ⟨_, List.getElem?_eq_getElem (by rw [HJ.out.ok.len]; exact hgi)⟩
            have hfc := HJ.out.ok.cb fg (List.mem_of_getElem? hfg)
            have hcell := HCX.out.cell (HSC.out g fg 3 _ hfg rfl) (by simp)
            obtain ⟨go', e', -, -, -, hoc⟩ := own_ptr HOWN.out (by simp)
            injection e' with e'
            injection e' with e'
            subst e'
            have hoc2 := HCX.out.cell (hoc t.length (.int .i64 (g : Int)) (by rw [iv, List.getElem?_map, ov_last]; rfl)) (by simp)
            have HFG := Lib.hid hfg; have HSUF := Lib.hid hsuf; have HCELL := Lib.hid hcell
            obtain ⟨nt, hnt⟩ : ∃ nt, nt = t.length := ⟨_, rfl⟩
            rw [List.length_cons, ← hnt] at hlen5 hkd2
            rw [show (g :: t).length = nt + 1 by rw [List.length_cons, ← hnt]]
            rw [← hnt] at hoc2
            have HOC := Lib.hid hoc2
            have HNT := Lib.hid hnt
            obtain ⟨z0, z1, z2, z3⟩ := cells4 HBLK.out
            have hf2 : w'.frozen? ⟨g2, 2, none⟩ = false := by simp [World.frozen?, HBLK.out]
            have HKD2 := Lib.hid hkd2
            have hgog : go ≠ gs := by
              intro e
              have h1 := tagged_of_own HOWN.out go rfl
              have h2 := tagged_of_own HJ.out.os gs rfl
              obtain ⟨c1, f1, h1⟩ := h1
              obtain ⟨c2, f2, h2⟩ := h2
              rw [e, h2] at h1
              injection h1 with h1
              injection h1 with _ h1
              exact absurd h1 (by decide)
            have hn1 : go ≠ g2 := by omega
            have hn2 : gs ≠ g2 := by omega
            have hn3 : g2 ≠ gs := by omega
            have hn4 : g2 ≠ go := by omega
            have hfg3 : w'.frozen? ⟨gs, g * 4 + 3, none⟩ = false := by
              have h := own_chg HJ.out.os HCX.out (by simp)
              obtain ⟨q, e, -, -, hfz, -⟩ := own_ptr h (by omega)
              injection e with e
              injection e with e
              subst e
              exact hfz _
            have HOSF := Lib.hid (show ∀ wx, Chg [] wc wx → (wx.setCell ⟨gs, g * 4 + 3, none⟩ (.int .i64 (fg.c + 1))).ownsRow w.heap.size 62 4 (.slice (some ⟨gs, 0, none⟩) (i + 1) sc) (i + 1) ((bump m.s g).flatMap F.cs) from fun wx hx => by
              have h := own_set (own_chg HJ.out.os hx (by simp)) (g * 4 + 3) (by omega) (.int .i64 (fg.c + 1))
              rw [bump_flat HFG.out] at h
              exact h)
            have HEQ := Lib.hid (show goM (ns.drop (i + 1)) (i + 1) (stepM i x m) = goM ns 0 startM by
              have h := HJ.out.eq
              rw [List.drop_eq_getElem_cons (show i < ns.length by rw [← HN.out]; exact hin)] at h
              have hxe : ns[i]'(by rw [← HN.out]; exact hin) = x := by
                have h1 := HX.out
                rw [List.getElem?_eq_getElem (show i < ns.length by rw [← HN.out]; exact hin)] at h1
                injection h1
              rw [hxe, goM, if_pos hi12] at h
              exact h)
            have hwsz : w.heap.size ≤ w'.heap.size := Nat.le_trans HJ.out.cg.size HCX.out.size
            have hm2 : i + 1 + 1 ≤ maxLen := by unfold maxLen; omega
            have hm3 : (i + 1 + 1) * 40 ≤ 140737488355328 := by omega
            have hm4 : nt + 1 + 1 ≤ maxLen := by unfold maxLen; omega
            have hm5 : (nt + 1 + 1) * 8 ≤ 140737488355328 := by omega
            have HM2 := Lib.hid hm2; have HM3 := Lib.hid hm3; have HM4 := Lib.hid hm4; have HM5 := Lib.hid hm5
            clear hfg hsuf hoc hcell hOne hnt hkd2 hg2 hm2 hm3 hm4 hm5
            have hw : (4 < nt + 1 ∧ (k8 : Int) % 5 = 0) ∨ (4 < nt + 1 ∧ ¬ (k8 : Int) % 5 = 0) ∨ (¬ 4 < nt + 1 ∧ ¬ (k8 : Int) % 5 = 0) ∨ (¬ 4 < nt + 1 ∧ (k8 : Int) % 5 = 0) := by omega
            have hcell := HCELL.out
            rcases hw with ⟨w1, w2⟩ | ⟨w1, w2⟩ | ⟨w1, w2⟩ | ⟨w1, w2⟩
            · have d1 : decide ((4 : Int) < (nt : Int) + 1) = true := by simp; omega
              have d2 : ((k8 : Int) % 5 == 0) = true := by simpa using w2
              have E := Lib.hid (show kd = 2 by rw [HKD2.out, if_pos ⟨w1, w2⟩])
              have HK0' := Lib.hid (show kd ≠ 0 by rw [E.out]; decide)
              have HCW := Lib.hid (show Chg [] wc (w'.setCell ⟨g2, 2, none⟩ (.int .i64 2)) from HCX.out.setCell (.inr hgx) _)
              have HB := Lib.hid (show (w'.setCell ⟨g2, 2, none⟩ (.int .i64 2)).heap[g2]? = some (.cells #[.string nmI, .int .i64 (r : Int), .int .i64 2, .int .i64 0] 62 (0, 0)) from heap_set HBLK.out _)
              have HOS3 := Lib.hid (HOSF.out _ HCW.out)
              have HCA := Lib.hid (show Chg [] w (((w'.setCell ⟨g2, 2, none⟩ (.int .i64 2)).setCell ⟨gs, g * 4 + 3, none⟩ (.int .i64 (fg.c + 1))).alloc (.cells #[.string nmI, .int .i64 (r : Int), .int .i64 2, .int .i64 0] 62)) from ((HJ.out.cg.trans HCW.out (by simp)).setCell (.inr hgsB) _).alloc _)
              have HCB := Lib.hid (show Chg [gs] (w'.setCell ⟨g2, 2, none⟩ (.int .i64 2)) (((w'.setCell ⟨g2, 2, none⟩ (.int .i64 2)).setCell ⟨gs, g * 4 + 3, none⟩ (.int .i64 (fg.c + 1))).alloc (.cells #[.string nmI, .int .i64 (r : Int), .int .i64 2, .int .i64 0] 62)) from ((Chg.refl [gs] (w'.setCell ⟨g2, 2, none⟩ (.int .i64 2))).setCell (.inl (by simp)) _).alloc _)
              clear w2
              go_wp2_with (at_builtin; refine wpList_append_own _ rfl _ _ 26 rfl w.heap.size 62 i0 (.agg #[.string ByteArray.empty, .int .i64 0, .int .i64 0, .int .i64 0]) 4 40 Try.underlying26 hi hz0 hz1 hz2 rfl (by decide) _ _ _ rfl (HOS3.out.alloc _) ⟨w'.heap.size, 0, none⟩ 1 1 (F.cs ⟨nmI, (r : Int), 2, 0⟩) rfl rfl (new_cells (C := #[.string nmI, .int .i64 (r : Int), .int .i64 2, .int .i64 0]) w'.heap.size (by simp)) (F.one _) HM2.out HM3.out (Nat.le_trans hwsz (by simp)) ?_)
              intro v3 w3 hown hgrow _
              have HC3 := Lib.hid (HCA.out.grown hgrow (fun q hq => .inr (own_ge HOS3.out q hq)))
              have hc4 := HCB.out.grown hgrow (fun q hq => .inl (by simp [Value.ownBlock] at hq; simp [hq]))
              have HB4 := Lib.hid (hc4.heap HB.out (by simpa using hn3))
              have HO4 := Lib.hid (own_chg (own_chg HOWN.out HCW.out (by simp)) hc4 (fun q hq => by simp [Value.ownBlock] at hq; subst hq; simpa using hgog))
              have hos4 : w3.ownsRow w.heap.size 62 4 v3 (i + 1 + 1) ((stepM i x m).s.flatMap F.cs) := by
                rw [HSTEP.out, E.out, List.flatMap_append]
                simpa using hown
              have HOS4 := Lib.hid hos4
              obtain ⟨ao3, cap3, rfl⟩ := own_shape hown
              clear hown hgrow hc4 hos4 z0 z1 z2 z3 hcell
              obtain ⟨y0, y1, y2, y3⟩ := cells4 HB4.out
              have hoo4 := Lib.hid (show (stepM i x m).o = g :: t by rw [HSTEP.out, if_neg HK0'.out])
              go_wp2
              go_roundw
              case rel => exact ⟨i + 1, stepM i x m, by go_num, HJ.out.ok.step x, HEQ.out, by omega, by rw [← HN.out]; omega, HC3.out, HOS4.out, by rw [hoo4.out]; simpa [← HNT.out] using HO4.out⟩
              case measure => simp [intOf]; omega
            · have d1 : decide ((4 : Int) < (nt : Int) + 1) = true := by simp; omega
              have d2 : ((k8 : Int) % 5 == 0) = false := by simpa using w2
              have E := Lib.hid (show kd = (k8 : Int) % 5 by rw [HKD2.out, if_neg (fun h => w2 h.2)])
              have HK0' := Lib.hid (show kd ≠ 0 by rw [E.out]; exact w2)
              have HCW := Lib.hid (show Chg [] wc w' from HCX.out)
              have HB := Lib.hid (show w'.heap[g2]? = some (.cells #[.string nmI, .int .i64 (r : Int), .int .i64 ((k8 : Int) % 5), .int .i64 0] 62 (0, 0)) from HBLK.out)
              have HOS3 := Lib.hid (HOSF.out _ HCW.out)
              have HCA := Lib.hid (show Chg [] w ((w'.setCell ⟨gs, g * 4 + 3, none⟩ (.int .i64 (fg.c + 1))).alloc (.cells #[.string nmI, .int .i64 (r : Int), .int .i64 ((k8 : Int) % 5), .int .i64 0] 62)) from ((HJ.out.cg.trans HCW.out (by simp)).setCell (.inr hgsB) _).alloc _)
              have HCB := Lib.hid (show Chg [gs] w' ((w'.setCell ⟨gs, g * 4 + 3, none⟩ (.int .i64 (fg.c + 1))).alloc (.cells #[.string nmI, .int .i64 (r : Int), .int .i64 ((k8 : Int) % 5), .int .i64 0] 62)) from ((Chg.refl [gs] w').setCell (.inl (by simp)) _).alloc _)
              clear w2
              go_wp2_with (at_builtin; refine wpList_append_own _ rfl _ _ 26 rfl w.heap.size 62 i0 (.agg #[.string ByteArray.empty, .int .i64 0, .int .i64 0, .int .i64 0]) 4 40 Try.underlying26 hi hz0 hz1 hz2 rfl (by decide) _ _ _ rfl (HOS3.out.alloc _) ⟨w'.heap.size, 0, none⟩ 1 1 (F.cs ⟨nmI, (r : Int), ((k8 : Int) % 5), 0⟩) rfl rfl (new_cells (C := #[.string nmI, .int .i64 (r : Int), .int .i64 ((k8 : Int) % 5), .int .i64 0]) w'.heap.size (by simp)) (F.one _) HM2.out HM3.out (Nat.le_trans hwsz (by simp)) ?_)
              intro v3 w3 hown hgrow _
              have HC3 := Lib.hid (HCA.out.grown hgrow (fun q hq => .inr (own_ge HOS3.out q hq)))
              have hc4 := HCB.out.grown hgrow (fun q hq => .inl (by simp [Value.ownBlock] at hq; simp [hq]))
              have HB4 := Lib.hid (hc4.heap HB.out (by simpa using hn3))
              have HO4 := Lib.hid (own_chg (own_chg HOWN.out HCW.out (by simp)) hc4 (fun q hq => by simp [Value.ownBlock] at hq; subst hq; simpa using hgog))
              have hos4 : w3.ownsRow w.heap.size 62 4 v3 (i + 1 + 1) ((stepM i x m).s.flatMap F.cs) := by
                rw [HSTEP.out, E.out, List.flatMap_append]
                simpa using hown
              have HOS4 := Lib.hid hos4
              obtain ⟨ao3, cap3, rfl⟩ := own_shape hown
              clear hown hgrow hc4 hos4 z0 z1 z2 z3 hcell
              obtain ⟨y0, y1, y2, y3⟩ := cells4 HB4.out
              have hoo4 := Lib.hid (show (stepM i x m).o = g :: t by rw [HSTEP.out, if_neg HK0'.out])
              go_wp2
              go_roundw
              case rel => exact ⟨i + 1, stepM i x m, by go_num, HJ.out.ok.step x, HEQ.out, by omega, by rw [← HN.out]; omega, HC3.out, HOS4.out, by rw [hoo4.out]; simpa [← HNT.out] using HO4.out⟩
              case measure => simp [intOf]; omega
            · have d1 : decide ((4 : Int) < (nt : Int) + 1) = false := by simp; omega
              have d2 : ((k8 : Int) % 5 == 0) = false := by simpa using w2
              have E := Lib.hid (show kd = (k8 : Int) % 5 by rw [HKD2.out, if_neg (fun h => w1 h.1)])
              have HK0' := Lib.hid (show kd ≠ 0 by rw [E.out]; exact w2)
              have HCW := Lib.hid (show Chg [] wc w' from HCX.out)
              have HB := Lib.hid (show w'.heap[g2]? = some (.cells #[.string nmI, .int .i64 (r : Int), .int .i64 ((k8 : Int) % 5), .int .i64 0] 62 (0, 0)) from HBLK.out)
              have HOS3 := Lib.hid (HOSF.out _ HCW.out)
              have HCA := Lib.hid (show Chg [] w ((w'.setCell ⟨gs, g * 4 + 3, none⟩ (.int .i64 (fg.c + 1))).alloc (.cells #[.string nmI, .int .i64 (r : Int), .int .i64 ((k8 : Int) % 5), .int .i64 0] 62)) from ((HJ.out.cg.trans HCW.out (by simp)).setCell (.inr hgsB) _).alloc _)
              have HCB := Lib.hid (show Chg [gs] w' ((w'.setCell ⟨gs, g * 4 + 3, none⟩ (.int .i64 (fg.c + 1))).alloc (.cells #[.string nmI, .int .i64 (r : Int), .int .i64 ((k8 : Int) % 5), .int .i64 0] 62)) from ((Chg.refl [gs] w').setCell (.inl (by simp)) _).alloc _)
              clear w2
              go_wp2_with (at_builtin; refine wpList_append_own _ rfl _ _ 26 rfl w.heap.size 62 i0 (.agg #[.string ByteArray.empty, .int .i64 0, .int .i64 0, .int .i64 0]) 4 40 Try.underlying26 hi hz0 hz1 hz2 rfl (by decide) _ _ _ rfl (HOS3.out.alloc _) ⟨w'.heap.size, 0, none⟩ 1 1 (F.cs ⟨nmI, (r : Int), ((k8 : Int) % 5), 0⟩) rfl rfl (new_cells (C := #[.string nmI, .int .i64 (r : Int), .int .i64 ((k8 : Int) % 5), .int .i64 0]) w'.heap.size (by simp)) (F.one _) HM2.out HM3.out (Nat.le_trans hwsz (by simp)) ?_)
              intro v3 w3 hown hgrow _
              have HC3 := Lib.hid (HCA.out.grown hgrow (fun q hq => .inr (own_ge HOS3.out q hq)))
              have hc4 := HCB.out.grown hgrow (fun q hq => .inl (by simp [Value.ownBlock] at hq; simp [hq]))
              have HB4 := Lib.hid (hc4.heap HB.out (by simpa using hn3))
              have HO4 := Lib.hid (own_chg (own_chg HOWN.out HCW.out (by simp)) hc4 (fun q hq => by simp [Value.ownBlock] at hq; subst hq; simpa using hgog))
              have hos4 : w3.ownsRow w.heap.size 62 4 v3 (i + 1 + 1) ((stepM i x m).s.flatMap F.cs) := by
                rw [HSTEP.out, E.out, List.flatMap_append]
                simpa using hown
              have HOS4 := Lib.hid hos4
              obtain ⟨ao3, cap3, rfl⟩ := own_shape hown
              clear hown hgrow hc4 hos4 z0 z1 z2 z3 hcell
              obtain ⟨y0, y1, y2, y3⟩ := cells4 HB4.out
              have hoo4 := Lib.hid (show (stepM i x m).o = g :: t by rw [HSTEP.out, if_neg HK0'.out])
              go_wp2
              go_roundw
              case rel => exact ⟨i + 1, stepM i x m, by go_num, HJ.out.ok.step x, HEQ.out, by omega, by rw [← HN.out]; omega, HC3.out, HOS4.out, by rw [hoo4.out]; simpa [← HNT.out] using HO4.out⟩
              case measure => simp [intOf]; omega
            · have d1 : decide ((4 : Int) < (nt : Int) + 1) = false := by simp; omega
              have d2 : ((k8 : Int) % 5 == 0) = true := by simpa using w2
              have E := Lib.hid (show kd = (k8 : Int) % 5 by rw [HKD2.out, if_neg (fun h => w1 h.1)])
              have HK0' := Lib.hid (show kd = 0 by rw [E.out]; exact w2)
              have HCW := Lib.hid (show Chg [] wc w' from HCX.out)
              have HB := Lib.hid (show w'.heap[g2]? = some (.cells #[.string nmI, .int .i64 (r : Int), .int .i64 ((k8 : Int) % 5), .int .i64 0] 62 (0, 0)) from HBLK.out)
              have HOS3 := Lib.hid (HOSF.out _ HCW.out)
              have HCA := Lib.hid (show Chg [] w ((w'.setCell ⟨gs, g * 4 + 3, none⟩ (.int .i64 (fg.c + 1))).alloc (.cells #[.string nmI, .int .i64 (r : Int), .int .i64 ((k8 : Int) % 5), .int .i64 0] 62)) from ((HJ.out.cg.trans HCW.out (by simp)).setCell (.inr hgsB) _).alloc _)
              have HCB := Lib.hid (show Chg [gs] w' ((w'.setCell ⟨gs, g * 4 + 3, none⟩ (.int .i64 (fg.c + 1))).alloc (.cells #[.string nmI, .int .i64 (r : Int), .int .i64 ((k8 : Int) % 5), .int .i64 0] 62)) from ((Chg.refl [gs] w').setCell (.inl (by simp)) _).alloc _)
              clear w2
              go_wp2_with (at_builtin; refine wpList_append_own _ rfl _ _ 26 rfl w.heap.size 62 i0 (.agg #[.string ByteArray.empty, .int .i64 0, .int .i64 0, .int .i64 0]) 4 40 Try.underlying26 hi hz0 hz1 hz2 rfl (by decide) _ _ _ rfl (HOS3.out.alloc _) ⟨w'.heap.size, 0, none⟩ 1 1 (F.cs ⟨nmI, (r : Int), ((k8 : Int) % 5), 0⟩) rfl rfl (new_cells (C := #[.string nmI, .int .i64 (r : Int), .int .i64 ((k8 : Int) % 5), .int .i64 0]) w'.heap.size (by simp)) (F.one _) HM2.out HM3.out (Nat.le_trans hwsz (by simp)) ?_)
              intro v3 w3 hown hgrow _
              have HC3 := Lib.hid (HCA.out.grown hgrow (fun q hq => .inr (own_ge HOS3.out q hq)))
              have hc4 := HCB.out.grown hgrow (fun q hq => .inl (by simp [Value.ownBlock] at hq; simp [hq]))
              have HB4 := Lib.hid (hc4.heap HB.out (by simpa using hn3))
              have HO4 := Lib.hid (own_chg (own_chg HOWN.out HCW.out (by simp)) hc4 (fun q hq => by simp [Value.ownBlock] at hq; subst hq; simpa using hgog))
              have hos4 : w3.ownsRow w.heap.size 62 4 v3 (i + 1 + 1) ((stepM i x m).s.flatMap F.cs) := by
                rw [HSTEP.out, E.out, List.flatMap_append]
                simpa using hown
              have HOS4 := Lib.hid hos4
              obtain ⟨ao3, cap3, rfl⟩ := own_shape hown
              clear hown hgrow hc4 hos4 z0 z1 z2 z3 hcell
              obtain ⟨y0, y1, y2, y3⟩ := cells4 HB4.out
              have hoo4 := Lib.hid (show (stepM i x m).o = (i + 1) :: g :: t by rw [HSTEP.out, if_pos HK0'.out, HJ.out.ok.len])
              have hsz3 : w.heap.size ≤ w3.heap.size := HC3.out.size
              have ho5 : w3.ownsRow w.heap.size 3 1 (.slice (some ⟨go, 0, none⟩) (nt + 1) oc) (nt + 1) (iv (ov (g :: t))) := by simpa [← HNT.out] using HO4.out
              have HO5 := Lib.hid ho5
              have HCC := Lib.hid (HC3.out.alloc (.cells #[.int .i64 ((i : Int) + 1)] 3))
              have HOS5 := Lib.hid (show Chg [] w3 (w3.alloc (.cells #[.int .i64 ((i : Int) + 1)] 3)) from (Chg.refl [] w3).alloc _)
              clear ho5
              go_wp2_with (at_builtin; refine wpList_append_own _ rfl _ _ 22 rfl w.heap.size 3 i1 (.int .i64 0) 1 8 Try.underlying22 hi1 hy0 hy1 hy2 rfl (by decide) _ _ _ rfl (HO5.out.alloc _) ⟨w3.heap.size, 0, none⟩ 1 1 [.int .i64 ((i : Int) + 1)] rfl rfl (new_cells (C := #[.int .i64 ((i : Int) + 1)]) w3.heap.size rfl) (by intro u hu; simp at hu; subst hu; rfl) HM4.out HM5.out (Nat.le_trans hsz3 (by simp)) ?_)
              intro v5 w5 hown hgrow _
              have HC5 := Lib.hid (HCC.out.grown hgrow (fun q hq => .inr (own_ge HO5.out q hq)))
              have hc6 := ((Chg.refl [go] w3).alloc (.cells #[.int .i64 ((i : Int) + 1)] 3)).grown hgrow (fun q hq => .inl (by simp [Value.ownBlock] at hq; simp [hq]))
              have HOS6 := Lib.hid (own_chg HOS4.out hc6 (fun q hq hm => by
                have e : q = go := by simpa using hm
                subst e
                obtain ⟨c1, f1, h1⟩ := tagged_of_own HOS4.out q hq
                obtain ⟨c2, f2, h2⟩ := tagged_of_own HO5.out q rfl
                rw [h1] at h2
                injection h2 with h2
                injection h2 with _ h2
                exact absurd h2 (by decide)))
              have hoo6 : w5.ownsRow w.heap.size 3 1 v5 (stepM i x m).o.length (iv (ov (stepM i x m).o)) := by
                rw [hoo4.out]
                have e : iv (ov ((i + 1) :: g :: t)) = iv (ov (g :: t)) ++ [.int .i64 ((i : Int) + 1)] := by simp [iv, ov]
                rw [e]
                simpa [← HNT.out] using hown
              have HOO6 := Lib.hid hoo6
              obtain ⟨ao5, cap5, rfl⟩ := own_shape hown
              clear hown hgrow hc6 hoo6
              go_wp2
              go_roundw
              case rel => exact ⟨i + 1, stepM i x m, by go_num, HJ.out.ok.step x, HEQ.out, by omega, by rw [← HN.out]; omega, HC5.out, HOS6.out, HOO6.out⟩
              case measure => simp [intOf]; omega
    · have hfin : mk ns = finM m := by
        unfold mk
        rw [← HJ.out.eq]
        congr 1
        cases hd : ns.drop i with
        | nil => rfl
        | cons y l =>
          have hl := congrArg List.length hd
          simp at hl
          have h12 : ¬ i < 12 := fun h => hlt ⟨by rw [HN.out]; omega, h⟩
          rw [goM, if_neg h12]
      have HFIN := Lib.hid hfin
      have hways : ¬ i < n ∨ i < n ∧ ¬ i < 12 := by omega
      obtain ⟨gs, rfl, hgsB, hgsw, hgsf, hgsc⟩ := own_ptr HJ.out.os (by omega)
      obtain ⟨go, rfl, hgoB, hgow, hgof, hgoc⟩ := own_ptr HJ.out.oo (by have := HJ.out.ok.ne; exact List.length_pos_iff.2 this)
      obtain ⟨s, o⟩ := m
      have hne := HJ.out.ok.ne
      cases o with
      | nil => exact absurd rfl hne
      | cons g t =>
        have hgi : g < i + 1 := HJ.out.ok.lt g (by simp)
        have hlen5 : (g :: t).length ≤ 5 := HJ.out.ok.sm
        obtain ⟨fg, hfg⟩ : ∃ fg, s[g]? = some fg := ⟨_, List.getElem?_eq_getElem (by have := HJ.out.ok.len; simp only at this; omega)⟩
        have hfc := HJ.out.ok.cb fg (List.mem_of_getElem? hfg)
        have hcell := hgsc _ _ (flat_get F.cs_len s g fg 3 _ hfg rfl)
        have hfr := hgsf (g * 4 + 3)
        have hoc2 := hgoc t.length (.int .i64 (g : Int)) (by rw [iv, List.getElem?_map, ov_last]; rfl)
        have HFG := Lib.hid hfg
        have HGD := Lib.hid (show s.getD g default = fg by rw [List.getD, hfg]; rfl)
        obtain ⟨nt, hnt⟩ : ∃ nt, nt = t.length := ⟨_, rfl⟩
        have hgl : (g :: t).length = nt + 1 := by rw [List.length_cons, ← hnt]
        simp only at hgl ⊢
        rw [hgl]
        rw [hgl] at hlen5
        rw [← hnt] at hoc2
        clear hlt hfin hne hgsf hgsc hgof hgoc hfg hnt hgl
        by_cases h0 : fg.c = 0
        · have e0 : (fg.c == 0) = true := by simpa using h0
          have HE := Lib.hid (show finM { s := s, o := g :: t } = bump s g ++ [⟨bz, 0, 4, 0⟩] by rw [finM_of HGD.out, if_pos h0])
          have hset := own_set HJ.out.os (g * 4 + 3) (by omega) (.int .i64 (fg.c + 1))
          rw [bump_flat HFG.out] at hset
          have HOS3 := Lib.hid hset
          have HCA := Lib.hid ((HJ.out.cg.setCell (p := ⟨gs, g * 4 + 3, none⟩) (.inr hgsB) (.int .i64 (fg.c + 1))).alloc (.cells #[.string bz, .int .i64 0, .int .i64 4, .int .i64 0] 62))
          have hwsz : w.heap.size ≤ wr.heap.size := HJ.out.cg.size
          have hm2 : i + 1 + 1 ≤ maxLen := by unfold maxLen; omega
          have hm3 : (i + 1 + 1) * 40 ≤ 140737488355328 := by omega
          have HM2 := Lib.hid hm2; have HM3 := Lib.hid hm3
          have HSL := Lib.hid (show s.length = i + 1 from HJ.out.ok.len)
          clear hset h0 hm2 hm3
          rcases hways with h | ⟨h, h'⟩
          all_goals
            go_wp2_with (at_builtin; refine wpList_append_own _ rfl _ _ 26 rfl w.heap.size 62 i0 (.agg #[.string ByteArray.empty, .int .i64 0, .int .i64 0, .int .i64 0]) 4 40 Try.underlying26 hi hz0 hz1 hz2 rfl (by decide) _ _ _ rfl (HOS3.out.alloc _) ⟨wr.heap.size, 0, none⟩ 1 1 (F.cs ⟨bz, 0, 4, 0⟩) rfl rfl (new_cells (C := #[.string bz, .int .i64 0, .int .i64 4, .int .i64 0]) wr.heap.size (by simp)) (F.one _) HM2.out HM3.out (Nat.le_trans hwsz (by simp)) ?_)
            intro v3 w3 hown hgrow _
            have HC3 := Lib.hid (HCA.out.grown hgrow (fun q hq => .inr (own_ge HOS3.out q hq)))
            have HO3 := Lib.hid hown
            obtain ⟨ao3, cap3, rfl⟩ := own_shape hown
            clear hown hgrow
            go_wp2
            go_ret
            refine ⟨_, rfl, ?_, HC3.out⟩
            rw [HFIN.out, HE.out, List.flatMap_append, List.length_append, bump_length, HSL.out]
            simpa using HO3.out
        · have e0 : (fg.c == 0) = false := by simpa using h0
          have HE := Lib.hid (show finM { s := s, o := g :: t } = s by rw [finM_of HGD.out, if_neg h0])
          have HSL := Lib.hid (show s.length = i + 1 from HJ.out.ok.len)
          have HOS3 := Lib.hid HJ.out.os
          have HC3 := Lib.hid HJ.out.cg
          clear h0
          rcases hways with h | ⟨h, h'⟩
          all_goals
            go_wp2
            go_ret
            refine ⟨_, rfl, ?_, HC3.out⟩
            rw [HFIN.out, HE.out, HSL.out]
            exact HOS3.out

end Go.Proofs.Ytfdmbpfpdijpdaa
