/- project's Resolve. -/
import Derived.Test.YtkbfbiklnjldgaaQp
import Derived.Test.YtkbfbiklnjldgaaA4
import Derived.Test.YtkbfbiklnjldgaaA1
namespace Go.Proofs.Ytkbfbiklnjldgaa
open Go.RowKit
set_option linter.unusedVariables false

theorem KidsM.lt {w : World} {g : Nat} {l : List F} (h : KidsM w g l) : g < w.heap.size := by
  obtain ⟨R, -, h2, -⟩ := h
  exact Go.lt_of_block h2

theorem blkI_ne {w : World} {g B : Nat} {ps : List Int} {C : Array Value} {fr : Nat × Nat} (h : BlkI w g ps) (hb : w.heap[B]? = some (.cells C 22 fr)) : g ≠ B := by
  rintro rfl
  unfold BlkI at h
  rw [h] at hb
  injection hb with hb
  injection hb with h1 h2 h3
  cases h2

theorem KidsM.far {w : World} {g B T : Nat} {l : List F} {fr : Nat × Nat} (h : KidsM w g l) (hb : w.heap[B]? = some (.cells #[nilS] T fr)) (hne : g ≠ B) (v : Value) : KidsM (w.setCell ⟨B, 0, none⟩ v) g l := by
  obtain ⟨R, h1, h2, h3⟩ := h
  have hc : Chg [B] w (w.setCell ⟨B, 0, none⟩ v) := (Chg.refl [B] w).setCell (by simp) v
  refine ⟨R, h1, hc.heap h2 (by simpa using hne), fun j hj => ?_⟩
  obtain ⟨ao, cap, e1, e2, e3, e4⟩ := h3 j hj
  refine ⟨ao, cap, e1, e2, e3, fun hn => ?_⟩
  obtain ⟨g2, off, e5, e6⟩ := e4 hn
  refine ⟨g2, off, e5, fun j x i u hx hu => hc.cell (e6 j x i u hx hu) ?_⟩
  simp only [List.mem_singleton]
  intro e
  have hq := e6 j x i u hx hu
  have hi : i = 0 := by
    cases i with
    | zero => rfl
    | succ i => simp [ic] at hu
  subst hi
  simp [ic] at hu
  subst hu
  subst e
  rw [World.cell?, hb] at hq
  simp only at hq
  generalize off + j * 1 + 0 = o at hq
  cases o with
  | zero => simp at hq
  | succ o => simp at hq

abbrev FRS5 (l : List F) (n : Nat) (ao : Option Addr) (cap : Nat) (pv : Value) (B2 B4 : Nat) (gi : Nat) (g : Nat) (Bi : Nat) (base u : Nat → Value) : Act := { tmps := #[.slice ao n cap, pv, .pointer (some ⟨B2, 0, none⟩), base 3, .pointer (some ⟨B4, 0, none⟩), nilS, .int .i64 0, base 7, u 8, u 9, base 10, base 11, base 12, base 13, base 14, base 15, base 16, base 17, base 18, base 19, base 20, base 21, u 22, u 23, u 24, u 25, base 26, base 27, base 28, base 29, base 30, base 31, base 32, base 33, base 34, base 35, base 36, base 37, base 38, base 39, base 40, base 41, base 42, base 43, base 44, base 45, base 46, base 47, base 48, base 49, base 50, base 51, base 52], defers := [] }

structure RIS5 (l : List F) (n : Nat) (ao : Option Addr) (cap : Nat) (pv : Value) (B2 B4 : Nat) (wc : World) (b : Nat → Bool) (u : Nat → Value) (gi : Nat) (g : Nat) (Bi : Nat) (w' : World) : Prop where
  c0 : b 0 = true → u 22 = .slice ao n cap
  c1 : b 1 = true → u 23 = .slice (some ⟨gi, 0, none⟩) n n
  c2 : b 2 = true → u 24 = .slice ao n cap
  c3 : b 3 = true → u 25 = .slice (some ⟨g, 0, none⟩) n n
  c4 : b 4 = true → u 8 = .pointer (some ⟨Bi, 0, none⟩)
  c6 : b 6 = true → u 9 = .slice (some ⟨g, 0, none⟩) n n
  cg : Chg [] wc w'
  m1 : b 1 = true → BlkI w' gi (parents l)
  m3 : b 3 = true → KidsM w' g l ∧ g < w'.heap.size
  m4 : b 4 = true → wc.heap.size ≤ Bi ∧ Bi < w'.heap.size ∧ (b 5 = false → w'.heap[Bi]? = some (.cells #[nilS] 22 (0, 0)))
  m5 : b 5 = true → w'.heap[Bi]? = some (.cells #[.slice (some ⟨gi, 0, none⟩) n n] 22 (0, 0))
  dd : b 3 = true → b 4 = true → g ≠ Bi
  z5_1 : b 5 = true → b 1 = true
  z5_4 : b 5 = true → b 4 = true
  z6_3 : b 6 = true → b 3 = true

def JIS5 (l : List F) (n : Nat) (ao : Option Addr) (cap : Nat) (pv : Value) (B2 B4 : Nat) (wc : World) (listed : Array Bool) (a' : Act) (w' : World) : Prop :=
  ∃ (b : Nat → Bool) (base u : Nat → Value) (gi : Nat) (g : Nat) (Bi : Nat), listed = #[b 0, b 1, b 2, b 3, b 4, b 5, b 6] ∧ a' = FRS5 l n ao cap pv B2 B4 gi g Bi base u ∧ RIS5 l n ao cap pv B2 B4 wc b u gi g Bi w'

theorem JIS5_start {l : List F} {n : Nat} {ao : Option Addr} {cap : Nat} {pv : Value} {B2 B4 : Nat} {wc w' : World} {a : Act} (h : a = FRS5 l n ao cap pv B2 B4 0 0 0 (fun j => a.tmps.getD j undef) (fun j => a.tmps.getD j undef)) (hc : Chg [] wc w') : JIS5 l n ao cap pv B2 B4 wc (Array.replicate 7 false) a w' :=
  ⟨fun _ => false, _, _, 0, 0, 0, rfl, h, by constructor <;> simp [hc]⟩

theorem ltS5 : ∀ i : Nat, i < 7 → i = 0 ∨ i = 1 ∨ i = 2 ∨ i = 3 ∨ i = 4 ∨ i = 5 ∨ i = 6 := by decide


abbrev FRS17 (l : List F) (n : Nat) (ao : Option Addr) (cap : Nat) (pv : Value) (B2 B4 gk g : Nat) (κ : Nat → Bool) (rv : Value) (base u : Nat → Value) : Act := { tmps := #[.slice ao n cap, pv, .pointer (some ⟨B2, 0, none⟩), base 3, .pointer (some ⟨B4, 0, none⟩), u 5, u 6, base 7, base 8, .slice (some ⟨g, 0, none⟩) n n, base 10, base 11, base 12, base 13, base 14, base 15, base 16, base 17, base 18, base 19, base 20, base 21, base 22, base 23, base 24, base 25, base 26, base 27, base 28, base 29, base 30, base 31, base 32, base 33, base 34, base 35, base 36, base 37, base 38, base 39, base 40, base 41, base 42, base 43, base 44, base 45, base 46, base 47, u 48, u 49, u 50, u 51, u 52], defers := [] }

structure RIS17 (l : List F) (n : Nat) (ao : Option Addr) (cap : Nat) (pv : Value) (B2 B4 gk g : Nat) (κ : Nat → Bool) (wc : World) (b : Nat → Bool) (u : Nat → Value) (rv : Value) (w' : World) : Prop where
  c0 : b 0 = true → u 48 = .slice (some ⟨gk, 0, none⟩) n n
  c1 : b 1 = true → u 49 = .slice ao n cap
  c2 : b 2 = true → u 50 = .slice (some ⟨g, 0, none⟩) n n
  c3 : b 3 = true → u 51 = .slice (some ⟨gk, 0, none⟩) n n
  c4 : b 4 = true → u 52 = rv
  c6 : b 6 = true → u 5 = rv
  c7 : b 7 = true → u 6 = .int .i64 0
  cg : Chg [] wc w'
  m4 : b 4 = true → SeenF w' rv (partTo l κ n)
  z6_4 : b 6 = true → b 4 = true

def JIS17 (l : List F) (n : Nat) (ao : Option Addr) (cap : Nat) (pv : Value) (B2 B4 gk g : Nat) (κ : Nat → Bool) (wc : World) (listed : Array Bool) (a' : Act) (w' : World) : Prop :=
  ∃ (b : Nat → Bool) (base u : Nat → Value) (rv : Value), listed = #[b 0, b 1, b 2, b 3, b 4, b 5, b 6, b 7] ∧ a' = FRS17 l n ao cap pv B2 B4 gk g κ rv base u ∧ RIS17 l n ao cap pv B2 B4 gk g κ wc b u rv w'

theorem JIS17_start {l : List F} {n : Nat} {ao : Option Addr} {cap : Nat} {pv : Value} {B2 B4 gk g : Nat} {κ : Nat → Bool} {wc w' : World} {a : Act} (h : a = FRS17 l n ao cap pv B2 B4 gk g κ undef (fun j => a.tmps.getD j undef) (fun j => a.tmps.getD j undef)) (hc : Chg [] wc w') : JIS17 l n ao cap pv B2 B4 gk g κ wc (Array.replicate 8 false) a w' :=
  ⟨fun _ => false, _, _, undef, rfl, h, by constructor <;> simp [hc]⟩

theorem ltS17 : ∀ i : Nat, i < 8 → i = 0 ∨ i = 1 ∨ i = 2 ∨ i = 3 ∨ i = 4 ∨ i = 5 ∨ i = 6 ∨ i = 7 := by decide


theorem setCell_same {w : World} {g : Nat} {C : Array Value} {T : TypeId} {fr : Nat × Nat} (h : w.heap[g]? = some (.cells C T fr)) (i : Nat) (v : Value) (hv : C[i]? = some v) : w.setCell ⟨g, i, none⟩ v = w := by
  have h2 := heap_set (i := i) h v
  have e : C.setIfInBounds i v = C := by
    apply Array.ext_getElem?
    intro j
    by_cases hj : i = j
    · subst hj
      have hl := (Array.getElem?_eq_some_iff.1 hv).1
      rw [Array.getElem?_setIfInBounds_self_of_lt hl, hv]
    · rw [Array.getElem?_setIfInBounds_ne hj]
  rw [e] at h2
  have hh : (w.setCell ⟨g, i, none⟩ v).heap = w.heap := by
    apply Array.ext_getElem?
    intro k
    by_cases hk : k = g
    · subst hk; rw [h2, h]
    · exact Below.heap_setCell w ⟨g, i, none⟩ v k hk
  have h3 : w.setCell ⟨g, i, none⟩ v = { w with heap := (w.setCell ⟨g, i, none⟩ v).heap } := rfl
  rw [h3, hh]

theorem KidsM.farK {w w' : World} {g gk n : Nat} {l : List F} {κ : Nat → Bool} (h : KidsM w g l) (hb : BlkK w gk n κ) (hc : Chg [gk] w w') : KidsM w' g l := by
  obtain ⟨R, h1, h2, h3⟩ := h
  have hne : g ≠ gk := by
    rintro rfl
    unfold BlkK at hb
    rw [h2] at hb
    injection hb with hb
    injection hb with e1 e2 e3
    cases e2
  refine ⟨R, h1, hc.heap h2 (by simpa using hne), fun j hj => ?_⟩
  obtain ⟨ao, cap, e1, e2, e3, e4⟩ := h3 j hj
  refine ⟨ao, cap, e1, e2, e3, fun hn => ?_⟩
  obtain ⟨g2, off, e5, e6⟩ := e4 hn
  refine ⟨g2, off, e5, fun j x i u hx hu => hc.cell (e6 j x i u hx hu) ?_⟩
  simp only [List.mem_singleton]
  intro e
  have hq := e6 j x i u hx hu
  have hi : i = 0 := by
    cases i with
    | zero => rfl
    | succ i => simp [ic] at hu
  subst hi
  simp [ic] at hu
  subst hu
  subst e
  generalize off + j * 1 + 0 = o at hq
  by_cases ho : o < n
  · rw [hb.cell ho] at hq
    cases hq
  · unfold BlkK at hb
    rw [World.cell?, hb] at hq
    simp at hq

theorem findI_rng (l : List F) (h1 : 1 ≤ l.length) (p : ByteArray) : findI l p = -1 ∨ 0 ≤ findI l p ∧ findI l p < l.length := by
  have key : ∀ (r cur : List Nat) (a : Int), fdM l a cur r = -1 ∨ 0 ≤ fdM l a cur r ∧ fdM l a cur r < l.length := by
    intro r
    induction r with
    | nil => intro cur a; exact namedI_rng l a (str cur)
    | cons c t ih =>
      intro cur a
      rw [fdM]
      split
      · split
        · exact .inl rfl
        · exact ih _ _
      · exact ih _ _
  exact key _ _ _

theorem TkM.keep2 {l : List F} {w w1 w2 : World} {Bk Bs Bi gk gi n : Nat} {sv : Value} (h : TkM l w Bk Bs Bi gk gi n sv) (hc : Chg [gk] w w1) (hc2 : Chg [] w1 w2) (hs : SeenF w2 sv l) : TkM l w2 Bk Bs Bi gk gi n sv :=
  have k : Chg [gk] w w2 := hc.trans hc2 (by simp)
  ⟨h.hn, k.cell h.ck (by simpa using fun e => h.d1 e.symm), k.cell h.cs (by simpa using fun e => h.d2 e.symm), k.cell h.ci (by simpa using fun e => h.d3 e.symm), h.bi.chg k (by simpa using fun e => h.d4 e.symm), hs, h.d1, h.d2, h.d3, h.d4⟩

/-- Which fields are kept of the first k paths. -/
def KeptTo (l : List F) (ps : List ByteArray) (k : Nat) (κ : Nat → Bool) : Prop := ∀ j, j < l.length → (κ j = true ↔ ∃ f : Nat, (ps = [] ∧ f = 0 ∨ ∃ p ∈ ps.take k, findI l p = (f : Int)) ∧ (Sub (parents l) f j ∨ Up (parents l) f j))

theorem KeptTo.next {l : List F} {ps : List ByteArray} {k f : Nat} {κ κ' : Nat → Bool} {p : ByteArray} (h : KeptTo l ps k κ) (hp : ps[k]? = some p) (hf : findI l p = (f : Int)) (ht : TakeK l κ f κ') : KeptTo l ps (k + 1) κ' := by
  intro j hj
  rw [ht j hj, h j hj]
  constructor
  · rintro (⟨f2, h1, h2⟩ | h1 | h1)
    · refine ⟨f2, ?_, h2⟩
      rcases h1 with h1 | ⟨q, hq, h3⟩
      · exact .inl h1
      · exact .inr ⟨q, (List.take_subset_take_left ps (Nat.le_succ k)) hq, h3⟩
    · exact ⟨f, .inr ⟨p, by rw [List.take_add_one, hp]; simp, hf⟩, .inl h1⟩
    · exact ⟨f, .inr ⟨p, by rw [List.take_add_one, hp]; simp, hf⟩, .inr h1⟩
  · rintro ⟨f2, h1, h2⟩
    rcases h1 with h1 | ⟨q, hq, h3⟩
    · exact .inl ⟨f2, .inl h1, h2⟩
    · rw [List.take_add_one, hp] at hq
      simp at hq
      rcases hq with hq | rfl
      · exact .inl ⟨f2, .inr ⟨q, hq, h3⟩, h2⟩
      · have e : f2 = f := by rw [hf] at h3; omega
        subst e
        exact .inr h2
theorem info_bool : ∃ i, Try.prog.info? 4 = some i ∧ i.zero = some (.bool false) ∧ i.size = 1 ∧ i.bytes = 1 :=
  info_parts (show (Try.prog.info? 4).map (fun i => (i.zero, i.size, i.bytes)) = some (some (.bool false), 1, 1) by kernel_rfl)

theorem cells_false (n : Nat) : (madeCells #[Value.bool false] n).toList = (List.range n).map fun j => Value.bool ((fun _ => false) j) := by
  rw [toList_madeCells_one]
  apply List.ext_getElem?
  intro j
  by_cases hj : j < n
  · simp [hj]
  · rw [List.getElem?_eq_none (by simp; omega), List.getElem?_eq_none (by simp; omega)]

theorem results_cell3 {fn : Func} {p u v : Tmp} {ty : TypeId} (h : fn.results = #[.cell p ty, .tmp u, .tmp v]) (tmps : Array Value) (P : Program) (w : World) :
    (results fn tmps).run P w =
      ((asAddr (tmps.getD p undef)).run P w).andThen fun a w₁ => ((loadVar ty a).run P w₁).andThen fun x w₂ => .ok (.tuple #[x, tmps.getD u undef, tmps.getD v undef]) w₂ := by
  simp only [results, h]
  simp [Sem.run_bind, Result.andThen]

theorem chk_len {l : List F} (h : chk l = 0) : 1 ≤ l.length ∧ l.length ≤ 40 := by
  unfold chk at h
  split at h
  · cases h
  · omega

/-- Which fields are kept of some paths. -/
def KeptK (l : List F) (ps : List ByteArray) (κ : Nat → Bool) : Prop := ∀ j, j < l.length → (κ j = true ↔ ∃ f : Nat, (ps = [] ∧ f = 0 ∨ ∃ p ∈ ps, findI l p = (f : Int)) ∧ (Sub (parents l) f j ∨ Up (parents l) f j))

/-- What Resolve answers. -/
def ResOut (l : List F) (ps : List ByteArray) (w : World) (e : Ending) (w' : World) : Prop :=
  (chk l ≠ 0 ∧ e = .returned (.tuple #[nilS, nilS, .int .i64 (chk l)])) ∨
  (chk l = 0 ∧ (∃ p ∈ ps, findI l p = -1) ∧ e = .returned (.tuple #[nilS, nilS, .int .i64 2])) ∨
  (chk l = 0 ∧ (∀ p ∈ ps, findI l p ≠ -1) ∧ ∃ gk κ pv, e = .returned (.tuple #[.slice (some ⟨gk, 0, none⟩) l.length l.length, pv, .int .i64 0]) ∧ BlkK w' gk l.length κ ∧ w.heap.size ≤ gk ∧ SeenF w' pv (partTo l κ l.length) ∧ KeptK l ps κ)

end Go.Proofs.Ytkbfbiklnjldgaa
