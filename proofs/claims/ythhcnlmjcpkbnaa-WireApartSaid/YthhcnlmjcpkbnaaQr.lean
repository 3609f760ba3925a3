/- project's Resolve. -/
import Derived.Test.YthhcnlmjcpkbnaaQp
import Derived.Test.YthhcnlmjcpkbnaaA4
import Derived.Test.YthhcnlmjcpkbnaaA1
namespace Go.Proofs.Ythhcnlmjcpkbnaa
open Go.RowKit
set_option linter.unusedVariables false

theorem KidsM.lt {w : World} {g : Nat} {l : List F} (h : KidsM w g l) : g < w.heap.size := by
  obtain ⟨R, -, h2, -⟩ := h
  exact Go.lt_of_block h2

theorem blkI_ne {w : World} {g B : Nat} {ps : List Int} {C : Array Value} {fr : Nat × Nat} (h : BlkI w g ps) (hb : w.heap[B]? = some (.cells C 22 fr)) : g ≠ B := by
  rintro rfl
  unfold BlkI at h
  rw [h] at hb
  injection hb with hb
  injection hb with h1 h2 h3
  cases h2

theorem KidsM.far {w : World} {g B T : Nat} {l : List F} {fr : Nat × Nat} (h : KidsM w g l) (hb : w.heap[B]? = some (.cells #[nilS] T fr)) (hne : g ≠ B) (v : Value) : KidsM (w.setCell ⟨B, 0, none⟩ v) g l := by
  obtain ⟨R, h1, h2, h3⟩ := h
  have hc : Chg [B] w (w.setCell ⟨B, 0, none⟩ v) := (Chg.refl [B] w).setCell (by simp) v
  refine ⟨R, h1, hc.heap h2 (by simpa using hne), fun j hj => ?_⟩
  obtain ⟨ao, cap, e1, e2, e3, e4⟩ := h3 j hj
  refine ⟨ao, cap, e1, e2, e3, fun hn => ?_⟩
  obtain ⟨g2, off, e5, e6⟩ := e4 hn
  refine ⟨g2, off, e5, fun j x i u hx hu => hc.cell (e6 j x i u hx hu) ?_⟩
  simp only [List.mem_singleton]
  intro e
  have hq := e6 j x i u hx hu
  have hi : i = 0 := by
    cases i with
    | zero => rfl
    | succ i => simp [ic] at hu
  subst hi
  simp [ic] at hu
  subst hu
  subst e
  rw [World.cell?, hb] at hq
  simp only at hq
  generalize off + j * 1 + 0 = o at hq
  cases o with
  | zero => simp at hq
  | succ o => simp at hq

abbrev FRS5 (l : List F) (n : Nat) (ao : Option Addr) (cap : Nat) (pv : Value) (B2 B4 : Nat) (gi : Nat) (g : Nat) (Bi : Nat) (base u : Nat → Value) : Act := { tmps := #[.slice ao n cap, pv, .pointer (some ⟨B2, 0, none⟩), base 3, .pointer (some ⟨B4, 0, none⟩), nilS, .int .i64 0, base 7, u 8, u 9, base 10, base 11, base 12, base 13, base 14, base 15, base 16, base 17, base 18, base 19, base 20, base 21, u 22, u 23, u 24, u 25, base 26, base 27, base 28, base 29, base 30, base 31, base 32, base 33, base 34, base 35, base 36, base 37, base 38, base 39, base 40, base 41, base 42, base 43, base 44, base 45, base 46, base 47, base 48, base 49, base 50, base 51, base 52], defers := [] }

structure RIS5 (l : List F) (n : Nat) (ao : Option Addr) (cap : Nat) (pv : Value) (B2 B4 : Nat) (wc : World) (b : Nat → Bool) (u : Nat → Value) (gi : Nat) (g : Nat) (Bi : Nat) (w' : World) : Prop where
  c0 : b 0 = true → u 22 = .slice ao n cap
  c1 : b 1 = true → u 23 = .slice (some ⟨gi, 0, none⟩) n n
  c2 : b 2 = true → u 24 = .slice ao n cap
  c3 : b 3 = true → u 25 = .slice (some ⟨g, 0, none⟩) n n
  c4 : b 4 = true → u 8 = .pointer (some ⟨Bi, 0, none⟩)
  c6 : b 6 = true → u 9 = .slice (some ⟨g, 0, none⟩) n n
  cg : Chg [] wc w'
  m1 : b 1 = true → BlkI w' gi (parents l)
  m3 : b 3 = true → KidsM w' g l ∧ g < w'.heap.size
  m4 : b 4 = true → wc.heap.size ≤ Bi ∧ Bi < w'.heap.size ∧ (b 5 = false → w'.heap[Bi]? = some (.cells #[nilS] 22 (0, 0)))
  m5 : b 5 = true → w'.heap[Bi]? = some (.cells #[.slice (some ⟨gi, 0, none⟩) n n] 22 (0, 0))
  dd : b 3 = true → b 4 = true → g ≠ Bi
  z5_1 : b 5 = true → b 1 = true
  z5_4 : b 5 = true → b 4 = true
  z6_3 : b 6 = true → b 3 = true

def JIS5 (l : List F) (n : Nat) (ao : Option Addr) (cap : Nat) (pv : Value) (B2 B4 : Nat) (wc : World) (listed : Array Bool) (a' : Act) (w' : World) : Prop :=
  ∃ (b : Nat → Bool) (base u : Nat → Value) (gi : Nat) (g : Nat) (Bi : Nat), listed = #[b 0, b 1, b 2, b 3, b 4, b 5, b 6] ∧ a' = FRS5 l n ao cap pv B2 B4 gi g Bi base u ∧ RIS5 l n ao cap pv B2 B4 wc b u gi g Bi w'

theorem JIS5_start {l : List F} {n : Nat} {ao : Option Addr} {cap : Nat} {pv : Value} {B2 B4 : Nat} {wc w' : World} {a : Act} (h : a = FRS5 l n ao cap pv B2 B4 0 0 0 (fun j => a.tmps.getD j undef) (fun j => a.tmps.getD j undef)) (hc : Chg [] wc w') : JIS5 l n ao cap pv B2 B4 wc (Array.replicate 7 false) a w' :=
  ⟨fun _ => false, _, _, 0, 0, 0, rfl, h, by constructor <;> simp [hc]⟩

theorem ltS5 : ∀ i : Nat, i < 7 → i = 0 ∨ i = 1 ∨ i = 2 ∨ i = 3 ∨ i = 4 ∨ i = 5 ∨ i = 6 := by decide


abbrev FRS17 (l : List F) (n : Nat) (ao : Option Addr) (cap : Nat) (pv : Value) (B2 B4 gk g : Nat) (κ : Nat → Bool) (rv : Value) (base u : Nat → Value) : Act := { tmps := #[.slice ao n cap, pv, .pointer (some ⟨B2, 0, none⟩), base 3, .pointer (some ⟨B4, 0, none⟩), u 5, u 6, base 7, base 8, .slice (some ⟨g, 0, none⟩) n n, base 10, base 11, base 12, base 13, base 14, base 15, base 16, base 17, base 18, base 19, base 20, base 21, base 22, base 23, base 24, base 25, base 26, base 27, base 28, base 29, base 30, base 31, base 32, base 33, base 34, base 35, base 36, base 37, base 38, base 39, base 40, base 41, base 42, base 43, base 44, base 45, base 46, base 47, u 48, u 49, u 50, u 51, u 52], defers := [] }

structure RIS17 (l : List F) (n : Nat) (ao : Option Addr) (cap : Nat) (pv : Value) (B2 B4 gk g : Nat) (κ : Nat → Bool) (wc : World) (b : Nat → Bool) (u : Nat → Value) (rv : Value) (w' : World) : Prop where
  c0 : b 0 = true → u 48 = .slice (some ⟨gk, 0, none⟩) n n
  c1 : b 1 = true → u 49 = .slice ao n cap
  c2 : b 2 = true → u 50 = .slice (some ⟨g, 0, none⟩) n n
  c3 : b 3 = true → u 51 = .slice (some ⟨gk, 0, none⟩) n n
  c4 : b 4 = true → u 52 = rv
  c6 : b 6 = true → u 5 = rv
  c7 : b 7 = true → u 6 = .int .i64 0
  cg : Chg [] wc w'
  m4 : b 4 = true → SeenF w' rv (partTo l κ n)
  z6_4 : b 6 = true → b 4 = true

def JIS17 (l : List F) (n : Nat) (ao : Option Addr) (cap : Nat) (pv : Value) (B2 B4 gk g : Nat) (κ : Nat → Bool) (wc : World) (listed : Array Bool) (a' : Act) (w' : World) : Prop :=
  ∃ (b : Nat → Bool) (base u : Nat → Value) (rv : Value), listed = #[b 0, b 1, b 2, b 3, b 4, b 5, b 6, b 7] ∧ a' = FRS17 l n ao cap pv B2 B4 gk g κ rv base u ∧ RIS17 l n ao cap pv B2 B4 gk g κ wc b u rv w'

theorem JIS17_start {l : List F} {n : Nat} {ao : Option Addr} {cap : Nat} {pv : Value} {B2 B4 gk g : Nat} {κ : Nat → Bool} {wc w' : World} {a : Act} (h : a = FRS17 l n ao cap pv B2 B4 gk g κ undef (fun j => a.tmps.getD j undef) (fun j => a.tmps.getD j undef)) (hc : Chg [] wc w') : JIS17 l n ao cap pv B2 B4 gk g κ wc (Array.replicate 8 false) a w' :=
  ⟨fun _ => false, _, _, undef, rfl, h, by constructor <;> simp [hc]⟩

theorem ltS17 : ∀ i : Nat, i < 8 → i = 0 ∨ i = 1 ∨ i = 2 ∨ i = 3 ∨ i = 4 ∨ i = 5 ∨ i = 6 ∨ i = 7 := by decide


theorem setCell_same {w : World} {g : Nat} {C : Array Value} {T : TypeId} {fr : Nat × Nat} (h : w.heap[g]? = some (.cells C T fr)) (i : Nat) (v : Value) (hv : C[i]? = some v) : w.setCell ⟨g, i, none⟩ v = w := by
  have h2 := heap_set (i := i) h v
  have e : C.setIfInBounds i v = C := by
    apply Array.ext_getElem?
    intro j
    by_cases hj : i = j
    · subst hj
      have hl := (Array.getElem?_eq_some_iff.1 hv).1
      rw [Array.getElem?_setIfInBounds_self_of_lt hl, hv]
    · rw [Array.getElem?_setIfInBounds_ne hj]
  rw [e] at h2
  have hh : (w.setCell ⟨g, i, none⟩ v).heap = w.heap := by
    apply Array.ext_getElem?
    intro k
    by_cases hk : k = g
    · subst hk; rw [h2, h]
    · exact Below.heap_setCell w ⟨g, i, none⟩ v k hk
  have h3 : w.setCell ⟨g, i, none⟩ v = { w with heap := (w.setCell ⟨g, i, none⟩ v).heap } := rfl
  rw [h3, hh]

theorem KidsM.farK {w w' : World} {g gk n : Nat} {l : List F} {κ : Nat → Bool} (h : KidsM w g l) (hb : BlkK w gk n κ) (hc : Chg [gk] w w') : KidsM w' g l := by
  obtain ⟨R, h1, h2, h3⟩ := h
  have hne : g ≠ gk := by
    rintro rfl
    unfold BlkK at hb
    rw [h2] at hb
    injection hb with hb
    injection hb with e1 e2 e3
    cases e2
  refine ⟨R, h1, hc.heap h2 (by simpa using hne), fun j hj => ?_⟩
  obtain ⟨ao, cap, e1, e2, e3, e4⟩ := h3 j hj
  refine ⟨ao, cap, e1, e2, e3, fun hn => ?_⟩
  obtain ⟨g2, off, e5, e6⟩ := e4 hn
  refine ⟨g2, off, e5, fun j x i u hx hu => hc.cell (e6 j x i u hx hu) ?_⟩
  simp only [List.mem_singleton]
  intro e
  have hq := e6 j x i u hx hu
  have hi : i = 0 := by
    cases i with
    | zero => rfl
    | succ i => simp [ic] at hu
  subst hi
  simp [ic] at hu
  subst hu
  subst e
  generalize off + j * 1 + 0 = o at hq
  by_cases ho : o < n
  · rw [hb.cell ho] at hq
    cases hq
  · unfold BlkK at hb
    rw [World.cell?, hb] at hq
    simp at hq

theorem findI_rng (l : List F) (h1 : 1 ≤ l.length) (p : ByteArray) : findI l p = -1 ∨ 0 ≤ findI l p ∧ findI l p < l.length := by
  have key : ∀ (r cur : List Nat) (a : Int), fdM l a cur r = -1 ∨ 0 ≤ fdM l a cur r ∧ fdM l a cur r < l.length := by
    intro r
    induction r with
    | nil => intro cur a; exact namedI_rng l a (str cur)
    | cons c t ih =>
      intro cur a
      rw [fdM]
      split
      · split
        · exact .inl rfl
        · exact ih _ _
      · exact ih _ _
  exact key _ _ _

theorem TkM.keep2 {l : List F} {w w1 w2 : World} {Bk Bs Bi gk gi n : Nat} {sv : Value} (h : TkM l w Bk Bs Bi gk gi n sv) (hc : Chg [gk] w w1) (hc2 : Chg [] w1 w2) (hs : SeenF w2 sv l) : TkM l w2 Bk Bs Bi gk gi n sv :=
  have k : Chg [gk] w w2 := hc.trans hc2 (by simp)
  ⟨h.hn, k.cell h.ck (by simpa using fun e => h.d1 e.symm), k.cell h.cs (by simpa using fun e => h.d2 e.symm), k.cell h.ci (by simpa using fun e => h.d3 e.symm), h.bi.chg k (by simpa using fun e => h.d4 e.symm), hs, h.d1, h.d2, h.d3, h.d4⟩

/-- Which fields are kept of the first k paths. -/
def KeptTo (l : List F) (ps : List ByteArray) (k : Nat) (κ : Nat → Bool) : Prop := ∀ j, j < l.length → (κ j = true ↔ ∃ f : Nat, (ps = [] ∧ f = 0 ∨ ∃ p ∈ ps.take k, findI l p = (f : Int)) ∧ (Sub (parents l) f j ∨ Up (parents l) f j))

theorem KeptTo.next {l : List F} {ps : List ByteArray} {k f : Nat} {κ κ' : Nat → Bool} {p : ByteArray} (h : KeptTo l ps k κ) (hp : ps[k]? = some p) (hf : findI l p = (f : Int)) (ht : TakeK l κ f κ') : KeptTo l ps (k + 1) κ' := by
  intro j hj
  rw [ht j hj, h j hj]
  constructor
  · rintro (⟨f2, h1, h2⟩ | h1 | h1)
    · refine ⟨f2, ?_, h2⟩
      rcases h1 with h1 | ⟨q, hq, h3⟩
      · exact .inl h1
      · exact .inr ⟨q, (List.take_subset_take_left ps (Nat.le_succ k)) hq, h3⟩
    · exact ⟨f, .inr ⟨p, by rw [List.take_add_one, hp]; simp, hf⟩, .inl h1⟩
    · exact ⟨f, .inr ⟨p, by rw [List.take_add_one, hp]; simp, hf⟩, .inr h1⟩
  · rintro ⟨f2, h1, h2⟩
    rcases h1 with h1 | ⟨q, hq, h3⟩
    · exact .inl ⟨f2, .inl h1, h2⟩
    · rw [List.take_add_one, hp] at hq
      simp at hq
      rcases hq with hq | rfl
      · exact .inl ⟨f2, .inr ⟨q, hq, h3⟩, h2⟩
      · have e : f2 = f := by rw [hf] at h3; omega
        subst e
        exact .inr h2
theorem info_bool : ∃ i, Try.prog.info? 4 = some i ∧ i.zero = some (.bool false) ∧ i.size = 1 ∧ i.bytes = 1 :=
  info_parts (show (Try.prog.info? 4).map (fun i => (i.zero, i.size, i.bytes)) = some (some (.bool false), 1, 1) by kernel_rfl)

theorem cells_false (n : Nat) : (madeCells #[Value.bool false] n).toList = (List.range n).map fun j => Value.bool ((fun _ => false) j) := by
  rw [toList_madeCells_one]
  apply List.ext_getElem?
  intro j
  by_cases hj : j < n
  · simp [hj]
  · rw [List.getElem?_eq_none (by simp; omega), List.getElem?_eq_none (by simp; omega)]

theorem results_cell3 {fn : Func} {p u v : Tmp} {ty : TypeId} (h : fn.results = #[.cell p ty, .tmp u, .tmp v]) (tmps : Array Value) (P : Program) (w : World) :
    (results fn tmps).run P w =
      ((asAddr (tmps.getD p undef)).run P w).andThen fun a w₁ => ((loadVar ty a).run P w₁).andThen fun x w₂ => .ok (.tuple #[x, tmps.getD u undef, tmps.getD v undef]) w₂ := by
  simp only [results, h]
  simp [Sem.run_bind, Result.andThen]

theorem chk_len {l : List F} (h : chk l = 0) : 1 ≤ l.length ∧ l.length ≤ 40 := by
  unfold chk at h
  split at h
  · cases h
  · omega

/-- Which fields are kept of some paths. -/
def KeptK (l : List F) (ps : List ByteArray) (κ : Nat → Bool) : Prop := ∀ j, j < l.length → (κ j = true ↔ ∃ f : Nat, (ps = [] ∧ f = 0 ∨ ∃ p ∈ ps, findI l p = (f : Int)) ∧ (Sub (parents l) f j ∨ Up (parents l) f j))

/-- What Resolve answers. -/
def ResOut (l : List F) (ps : List ByteArray) (w : World) (e : Ending) (w' : World) : Prop :=
  (chk l ≠ 0 ∧ e = .returned (.tuple #[nilS, nilS, .int .i64 (chk l)])) ∨
  (chk l = 0 ∧ (∃ p ∈ ps, findI l p = -1) ∧ e = .returned (.tuple #[nilS, nilS, .int .i64 2])) ∨
  (chk l = 0 ∧ (∀ p ∈ ps, findI l p ≠ -1) ∧ ∃ gk κ pv, e = .returned (.tuple #[.slice (some ⟨gk, 0, none⟩) l.length l.length, pv, .int .i64 0]) ∧ BlkK w' gk l.length κ ∧ w.heap.size ≤ gk ∧ SeenF w' pv (partTo l κ l.length) ∧ KeptK l ps κ)

set_option maxRecDepth 100000 in
set_option maxHeartbeats 4000000 in
theorem resolve_any (sv pv : Value) (l : List F) (ps : List ByteArray) (w : World) (hS : SeenF w sv l) (hP : SeenS w pv ps) (hw : ∀ f ∈ l, f.c ≤ 9223372036854775807) (hn : ∀ f ∈ l, f.n.size ≤ 1000) (hps : ∀ p ∈ ps, p.size ≤ 9223372036854775806) :
    Calls Try.prog 21 #[sv, pv] w fun e w' => ResOut l ps w e w' ∧ Chg [] w w' := by
  obtain ⟨ib, bi, bz0, bz1, bz2⟩ := info_bool
  obtain ⟨ao, cap, rfl, hc1, hc2⟩ := hS.shape
  have HS := Lib.hid hS; have HP := Lib.hid hP; have HW := Lib.hid hw; have HNM := Lib.hid hn; have HPS := Lib.hid hps
  clear hS hP hw hn hps
  obtain ⟨n, hn⟩ : ∃ n, n = l.length := ⟨_, rfl⟩
  rw [← hn] at hc1 HS ⊢
  have HN := Lib.hid hn
  clear hn
  have hA := ((Chg.refl [] w).alloc (.cells #[.slice ao n cap] 26)).alloc (.cells #[nilS] 34)
  have hb2 : ((w.alloc (.cells #[.slice ao n cap] 26)).alloc (.cells #[nilS] 34)).heap[w.heap.size]? = some (.cells #[.slice ao n cap] 26 (0, 0)) := hl_old (hl_new rfl)
  have hb4 : ((w.alloc (.cells #[.slice ao n cap] 26)).alloc (.cells #[nilS] 34)).heap[w.heap.size + 1]? = some (.cells #[nilS] 34 (0, 0)) := hl_new (by simp)
  go_enter Try.func21, Try.ntmps21
  go_upto_region 1 with fail
  obtain ⟨B4, hB4⟩ : ∃ B4, B4 = w.heap.size + 1 := ⟨_, rfl⟩
  obtain ⟨B2, hB2⟩ : ∃ B2, B2 = w.heap.size := ⟨_, rfl⟩
  have h24 : B2 ≠ B4 := by omega
  have h2w : w.heap.size ≤ B2 := by omega
  have h4w : w.heap.size ≤ B4 := by omega
  rw [← hB4] at hb4 ⊢
  rw [← hB2] at hb2 ⊢
  clear hB4 hB2
  generalize (w.alloc (.cells #[.slice ao n cap] 26)).alloc (.cells #[nilS] 34) = W0 at hA hb2 hb4 ⊢
  have HB2 := Lib.hid hb2; have HB4 := Lib.hid hb4; have HA := Lib.hid hA
  have hc2' : W0.cell? ⟨B2, 0, none⟩ = some (.slice ao n cap) := by simp [World.cell?, hb2]
  have hc4' : W0.cell? ⟨B4, 0, none⟩ = some nilS := by simp [World.cell?, hb4]
  have hf4 : W0.frozen? ⟨B4, 0, none⟩ = false := by simp [World.frozen?, hb4]
  clear hA hb2 hb4
  go_wp2_with fail
  (with_reducible refine (check_any _ l W0 (HS.out.keep HA.out) HW.out (fun f hf => Nat.le_trans (HNM.out f hf) (by decide))).mono ?_)
  rintro e w1 ⟨rfl, hk1⟩
  have hc2'' := hk1.cell hc2' (by simp)
  have hc4'' := hk1.cell hc4' (by simp)
  have hf4'' : w1.frozen? ⟨B4, 0, none⟩ = false := by have h := hk1.heap HB4.out (by simp); simp [World.frozen?, h]
  have HC1 := Lib.hid (HA.out.trans hk1 (by simp))
  obtain ⟨c, hc⟩ : ∃ c, c = chk l := ⟨_, rfl⟩
  rw [← hc]
  have HCK := Lib.hid hc
  clear hc hc2' hc4' hf4
  by_cases hc0 : c = 0
  · have hc00 := hc0
    have d1 : (c != 0) = false := by simp [hc0]
    obtain ⟨hn1, hn40⟩ := chk_len (l := l) (by rw [← HCK.out]; exact hc0)
    rw [← HN.out] at hn1 hn40
    have hnm : n ≤ maxLen := by unfold maxLen; omega
    go_wp2_with (at_make; refine wpList_make_full _ rfl _ _ 34 rfl w1.heap.size 4 ib (.bool false) 1 Try.underlying34 bi bz0 bz1 .i64 .i64 _ _ n rfl rfl rfl rfl ?c1 ?c2 (Nat.le_refl _) ?_)
    case c1 => rw [bz2]; omega
    case c2 => exact hnm
    intro w2 hown2 hg2
    obtain ⟨gk, hgk⟩ : ∃ gk, gk = w1.heap.size := ⟨_, rfl⟩
    have hgw : w.heap.size ≤ gk := by rw [hgk]; exact HC1.out.size
    have hgB4 : B4 < gk := by rw [hgk]; exact World.block_lt_of_cell? w1 _ hc4''
    have hgB2 : B2 < gk := by rw [hgk]; exact World.block_lt_of_cell? w1 _ hc2''
    rw [cells_false] at hown2
    have hbk2 : BlkK w2 gk n (fun _ => false) := by rw [hgk]; exact blk_of_own hown2 rfl
    have hk12 := (Chg.refl [] w1).grown hg2 (by simp)
    have HC2 := Lib.hid (HC1.out.trans hk12 (by simp))
    have hb4 : w2.heap[B4]? = some (.cells #[nilS] 34 (0, 0)) := hk12.heap (hk1.heap HB4.out (by simp)) (by simp)
    have hc4 := hk12.cell hc4'' (by simp)
    have hc2b := hk12.cell hc2'' (by simp)
    have hf4 : w2.frozen? ⟨B4, 0, none⟩ = false := by simp [World.frozen?, hb4]
    rw [← hgk]
    have HBK2 := Lib.hid hbk2; have HB42 := Lib.hid hb4
    clear hown2 hg2 hk12 hgk hbk2 hb4 hk1 hc2'' hc4'' hf4''
    go_upto_region 5 with fail
    have hcb : Chg [B4] w2 (w2.setCell ⟨B4, 0, none⟩ (.slice (some ⟨gk, 0, none⟩) n n)) := (Chg.refl [B4] w2).setCell (by simp) _
    have HC5 := Lib.hid (HC2.out.trans hcb (by simpa using h4w))
    have HK5 := Lib.hid (HBK2.out.chg hcb (by simp; omega))
    have HX4 := Lib.hid (show (w2.setCell ⟨B4, 0, none⟩ (.slice (some ⟨gk, 0, none⟩) n n)).heap[B4]? = some (.cells #[.slice (some ⟨gk, 0, none⟩) n n] 34 (0, 0)) by rw [heap_set HB42.out]; rfl)
    have HX2 := Lib.hid (hcb.cell hc2b (by simpa using h24))
    generalize w2.setCell ⟨B4, 0, none⟩ (.slice (some ⟨gk, 0, none⟩) n n) = W5 at HC5 HK5 HX4 HX2 ⊢
    clear hcb hc4 hc2b hf4 HBK2 HB42 HC2 HC1 HA HB2 HB4 d1 hc0
    have HB2 := HX2
    have HPA := Lib.hid (show ∀ wx, Chg [] W5 wx → Calls Try.prog 54 #[.slice ao n cap] wx fun e w' => e = .returned (.slice (some ⟨wx.heap.size, 0, none⟩) n n) ∧ BlkI w' wx.heap.size (parents l) ∧ Chg [] wx w' from fun wx hk => by
      rw [HN.out]; have h := parents_any _ l wx (HS.out.keep (HC5.out.trans hk (by simp))) (by rw [← HN.out]; omega) HW.out; rw [HN.out] at h; exact h)
    have HKI := Lib.hid (show ∀ wx, Chg [] W5 wx → Calls Try.prog 55 #[.slice ao n cap] wx fun e w' => e = .returned (.slice (some ⟨wx.heap.size, 0, none⟩) n n) ∧ KidsM w' wx.heap.size l ∧ Chg [] wx w' from fun wx hk => by
      rw [HN.out]; have h := kids_any _ l wx (HS.out.keep (HC5.out.trans hk (by simp))) (by rw [← HN.out]; omega) HW.out; rw [HN.out] at h; exact h)
    refine wp_region_any (by kernel_rfl) ?_
    change wpAny _ _ _ _ _ _ _ (World.drew _)
    refine wpAny_inv (JIS5 l n ao cap pv B2 B4 W5) ?_ (fun listed a' w' hI hr => ?_) _ _ _ _ ?_ ?_
    rotate_left 2
    focus exact JIS5_start rfl ((Chg.refl [] W5).drew)
    focus exact count_rep _
    focus
      intro listed a' w' hI ii hi hr
      obtain ⟨b, base, u, gi, g, Bi, rfl, rfl, R⟩ := hI
      have hcs := ltS5 ii hi
      clear hi
      unfold FRS5
      rcases hcs with rfl | rfl | rfl | rfl | rfl | rfl | rfl
      · have hrd := ready_at rfl hr
        clear hr
        simp [Region.binds] at hrd
        clear hrd
        have hld := R.cg.cell HB2.out (by simp)
        refine wpOp_step rfl (fun K hK => ?_)
        go_simp
        refine hK _ _ ?_
        exact ⟨upd b 0 true, base, (upd u 22 (.slice ao n cap)), gi, g, Bi, rfl, rfl, ⟨(fun _ => rfl), R.c1, R.c2, R.c3, R.c4, R.c6, R.cg, R.m1, R.m3, R.m4, R.m5, R.dd, R.z5_1, R.z5_4, R.z6_3⟩⟩
      · have hrd := ready_at rfl hr
        clear hr
        simp [Region.binds] at hrd
        have h0 : b 0 = true := by simp [hrd]
        have e0 := R.c0 h0
        have hb1 : b 1 = false := by simp [hrd]
        clear hrd
        refine wpOp_step rfl (fun K hK => ?_)
        go_simp
        go_at_call 54
        (with_reducible refine (HPA.out w' R.cg).mono ?_)
        rintro e w4 ⟨rfl, hbi, hk3⟩
        refine hK _ _ ?_
        exact ⟨upd b 1 true, base, (upd (upd u 22 (.slice ao n cap)) 23 (.slice (some ⟨w'.heap.size, 0, none⟩) n n)), w'.heap.size, g, Bi, rfl, rfl, ⟨(fun _ => rfl), (fun _ => rfl), R.c2, R.c3, R.c4, R.c6, (R.cg.trans hk3 (by simp)), (fun _ => hbi), (fun h => ⟨(R.m3 h).1.chg hk3, Nat.lt_of_lt_of_le (R.m3 h).2 hk3.size⟩), (fun h => ⟨(R.m4 h).1, Nat.lt_of_lt_of_le (R.m4 h).2.1 hk3.size, fun h5 => hk3.heap ((R.m4 h).2.2 h5) (by simp)⟩), (fun h => absurd (R.z5_1 h) (by rw [hb1]; decide)), R.dd, (fun _ => rfl), R.z5_4, R.z6_3⟩⟩
      · have hrd := ready_at rfl hr
        clear hr
        simp [Region.binds] at hrd
        clear hrd
        have hld := R.cg.cell HB2.out (by simp)
        refine wpOp_step rfl (fun K hK => ?_)
        go_simp
        refine hK _ _ ?_
        exact ⟨upd b 2 true, base, (upd u 24 (.slice ao n cap)), gi, g, Bi, rfl, rfl, ⟨R.c0, R.c1, (fun _ => rfl), R.c3, R.c4, R.c6, R.cg, R.m1, R.m3, R.m4, R.m5, R.dd, R.z5_1, R.z5_4, R.z6_3⟩⟩
      · have hrd := ready_at rfl hr
        clear hr
        simp [Region.binds] at hrd
        have h2 : b 2 = true := by simp [hrd]
        have e2 := R.c2 h2
        have hb3 : b 3 = false := by simp [hrd]
        clear hrd
        refine wpOp_step rfl (fun K hK => ?_)
        go_simp
        go_at_call 55
        (with_reducible refine (HKI.out w' R.cg).mono ?_)
        rintro e w4 ⟨rfl, hki, hk3⟩
        refine hK _ _ ?_
        exact ⟨upd b 3 true, base, (upd (upd u 24 (.slice ao n cap)) 25 (.slice (some ⟨w'.heap.size, 0, none⟩) n n)), gi, w'.heap.size, Bi, rfl, rfl, ⟨R.c0, R.c1, (fun _ => rfl), (fun _ => rfl), R.c4, (fun h => absurd (R.z6_3 h) (by rw [hb3]; decide)), (R.cg.trans hk3 (by simp)), (fun h => (R.m1 h).chg hk3 (by simp)), (fun _ => ⟨hki, hki.lt⟩), (fun h => ⟨(R.m4 h).1, Nat.lt_of_lt_of_le (R.m4 h).2.1 hk3.size, fun h5 => hk3.heap ((R.m4 h).2.2 h5) (by simp)⟩), (fun h => hk3.heap (R.m5 h) (by simp)), (fun _ h => by have := (R.m4 h).2.1; omega), R.z5_1, R.z5_4, (fun _ => rfl)⟩⟩
      · have hrd := ready_at rfl hr
        clear hr
        simp [Region.binds] at hrd
        have hb4 : b 4 = false := by simp [hrd]
        clear hrd
        have hk3 := (Chg.refl [] w').alloc (.cells #[nilS] 22)
        refine wpOp_step rfl (fun K hK => ?_)
        go_simp
        refine hK _ _ ?_
        exact ⟨upd b 4 true, base, (upd u 8 (.pointer (some ⟨w'.heap.size, 0, none⟩))), gi, g, w'.heap.size, rfl, rfl, ⟨R.c0, R.c1, R.c2, R.c3, (fun _ => rfl), R.c6, (R.cg.trans hk3 (by simp)), (fun h => (R.m1 h).chg hk3 (by simp)), (fun h => ⟨(R.m3 h).1.chg hk3, Nat.lt_of_lt_of_le (R.m3 h).2 hk3.size⟩), (fun _ => ⟨R.cg.size, by simp, fun _ => hl_new rfl⟩), (fun h => absurd (R.z5_4 h) (by rw [hb4]; decide)), (fun h _ => by have := (R.m3 h).2; omega), R.z5_1, (fun _ => rfl), R.z6_3⟩⟩
      · have hrd := ready_at rfl hr
        clear hr
        simp [Region.binds] at hrd
        have h1 : b 1 = true := by simp [hrd]
        have e1 := R.c1 h1
        have h4 : b 4 = true := by simp [hrd]
        have e4 := R.c4 h4
        have hb5 : b 5 = false := by simp [hrd]
        clear hrd
        have hx4 := (R.m4 h4).2.2 hb5
        have hfz : w'.frozen? ⟨Bi, 0, none⟩ = false := by simp [World.frozen?, hx4]
        have hld : w'.cell? ⟨Bi, 0, none⟩ = some nilS := by simp [World.cell?, hx4]
        refine wpOp_step rfl (fun K hK => ?_)
        go_simp
        refine hK _ _ ?_
        exact ⟨upd b 5 true, base, (upd (upd u 23 (.slice (some ⟨gi, 0, none⟩) n n)) 8 (.pointer (some ⟨Bi, 0, none⟩))), gi, g, Bi, rfl, rfl, ⟨R.c0, (fun _ => rfl), R.c2, R.c3, (fun _ => rfl), R.c6, (R.cg.setCell (.inr (R.m4 h4).1) _), (fun h => (R.m1 h).far (blkI_ne (R.m1 h) hx4) _), (fun h => ⟨(R.m3 h).1.far hx4 (R.dd h h4) _, by simpa using (R.m3 h).2⟩), (fun _ => ⟨(R.m4 h4).1, by simpa using (R.m4 h4).2.1, fun h => by cases h⟩), (fun _ => by rw [heap_set hx4]; rfl), R.dd, (fun _ => h1), (fun _ => h4), R.z6_3⟩⟩
      · have hrd := ready_at rfl hr
        clear hr
        simp [Region.binds] at hrd
        have h3 : b 3 = true := by simp [hrd]
        have e3 := R.c3 h3
        clear hrd
        refine wpOp_step rfl (fun K hK => ?_)
        go_simp
        refine hK _ _ ?_
        exact ⟨upd b 6 true, base, (upd (upd u 25 (.slice (some ⟨g, 0, none⟩) n n)) 9 (.slice (some ⟨g, 0, none⟩) n n)), gi, g, Bi, rfl, rfl, ⟨R.c0, R.c1, R.c2, (fun _ => rfl), R.c4, (fun _ => rfl), R.cg, R.m1, R.m3, R.m4, R.m5, R.dd, R.z5_1, R.z5_4, (fun _ => h3)⟩⟩
    obtain ⟨b, base, u, gi, g, Bi, rfl, rfl, R⟩ := hI
    have hall := ready_all2 hr rfl (by kernel_rfl)
    have h1 : b 1 = true := Option.some.inj (hall 1 (by decide))
    have e1 := R.c1 h1
    have h3 : b 3 = true := Option.some.inj (hall 3 (by decide))
    have e3 := R.c3 h3
    have h4 : b 4 = true := Option.some.inj (hall 4 (by decide))
    have e4 := R.c4 h4
    have h5 : b 5 = true := Option.some.inj (hall 5 (by decide))
    have h6 : b 6 = true := Option.some.inj (hall 6 (by decide))
    have e6 := R.c6 h6
    have M1 := Lib.hid (R.m1 h1)
    have M3 := Lib.hid ((R.m3 h3).1)
    have M5 := Lib.hid (R.m5 h5)
    have M4 := Lib.hid ((R.m4 h4).1)
    have DD := Lib.hid (R.dd h3 h4)
    have HCG := Lib.hid R.cg
    unfold FRS5
    rw [e1, e3, e4, e6]
    clear e1 e3 e4 e6
    clear R hr hall h1 h3 h4 h5 h6
    obtain ⟨W6, hW6⟩ : ∃ W6, W6 = w' := ⟨_, rfl⟩
    rw [← hW6] at M1 M3 M5 HCG ⊢
    clear hW6
    have hw5 : W5.heap.size ≤ Bi := M4.out
    have HC6 := Lib.hid (HC5.out.trans HCG.out (by simp))
    have HK6 := Lib.hid (HK5.out.chg HCG.out (by simp))
    have HX4 := Lib.hid (HCG.out.heap HX4.out (by simp))
    have HX2 := Lib.hid (HCG.out.cell HX2.out (by simp))
    have hgkw : gk < W5.heap.size := HK5.out.lt
    have hBi : gk ≠ Bi := by omega
    have hmf : ∀ (fn : Fn) (first cap : Array Value) (w : World), (Instr.makeFunc fn first cap).run Try.prog w = .ok (.func fn first cap) w := fun _ _ _ _ => rfl
    have eg : ∀ args w, (callFunc 56 args).run Try.prog w = .ok (.enter 56 args) w := Go.Proofs.enters_of Try.func56 (by kernel_rfl) rfl
    have HTM := Lib.hid (show TkM l W6 B4 B2 Bi gk gi n (.slice ao n cap) from ⟨HN.out, by simp [World.cell?, HX4.out], HX2.out, by simp [World.cell?, M5.out], M1.out, HS.out.keep HC6.out, by omega, by omega, hBi, fun e => by
      have h1 := HK6.out
      have h2 := M1.out
      unfold BlkK at h1
      unfold BlkI at h2
      rw [e, h2] at h1
      injection h1 with h1
      injection h1 with h1 h2 h3
      cases h2⟩)
    clear hw5 hgkw HPA HKI HB2 HK5 HC5 M1 M4 DD HCG
    obtain ⟨po, pcap, rfl, hp1, hp2⟩ := HP.out.shape
    obtain ⟨M, hM⟩ : ∃ M, M = ps.length := ⟨_, rfl⟩
    rw [← hM] at hp1 HP ⊢
    have HMD := Lib.hid hM
    have hMm : M ≤ 9223372036854775807 := by unfold maxLen at hp2; omega
    clear hM
    by_cases hM0 : M = 0
    case' pos =>
      have d3 : ((M : Int) == 0) = true := by simp [hM0]
      have HM0 := Lib.hid hM0
      clear hM0
      have HT0 := Lib.hid (show Calls Try.prog 56 #[.int .i64 0, .pointer (some ⟨B4, 0, none⟩), .pointer (some ⟨B2, 0, none⟩), .pointer (some ⟨Bi, 0, none⟩)] W6 _ from take_any l W6 B4 B2 Bi gk gi n 0 _ _ HTM.out HK6.out (by omega) (by omega))
      go_wp2_with fail
      (with_reducible refine HT0.out.mono ?_)
      rintro e W7 ⟨rfl, ⟨κ0, hk7, ht7⟩, hc67⟩
      have HK7 := Lib.hid hk7; have HC67 := Lib.hid hc67
      have HKT := Lib.hid (show KeptTo l ps 0 κ0 by
        intro j hj
        have hpe : ps = [] := List.eq_nil_of_length_eq_zero (by rw [← HMD.out]; exact HM0.out)
        rw [ht7 j hj]
        constructor
        · rintro (h | h)
          · cases h
          · exact ⟨0, .inl ⟨hpe, rfl⟩, h⟩
        · rintro ⟨f, h | ⟨q, hq, _⟩, h2⟩
          · rw [h.2] at h2; exact .inr h2
          · simp at hq)
      clear hk7 ht7 hc67 HT0
    case' neg =>
      have d3 : ((M : Int) == 0) = false := by simp; omega
      obtain ⟨W7, hW7⟩ : ∃ W7, W7 = W6 := ⟨_, rfl⟩
      obtain ⟨κ0, hκ0⟩ : ∃ κ0 : Nat → Bool, κ0 = fun _ => false := ⟨_, rfl⟩
      have HK7 := Lib.hid (show BlkK W7 gk n κ0 by rw [hκ0, hW7]; exact HK6.out)
      have HC67 := Lib.hid (show Chg [gk] W6 W7 by rw [hW7]; exact Chg.refl _ _)
      have HKT := Lib.hid (show KeptTo l ps 0 κ0 by
        intro j hj
        rw [hκ0]
        constructor
        · intro h; cases h
        · rintro ⟨f, h | ⟨q, hq, _⟩, h2⟩
          · have := HMD.out; rw [h.1] at this; simp at this; omega
          · simp at hq)
      rw [← hW7]
      clear hκ0 hW7
    all_goals
      have HZ4 := Lib.hid (HC67.out.heap HX4.out (by simp; omega))
      have HZ2 := Lib.hid (HC67.out.cell HX2.out (by simp; omega))
      have hz2 := HZ2.out
      have hz4 : W7.cell? ⟨B4, 0, none⟩ = some (.slice (some ⟨gk, 0, none⟩) n n) := by simp [World.cell?, HZ4.out]
      clear hz2 hz4
      have HNO := Lib.hid (show ∀ p ∈ ps.take 0, findI l p ≠ -1 from fun p hp => by simp at hp)
      go_wp2
      go_loopw [34] (fun x w' => ∃ (k : Nat) (κ : Nat → Bool), x = .int .i64 (k : Int) ∧ k ≤ M ∧ BlkK w' gk n κ ∧ KeptTo l ps k κ ∧ (∀ p ∈ ps.take k, findI l p ≠ -1) ∧ Chg [gk] W6 w') (fun x _ => M - (intOf x).toNat)
      case atStart => exact ⟨0, κ0, rfl, Nat.zero_le _, HK7.out, HKT.out, HNO.out, HC67.out⟩
      case round =>
        obtain ⟨k, κ, rfl, hkM, hbk, hkt, hno, hcg⟩ := hrel
        have HBK := Lib.hid hbk; have HKT := Lib.hid hkt; have HNO := Lib.hid hno; have HCG := Lib.hid hcg
        have HCW := Lib.hid (HC6.out.trans hcg (by simpa using hgw))
        have HY4 := Lib.hid (hcg.heap HX4.out (by simp; omega))
        have hy2 := hcg.cell HX2.out (by simp; omega)
        have HY2 := Lib.hid hy2
        have hy4 : wr.cell? ⟨B4, 0, none⟩ = some (.slice (some ⟨gk, 0, none⟩) n n) := by simp [World.cell?, HY4.out]
        have hf4 : wr.frozen? ⟨B4, 0, none⟩ = false := by simp [World.frozen?, HY4.out]
        have HKI := Lib.hid (M3.out.farK HK6.out hcg)
        clear hbk hkt hno hcg
        by_cases hkl : k < M
        · obtain ⟨p, hp⟩ : ∃ p, ps[k]? = some p := ⟨_, List.getElem?_eq_getElem (by rw [← HMD.out]; exact hkl)⟩
          obtain ⟨gp, op, rfl, hcp⟩ := (HP.out.keep HCW.out).at (by omega)
          have hpc := SeenS.cell hcp hp
          have HPX := Lib.hid hp
          have hpz := HPS.out p (List.mem_of_getElem? hp)
          have HFI := Lib.hid (find_any (.slice ao n cap) p g n l wr (HS.out.keep HCW.out) HKI.out HN.out (by rw [← HN.out]; exact hn1) hpz)
          have hrng := findI_rng l (by rw [← HN.out]; exact hn1) p
          obtain ⟨v, hv⟩ : ∃ v, v = findI l p := ⟨_, rfl⟩
          rw [← hv] at HFI hrng
          have HV := Lib.hid hv
          clear hcp hp hv hpz
          go_wp2_with fail
          (with_reducible refine HFI.out.mono ?_)
          rintro e w8 ⟨rfl, hk8⟩
          have HC8 := Lib.hid hk8
          have hz2 := hk8.cell hy2 (by simp)
          have hz4 := hk8.cell hy4 (by simp)
          have hzf : w8.frozen? ⟨B4, 0, none⟩ = false := by simp [World.frozen?, hk8.heap HY4.out (by simp)]
          clear hk8 hy2 hy4 hf4
          rcases hrng with rfl | ⟨hv0, hv1⟩
          · have HBAD := Lib.hid (show ∃ q ∈ ps, findI l q = -1 from ⟨p, List.mem_of_getElem? HPX.out, HV.out.symm⟩)
            go_wp2
            (try simp only [Exit.inBlock, Exit.then])
            refine bodyPost_ret (v := .tuple #[nilS, nilS, .int .i64 2]) ?_ rfl ?_
            · rw [results_cell3 rfl]; go_simp
            exact ⟨.inr (.inl ⟨HCK.out.symm.trans hc00, HBAD.out, rfl⟩), (HCW.out.trans HC8.out (by simp)).setCell (.inr h4w) _⟩
          · obtain ⟨f, rfl⟩ : ∃ f : Nat, v = f := ⟨v.toNat, by omega⟩
            have hfn : f < n := by rw [HN.out]; omega
            have hf1 : ((f : Int) == -1) = false := by simp
            have HTK := Lib.hid (take_any l w8 B4 B2 Bi gk gi n f _ κ (HTM.out.keep2 HCG.out HC8.out (HS.out.keep (HCW.out.trans HC8.out (by simp)))) (HBK.out.chg HC8.out (by simp)) hfn (by omega))
            go_wp2_with fail
            (with_reducible refine HTK.out.mono ?_)
            rintro e w9 ⟨rfl, ⟨κ2, hk9, ht9⟩, hc9⟩
            have HK9 := Lib.hid hk9; have HT9 := Lib.hid ht9
            have HC9 := Lib.hid ((HCG.out.trans HC8.out (by simp)).trans hc9 (by simp))
            clear hk9 ht9 hc9 HTK
            go_wp2
            go_roundw
            case rel =>
              refine ⟨k + 1, κ2, by go_num, by omega, HK9.out, HKT.out.next HPX.out HV.out.symm HT9.out, fun q hq => ?_, HC9.out⟩
              rw [List.take_add_one, HPX.out] at hq
              simp at hq
              rcases hq with hq | rfl
              · exact HNO.out q hq
              · rw [← HV.out]; omega
            case measure => simp [intOf]; omega
        · have hke : ps.take k = ps := List.take_of_length_le (by rw [← HMD.out]; omega)
          have HALL := Lib.hid (show ∀ q ∈ ps, findI l q ≠ -1 by have h := HNO.out; rw [hke] at h; exact h)
          have HKP := Lib.hid (show KeptK l ps κ by have h := HKT.out; unfold KeptTo at h; rw [hke] at h; exact h)
          have HB2' := HY2
          obtain ⟨W7, hW7⟩ : ∃ W7, W7 = wr := ⟨_, rfl⟩
          rw [← hW7] at HBK HCG HCW HY4 HY2 HKI
          have HZ4 := HY4
          have hy4' : W7.cell? ⟨B4, 0, none⟩ = some (.slice (some ⟨gk, 0, none⟩) n n) := by simp [World.cell?, HZ4.out]
          have HY4 := Lib.hid hy4'
          have HPT := Lib.hid (show ∀ wx, Chg [] W7 wx → Calls Try.prog 58 #[.slice ao n cap, .slice (some ⟨g, 0, none⟩) n n, .slice (some ⟨gk, 0, none⟩) n n] wx fun e w' => ∃ pv, e = .returned pv ∧ SeenF w' pv (partTo l κ n) ∧ Chg [] wx w' from fun wx hk =>
            part_any _ g gk n κ l wx (HS.out.keep (HCW.out.trans hk (by simp))) (HKI.out.chg hk) (HBK.out.chg hk (by simp)) HN.out (by omega) HNM.out)
          rw [← hW7] at hy2 hy4 hf4
          go_upto_region 17 with fail
          rw [← hW7]
          clear hW7 hy2 hy4 hf4 hy4' HB2'
          refine wp_region_any (by kernel_rfl) ?_
          change wpAny _ _ _ _ _ _ _ (World.drew _)
          refine wpAny_inv (JIS17 l n ao cap (.slice po M pcap) B2 B4 gk g κ W7) ?_ (fun listed a' w' hI hr => ?_) _ _ _ _ ?_ ?_
          rotate_left 2
          focus exact JIS17_start rfl ((Chg.refl [] W7).drew)
          focus exact count_rep _
          focus
            intro listed a' w' hI ii hi hr
            obtain ⟨b, base, u, rv, rfl, rfl, R⟩ := hI
            have hcs := ltS17 ii hi
            clear hi
            unfold FRS17
            rcases hcs with rfl | rfl | rfl | rfl | rfl | rfl | rfl | rfl
            · have hrd := ready_at rfl hr
              clear hr
              simp [Region.binds] at hrd
              clear hrd
              have hld := R.cg.cell HY4.out (by simp)
              refine wpOp_step rfl (fun K hK => ?_)
              go_simp
              refine hK _ _ ?_
              exact ⟨upd b 0 true, base, (upd u 48 (.slice (some ⟨gk, 0, none⟩) n n)), rv, rfl, rfl, ⟨(fun _ => rfl), R.c1, R.c2, R.c3, R.c4, R.c6, R.c7, R.cg, R.m4, R.z6_4⟩⟩
            · have hrd := ready_at rfl hr
              clear hr
              simp [Region.binds] at hrd
              clear hrd
              have hld := R.cg.cell HY2.out (by simp)
              refine wpOp_step rfl (fun K hK => ?_)
              go_simp
              refine hK _ _ ?_
              exact ⟨upd b 1 true, base, (upd u 49 (.slice ao n cap)), rv, rfl, rfl, ⟨R.c0, (fun _ => rfl), R.c2, R.c3, R.c4, R.c6, R.c7, R.cg, R.m4, R.z6_4⟩⟩
            · have hrd := ready_at rfl hr
              clear hr
              simp [Region.binds] at hrd
              clear hrd
              refine wpOp_step rfl (fun K hK => ?_)
              go_simp
              refine hK _ _ ?_
              exact ⟨upd b 2 true, base, (upd u 50 (.slice (some ⟨g, 0, none⟩) n n)), rv, rfl, rfl, ⟨R.c0, R.c1, (fun _ => rfl), R.c3, R.c4, R.c6, R.c7, R.cg, R.m4, R.z6_4⟩⟩
            · have hrd := ready_at rfl hr
              clear hr
              simp [Region.binds] at hrd
              clear hrd
              have hld := R.cg.cell HY4.out (by simp)
              refine wpOp_step rfl (fun K hK => ?_)
              go_simp
              refine hK _ _ ?_
              exact ⟨upd b 3 true, base, (upd u 51 (.slice (some ⟨gk, 0, none⟩) n n)), rv, rfl, rfl, ⟨R.c0, R.c1, R.c2, (fun _ => rfl), R.c4, R.c6, R.c7, R.cg, R.m4, R.z6_4⟩⟩
            · have hrd := ready_at rfl hr
              clear hr
              simp [Region.binds] at hrd
              have h1 : b 1 = true := by simp [hrd]
              have e1 := R.c1 h1
              have h2 : b 2 = true := by simp [hrd]
              have e2 := R.c2 h2
              have h3 : b 3 = true := by simp [hrd]
              have e3 := R.c3 h3
              have hb4 : b 4 = false := by simp [hrd]
              clear hrd
              refine wpOp_step rfl (fun K hK => ?_)
              go_simp
              go_at_call 58
              (with_reducible refine (HPT.out w' R.cg).mono ?_)
              rintro e w4 ⟨rv4, rfl, hs4, hk3⟩
              refine hK _ _ ?_
              exact ⟨upd b 4 true, base, (upd (upd (upd (upd u 49 (.slice ao n cap)) 50 (.slice (some ⟨g, 0, none⟩) n n)) 51 (.slice (some ⟨gk, 0, none⟩) n n)) 52 (rv4)), rv4, rfl, rfl, ⟨R.c0, (fun _ => rfl), (fun _ => rfl), (fun _ => rfl), (fun _ => rfl), (fun h => absurd (R.z6_4 h) (by rw [hb4]; decide)), R.c7, (R.cg.trans hk3 (by simp)), (fun _ => hs4), (fun _ => rfl)⟩⟩
            · have hrd := ready_at rfl hr
              clear hr
              simp [Region.binds] at hrd
              have h0 : b 0 = true := by simp [hrd]
              have e0 := R.c0 h0
              clear hrd
              have hld := R.cg.cell HY4.out (by simp)
              have hfz : w'.frozen? ⟨B4, 0, none⟩ = false := by simp [World.frozen?, R.cg.heap HZ4.out (by simp)]
              have hsame := setCell_same (R.cg.heap HZ4.out (by simp)) 0 (.slice (some ⟨gk, 0, none⟩) n n) rfl
              refine wpOp_step rfl (fun K hK => ?_)
              go_simp
              refine hK _ _ ?_
              exact ⟨upd b 5 true, base, (upd u 48 (.slice (some ⟨gk, 0, none⟩) n n)), rv, rfl, rfl, ⟨(fun _ => rfl), R.c1, R.c2, R.c3, R.c4, R.c6, R.c7, R.cg, R.m4, R.z6_4⟩⟩
            · have hrd := ready_at rfl hr
              clear hr
              simp [Region.binds] at hrd
              have h4 : b 4 = true := by simp [hrd]
              have e4 := R.c4 h4
              clear hrd
              refine wpOp_step rfl (fun K hK => ?_)
              go_simp
              refine hK _ _ ?_
              exact ⟨upd b 6 true, base, (upd (upd u 52 (rv)) 5 (rv)), rv, rfl, rfl, ⟨R.c0, R.c1, R.c2, R.c3, (fun _ => rfl), (fun _ => rfl), R.c7, R.cg, R.m4, (fun _ => h4)⟩⟩
            · have hrd := ready_at rfl hr
              clear hr
              simp [Region.binds] at hrd
              clear hrd
              refine wpOp_step rfl (fun K hK => ?_)
              go_simp
              refine hK _ _ ?_
              exact ⟨upd b 7 true, base, (upd u 6 (.int .i64 0)), rv, rfl, rfl, ⟨R.c0, R.c1, R.c2, R.c3, R.c4, R.c6, (fun _ => rfl), R.cg, R.m4, R.z6_4⟩⟩
          obtain ⟨b, base, u, rv, rfl, rfl, R⟩ := hI
          have hall := ready_all2 hr rfl (by kernel_rfl)
          have h4 : b 4 = true := Option.some.inj (hall 4 (by decide))
          have e4 := R.c4 h4
          have h5 : b 5 = true := Option.some.inj (hall 5 (by decide))
          have h6 : b 6 = true := Option.some.inj (hall 6 (by decide))
          have e6 := R.c6 h6
          have h7 : b 7 = true := Option.some.inj (hall 7 (by decide))
          have e7 := R.c7 h7
          have M4 := Lib.hid (R.m4 h4)
          have HCG := Lib.hid R.cg
          unfold FRS17
          rw [e4, e6, e7]
          clear e4 e6 e7
          clear R hr hall h4 h5 h6 h7
          go_wp2
          (try simp only [Exit.inBlock, Exit.then])
          refine bodyPost_ret (v := .tuple #[.slice (some ⟨gk, 0, none⟩) n n, rv, .int .i64 0]) ?_ rfl ?_
          · have hq := HCG.out.cell HY4.out (by simp)
            rw [results_cell3 rfl]; go_simp
          exact ⟨.inr (.inr ⟨HCK.out.symm.trans hc00, HALL.out, gk, κ, rv, by rw [← HN.out], by rw [← HN.out]; exact HBK.out.chg HCG.out (by simp), hgw, by rw [← HN.out]; exact M4.out, HKP.out⟩), HCW.out.trans HCG.out (by simp)⟩
  · have d1 : (c != 0) = true := by simp [hc0]
    go_wp2
    (try simp only [Exit.inBlock, Exit.then])
    refine bodyPost_ret (v := .tuple #[nilS, nilS, .int .i64 c]) ?_ rfl ?_
    · rw [results_cell3 rfl]; go_simp
    exact ⟨.inl ⟨by rw [← HCK.out]; exact hc0, by rw [← HCK.out]⟩, HC1.out.setCell (.inr h4w) _⟩

end Go.Proofs.Ythhcnlmjcpkbnaa
