/- shred: a leaf's column. -/
import Derived.Test.YtfdmbpfpdijpdaaShd
import Derived.Test.YtfdmbpfpdijpdaaAnl
import Derived.Test.YtfdmbpfpdijpdaaScl
namespace Go.Proofs.Ytfdmbpfpdijpdaa
open Go.RowKit
set_option linter.unusedVariables false
set_option linter.unusedSimpArgs false
attribute [local go_sem] Oper.semAt_some

theorem value14_any (n : Int) (s : ByteArray) (w : World) (hs : s.size ≤ 281474976710656) :
    Calls Try.prog 94 #[.int .i64 n, .string s] w fun e w' => e = .returned (.agg #[.int .i64 n, .string s]) ∧ Chg [] w w' := by
  have HC := Lib.hid (sclone_any s (w.alloc (.cells #[.int .i64 0, .string e0] 44)) hs)
  go_enter Try.func94, Try.ntmps94
  go_wp2_with (first
    | (go_at_call 110; (with_reducible refine HC.out.mono ?_); rintro e w2 ⟨rfl, hc2⟩; have h2 := hc2.heap (heap_alloc_new w _) (by simp); have c0 : w2.cell? ⟨w.heap.size, 0, none⟩ = some (.int .i64 0) := (by rw [cell_of_row w2 _ 0 _ _ _ h2]; rfl); have c1 : w2.cell? ⟨w.heap.size, 1, none⟩ = some (.string e0) := (by rw [cell_of_row w2 _ 1 _ _ _ h2]; rfl); have f0 : w2.frozen? ⟨w.heap.size, 0, none⟩ = false := (by simp [World.frozen?, h2]); have f1 : w2.frozen? ⟨w.heap.size, 1, none⟩ = false := (by simp [World.frozen?, h2]); have H2 := Lib.hid h2; have HC2 := Lib.hid hc2; clear hc2 h2)
    | fail)
  refine ret_value rfl rfl rfl (heap_set (i := 1) (heap_set (i := 0) H2.out (.int .i64 n)) (.string s)) ?_
  exact ⟨rfl, ((((Chg.refl [] w).alloc _).trans HC2.out (by simp)).setCell (.inr (Nat.le_refl _)) _).setCell (.inr (Nat.le_refl _)) _⟩

theorem cells_any (pv : Value) (lo : Option Addr) (ln lc : Nat) (sg : ByteArray) (w : World) :
    Calls Try.prog 93 #[.agg #[pv, .string sg], .slice lo ln lc] w fun e w' => e = .returned (.func (.func 109) #[] #[.pointer (some ⟨w.heap.size + 1, 0, none⟩), .pointer (some ⟨w.heap.size, 0, none⟩)]) ∧ w' = (w.alloc (.cells #[pv, .string sg] 109)).alloc (.cells #[.slice lo ln lc] 28) := by
  go_enter Try.func93, Try.ntmps93
  go_wp2
  go_ret
  exact ⟨rfl, rfl⟩

def colR (l : List Cl) : List Int := l.map fun c => (c.r : Int)
def colD (l : List Cl) : List Int := l.map fun c => (c.d : Int)
def colV (D : Int) (l : List Cl) : List V := (l.filter fun c => decide ((c.d : Int) = D)).map fun c => ⟨c.t.n, c.t.s⟩
@[simp] theorem colR_length (l : List Cl) : (colR l).length = l.length := by simp [colR]
@[simp] theorem colD_length (l : List Cl) : (colD l).length = l.length := by simp [colD]

/-- Three rows, apart from one another. -/
structure Tri (B : Nat) (rv dv vv : Value) (R D : List Int) (Vs : List V) (n n2 k : Nat) (A : World) : Prop where
  r : A.ownsRow B 3 1 rv n (iv R)
  d : A.ownsRow B 3 1 dv n2 (iv D)
  v : A.ownsRow B 44 2 vv k (Vs.flatMap V.cs)
  rd : ∀ g, rv.ownBlock = some g → dv.ownBlock ≠ some g
  rv' : ∀ g, rv.ownBlock = some g → vv.ownBlock ≠ some g
  dv' : ∀ g, dv.ownBlock = some g → vv.ownBlock ≠ some g

theorem Tri.keep {B : Nat} {rv dv vv : Value} {R D : List Int} {Vs : List V} {n n2 k : Nat} {A A' : World} {T : List Nat} (h : Tri B rv dv vv R D Vs n n2 k A) (hc : Chg T A A') (hT : ∀ g, rv.ownBlock = some g ∨ dv.ownBlock = some g ∨ vv.ownBlock = some g → g ∉ T) : Tri B rv dv vv R D Vs n n2 k A' :=
  ⟨own_chg h.r hc fun g hg => hT g (.inl hg), own_chg h.d hc fun g hg => hT g (.inr (.inl hg)), own_chg h.v hc fun g hg => hT g (.inr (.inr hg)), h.rd, h.rv', h.dv'⟩

theorem cells_of {w : World} {g : Nat} {C : Array Value} {T : TypeId} {fr : Nat × Nat} (h : w.heap[g]? = some (.cells C T fr)) : ∀ j u, C.toList[j]? = some u → w.cell? ((⟨g, 0, none⟩ : Addr).add j) = some u := by
  intro j u hu
  rw [addr_add, Nat.zero_add, cell_of_row w g j _ _ _ h]
  simpa using hu

theorem hat_ne {w : World} {v v' u : Value} (hat : v'.ownBlock = v.ownBlock ∨ v'.ownBlock = some w.heap.size) (h : ∀ g, v.ownBlock = some g → u.ownBlock ≠ some g) (hu : ∀ g, u.ownBlock = some g → g < w.heap.size) : ∀ g, v'.ownBlock = some g → u.ownBlock ≠ some g := by
  intro g hg e
  rcases hat with h1 | h1
  · exact h g (by rw [← h1]; exact hg) e
  · rw [h1] at hg
    injection hg with hg
    have := hu g e
    omega

theorem Tri.appr {B : Nat} {rv dv vv rv' : Value} {R R' D : List Int} {Vs : List V} {n n' n2 k : Nat} {w w5 : World} (h : Tri B rv dv vv R D Vs n n2 k w) (ho : w5.ownsRow B 3 1 rv' n' (iv R')) (hc : Chg rv.ownBlock.toList w w5) (hat : rv'.ownBlock = rv.ownBlock ∨ rv'.ownBlock = some w.heap.size) : Tri B rv' dv vv R' D Vs n' n2 k w5 :=
  ⟨ho, own_chg h.d hc fun g hg hm => h.rd g (by simpa using hm) hg, own_chg h.v hc fun g hg hm => h.rv' g (by simpa using hm) hg, hat_ne hat h.rd fun g hg => (h.d.lt g hg).2, hat_ne hat h.rv' fun g hg => (h.v.lt g hg).2, h.dv'⟩

theorem Tri.appd {B : Nat} {rv dv vv dv2 : Value} {R D D' : List Int} {Vs : List V} {n n' n2 k : Nat} {w w5 : World} (h : Tri B rv dv vv R D Vs n n2 k w) (ho : w5.ownsRow B 3 1 dv2 n' (iv D')) (hc : Chg dv.ownBlock.toList w w5) (hat : dv2.ownBlock = dv.ownBlock ∨ dv2.ownBlock = some w.heap.size) : Tri B rv dv2 vv R D' Vs n n' k w5 := by
  have h1 : ∀ g, dv.ownBlock = some g → rv.ownBlock ≠ some g := fun g hg e => h.rd g e hg
  have h2 := hat_ne hat h1 fun g hg => (h.r.lt g hg).2
  exact ⟨own_chg h.r hc fun g hg hm => h.rd g hg (by simpa using hm), ho, own_chg h.v hc fun g hg hm => h.dv' g (by simpa using hm) hg, fun g hg e => h2 g e hg, h.rv', hat_ne hat h.dv' fun g hg => (h.v.lt g hg).2⟩

theorem Tri.appv {B : Nat} {rv dv vv vv2 : Value} {R D : List Int} {Vs Vs' : List V} {n n2 k k' : Nat} {w w5 : World} (h : Tri B rv dv vv R D Vs n n2 k w) (ho : w5.ownsRow B 44 2 vv2 k' (Vs'.flatMap V.cs)) (hc : Chg vv.ownBlock.toList w w5) (hat : vv2.ownBlock = vv.ownBlock ∨ vv2.ownBlock = some w.heap.size) : Tri B rv dv vv2 R D Vs' n n2 k' w5 := by
  have h1 := hat_ne hat (fun g hg e => h.rv' g e hg) fun g hg => (h.r.lt g hg).2
  have h2 := hat_ne hat (fun g hg e => h.dv' g e hg) fun g hg => (h.d.lt g hg).2
  exact ⟨own_chg h.r hc fun g hg hm => h.rv' g hg (by simpa using hm), own_chg h.d hc fun g hg hm => h.dv' g hg (by simpa using hm), ho, h.rd, fun g hg e => h1 g e hg, fun g hg e => h2 g e hg⟩

/-- How a column stands: its three rows, behind the box bc. -/
def CI (B bl bc bf : Nat) (lf : L) (pre : List Cl) (S : List Nat) (A : World) : Prop :=
  ∃ rv dv vv : Value, S = [bl, bc, bf] ++ (rv.ownBlock.toList ++ (dv.ownBlock.toList ++ vv.ownBlock.toList)) ∧ A.heap[bl]? = some (.cells #[.int .i64 lf.f, .int .i64 lf.r, .int .i64 lf.d, .int .i64 lf.k] 52 (0, 0)) ∧ A.heap[bc]? = some (.cells #[rv, dv, vv] 42 (0, 0)) ∧
    A.heap[bf]? = some (.cells #[.bool false] 4 (0, 0)) ∧ Tri B rv dv vv (colR pre) (colD pre) (colV lf.d pre) pre.length pre.length (colV lf.d pre).length A ∧ pre.length ≤ 4000

theorem CI.keep {B bl bc bf : Nat} {lf : L} {pre : List Cl} {S T : List Nat} {A A' : World} (h : CI B bl bc bf lf pre S A) (hc : Chg T A A') (hT : ∀ t ∈ T, t ∉ S) : CI B bl bc bf lf pre S A' := by
  obtain ⟨rv, dv, vv, rfl, h1, h2, h3, h4, h5⟩ := h
  have hn : ∀ g, g ∈ [bl, bc, bf] ++ (rv.ownBlock.toList ++ (dv.ownBlock.toList ++ vv.ownBlock.toList)) → g ∉ T := fun g hg hm => hT g hm hg
  exact ⟨rv, dv, vv, rfl, hc.heap h1 (hn _ (by simp)), hc.heap h2 (hn _ (by simp)), hc.heap h3 (hn _ (by simp)), h4.keep hc (fun g hg => hn g (by rcases hg with hg | hg | hg <;> simp [hg])), h5⟩

theorem CI.lt {B bl bc bf : Nat} {lf : L} {pre : List Cl} {S : List Nat} {A : World} (h : CI B bl bc bf lf pre S A) : ∀ k ∈ S, k < A.heap.size := by
  obtain ⟨rv, dv, vv, rfl, h1, h2, h3, h4, h5⟩ := h
  intro k hk
  simp only [List.mem_append, List.mem_cons, List.not_mem_nil, or_false, Option.mem_toList] at hk
  rcases hk with (rfl | rfl | rfl) | hk | hk | hk
  · exact Go.lt_of_block h1
  · exact Go.lt_of_block h2
  · exact Go.lt_of_block h3
  · exact (h4.r.lt k hk).2
  · exact (h4.d.lt k hk).2
  · exact (h4.v.lt k hk).2

/-- What a round is given. -/
def CRd (w0 : World) (TOT : List Cl) (pre : List Cl) (args : Array Value) (x : Cl) (A : World) : Prop :=
  (∃ post, TOT = pre ++ x :: post) ∧ Chg [] w0 A ∧ ∃ dd kv, KidsAt w0 dd x.t.k kv ∧ args = #[.agg #[.int .i64 (x.r : Int), .int .i64 (x.d : Int), .int .i64 x.t.n, .string x.t.s, kv]]

def CX (big : Prop) (bc bf : Nat) (S : List Nat) (A : World) : Prop := S = [bc, bf] ∧ big ∧ A.heap[bc]? = some (.cells #[.slice none 0 0, .slice none 0 0, .slice none 0 0] 42 (0, 0)) ∧ A.heap[bf]? = some (.cells #[.bool false] 4 (0, 0))


def rangeParts : Code → Option (Code × Code)
  | .rangeFunc _ _ x y => some (x, y)
  | .seq a b => match rangeParts a with
    | some c => some c
    | none => rangeParts b
  | .block _ c => rangeParts c
  | .scope c => rangeParts c
  | .cond _ a b => match rangeParts a with
    | some c => some c
    | none => rangeParts b
  | _ => none

noncomputable def colBody : Code := (((Try.f60.body.bind rangeParts).map (·.2)).getD .skip)

abbrev CF (bl bc bf bx : Nat) (u : Nat → Value) : Act :=
  { tmps := #[u 0, u 1, u 2, .pointer (some ⟨bl, 0, none⟩), u 4, u 5, .pointer (some ⟨bc, 0, none⟩), .pointer (some ⟨bf, 0, none⟩), .pointer (some ⟨bx, 0, none⟩), u 9, u 10, u 11, u 12, u 13, u 14, u 15, u 16, u 17, u 18, u 19, u 20, u 21, u 22, u 23, u 24, u 25, u 26, u 27, u 28, u 29, u 30, u 31, u 32, u 33, u 34, u 35, u 36, u 37, u 38, u 39, u 40, u 41, u 42, u 43, u 44, u 45, u 46, u 47, u 48, u 49], defers := [] }

theorem CF_of {bl bc bf bx : Nat} {a : Act} (h : a = CF bl bc bf bx (fun j => a.tmps.getD j undef)) : ∃ u, a = CF bl bc bf bx u := ⟨_, h⟩

/-- The first rows of a column are full. -/
theorem col_full {big : Prop} (hbig : big) {l B bl bc bf bx lo : Nat} {lf : L} {pre : List Cl} {S : List Nat} {x : Cl} {A : World} (u : Nat → Value) (hI : CI B bl bc bf lf pre S A) (hfull : pre.length = 4000) :
    colBody.wpIn (Fence.wide.inRound l) 0 Try.prog (RoundQ (CI B bl bc bf lf) (CX big bc bf) pre x S lo A) (CF bl bc bf bx u) A := by
  obtain ⟨rv, dv, vv, rfl, h1, h2, h3, h4, h5⟩ := hI
  obtain ⟨ro, rc, rfl⟩ := own_shape h4.r
  have c0 : A.cell? ⟨bc, 0, none⟩ = some (.slice ro pre.length rc) := by rw [cell_of_row A bc 0 _ _ _ h2]; rfl
  have c1 : A.cell? ⟨bc, 1, none⟩ = some dv := by rw [cell_of_row A bc 1 _ _ _ h2]; rfl
  have c2 : A.cell? ⟨bc, 2, none⟩ = some vv := by rw [cell_of_row A bc 2 _ _ _ h2]; rfl
  have c3 : A.cell? ⟨bf, 0, none⟩ = some (.bool false) := by rw [cell_of_row A bf 0 _ _ _ h3]; rfl
  have f0 : A.frozen? ⟨bc, 0, none⟩ = false := by simp [World.frozen?, h2]
  have f1 : A.frozen? ⟨bc, 1, none⟩ = false := by simp [World.frozen?, h2]
  have f2 : A.frozen? ⟨bc, 2, none⟩ = false := by simp [World.frozen?, h2]
  have f3 : A.frozen? ⟨bf, 0, none⟩ = false := by simp [World.frozen?, h3]
  have hne : bc ≠ bf := fun e => by subst e; rw [h2] at h3; cases h3
  have H2 := Lib.hid h2; have H3 := Lib.hid h3
  rw [hfull] at c0
  clear h1 h2 h3 h4 h5
  conv => arg 4; whnf
  gi_wp2
  have HB := Lib.hid (heap_set (i := 2) (heap_set (i := 1) (heap_set (i := 0) H2.out (.slice none 0 0)) (.slice none 0 0)) (.slice none 0 0))
  have HC1 := Lib.hid ((((Chg.refl [bc] A).setCell (p := ⟨bc, 0, none⟩) (.inl (by simp)) (.slice none 0 0)).setCell (p := ⟨bc, 1, none⟩) (.inl (by simp)) (.slice none 0 0)).setCell (p := ⟨bc, 2, none⟩) (.inl (by simp)) (.slice none 0 0))
  have HF := Lib.hid (heap_set (i := 0) (HC1.out.heap H3.out (by simpa using Ne.symm hne)) (.bool false))
  refine ⟨[bc, bf], ⟨rfl, hbig, ?_, HF.out⟩, (HC1.out.mono (by simp)).setCell (.inl (by simp)) _, fun k hk => .inl (by simp at hk; rcases hk with rfl | rfl <;> simp)⟩
  exact ((Chg.refl [bf] _).setCell (.inl (by simp)) _).heap HB.out (by simpa using hne)

def restOf5 : Code → Code
  | .block _ (.seq _ (.seq _ r)) => r
  | _ => .skip

/-- A cell's levels have been put. -/
structure CM (B bl bc bf bx : Nat) (lf : L) (pre : List Cl) (x : Cl) (kv : Value) (S : List Nat) (A : World) (rv dv vv : Value) (w : World) : Prop where
  t : Tri B rv dv vv (colR pre ++ [(x.r : Int)]) (colD pre ++ [(x.d : Int)]) (colV lf.d pre) (pre.length + 1) (pre.length + 1) (colV lf.d pre).length w
  hl : w.heap[bl]? = some (.cells #[.int .i64 lf.f, .int .i64 lf.r, .int .i64 lf.d, .int .i64 lf.k] 52 (0, 0))
  hc : w.heap[bc]? = some (.cells #[rv, dv, vv] 42 (0, 0))
  hf : w.heap[bf]? = some (.cells #[.bool false] 4 (0, 0))
  hx : w.heap[bx]? = some (.cells #[.int .i64 (x.r : Int), .int .i64 (x.d : Int), .int .i64 x.t.n, .string x.t.s, kv] 151 (0, 0))
  ch : Chg S A w
  br : ∀ g, rv.ownBlock = some g → g ∈ S ∨ A.heap.size ≤ g
  bd : ∀ g, dv.ownBlock = some g → g ∈ S ∨ A.heap.size ≤ g
  bv : ∀ g, vv.ownBlock = some g → g ∈ S ∨ A.heap.size ≤ g
  bs : bl ∈ S ∧ bc ∈ S ∧ bf ∈ S
  le : pre.length < 4000
  bB : B ≤ A.heap.size

theorem colV_snoc (D : Int) (pre : List Cl) (x : Cl) : colV D (pre ++ [x]) = colV D pre ++ (if (x.d : Int) = D then [⟨x.t.n, x.t.s⟩] else []) := by
  unfold colV
  rw [List.filter_append, List.map_append]
  by_cases h : (x.d : Int) = D
  · simp [h]
  · simp [h]
theorem colR_snoc (pre : List Cl) (x : Cl) : colR (pre ++ [x]) = colR pre ++ [(x.r : Int)] := by simp [colR]
theorem colD_snoc (pre : List Cl) (x : Cl) : colD (pre ++ [x]) = colD pre ++ [(x.d : Int)] := by simp [colD]

noncomputable def colRest : Code := restOf5 colBody

set_option maxRecDepth 100000 in
set_option maxHeartbeats 4000000 in
theorem col_rest {big : Prop} {l B bl bc bf bx : Nat} {lf : L} {pre : List Cl} {S : List Nat} {x : Cl} {kv : Value} {A w : World} {rv dv vv : Value} {a : Act} {lo : Nat} (ha : ∃ u, a = CF bl bc bf bx u) (h : CM B bl bc bf bx lf pre x kv S A rv dv vv w) (hlo : lo ≤ A.heap.size) (hs : x.t.s.size ≤ 281474976710656) :
    colRest.wpIn (Fence.wide.inRound l) 0 Try.prog (Exit.inBlock 1 (RoundQ (CI B bl bc bf lf) (CX big bc bf) pre x S lo A)) a w := by
  obtain ⟨u, rfl⟩ := ha
  obtain ⟨iV, hiV, hvz0, hvz1, hvz2⟩ := info_value
  obtain ⟨vo, vc, rfl⟩ := own_shape h.t.v
  obtain ⟨x0, x1, x2, x3, x4, -⟩ := xcells h.hx
  have l2 : w.cell? ⟨bl, 2, none⟩ = some (.int .i64 lf.d) := by rw [cell_of_row w bl 2 _ _ _ h.hl]; rfl
  have c2 : w.cell? ⟨bc, 2, none⟩ = some (.slice vo (colV lf.d pre).length vc) := by rw [cell_of_row w bc 2 _ _ _ h.hc]; rfl
  have f2 : w.frozen? ⟨bc, 2, none⟩ = false := by simp [World.frozen?, h.hc]
  have H := Lib.hid h
  clear h
  conv => arg 4; whnf
  by_cases hd : (x.d : Int) = lf.d
  case neg =>
    have d1 : ((x.d : Int) == lf.d) = false := by simpa using hd
    gi_wp2
    refine ⟨_, ⟨rv, dv, .slice vo (colV lf.d pre).length vc, rfl, H.out.hl, H.out.hc, H.out.hf, ?_, by simp; have := H.out.le; omega⟩, H.out.ch, fun k hk => ?_⟩
    · rw [colV_snoc, if_neg hd, List.append_nil, colR_snoc, colD_snoc, List.length_append]
      exact H.out.t
    · simp only [List.mem_append, List.mem_cons, List.not_mem_nil, or_false, Option.mem_toList] at hk
      rcases hk with (rfl | rfl | rfl) | hk | hk | hk
      · exact .inl H.out.bs.1
      · exact .inl H.out.bs.2.1
      · exact .inl H.out.bs.2.2
      · exact (H.out.br k hk).imp id (Nat.le_trans hlo)
      · exact (H.out.bd k hk).imp id (Nat.le_trans hlo)
      · exact (H.out.bv k hk).imp id (Nat.le_trans hlo)
  have d1 : ((x.d : Int) == lf.d) = true := by simpa using hd
  obtain ⟨k, hk⟩ : ∃ k, k = (colV lf.d pre).length := ⟨_, rfl⟩
  have hkE := Lib.hid hk
  have HKK := Lib.hid (show (Value.slice vo k vc).ownBlock = (Value.slice vo (colV lf.d pre).length vc).ownBlock by rw [hk])
  have hkl : k ≤ 4000 := by rw [hk]; unfold colV; rw [List.length_map]; exact Nat.le_trans (List.length_filter_le _ _) (Nat.le_of_lt H.out.le)
  have hbn : bc ≠ bx := fun e => by have h1 := H.out.hc; have h2 := H.out.hx; rw [e, h2] at h1; cases h1
  have HVA := Lib.hid (fun wz => value14_any x.t.n x.t.s wz hs)
  let SS : Bool → Bool → World → Prop := fun b1 b2 w' => (b1 = false → w'.cell? ⟨bc, 2, none⟩ = some (.slice vo k vc)) ∧ w'.cell? ⟨bx, 2, none⟩ = some (.int .i64 x.t.n) ∧ w'.cell? ⟨bx, 3, none⟩ = some (.string x.t.s)
  have HSC := Lib.hid (show ∀ (L1 L2 : Array Bool) wa wb, L2.getD 12 true = L1.getD 12 true → SL SS 12 12 L1 wa → Chg [] wa wb → SL SS 12 12 L2 wb from fun L1 L2 wa wb e h hc => by unfold SL; rw [e]; exact ⟨fun hb => hc.cell (h.1 hb) (by simp), hc.cell h.2.1 (by simp), hc.cell h.2.2 (by simp)⟩)
  have HNB := Lib.hid (show bc ∉ (Value.slice vo k vc).ownBlock.toList ∧ bx ∉ (Value.slice vo k vc).ownBlock.toList from ⟨fun hm => (tagged_of_own H.out.t.v).ne H.out.hc (by decide) bc (by rw [← HKK.out]; simpa using hm) rfl, fun hm => (tagged_of_own H.out.t.v).ne H.out.hx (by decide) bx (by rw [← HKK.out]; simpa using hm) rfl⟩)
  have HSG := Lib.hid (show ∀ (L1 L2 : Array Bool) wa wb, L2.getD 12 true = L1.getD 12 true → SL SS 12 12 L1 wa → Chg (Value.slice vo k vc).ownBlock.toList w wa → Chg (Value.slice vo k vc).ownBlock.toList wa wb → SL SS 12 12 L2 wb from fun L1 L2 wa wb e h _ hc => by unfold SL; rw [e]; exact ⟨fun hb => hc.cell (h.1 hb) HNB.out.1, hc.cell h.2.1 HNB.out.2, hc.cell h.2.2 HNB.out.2⟩)
  have HSW := Lib.hid (show ∀ (L1 L2 : Array Bool) wa v, L2.getD 12 true = true → SL SS 12 12 L1 wa → SL SS 12 12 L2 (wa.setCell ⟨bc, 2, none⟩ v) from fun L1 L2 wa v e h => by unfold SL; rw [e]; exact ⟨fun hb => (by cases hb), ((Chg.refl [bc] wa).setCell (.inl (by simp)) v).cell h.2.1 (by simpa using Ne.symm hbn), ((Chg.refl [bc] wa).setCell (.inl (by simp)) v).cell h.2.2 (by simpa using Ne.symm hbn)⟩)
  have hHeld0 : SL SS 12 12 (Array.replicate 13 false) w.drew := ⟨fun _ => by rw [hk]; exact c2, x2, x3⟩
  have HT := Lib.hid (show Tri B rv dv (.slice vo k vc) (colR pre ++ [(x.r : Int)]) (colD pre ++ [(x.d : Int)]) (colV lf.d pre) (pre.length + 1) (pre.length + 1) k w.drew by rw [hk]; exact H.out.t.keep (Chg.refl [] w).drew (by simp))
  have HCH := Lib.hid (show Chg (Value.slice vo k vc).ownBlock.toList w w.drew from (Chg.refl _ w).drew)
  rw [← hk] at c2
  gi_wp2
  refine region_roundL SS 12 12 (by kernel_rfl) (by kernel_rfl) (by rintro ⟨_, _, h⟩; exact h) ?_
  clear hk x0 x1 x2 x3 x4 l2 c2 f2
  refine wpAnyL_take (i := 0) (oi := _) (v := ?_) false rfl (by kernel_rfl) (fun _ _ _ h => h) (Or.inl ⟨by rfl, ?_⟩) hHeld0 (fun hHeld1 => ?_)
  rotate_left
  · rintro w ⟨b1, b2, hok, hSw⟩; go_simp; (try with_reducible rfl)
  clear hHeld0
  try simp only [List.getElem_toArray, List.getElem_cons_succ, List.getElem_cons_zero, Act.put, List.setIfInBounds_toArray, List.set_cons_zero, List.set_cons_succ]
  refine wpAnyL_take (i := 1) (oi := _) (v := ?_) true rfl (by kernel_rfl) (fun _ _ _ h => h) (Or.inl ⟨by rfl, ?_⟩) hHeld1 (fun hHeld2 => ?_)
  rotate_left
  · rintro w ⟨b1, b2, hok, hSw⟩; obtain ⟨rfl, rfl⟩ := hok rfl; have h0 := hSw.1 rfl; go_simp; (try with_reducible rfl)
  clear hHeld1
  try simp only [List.getElem_toArray, List.getElem_cons_succ, List.getElem_cons_zero, Act.put, List.setIfInBounds_toArray, List.set_cons_zero, List.set_cons_succ]
  refine wpAnyL_take (i := 2) (oi := _) (v := ?_) false rfl (by kernel_rfl) (fun _ _ _ h => h) (Or.inl ⟨by rfl, ?_⟩) hHeld2 (fun hHeld3 => ?_)
  rotate_left
  · rintro w ⟨b1, b2, hok, hSw⟩; go_simp; (try with_reducible rfl)
  clear hHeld2
  try simp only [List.getElem_toArray, List.getElem_cons_succ, List.getElem_cons_zero, Act.put, List.setIfInBounds_toArray, List.set_cons_zero, List.set_cons_succ]
  refine wpAnyL_take (i := 3) (oi := _) (v := ?_) false rfl (by kernel_rfl) (fun _ _ _ h => h) (Or.inl ⟨by rfl, ?_⟩) hHeld3 (fun hHeld4 => ?_)
  rotate_left
  · rintro w ⟨b1, b2, hok, hSw⟩; go_simp; (try with_reducible rfl)
  clear hHeld3
  try simp only [List.getElem_toArray, List.getElem_cons_succ, List.getElem_cons_zero, Act.put, List.setIfInBounds_toArray, List.set_cons_zero, List.set_cons_succ]
  refine wpAnyL_take (i := 4) (oi := _) (v := ?_) false rfl (by kernel_rfl) (fun _ _ _ h => h) (Or.inl ⟨by rfl, ?_⟩) hHeld4 (fun hHeld5 => ?_)
  rotate_left
  · rintro w ⟨b1, b2, hok, hSw⟩; have h0 := hSw.2.1; go_simp; (try with_reducible rfl)
  clear hHeld4
  try simp only [List.getElem_toArray, List.getElem_cons_succ, List.getElem_cons_zero, Act.put, List.setIfInBounds_toArray, List.set_cons_zero, List.set_cons_succ]
  refine wpAnyL_take (i := 5) (oi := _) (v := ?_) false rfl (by kernel_rfl) (fun _ _ _ h => h) (Or.inl ⟨by rfl, ?_⟩) hHeld5 (fun hHeld6 => ?_)
  rotate_left
  · rintro w ⟨b1, b2, hok, hSw⟩; go_simp; (try with_reducible rfl)
  clear hHeld5
  try simp only [List.getElem_toArray, List.getElem_cons_succ, List.getElem_cons_zero, Act.put, List.setIfInBounds_toArray, List.set_cons_zero, List.set_cons_succ]
  refine wpAnyL_take (i := 6) (oi := _) (v := ?_) false rfl (by kernel_rfl) (fun _ _ _ h => h) (Or.inl ⟨by rfl, ?_⟩) hHeld6 (fun hHeld7 => ?_)
  rotate_left
  · rintro w ⟨b1, b2, hok, hSw⟩; go_simp; (try with_reducible rfl)
  clear hHeld6
  try simp only [List.getElem_toArray, List.getElem_cons_succ, List.getElem_cons_zero, Act.put, List.setIfInBounds_toArray, List.set_cons_zero, List.set_cons_succ]
  refine wpAnyL_take (i := 7) (oi := _) (v := ?_) false rfl (by kernel_rfl) (fun _ _ _ h => h) (Or.inl ⟨by rfl, ?_⟩) hHeld7 (fun hHeld8 => ?_)
  rotate_left
  · rintro w ⟨b1, b2, hok, hSw⟩; have h0 := hSw.2.2; go_simp; (try with_reducible rfl)
  clear hHeld7
  try simp only [List.getElem_toArray, List.getElem_cons_succ, List.getElem_cons_zero, Act.put, List.setIfInBounds_toArray, List.set_cons_zero, List.set_cons_succ]
  refine wpAnyL_ready (rs := [8]) (by kernel_rfl) (by simp) ?_
  refine AllReadyL.cons (o := _) rfl (fun K hK => ?_) AllReadyL.nil
  go_simp
  go_at_call 94
  (with_reducible refine (HVA.out _).mono ?_)
  rintro e w1 ⟨rfl, hc1⟩
  refine hK.out _ _ (HSC.out _ _ _ _ (by kernel_rfl) hHeld8 hc1) (fun hHeld9 => ?_)
  clear hK K hHeld8
  try simp only [List.getElem_toArray, List.getElem_cons_succ, List.getElem_cons_zero, Act.put, List.setIfInBounds_toArray, List.set_cons_zero, List.set_cons_succ]
  replace HT := Lib.hid (HT.out.keep hc1 (by simp))
  replace HCH := Lib.hid (HCH.out.trans hc1 (by simp))
  clear hc1
  refine wpAnyL_ready (rs := [9]) (by kernel_rfl) (by simp) ?_
  refine AllReadyL.cons (o := _) rfl (fun K hK => ?_) AllReadyL.nil
  go_simp
  refine hK.out _ _ (HSC.out _ _ _ _ (by kernel_rfl) hHeld9 ((Chg.refl [] w1).alloc _)) (fun hHeld10 => ?_)
  clear hK K hHeld9
  try simp only [List.getElem_toArray, List.getElem_cons_succ, List.getElem_cons_zero, Act.put, List.setIfInBounds_toArray, List.set_cons_zero, List.set_cons_succ]
  have HLV := Lib.hid (show (w1.alloc (.cells #[.int .i64 x.t.n, .string x.t.s] 44)).heap[w1.heap.size]? = some (.cells #[.int .i64 x.t.n, .string x.t.s] 44 (0, 0)) from heap_alloc_new w1 _)
  obtain ⟨w2, hw2⟩ : ∃ z, z = w1.alloc (.cells #[.int .i64 x.t.n, .string x.t.s] 44) := ⟨_, rfl⟩
  rw [← hw2] at HLV hHeld10 ⊢
  have HCS := Lib.hid (show Chg [] w1 w2 by rw [hw2]; exact (Chg.refl [] w1).alloc _)
  clear hw2
  replace HT := Lib.hid (HT.out.keep HCS.out (by simp))
  replace HCH := Lib.hid (HCH.out.trans HCS.out (by simp))
  clear HCS
  refine wpAnyL_ready (rs := [10]) (by kernel_rfl) (by simp) ?_
  refine AllReadyL.cons (o := _) rfl (fun K hK => ?_) AllReadyL.nil
  refine step_append_at (by rfl) (.tmp 38) (.tmp 46) 40 (by rfl) B 44 iV (.agg #[.int .i64 0, .string ByteArray.empty]) 2 24 Try.underlying40 hiV hvz0 hvz1 hvz2 (by rfl) (by decide) (.slice vo k vc) k ((colV lf.d pre).flatMap V.cs) (by rfl) HT.out.v ⟨w1.heap.size, 0, none⟩ 1 1 (V.cs ⟨x.t.n, x.t.s⟩) (by rfl) (by rfl) (cells_of HLV.out) (V.one _) (by unfold maxLen; omega) (by omega) (Nat.le_trans H.out.bB (Nat.le_trans H.out.ch.size HCH.out.size)) ?_
  intro v3 w3 hown hgrow hat
  have HCS := Lib.hid (show Chg (Value.slice vo k vc).ownBlock.toList w2 w3 from (Chg.refl _ w2).grown hgrow (fun q hq => .inl (by simp [hq])))
  refine hK.out _ _ (HSG.out _ _ _ _ (by kernel_rfl) hHeld10 HCH.out HCS.out) (fun hHeld11 => ?_)
  clear hK K hHeld10
  try simp only [List.getElem_toArray, List.getElem_cons_succ, List.getElem_cons_zero, Act.put, List.setIfInBounds_toArray, List.set_cons_zero, List.set_cons_succ]
  have HBV := Lib.hid (show ∀ g, v3.ownBlock = some g → g ∈ S ∨ A.heap.size ≤ g from fun g hg => by
    rcases hat with h | h
    · exact H.out.bv g (by rw [← HKK.out, ← h]; exact hg)
    · rw [h] at hg
      injection hg with hg
      rw [← hg]
      exact .inr (Nat.le_trans H.out.ch.size HCH.out.size))
  replace HT := Lib.hid (HT.out.appv (Vs' := colV lf.d pre ++ [⟨x.t.n, x.t.s⟩]) (by rw [List.flatMap_append]; simpa using hown) HCS.out hat)
  replace HCH := Lib.hid (HCH.out.trans HCS.out (fun q hq => .inl (by simpa using hq)))
  clear hown hgrow hat HCS
  obtain ⟨v3o, v3c, rfl⟩ := own_shape HT.out.v
  refine wpAnyL_take (i := 11) (oi := _) (v := ?_) false rfl (by kernel_rfl) (fun _ _ _ h => h) (Or.inl ⟨by rfl, ?_⟩) hHeld11 (fun hHeld12 => ?_)
  rotate_left
  · rintro w ⟨b1, b2, hok, hSw⟩; go_simp; (try with_reducible rfl)
  clear hHeld11
  try simp only [List.getElem_toArray, List.getElem_cons_succ, List.getElem_cons_zero, Act.put, List.setIfInBounds_toArray, List.set_cons_zero, List.set_cons_succ]
  have HBCC := Lib.hid (HCH.out.heap H.out.hc HNB.out.1)
  have kc := HBCC.out
  have kz : w3.cell? ⟨bc, 2, none⟩ = some (.slice vo (colV lf.d pre).length vc) := by rw [cell_of_row w3 bc 2 _ _ _ kc]; rfl
  have kf : w3.frozen? ⟨bc, 2, none⟩ = false := by simp [World.frozen?, kc]
  clear kc
  refine wpAnyL_ready (rs := [12]) (by kernel_rfl) (by simp) ?_
  refine AllReadyL.cons (o := _) rfl (fun K hK => ?_) AllReadyL.nil
  go_simp
  refine hK.out _ _ (HSW.out _ _ _ _ (by kernel_rfl) hHeld12) (fun hHeld13 => ?_)
  clear hK K hHeld12
  try simp only [List.getElem_toArray, List.getElem_cons_succ, List.getElem_cons_zero, Act.put, List.setIfInBounds_toArray, List.set_cons_zero, List.set_cons_succ]
  refine wpAnyL_done (by kernel_rfl) ?_ _
  clear hHeld13
  have nbl := (tagged_of_own H.out.t.v).ne H.out.hl (by decide)
  have nbf := (tagged_of_own H.out.t.v).ne H.out.hf (by decide)
  have e1 : bl ≠ bc := fun e => by have h1 := H.out.hc; have h2 := H.out.hl; rw [e, h1] at h2; cases h2
  have e2 : bf ≠ bc := fun e => by have h1 := H.out.hc; have h2 := H.out.hf; rw [e, h1] at h2; cases h2
  have HSC2 : Chg [bc] w3 (w3.setCell ⟨bc, 2, none⟩ (.slice v3o (k + 1) v3c)) := (Chg.refl [bc] w3).setCell (.inl (by simp)) _
  have HL := HSC2.heap (HCH.out.heap H.out.hl (fun hm => nbl bl (by rw [← HKK.out]; simpa using hm) rfl)) (by simpa using e1)
  have HFF := HSC2.heap (HCH.out.heap H.out.hf (fun hm => nbf bf (by rw [← HKK.out]; simpa using hm) rfl)) (by simpa using e2)
  have HTT := HT.out.keep HSC2 (fun q hq hm => by
    simp at hm
    subst hm
    rcases hq with hq | hq | hq
    · exact (tagged_of_own HT.out.r).ne HBCC.out (by decide) _ hq rfl
    · exact (tagged_of_own HT.out.d).ne HBCC.out (by decide) _ hq rfl
    · exact (tagged_of_own HT.out.v).ne HBCC.out (by decide) _ hq rfl)
  refine ⟨_, ⟨rv, dv, .slice v3o (k + 1) v3c, rfl, HL, heap_set (i := 2) HBCC.out _, HFF, ?_, by simp; have := H.out.le; omega⟩, (H.out.ch.trans HCH.out (fun q hq => H.out.bv q (by rw [← HKK.out]; simpa using hq))).trans HSC2 (by intro q hq; simp at hq; subst hq; exact .inl H.out.bs.2.1), fun k hk => ?_⟩
  · have hkk : k + 1 = (colV lf.d (pre ++ [x])).length := by rw [colV_snoc, if_pos hd, List.length_append, hkE.out]; rfl
    rw [← hkk, colV_snoc, if_pos hd, colR_snoc, colD_snoc, List.length_append]
    exact HTT
  · simp only [List.mem_append, List.mem_cons, List.not_mem_nil, or_false, Option.mem_toList] at hk
    rcases hk with (rfl | rfl | rfl) | hk | hk | hk
    · exact .inl H.out.bs.1
    · exact .inl H.out.bs.2.1
    · exact .inl H.out.bs.2.2
    · exact (H.out.br _ hk).imp id (Nat.le_trans hlo)
    · exact (H.out.bd _ hk).imp id (Nat.le_trans hlo)
    · exact (HBV.out _ hk).imp id (Nat.le_trans hlo)

set_option maxRecDepth 100000 in
set_option maxHeartbeats 4000000 in
theorem col_more {big : Prop} {l B bl bc bf bx : Nat} {lf : L} {pre : List Cl} {S : List Nat} {x : Cl} {kv : Value} {A : World} {lo : Nat} (u : Nat → Value) (hI : CI B bl bc bf lf pre S A) (hlt : pre.length < 4000) (hlo : lo ≤ A.heap.size) (hs : x.t.s.size ≤ 281474976710656) (hB : B ≤ A.heap.size)
    (hx : A.heap[bx]? = some (.cells #[.int .i64 (x.r : Int), .int .i64 (x.d : Int), .int .i64 x.t.n, .string x.t.s, kv] 151 (0, 0))) (hbx : bx ∉ S) :
    colBody.wpIn (Fence.wide.inRound l) 0 Try.prog (RoundQ (CI B bl bc bf lf) (CX big bc bf) pre x S lo A) (CF bl bc bf bx u) A := by
  obtain ⟨ii, hii, hiz0, hiz1, hiz2⟩ := info_int
  obtain ⟨rv, dv, vv, rfl, h1, h2, h3, h4, h5⟩ := hI
  obtain ⟨ro, rc, rfl⟩ := own_shape h4.r
  obtain ⟨dso, dc, rfl⟩ := own_shape h4.d
  obtain ⟨n, hn⟩ : ∃ n, n = pre.length := ⟨_, rfl⟩
  rw [← hn] at h2 h4 hbx hlt ⊢
  obtain ⟨x0, x1, x2, x3, x4, -⟩ := xcells hx
  have c0 : A.cell? ⟨bc, 0, none⟩ = some (.slice ro n rc) := by rw [cell_of_row A bc 0 _ _ _ h2]; rfl
  have c1 : A.cell? ⟨bc, 1, none⟩ = some (.slice dso n dc) := by rw [cell_of_row A bc 1 _ _ _ h2]; rfl
  have hbn : bc ≠ bx := fun e => by rw [e, hx] at h2; cases h2
  have hnn : ¬ ((n : Int) = 4000) := by omega
  have hb4 : ((n : Int) == 4000) = false := by simp; omega
  have HBA := Lib.hid hB
  obtain ⟨SL1, hSL1⟩ : ∃ z, z = [bl, bc, bf] ++ ((Value.slice ro n rc).ownBlock.toList ++ ((Value.slice dso n dc).ownBlock.toList ++ vv.ownBlock.toList)) := ⟨_, rfl⟩
  have HSS1 := Lib.hid hSL1
  have tr := tagged_of_own h4.r
  have td := tagged_of_own h4.d
  have tv := tagged_of_own h4.v
  have HLT := Lib.hid (show (∀ q, (Value.slice ro n rc).ownBlock = some q → q < A.heap.size) ∧ (∀ q, (Value.slice dso n dc).ownBlock = some q → q < A.heap.size) from ⟨fun q hq => (h4.r.lt q hq).2, fun q hq => (h4.d.lt q hq).2⟩)
  have HNB := Lib.hid (show (Value.slice ro n rc).ownBlock ≠ some bc ∧ (Value.slice dso n dc).ownBlock ≠ some bc ∧ vv.ownBlock ≠ some bc ∧ bc < A.heap.size from ⟨fun h => tr.ne h2 (by decide) bc h rfl, fun h => td.ne h2 (by decide) bc h rfl, fun h => tv.ne h2 (by decide) bc h rfl, Go.lt_of_block h2⟩)
  have HNX := Lib.hid (show (Value.slice ro n rc).ownBlock ≠ some bx ∧ (Value.slice dso n dc).ownBlock ≠ some bx from ⟨fun h => tr.ne hx (by decide) bx h rfl, fun h => td.ne hx (by decide) bx h rfl⟩)
  let SS : Bool → Bool → World → Prop := fun b1 b2 w' => (b1 = false → w'.cell? ⟨bc, 0, none⟩ = some (.slice ro n rc)) ∧ (b2 = false → w'.cell? ⟨bc, 1, none⟩ = some (.slice dso n dc)) ∧ w'.cell? ⟨bx, 0, none⟩ = some (.int .i64 (x.r : Int)) ∧ w'.cell? ⟨bx, 1, none⟩ = some (.int .i64 (x.d : Int))
  have HSG := Lib.hid (show ∀ (L1 L2 : Array Bool) wa wb T, L2.getD 13 true = L1.getD 13 true → L2.getD 15 true = L1.getD 15 true → SL SS 13 15 L1 wa → Chg T wa wb → bc ∉ T → bx ∉ T → SL SS 13 15 L2 wb from fun L1 L2 wa wb T e1 e2 h hc n1 n2 => by
    unfold SL
    rw [e1, e2]
    exact ⟨fun hb => hc.cell (h.1 hb) n1, fun hb => hc.cell (h.2.1 hb) n1, hc.cell h.2.2.1 n2, hc.cell h.2.2.2 n2⟩)
  have HSW13 := Lib.hid (show ∀ (L1 L2 : Array Bool) wa v, L2.getD 13 true = true → L2.getD 15 true = L1.getD 15 true → SL SS 13 15 L1 wa → SL SS 13 15 L2 (wa.setCell ⟨bc, 0, none⟩ v) from fun L1 L2 wa v e1 e2 h => by
    unfold SL
    rw [e1, e2]
    have hc := (Chg.refl [bc] wa).setCell (p := ⟨bc, 0, none⟩) (.inl (by simp)) v
    exact ⟨fun hb => (by cases hb), fun hb => (World.cell?_setCell_other wa _ _ v (by simp)).trans (h.2.1 hb), hc.cell h.2.2.1 (by simpa using Ne.symm hbn), hc.cell h.2.2.2 (by simpa using Ne.symm hbn)⟩)
  have HSW15 := Lib.hid (show ∀ (L1 L2 : Array Bool) wa v, L2.getD 13 true = true → L2.getD 15 true = true → SL SS 13 15 L1 wa → SL SS 13 15 L2 (wa.setCell ⟨bc, 1, none⟩ v) from fun L1 L2 wa v e1 e2 h => by
    unfold SL
    rw [e1, e2]
    have hc := (Chg.refl [bc] wa).setCell (p := ⟨bc, 1, none⟩) (.inl (by simp)) v
    exact ⟨fun hb => (by cases hb), fun hb => (by cases hb), hc.cell h.2.2.1 (by simpa using Ne.symm hbn), hc.cell h.2.2.2 (by simpa using Ne.symm hbn)⟩)
  have HKB := Lib.hid (show ∀ wz, Chg ((Value.slice ro n rc).ownBlock.toList ++ (Value.slice dso n dc).ownBlock.toList) A wz → wz.heap[bc]? = some (.cells #[.slice ro n rc, .slice dso n dc, vv] 42 (0, 0)) from fun wz hc => hc.heap h2 (fun hm => by
    rcases List.mem_append.1 hm with hm | hm
    · exact HNB.out.1 (by simpa using hm)
    · exact HNB.out.2.1 (by simpa using hm)))
  have HSR := Lib.hid (show ∀ q, (Value.slice ro n rc).ownBlock = some q → q ∈ (Value.slice ro n rc).ownBlock.toList ++ (Value.slice dso n dc).ownBlock.toList from fun q hq => by simp [hq])
  have HSD := Lib.hid (show ∀ q, (Value.slice dso n dc).ownBlock = some q → q ∈ (Value.slice ro n rc).ownBlock.toList ++ (Value.slice dso n dc).ownBlock.toList from fun q hq => by simp [hq])
  have HSS := Lib.hid (show ∀ k ∈ (Value.slice ro n rc).ownBlock.toList ++ (Value.slice dso n dc).ownBlock.toList, k ∈ bc :: ((Value.slice ro n rc).ownBlock.toList ++ (Value.slice dso n dc).ownBlock.toList) ∨ A.heap.size ≤ k from fun k hk => .inl (List.mem_cons_of_mem _ hk))
  rw [← hSL1] at hbx ⊢
  have e1 : bl ≠ bc := fun e => by rw [e, h2] at h1; cases h1
  have e2 : bf ≠ bc := fun e => by rw [e, h2] at h3; cases h3
  have HEND := Lib.hid (show ∀ (a : Act) (w : World) (rv' dv' : Value), (∃ u, a = CF bl bc bf bx u) → Tri B rv' dv' vv (colR pre ++ [(x.r : Int)]) (colD pre ++ [(x.d : Int)]) (colV lf.d pre) (n + 1) (n + 1) (colV lf.d pre).length w → w.heap[bc]? = some (.cells #[rv', dv', vv] 42 (0, 0)) → Chg (bc :: ((Value.slice ro n rc).ownBlock.toList ++ (Value.slice dso n dc).ownBlock.toList)) A w → (∀ g, rv'.ownBlock = some g → (Value.slice ro n rc).ownBlock = some g ∨ A.heap.size ≤ g) → (∀ g, dv'.ownBlock = some g → (Value.slice dso n dc).ownBlock = some g ∨ A.heap.size ≤ g) →
      colRest.wpIn (Fence.wide.inRound l) 0 Try.prog (Exit.inBlock 1 (RoundQ (CI B bl bc bf lf) (CX big bc bf) pre x SL1 lo A)) a w from fun a w rv' dv' ha hT hbc hch hbr hbd => by
    have hno : ∀ q, q ≠ bc → (Value.slice ro n rc).ownBlock ≠ some q → (Value.slice dso n dc).ownBlock ≠ some q → q ∉ bc :: ((Value.slice ro n rc).ownBlock.toList ++ (Value.slice dso n dc).ownBlock.toList) := fun q g1 g2 g3 hm => by
      rcases List.mem_cons.1 hm with rfl | hm
      · exact g1 rfl
      · rcases List.mem_append.1 hm with hm | hm
        · exact g2 (by simpa using hm)
        · exact g3 (by simpa using hm)
    refine col_rest ha (kv := kv) (rv := rv') (dv := dv') (vv := vv) ⟨by rw [← hn]; exact hT, hch.heap h1 (hno _ e1 (fun h => tr.ne h1 (by decide) bl h rfl) (fun h => td.ne h1 (by decide) bl h rfl)), hbc, hch.heap h3 (hno _ e2 (fun h => tr.ne h3 (by decide) bf h rfl) (fun h => td.ne h3 (by decide) bf h rfl)), hch.heap hx (hno _ (Ne.symm hbn) HNX.out.1 HNX.out.2), hch.mono (fun k hk => .inl ?_), fun q hq => ?_, fun q hq => ?_, fun q hq => ?_, by rw [hSL1]; simp, by omega, hB⟩ hlo hs
    · rw [hSL1]
      rcases List.mem_cons.1 hk with rfl | hk
      · simp
      · rcases List.mem_append.1 hk with hk | hk
        · simp only [List.mem_append]; exact .inr (.inl hk)
        · simp only [List.mem_append]; exact .inr (.inr (.inl hk))
    · refine (hbr q hq).imp (fun h => ?_) id
      rw [hSL1]; simp [h]
    · refine (hbd q hq).imp (fun h => ?_) id
      rw [hSL1]; simp [h]
    · refine .inl ?_
      rw [hSL1]; simp [hq])
  have hHeld0 : SL SS 13 15 (Array.replicate 16 false) A.drew := ⟨fun _ => c0, fun _ => c1, x0, x1⟩
  have HT := Lib.hid (h4.keep (Chg.refl [] A).drew (by simp))
  have HCH := Lib.hid (show Chg ((Value.slice ro n rc).ownBlock.toList ++ (Value.slice dso n dc).ownBlock.toList) A A.drew from (Chg.refl _ A).drew)
  have hn4 : pre.length < 4000 := by omega
  obtain ⟨Ad, hAd⟩ : ∃ Ad, Ad = A.drew := ⟨_, rfl⟩
  rw [← hAd] at hHeld0 HT HCH
  have HAD := Lib.hid hAd
  clear hn hSL1 h1 h2 h3 h4 hx hbx x2 x3 x4 tr td tv e1 e2 hB hAd
  conv => arg 4; whnf
  gi_wp2
  rename_i K0 hK0
  refine region_roundL SS 13 15 (by kernel_rfl) (by kernel_rfl) (by rintro ⟨_, _, h⟩; exact h) ?_
  rw [← HAD.out]
  clear c0 c1 x0 x1
  refine wpAnyL_take (i := 0) (oi := _) (v := ?_) false rfl (by kernel_rfl) (fun _ _ _ h => h) (Or.inl ⟨by rfl, ?_⟩) hHeld0 (fun hHeld1 => ?_)
  rotate_left
  · rintro w ⟨b1, b2, hok, hSw⟩; go_simp; (try with_reducible rfl)
  clear hHeld0
  try simp only [List.getElem_toArray, List.getElem_cons_succ, List.getElem_cons_zero, Act.put, List.setIfInBounds_toArray, List.set_cons_zero, List.set_cons_succ]
  refine wpAnyL_take (i := 1) (oi := _) (v := ?_) true rfl (by kernel_rfl) (fun _ _ _ h => h) (Or.inl ⟨by rfl, ?_⟩) hHeld1 (fun hHeld2 => ?_)
  rotate_left
  · rintro w ⟨b1, b2, hok, hSw⟩; obtain ⟨rfl, rfl⟩ := hok rfl; have h0 := hSw.1 rfl; go_simp; (try with_reducible rfl)
  clear hHeld1
  try simp only [List.getElem_toArray, List.getElem_cons_succ, List.getElem_cons_zero, Act.put, List.setIfInBounds_toArray, List.set_cons_zero, List.set_cons_succ]
  refine wpAnyL_take (i := 2) (oi := _) (v := ?_) false rfl (by kernel_rfl) (fun _ _ _ h => h) (Or.inl ⟨by rfl, ?_⟩) hHeld2 (fun hHeld3 => ?_)
  rotate_left
  · rintro w ⟨b1, b2, hok, hSw⟩; go_simp; (try with_reducible rfl)
  clear hHeld2
  try simp only [List.getElem_toArray, List.getElem_cons_succ, List.getElem_cons_zero, Act.put, List.setIfInBounds_toArray, List.set_cons_zero, List.set_cons_succ]
  refine wpAnyL_take (i := 3) (oi := _) (v := ?_) false rfl (by kernel_rfl) (fun _ _ _ h => h) (Or.inl ⟨by rfl, ?_⟩) hHeld3 (fun hHeld4 => ?_)
  rotate_left
  · rintro w ⟨b1, b2, hok, hSw⟩; have h0 := hSw.2.2.1; go_simp; (try with_reducible rfl)
  clear hHeld3
  try simp only [List.getElem_toArray, List.getElem_cons_succ, List.getElem_cons_zero, Act.put, List.setIfInBounds_toArray, List.set_cons_zero, List.set_cons_succ]
  refine wpAnyL_take (i := 6) (oi := _) (v := ?_) false rfl (by kernel_rfl) (fun _ _ _ h => h) (Or.inl ⟨by rfl, ?_⟩) hHeld4 (fun hHeld5 => ?_)
  rotate_left
  · rintro w ⟨b1, b2, hok, hSw⟩; go_simp; (try with_reducible rfl)
  clear hHeld4
  try simp only [List.getElem_toArray, List.getElem_cons_succ, List.getElem_cons_zero, Act.put, List.setIfInBounds_toArray, List.set_cons_zero, List.set_cons_succ]
  refine wpAnyL_take (i := 7) (oi := _) (v := ?_) true rfl (by kernel_rfl) (fun _ _ _ h => h) (Or.inl ⟨by rfl, ?_⟩) hHeld5 (fun hHeld6 => ?_)
  rotate_left
  · rintro w ⟨b1, b2, hok, hSw⟩; obtain ⟨rfl, rfl⟩ := hok rfl; have h0 := hSw.2.1 rfl; go_simp; (try with_reducible rfl)
  clear hHeld5
  try simp only [List.getElem_toArray, List.getElem_cons_succ, List.getElem_cons_zero, Act.put, List.setIfInBounds_toArray, List.set_cons_zero, List.set_cons_succ]
  refine wpAnyL_take (i := 8) (oi := _) (v := ?_) false rfl (by kernel_rfl) (fun _ _ _ h => h) (Or.inl ⟨by rfl, ?_⟩) hHeld6 (fun hHeld7 => ?_)
  rotate_left
  · rintro w ⟨b1, b2, hok, hSw⟩; go_simp; (try with_reducible rfl)
  clear hHeld6
  try simp only [List.getElem_toArray, List.getElem_cons_succ, List.getElem_cons_zero, Act.put, List.setIfInBounds_toArray, List.set_cons_zero, List.set_cons_succ]
  refine wpAnyL_take (i := 9) (oi := _) (v := ?_) false rfl (by kernel_rfl) (fun _ _ _ h => h) (Or.inl ⟨by rfl, ?_⟩) hHeld7 (fun hHeld8 => ?_)
  rotate_left
  · rintro w ⟨b1, b2, hok, hSw⟩; have h0 := hSw.2.2.2; go_simp; (try with_reducible rfl)
  clear hHeld7
  try simp only [List.getElem_toArray, List.getElem_cons_succ, List.getElem_cons_zero, Act.put, List.setIfInBounds_toArray, List.set_cons_zero, List.set_cons_succ]
  refine wpAnyL_ready (rs := [4, 10]) (by kernel_rfl) (by simp) ?_
  refine AllReadyL.cons (o := _) rfl (fun K hK => ?_) ?_
  · go_simp
    refine hK.out _ _ (HSG.out _ _ _ _ [] (by kernel_rfl) (by kernel_rfl) hHeld8 ((Chg.refl [] Ad).alloc _) (by simp) (by simp)) (fun hHeld9 => ?_)
    clear hK K hHeld8
    try simp only [List.getElem_toArray, List.getElem_cons_succ, List.getElem_cons_zero, Act.put, List.setIfInBounds_toArray, List.set_cons_zero, List.set_cons_succ]
    have HLR := Lib.hid (show (Ad.alloc (.cells #[.int .i64 (x.r : Int)] 3)).heap[Ad.heap.size]? = some (.cells #[.int .i64 (x.r : Int)] 3 (0, 0)) from heap_alloc_new Ad _)
    obtain ⟨gR, hgR⟩ : ∃ g, g = Ad.heap.size := ⟨_, rfl⟩
    rw [← hgR] at HLR ⊢
    have HGR := Lib.hid (show A.heap.size ≤ gR by rw [hgR]; exact HCH.out.size)
    clear hgR
    obtain ⟨w1, hw1⟩ : ∃ z, z = Ad.alloc (.cells #[.int .i64 (x.r : Int)] 3) := ⟨_, rfl⟩
    rw [← hw1] at HLR hHeld9 ⊢
    have HCS := Lib.hid (show Chg [] Ad w1 by rw [hw1]; exact (Chg.refl [] Ad).alloc _)
    clear hw1
    replace HT := Lib.hid (HT.out.keep HCS.out (by simp))
    replace HCH := Lib.hid (HCH.out.trans HCS.out (by simp))
    clear HCS
    refine wpAnyL_ready (rs := [5, 10]) (by kernel_rfl) (by simp) ?_
    refine AllReadyL.cons (o := _) rfl (fun K hK => ?_) ?_
    · refine step_append_at (by rfl) (.tmp 19) (.tmp 22) 22 (by rfl) B 3 ii (.int .i64 0) 1 8 Try.underlying22 hii hiz0 hiz1 hiz2 (by rfl) (by decide) (Value.slice ro n rc) n (iv (colR pre)) (by rfl) HT.out.r ⟨gR, 0, none⟩ 1 1 [.int .i64 (x.r : Int)] (by rfl) (by rfl) (cells_of HLR.out) (by simp [Value.oneCell']) (by unfold maxLen; omega) (by omega) (Nat.le_trans HBA.out HCH.out.size) ?_
      intro vR w2 hown hgrow hat
      refine hK.out _ _ (HSG.out _ _ _ _ _ (by kernel_rfl) (by kernel_rfl) hHeld9 (show Chg (Value.slice ro n rc).ownBlock.toList w1 w2 from (Chg.refl _ w1).grown hgrow (fun q hq => .inl (by simp [hq]))) (by have := HNB.out.1; simpa using this) (by have := HNX.out.1; simpa using this)) (fun hHeld10 => ?_)
      clear hK K hHeld9
      try simp only [List.getElem_toArray, List.getElem_cons_succ, List.getElem_cons_zero, Act.put, List.setIfInBounds_toArray, List.set_cons_zero, List.set_cons_succ]
      have HCS := Lib.hid (show Chg (Value.slice ro n rc).ownBlock.toList w1 w2 from (Chg.refl _ w1).grown hgrow (fun q hq => .inl (by simp [hq])))
      have HBR := Lib.hid (show ∀ g, vR.ownBlock = some g → (Value.slice ro n rc).ownBlock = some g ∨ A.heap.size ≤ g from fun g hg => by rcases hat with h | h; exact .inl (by rw [← h]; exact hg); exact .inr (by rw [h] at hg; injection hg with hg; rw [← hg]; exact HCH.out.size))
      replace HT := Lib.hid (HT.out.appr (R' := colR pre ++ [(x.r : Int)]) (by simpa [iv] using hown) HCS.out hat)
      replace HCH := Lib.hid (HCH.out.trans HCS.out (fun q hq => .inl (HSR.out q (by simpa using hq))))
      clear hown hgrow hat HCS
      obtain ⟨vro, vrc, rfl⟩ := own_shape HT.out.r
      refine wpAnyL_take (i := 12) (oi := _) (v := ?_) false rfl (by kernel_rfl) (fun _ _ _ h => h) (Or.inl ⟨by rfl, ?_⟩) hHeld10 (fun hHeld11 => ?_)
      rotate_left
      · rintro w ⟨b1, b2, hok, hSw⟩; go_simp; (try with_reducible rfl)
      clear hHeld10
      try simp only [List.getElem_toArray, List.getElem_cons_succ, List.getElem_cons_zero, Act.put, List.setIfInBounds_toArray, List.set_cons_zero, List.set_cons_succ]
      refine wpAnyL_ready (rs := [10]) (by kernel_rfl) (by simp) ?_
      refine AllReadyL.cons (o := _) rfl (fun K hK => ?_) AllReadyL.nil
      go_simp
      refine hK.out _ _ (HSG.out _ _ _ _ [] (by kernel_rfl) (by kernel_rfl) hHeld11 ((Chg.refl [] w2).alloc _) (by simp) (by simp)) (fun hHeld12 => ?_)
      clear hK K hHeld11
      try simp only [List.getElem_toArray, List.getElem_cons_succ, List.getElem_cons_zero, Act.put, List.setIfInBounds_toArray, List.set_cons_zero, List.set_cons_succ]
      have HLD := Lib.hid (show (w2.alloc (.cells #[.int .i64 (x.d : Int)] 3)).heap[w2.heap.size]? = some (.cells #[.int .i64 (x.d : Int)] 3 (0, 0)) from heap_alloc_new w2 _)
      obtain ⟨gD, hgD⟩ : ∃ g, g = w2.heap.size := ⟨_, rfl⟩
      rw [← hgD] at HLD ⊢
      have HGD := Lib.hid (show A.heap.size ≤ gD by rw [hgD]; exact HCH.out.size)
      clear hgD
      obtain ⟨w3, hw3⟩ : ∃ z, z = w2.alloc (.cells #[.int .i64 (x.d : Int)] 3) := ⟨_, rfl⟩
      rw [← hw3] at HLD hHeld12 ⊢
      have HCS := Lib.hid (show Chg [] w2 w3 by rw [hw3]; exact (Chg.refl [] w2).alloc _)
      clear hw3
      replace HT := Lib.hid (HT.out.keep HCS.out (by simp))
      replace HCH := Lib.hid (HCH.out.trans HCS.out (by simp))
      clear HCS
      refine wpAnyL_ready (rs := [11]) (by kernel_rfl) (by simp) ?_
      refine AllReadyL.cons (o := _) rfl (fun K hK => ?_) AllReadyL.nil
      refine step_append_at (by rfl) (.tmp 25) (.tmp 28) 22 (by rfl) B 3 ii (.int .i64 0) 1 8 Try.underlying22 hii hiz0 hiz1 hiz2 (by rfl) (by decide) (Value.slice dso n dc) n (iv (colD pre)) (by rfl) HT.out.d ⟨gD, 0, none⟩ 1 1 [.int .i64 (x.d : Int)] (by rfl) (by rfl) (cells_of HLD.out) (by simp [Value.oneCell']) (by unfold maxLen; omega) (by omega) (Nat.le_trans HBA.out HCH.out.size) ?_
      intro vD w4 hown hgrow hat
      refine hK.out _ _ (HSG.out _ _ _ _ _ (by kernel_rfl) (by kernel_rfl) hHeld12 (show Chg (Value.slice dso n dc).ownBlock.toList w3 w4 from (Chg.refl _ w3).grown hgrow (fun q hq => .inl (by simp [hq]))) (by have := HNB.out.2.1; simpa using this) (by have := HNX.out.2; simpa using this)) (fun hHeld13 => ?_)
      clear hK K hHeld12
      try simp only [List.getElem_toArray, List.getElem_cons_succ, List.getElem_cons_zero, Act.put, List.setIfInBounds_toArray, List.set_cons_zero, List.set_cons_succ]
      have HCS := Lib.hid (show Chg (Value.slice dso n dc).ownBlock.toList w3 w4 from (Chg.refl _ w3).grown hgrow (fun q hq => .inl (by simp [hq])))
      have HBD := Lib.hid (show ∀ g, vD.ownBlock = some g → (Value.slice dso n dc).ownBlock = some g ∨ A.heap.size ≤ g from fun g hg => by rcases hat with h | h; exact .inl (by rw [← h]; exact hg); exact .inr (by rw [h] at hg; injection hg with hg; rw [← hg]; exact HCH.out.size))
      replace HT := Lib.hid (HT.out.appd (D' := colD pre ++ [(x.d : Int)]) (by simpa [iv] using hown) HCS.out hat)
      replace HCH := Lib.hid (HCH.out.trans HCS.out (fun q hq => .inl (HSD.out q (by simpa using hq))))
      clear hown hgrow hat HCS
      obtain ⟨vdo, vdc, rfl⟩ := own_shape HT.out.d
      have HBCC := Lib.hid (HKB.out _ HCH.out)
      replace HCH := Lib.hid (HCH.out.mono HSS.out)
      refine wpAnyL_ready (rs := [13]) (by kernel_rfl) (by simp) ?_
      refine AllReadyL.cons (o := _) rfl (fun K hK => ?_) AllReadyL.nil
      have kc := HBCC.out
      have kz : w4.cell? ⟨bc, 0, none⟩ = some (.slice ro n rc) := by rw [cell_of_row w4 bc 0 _ _ _ kc]; rfl
      have kf : w4.frozen? ⟨bc, 0, none⟩ = false := by simp [World.frozen?, kc]
      clear kc
      go_simp
      refine hK.out _ _ (HSW13.out _ _ _ _ (by kernel_rfl) (by kernel_rfl) hHeld13) (fun hHeld14 => ?_)
      clear hK K hHeld13
      try simp only [List.getElem_toArray, List.getElem_cons_succ, List.getElem_cons_zero, Act.put, List.setIfInBounds_toArray, List.set_cons_zero, List.set_cons_succ]
      replace HBCC := Lib.hid (heap_set (i := 0) HBCC.out (.slice vro (n + 1) vrc))
      have HCS := Lib.hid (show Chg [bc] w4 (w4.setCell ⟨bc, 0, none⟩ (.slice vro (n + 1) vrc)) from (Chg.refl [bc] w4).setCell (.inl (by simp)) _)
      replace HT := Lib.hid (HT.out.keep HCS.out (by intro g hg hm; simp at hm; subst hm; rcases hg with hg | hg | hg; rcases HBR.out _ hg with h | h; exact HNB.out.1 h; have := HNB.out.2.2.2; omega; rcases HBD.out _ hg with h | h; exact HNB.out.2.1 h; have := HNB.out.2.2.2; omega; exact HNB.out.2.2.1 hg))
      replace HCH := Lib.hid (HCH.out.trans HCS.out (by intro q hq; simp at hq; subst hq; exact .inl (by simp)))
      clear HCS kz kf
      obtain ⟨w5, hw5⟩ : ∃ z, z = w4.setCell ⟨bc, 0, none⟩ (.slice vro (n + 1) vrc) := ⟨_, rfl⟩
      rw [← hw5] at HBCC HT HCH hHeld14 ⊢
      clear hw5
      refine wpAnyL_take (i := 14) (oi := _) (v := ?_) false rfl (by kernel_rfl) (fun _ _ _ h => h) (Or.inl ⟨by rfl, ?_⟩) hHeld14 (fun hHeld15 => ?_)
      rotate_left
      · rintro w ⟨b1, b2, hok, hSw⟩; go_simp; (try with_reducible rfl)
      clear hHeld14
      try simp only [List.getElem_toArray, List.getElem_cons_succ, List.getElem_cons_zero, Act.put, List.setIfInBounds_toArray, List.set_cons_zero, List.set_cons_succ]
      refine wpAnyL_ready (rs := [15]) (by kernel_rfl) (by simp) ?_
      refine AllReadyL.cons (o := _) rfl (fun K hK => ?_) AllReadyL.nil
      have kc := HBCC.out
      have kz : w5.cell? ⟨bc, 1, none⟩ = some (.slice dso n dc) := by rw [cell_of_row w5 bc 1 _ _ _ kc]; rfl
      have kf : w5.frozen? ⟨bc, 1, none⟩ = false := by simp [World.frozen?, kc]
      clear kc
      go_simp
      refine hK.out _ _ (HSW15.out _ _ _ _ (by kernel_rfl) (by kernel_rfl) hHeld15) (fun hHeld16 => ?_)
      clear hK K hHeld15
      try simp only [List.getElem_toArray, List.getElem_cons_succ, List.getElem_cons_zero, Act.put, List.setIfInBounds_toArray, List.set_cons_zero, List.set_cons_succ]
      replace HBCC := Lib.hid (heap_set (i := 1) HBCC.out (.slice vdo (n + 1) vdc))
      have HCS := Lib.hid (show Chg [bc] w5 (w5.setCell ⟨bc, 1, none⟩ (.slice vdo (n + 1) vdc)) from (Chg.refl [bc] w5).setCell (.inl (by simp)) _)
      replace HT := Lib.hid (HT.out.keep HCS.out (by intro g hg hm; simp at hm; subst hm; rcases hg with hg | hg | hg; rcases HBR.out _ hg with h | h; exact HNB.out.1 h; have := HNB.out.2.2.2; omega; rcases HBD.out _ hg with h | h; exact HNB.out.2.1 h; have := HNB.out.2.2.2; omega; exact HNB.out.2.2.1 hg))
      replace HCH := Lib.hid (HCH.out.trans HCS.out (by intro q hq; simp at hq; subst hq; exact .inl (by simp)))
      clear HCS kz kf
      obtain ⟨w6, hw6⟩ : ∃ z, z = w5.setCell ⟨bc, 1, none⟩ (.slice vdo (n + 1) vdc) := ⟨_, rfl⟩
      rw [← hw6] at HBCC HT HCH hHeld16 ⊢
      clear hw6
      refine wpAnyL_done (by kernel_rfl) ?_ _
      clear hHeld16
      exact hK0 _ _ (HEND.out _ _ _ _ (CF_of rfl) HT.out HBCC.out HCH.out HBR.out HBD.out)
    refine AllReadyL.cons (o := _) rfl (fun K hK => ?_) AllReadyL.nil
    go_simp
    refine hK.out _ _ (HSG.out _ _ _ _ [] (by kernel_rfl) (by kernel_rfl) hHeld9 ((Chg.refl [] w1).alloc _) (by simp) (by simp)) (fun hHeld10 => ?_)
    clear hK K hHeld9
    try simp only [List.getElem_toArray, List.getElem_cons_succ, List.getElem_cons_zero, Act.put, List.setIfInBounds_toArray, List.set_cons_zero, List.set_cons_succ]
    have HLD := Lib.hid (show (w1.alloc (.cells #[.int .i64 (x.d : Int)] 3)).heap[w1.heap.size]? = some (.cells #[.int .i64 (x.d : Int)] 3 (0, 0)) from heap_alloc_new w1 _)
    obtain ⟨gD, hgD⟩ : ∃ g, g = w1.heap.size := ⟨_, rfl⟩
    rw [← hgD] at HLD ⊢
    have HGD := Lib.hid (show A.heap.size ≤ gD by rw [hgD]; exact HCH.out.size)
    clear hgD
    obtain ⟨w2, hw2⟩ : ∃ z, z = w1.alloc (.cells #[.int .i64 (x.d : Int)] 3) := ⟨_, rfl⟩
    rw [← hw2] at HLD hHeld10 ⊢
    have HCS := Lib.hid (show Chg [] w1 w2 by rw [hw2]; exact (Chg.refl [] w1).alloc _)
    clear hw2
    replace HT := Lib.hid (HT.out.keep HCS.out (by simp))
    replace HCH := Lib.hid (HCH.out.trans HCS.out (by simp))
    replace HLR := Lib.hid (HCS.out.heap HLR.out (by simp))
    clear HCS
    refine wpAnyL_ready (rs := [5]) (by kernel_rfl) (by simp) ?_
    refine AllReadyL.cons (o := _) rfl (fun K hK => ?_) AllReadyL.nil
    refine step_append_at (by rfl) (.tmp 19) (.tmp 22) 22 (by rfl) B 3 ii (.int .i64 0) 1 8 Try.underlying22 hii hiz0 hiz1 hiz2 (by rfl) (by decide) (Value.slice ro n rc) n (iv (colR pre)) (by rfl) HT.out.r ⟨gR, 0, none⟩ 1 1 [.int .i64 (x.r : Int)] (by rfl) (by rfl) (cells_of HLR.out) (by simp [Value.oneCell']) (by unfold maxLen; omega) (by omega) (Nat.le_trans HBA.out HCH.out.size) ?_
    intro vR w3 hown hgrow hat
    refine hK.out _ _ (HSG.out _ _ _ _ _ (by kernel_rfl) (by kernel_rfl) hHeld10 (show Chg (Value.slice ro n rc).ownBlock.toList w2 w3 from (Chg.refl _ w2).grown hgrow (fun q hq => .inl (by simp [hq]))) (by have := HNB.out.1; simpa using this) (by have := HNX.out.1; simpa using this)) (fun hHeld11 => ?_)
    clear hK K hHeld10
    try simp only [List.getElem_toArray, List.getElem_cons_succ, List.getElem_cons_zero, Act.put, List.setIfInBounds_toArray, List.set_cons_zero, List.set_cons_succ]
    have HCS := Lib.hid (show Chg (Value.slice ro n rc).ownBlock.toList w2 w3 from (Chg.refl _ w2).grown hgrow (fun q hq => .inl (by simp [hq])))
    have HBR := Lib.hid (show ∀ g, vR.ownBlock = some g → (Value.slice ro n rc).ownBlock = some g ∨ A.heap.size ≤ g from fun g hg => by rcases hat with h | h; exact .inl (by rw [← h]; exact hg); exact .inr (by rw [h] at hg; injection hg with hg; rw [← hg]; exact HCH.out.size))
    replace HT := Lib.hid (HT.out.appr (R' := colR pre ++ [(x.r : Int)]) (by simpa [iv] using hown) HCS.out hat)
    replace HCH := Lib.hid (HCH.out.trans HCS.out (fun q hq => .inl (HSR.out q (by simpa using hq))))
    replace HLD := Lib.hid (HCS.out.heap HLD.out (fun hm => by have := HLT.out.1 _ (by simpa using hm); have := HGD.out; omega))
    clear hown hgrow hat HCS
    obtain ⟨vro, vrc, rfl⟩ := own_shape HT.out.r
    refine wpAnyL_take (i := 12) (oi := _) (v := ?_) false rfl (by kernel_rfl) (fun _ _ _ h => h) (Or.inl ⟨by rfl, ?_⟩) hHeld11 (fun hHeld12 => ?_)
    rotate_left
    · rintro w ⟨b1, b2, hok, hSw⟩; go_simp; (try with_reducible rfl)
    clear hHeld11
    try simp only [List.getElem_toArray, List.getElem_cons_succ, List.getElem_cons_zero, Act.put, List.setIfInBounds_toArray, List.set_cons_zero, List.set_cons_succ]
    refine wpAnyL_ready (rs := [11]) (by kernel_rfl) (by simp) ?_
    refine AllReadyL.cons (o := _) rfl (fun K hK => ?_) AllReadyL.nil
    refine step_append_at (by rfl) (.tmp 25) (.tmp 28) 22 (by rfl) B 3 ii (.int .i64 0) 1 8 Try.underlying22 hii hiz0 hiz1 hiz2 (by rfl) (by decide) (Value.slice dso n dc) n (iv (colD pre)) (by rfl) HT.out.d ⟨gD, 0, none⟩ 1 1 [.int .i64 (x.d : Int)] (by rfl) (by rfl) (cells_of HLD.out) (by simp [Value.oneCell']) (by unfold maxLen; omega) (by omega) (Nat.le_trans HBA.out HCH.out.size) ?_
    intro vD w4 hown hgrow hat
    refine hK.out _ _ (HSG.out _ _ _ _ _ (by kernel_rfl) (by kernel_rfl) hHeld12 (show Chg (Value.slice dso n dc).ownBlock.toList w3 w4 from (Chg.refl _ w3).grown hgrow (fun q hq => .inl (by simp [hq]))) (by have := HNB.out.2.1; simpa using this) (by have := HNX.out.2; simpa using this)) (fun hHeld13 => ?_)
    clear hK K hHeld12
    try simp only [List.getElem_toArray, List.getElem_cons_succ, List.getElem_cons_zero, Act.put, List.setIfInBounds_toArray, List.set_cons_zero, List.set_cons_succ]
    have HCS := Lib.hid (show Chg (Value.slice dso n dc).ownBlock.toList w3 w4 from (Chg.refl _ w3).grown hgrow (fun q hq => .inl (by simp [hq])))
    have HBD := Lib.hid (show ∀ g, vD.ownBlock = some g → (Value.slice dso n dc).ownBlock = some g ∨ A.heap.size ≤ g from fun g hg => by rcases hat with h | h; exact .inl (by rw [← h]; exact hg); exact .inr (by rw [h] at hg; injection hg with hg; rw [← hg]; exact HCH.out.size))
    replace HT := Lib.hid (HT.out.appd (D' := colD pre ++ [(x.d : Int)]) (by simpa [iv] using hown) HCS.out hat)
    replace HCH := Lib.hid (HCH.out.trans HCS.out (fun q hq => .inl (HSD.out q (by simpa using hq))))
    clear hown hgrow hat HCS
    obtain ⟨vdo, vdc, rfl⟩ := own_shape HT.out.d
    have HBCC := Lib.hid (HKB.out _ HCH.out)
    replace HCH := Lib.hid (HCH.out.mono HSS.out)
    refine wpAnyL_ready (rs := [13]) (by kernel_rfl) (by simp) ?_
    refine AllReadyL.cons (o := _) rfl (fun K hK => ?_) AllReadyL.nil
    have kc := HBCC.out
    have kz : w4.cell? ⟨bc, 0, none⟩ = some (.slice ro n rc) := by rw [cell_of_row w4 bc 0 _ _ _ kc]; rfl
    have kf : w4.frozen? ⟨bc, 0, none⟩ = false := by simp [World.frozen?, kc]
    clear kc
    go_simp
    refine hK.out _ _ (HSW13.out _ _ _ _ (by kernel_rfl) (by kernel_rfl) hHeld13) (fun hHeld14 => ?_)
    clear hK K hHeld13
    try simp only [List.getElem_toArray, List.getElem_cons_succ, List.getElem_cons_zero, Act.put, List.setIfInBounds_toArray, List.set_cons_zero, List.set_cons_succ]
    replace HBCC := Lib.hid (heap_set (i := 0) HBCC.out (.slice vro (n + 1) vrc))
    have HCS := Lib.hid (show Chg [bc] w4 (w4.setCell ⟨bc, 0, none⟩ (.slice vro (n + 1) vrc)) from (Chg.refl [bc] w4).setCell (.inl (by simp)) _)
    replace HT := Lib.hid (HT.out.keep HCS.out (by intro g hg hm; simp at hm; subst hm; rcases hg with hg | hg | hg; rcases HBR.out _ hg with h | h; exact HNB.out.1 h; have := HNB.out.2.2.2; omega; rcases HBD.out _ hg with h | h; exact HNB.out.2.1 h; have := HNB.out.2.2.2; omega; exact HNB.out.2.2.1 hg))
    replace HCH := Lib.hid (HCH.out.trans HCS.out (by intro q hq; simp at hq; subst hq; exact .inl (by simp)))
    clear HCS kz kf
    obtain ⟨w5, hw5⟩ : ∃ z, z = w4.setCell ⟨bc, 0, none⟩ (.slice vro (n + 1) vrc) := ⟨_, rfl⟩
    rw [← hw5] at HBCC HT HCH hHeld14 ⊢
    clear hw5
    refine wpAnyL_take (i := 14) (oi := _) (v := ?_) false rfl (by kernel_rfl) (fun _ _ _ h => h) (Or.inl ⟨by rfl, ?_⟩) hHeld14 (fun hHeld15 => ?_)
    rotate_left
    · rintro w ⟨b1, b2, hok, hSw⟩; go_simp; (try with_reducible rfl)
    clear hHeld14
    try simp only [List.getElem_toArray, List.getElem_cons_succ, List.getElem_cons_zero, Act.put, List.setIfInBounds_toArray, List.set_cons_zero, List.set_cons_succ]
    refine wpAnyL_ready (rs := [15]) (by kernel_rfl) (by simp) ?_
    refine AllReadyL.cons (o := _) rfl (fun K hK => ?_) AllReadyL.nil
    have kc := HBCC.out
    have kz : w5.cell? ⟨bc, 1, none⟩ = some (.slice dso n dc) := by rw [cell_of_row w5 bc 1 _ _ _ kc]; rfl
    have kf : w5.frozen? ⟨bc, 1, none⟩ = false := by simp [World.frozen?, kc]
    clear kc
    go_simp
    refine hK.out _ _ (HSW15.out _ _ _ _ (by kernel_rfl) (by kernel_rfl) hHeld15) (fun hHeld16 => ?_)
    clear hK K hHeld15
    try simp only [List.getElem_toArray, List.getElem_cons_succ, List.getElem_cons_zero, Act.put, List.setIfInBounds_toArray, List.set_cons_zero, List.set_cons_succ]
    replace HBCC := Lib.hid (heap_set (i := 1) HBCC.out (.slice vdo (n + 1) vdc))
    have HCS := Lib.hid (show Chg [bc] w5 (w5.setCell ⟨bc, 1, none⟩ (.slice vdo (n + 1) vdc)) from (Chg.refl [bc] w5).setCell (.inl (by simp)) _)
    replace HT := Lib.hid (HT.out.keep HCS.out (by intro g hg hm; simp at hm; subst hm; rcases hg with hg | hg | hg; rcases HBR.out _ hg with h | h; exact HNB.out.1 h; have := HNB.out.2.2.2; omega; rcases HBD.out _ hg with h | h; exact HNB.out.2.1 h; have := HNB.out.2.2.2; omega; exact HNB.out.2.2.1 hg))
    replace HCH := Lib.hid (HCH.out.trans HCS.out (by intro q hq; simp at hq; subst hq; exact .inl (by simp)))
    clear HCS kz kf
    obtain ⟨w6, hw6⟩ : ∃ z, z = w5.setCell ⟨bc, 1, none⟩ (.slice vdo (n + 1) vdc) := ⟨_, rfl⟩
    rw [← hw6] at HBCC HT HCH hHeld16 ⊢
    clear hw6
    refine wpAnyL_done (by kernel_rfl) ?_ _
    clear hHeld16
    exact hK0 _ _ (HEND.out _ _ _ _ (CF_of rfl) HT.out HBCC.out HCH.out HBR.out HBD.out)
  refine AllReadyL.cons (o := _) rfl (fun K hK => ?_) AllReadyL.nil
  go_simp
  refine hK.out _ _ (HSG.out _ _ _ _ [] (by kernel_rfl) (by kernel_rfl) hHeld8 ((Chg.refl [] Ad).alloc _) (by simp) (by simp)) (fun hHeld9 => ?_)
  clear hK K hHeld8
  try simp only [List.getElem_toArray, List.getElem_cons_succ, List.getElem_cons_zero, Act.put, List.setIfInBounds_toArray, List.set_cons_zero, List.set_cons_succ]
  have HLD := Lib.hid (show (Ad.alloc (.cells #[.int .i64 (x.d : Int)] 3)).heap[Ad.heap.size]? = some (.cells #[.int .i64 (x.d : Int)] 3 (0, 0)) from heap_alloc_new Ad _)
  obtain ⟨gD, hgD⟩ : ∃ g, g = Ad.heap.size := ⟨_, rfl⟩
  rw [← hgD] at HLD ⊢
  have HGD := Lib.hid (show A.heap.size ≤ gD by rw [hgD]; exact HCH.out.size)
  clear hgD
  obtain ⟨w1, hw1⟩ : ∃ z, z = Ad.alloc (.cells #[.int .i64 (x.d : Int)] 3) := ⟨_, rfl⟩
  rw [← hw1] at HLD hHeld9 ⊢
  have HCS := Lib.hid (show Chg [] Ad w1 by rw [hw1]; exact (Chg.refl [] Ad).alloc _)
  clear hw1
  replace HT := Lib.hid (HT.out.keep HCS.out (by simp))
  replace HCH := Lib.hid (HCH.out.trans HCS.out (by simp))
  clear HCS
  refine wpAnyL_ready (rs := [4]) (by kernel_rfl) (by simp) ?_
  refine AllReadyL.cons (o := _) rfl (fun K hK => ?_) AllReadyL.nil
  go_simp
  refine hK.out _ _ (HSG.out _ _ _ _ [] (by kernel_rfl) (by kernel_rfl) hHeld9 ((Chg.refl [] w1).alloc _) (by simp) (by simp)) (fun hHeld10 => ?_)
  clear hK K hHeld9
  try simp only [List.getElem_toArray, List.getElem_cons_succ, List.getElem_cons_zero, Act.put, List.setIfInBounds_toArray, List.set_cons_zero, List.set_cons_succ]
  have HLR := Lib.hid (show (w1.alloc (.cells #[.int .i64 (x.r : Int)] 3)).heap[w1.heap.size]? = some (.cells #[.int .i64 (x.r : Int)] 3 (0, 0)) from heap_alloc_new w1 _)
  obtain ⟨gR, hgR⟩ : ∃ g, g = w1.heap.size := ⟨_, rfl⟩
  rw [← hgR] at HLR ⊢
  have HGR := Lib.hid (show A.heap.size ≤ gR by rw [hgR]; exact HCH.out.size)
  clear hgR
  obtain ⟨w2, hw2⟩ : ∃ z, z = w1.alloc (.cells #[.int .i64 (x.r : Int)] 3) := ⟨_, rfl⟩
  rw [← hw2] at HLR hHeld10 ⊢
  have HCS := Lib.hid (show Chg [] w1 w2 by rw [hw2]; exact (Chg.refl [] w1).alloc _)
  clear hw2
  replace HT := Lib.hid (HT.out.keep HCS.out (by simp))
  replace HCH := Lib.hid (HCH.out.trans HCS.out (by simp))
  replace HLD := Lib.hid (HCS.out.heap HLD.out (by simp))
  clear HCS
  refine wpAnyL_ready (rs := [5]) (by kernel_rfl) (by simp) ?_
  refine AllReadyL.cons (o := _) rfl (fun K hK => ?_) AllReadyL.nil
  refine step_append_at (by rfl) (.tmp 19) (.tmp 22) 22 (by rfl) B 3 ii (.int .i64 0) 1 8 Try.underlying22 hii hiz0 hiz1 hiz2 (by rfl) (by decide) (Value.slice ro n rc) n (iv (colR pre)) (by rfl) HT.out.r ⟨gR, 0, none⟩ 1 1 [.int .i64 (x.r : Int)] (by rfl) (by rfl) (cells_of HLR.out) (by simp [Value.oneCell']) (by unfold maxLen; omega) (by omega) (Nat.le_trans HBA.out HCH.out.size) ?_
  intro vR w3 hown hgrow hat
  refine hK.out _ _ (HSG.out _ _ _ _ _ (by kernel_rfl) (by kernel_rfl) hHeld10 (show Chg (Value.slice ro n rc).ownBlock.toList w2 w3 from (Chg.refl _ w2).grown hgrow (fun q hq => .inl (by simp [hq]))) (by have := HNB.out.1; simpa using this) (by have := HNX.out.1; simpa using this)) (fun hHeld11 => ?_)
  clear hK K hHeld10
  try simp only [List.getElem_toArray, List.getElem_cons_succ, List.getElem_cons_zero, Act.put, List.setIfInBounds_toArray, List.set_cons_zero, List.set_cons_succ]
  have HCS := Lib.hid (show Chg (Value.slice ro n rc).ownBlock.toList w2 w3 from (Chg.refl _ w2).grown hgrow (fun q hq => .inl (by simp [hq])))
  have HBR := Lib.hid (show ∀ g, vR.ownBlock = some g → (Value.slice ro n rc).ownBlock = some g ∨ A.heap.size ≤ g from fun g hg => by rcases hat with h | h; exact .inl (by rw [← h]; exact hg); exact .inr (by rw [h] at hg; injection hg with hg; rw [← hg]; exact HCH.out.size))
  replace HT := Lib.hid (HT.out.appr (R' := colR pre ++ [(x.r : Int)]) (by simpa [iv] using hown) HCS.out hat)
  replace HCH := Lib.hid (HCH.out.trans HCS.out (fun q hq => .inl (HSR.out q (by simpa using hq))))
  replace HLD := Lib.hid (HCS.out.heap HLD.out (fun hm => by have := HLT.out.1 _ (by simpa using hm); have := HGD.out; omega))
  clear hown hgrow hat HCS
  obtain ⟨vro, vrc, rfl⟩ := own_shape HT.out.r
  refine wpAnyL_take (i := 12) (oi := _) (v := ?_) false rfl (by kernel_rfl) (fun _ _ _ h => h) (Or.inl ⟨by rfl, ?_⟩) hHeld11 (fun hHeld12 => ?_)
  rotate_left
  · rintro w ⟨b1, b2, hok, hSw⟩; go_simp; (try with_reducible rfl)
  clear hHeld11
  try simp only [List.getElem_toArray, List.getElem_cons_succ, List.getElem_cons_zero, Act.put, List.setIfInBounds_toArray, List.set_cons_zero, List.set_cons_succ]
  refine wpAnyL_ready (rs := [11]) (by kernel_rfl) (by simp) ?_
  refine AllReadyL.cons (o := _) rfl (fun K hK => ?_) AllReadyL.nil
  refine step_append_at (by rfl) (.tmp 25) (.tmp 28) 22 (by rfl) B 3 ii (.int .i64 0) 1 8 Try.underlying22 hii hiz0 hiz1 hiz2 (by rfl) (by decide) (Value.slice dso n dc) n (iv (colD pre)) (by rfl) HT.out.d ⟨gD, 0, none⟩ 1 1 [.int .i64 (x.d : Int)] (by rfl) (by rfl) (cells_of HLD.out) (by simp [Value.oneCell']) (by unfold maxLen; omega) (by omega) (Nat.le_trans HBA.out HCH.out.size) ?_
  intro vD w4 hown hgrow hat
  refine hK.out _ _ (HSG.out _ _ _ _ _ (by kernel_rfl) (by kernel_rfl) hHeld12 (show Chg (Value.slice dso n dc).ownBlock.toList w3 w4 from (Chg.refl _ w3).grown hgrow (fun q hq => .inl (by simp [hq]))) (by have := HNB.out.2.1; simpa using this) (by have := HNX.out.2; simpa using this)) (fun hHeld13 => ?_)
  clear hK K hHeld12
  try simp only [List.getElem_toArray, List.getElem_cons_succ, List.getElem_cons_zero, Act.put, List.setIfInBounds_toArray, List.set_cons_zero, List.set_cons_succ]
  have HCS := Lib.hid (show Chg (Value.slice dso n dc).ownBlock.toList w3 w4 from (Chg.refl _ w3).grown hgrow (fun q hq => .inl (by simp [hq])))
  have HBD := Lib.hid (show ∀ g, vD.ownBlock = some g → (Value.slice dso n dc).ownBlock = some g ∨ A.heap.size ≤ g from fun g hg => by rcases hat with h | h; exact .inl (by rw [← h]; exact hg); exact .inr (by rw [h] at hg; injection hg with hg; rw [← hg]; exact HCH.out.size))
  replace HT := Lib.hid (HT.out.appd (D' := colD pre ++ [(x.d : Int)]) (by simpa [iv] using hown) HCS.out hat)
  replace HCH := Lib.hid (HCH.out.trans HCS.out (fun q hq => .inl (HSD.out q (by simpa using hq))))
  clear hown hgrow hat HCS
  obtain ⟨vdo, vdc, rfl⟩ := own_shape HT.out.d
  have HBCC := Lib.hid (HKB.out _ HCH.out)
  replace HCH := Lib.hid (HCH.out.mono HSS.out)
  refine wpAnyL_ready (rs := [13]) (by kernel_rfl) (by simp) ?_
  refine AllReadyL.cons (o := _) rfl (fun K hK => ?_) AllReadyL.nil
  have kc := HBCC.out
  have kz : w4.cell? ⟨bc, 0, none⟩ = some (.slice ro n rc) := by rw [cell_of_row w4 bc 0 _ _ _ kc]; rfl
  have kf : w4.frozen? ⟨bc, 0, none⟩ = false := by simp [World.frozen?, kc]
  clear kc
  go_simp
  refine hK.out _ _ (HSW13.out _ _ _ _ (by kernel_rfl) (by kernel_rfl) hHeld13) (fun hHeld14 => ?_)
  clear hK K hHeld13
  try simp only [List.getElem_toArray, List.getElem_cons_succ, List.getElem_cons_zero, Act.put, List.setIfInBounds_toArray, List.set_cons_zero, List.set_cons_succ]
  replace HBCC := Lib.hid (heap_set (i := 0) HBCC.out (.slice vro (n + 1) vrc))
  have HCS := Lib.hid (show Chg [bc] w4 (w4.setCell ⟨bc, 0, none⟩ (.slice vro (n + 1) vrc)) from (Chg.refl [bc] w4).setCell (.inl (by simp)) _)
  replace HT := Lib.hid (HT.out.keep HCS.out (by intro g hg hm; simp at hm; subst hm; rcases hg with hg | hg | hg; rcases HBR.out _ hg with h | h; exact HNB.out.1 h; have := HNB.out.2.2.2; omega; rcases HBD.out _ hg with h | h; exact HNB.out.2.1 h; have := HNB.out.2.2.2; omega; exact HNB.out.2.2.1 hg))
  replace HCH := Lib.hid (HCH.out.trans HCS.out (by intro q hq; simp at hq; subst hq; exact .inl (by simp)))
  clear HCS kz kf
  obtain ⟨w5, hw5⟩ : ∃ z, z = w4.setCell ⟨bc, 0, none⟩ (.slice vro (n + 1) vrc) := ⟨_, rfl⟩
  rw [← hw5] at HBCC HT HCH hHeld14 ⊢
  clear hw5
  refine wpAnyL_take (i := 14) (oi := _) (v := ?_) false rfl (by kernel_rfl) (fun _ _ _ h => h) (Or.inl ⟨by rfl, ?_⟩) hHeld14 (fun hHeld15 => ?_)
  rotate_left
  · rintro w ⟨b1, b2, hok, hSw⟩; go_simp; (try with_reducible rfl)
  clear hHeld14
  try simp only [List.getElem_toArray, List.getElem_cons_succ, List.getElem_cons_zero, Act.put, List.setIfInBounds_toArray, List.set_cons_zero, List.set_cons_succ]
  refine wpAnyL_ready (rs := [15]) (by kernel_rfl) (by simp) ?_
  refine AllReadyL.cons (o := _) rfl (fun K hK => ?_) AllReadyL.nil
  have kc := HBCC.out
  have kz : w5.cell? ⟨bc, 1, none⟩ = some (.slice dso n dc) := by rw [cell_of_row w5 bc 1 _ _ _ kc]; rfl
  have kf : w5.frozen? ⟨bc, 1, none⟩ = false := by simp [World.frozen?, kc]
  clear kc
  go_simp
  refine hK.out _ _ (HSW15.out _ _ _ _ (by kernel_rfl) (by kernel_rfl) hHeld15) (fun hHeld16 => ?_)
  clear hK K hHeld15
  try simp only [List.getElem_toArray, List.getElem_cons_succ, List.getElem_cons_zero, Act.put, List.setIfInBounds_toArray, List.set_cons_zero, List.set_cons_succ]
  replace HBCC := Lib.hid (heap_set (i := 1) HBCC.out (.slice vdo (n + 1) vdc))
  have HCS := Lib.hid (show Chg [bc] w5 (w5.setCell ⟨bc, 1, none⟩ (.slice vdo (n + 1) vdc)) from (Chg.refl [bc] w5).setCell (.inl (by simp)) _)
  replace HT := Lib.hid (HT.out.keep HCS.out (by intro g hg hm; simp at hm; subst hm; rcases hg with hg | hg | hg; rcases HBR.out _ hg with h | h; exact HNB.out.1 h; have := HNB.out.2.2.2; omega; rcases HBD.out _ hg with h | h; exact HNB.out.2.1 h; have := HNB.out.2.2.2; omega; exact HNB.out.2.2.1 hg))
  replace HCH := Lib.hid (HCH.out.trans HCS.out (by intro q hq; simp at hq; subst hq; exact .inl (by simp)))
  clear HCS kz kf
  obtain ⟨w6, hw6⟩ : ∃ z, z = w5.setCell ⟨bc, 1, none⟩ (.slice vdo (n + 1) vdc) := ⟨_, rfl⟩
  rw [← hw6] at HBCC HT HCH hHeld16 ⊢
  clear hw6
  refine wpAnyL_done (by kernel_rfl) ?_ _
  clear hHeld16
  exact hK0 _ _ (HEND.out _ _ _ _ (CF_of rfl) HT.out HBCC.out HCH.out HBR.out HBD.out)

end Go.Proofs.Ytfdmbpfpdijpdaa
