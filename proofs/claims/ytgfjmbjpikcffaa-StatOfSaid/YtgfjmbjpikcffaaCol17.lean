/- The law's column: a leaf's cells, of values, some of which are not there. -/
import Derived.Test.YtgfjmbjpikcffaaOf17
import Derived.Test.YtgfjmbjpikcffaaRo17
import Derived.Test.YtgfjmbjpikcffaaApa
import Derived.Deep.RegionLaw
import Derived.Deep.DeepCutAuto
namespace Go.Proofs.Ytgfjmbjpikcffaa
open Go.RowKit
set_option linter.unusedVariables false
set_option linter.unusedSimpArgs false
/-- Three rows, apart from one another. -/
structure Tri (B : Nat) (rv dv vv : Value) (R D : List Int) (Vs : List V) (n n2 k : Nat) (A : World) : Prop where
  r : A.ownsRow B 3 1 rv n (iv R)
  d : A.ownsRow B 3 1 dv n2 (iv D)
  v : A.ownsRow B 35 2 vv k (Vs.flatMap V.cs)
  rd : ∀ g, rv.ownBlock = some g → dv.ownBlock ≠ some g
  rv' : ∀ g, rv.ownBlock = some g → vv.ownBlock ≠ some g
  dv' : ∀ g, dv.ownBlock = some g → vv.ownBlock ≠ some g

theorem Tri.keep {B : Nat} {rv dv vv : Value} {R D : List Int} {Vs : List V} {n n2 k : Nat} {A A' : World} {T : List Nat} (h : Tri B rv dv vv R D Vs n n2 k A) (hc : Chg T A A') (hT : ∀ g, rv.ownBlock = some g ∨ dv.ownBlock = some g ∨ vv.ownBlock = some g → g ∉ T) : Tri B rv dv vv R D Vs n n2 k A' :=
  ⟨own_chg h.r hc fun g hg => hT g (.inl hg), own_chg h.d hc fun g hg => hT g (.inr (.inl hg)), own_chg h.v hc fun g hg => hT g (.inr (.inr hg)), h.rd, h.rv', h.dv'⟩

theorem cells_of {w : World} {g : Nat} {C : Array Value} {T : TypeId} {fr : Nat × Nat} (h : w.heap[g]? = some (.cells C T fr)) : ∀ j u, C.toList[j]? = some u → w.cell? ((⟨g, 0, none⟩ : Addr).add j) = some u := by
  intro j u hu
  rw [addr_add, Nat.zero_add, cell_of_row w g j _ _ _ h]
  simpa using hu

theorem hat_ne {w : World} {v v' u : Value} (hat : v'.ownBlock = v.ownBlock ∨ v'.ownBlock = some w.heap.size) (h : ∀ g, v.ownBlock = some g → u.ownBlock ≠ some g) (hu : ∀ g, u.ownBlock = some g → g < w.heap.size) : ∀ g, v'.ownBlock = some g → u.ownBlock ≠ some g := by
  intro g hg e
  rcases hat with h1 | h1
  · exact h g (by rw [← h1]; exact hg) e
  · rw [h1] at hg
    injection hg with hg
    have := hu g e
    omega

theorem Tri.appr {B : Nat} {rv dv vv rv' : Value} {R R' D : List Int} {Vs : List V} {n n' n2 k : Nat} {w w5 : World} (h : Tri B rv dv vv R D Vs n n2 k w) (ho : w5.ownsRow B 3 1 rv' n' (iv R')) (hc : Chg rv.ownBlock.toList w w5) (hat : rv'.ownBlock = rv.ownBlock ∨ rv'.ownBlock = some w.heap.size) : Tri B rv' dv vv R' D Vs n' n2 k w5 :=
  ⟨ho, own_chg h.d hc fun g hg hm => h.rd g (by simpa using hm) hg, own_chg h.v hc fun g hg hm => h.rv' g (by simpa using hm) hg, hat_ne hat h.rd fun g hg => (h.d.lt g hg).2, hat_ne hat h.rv' fun g hg => (h.v.lt g hg).2, h.dv'⟩

theorem Tri.appd {B : Nat} {rv dv vv dv2 : Value} {R D D' : List Int} {Vs : List V} {n n' n2 k : Nat} {w w5 : World} (h : Tri B rv dv vv R D Vs n n2 k w) (ho : w5.ownsRow B 3 1 dv2 n' (iv D')) (hc : Chg dv.ownBlock.toList w w5) (hat : dv2.ownBlock = dv.ownBlock ∨ dv2.ownBlock = some w.heap.size) : Tri B rv dv2 vv R D' Vs n n' k w5 := by
  have h1 : ∀ g, dv.ownBlock = some g → rv.ownBlock ≠ some g := fun g hg e => h.rd g e hg
  have h2 := hat_ne hat h1 fun g hg => (h.r.lt g hg).2
  exact ⟨own_chg h.r hc fun g hg hm => h.rd g hg (by simpa using hm), ho, own_chg h.v hc fun g hg hm => h.dv' g (by simpa using hm) hg, fun g hg e => h2 g e hg, h.rv', hat_ne hat h.dv' fun g hg => (h.v.lt g hg).2⟩

theorem Tri.appv {B : Nat} {rv dv vv vv2 : Value} {R D : List Int} {Vs Vs' : List V} {n n2 k k' : Nat} {w w5 : World} (h : Tri B rv dv vv R D Vs n n2 k w) (ho : w5.ownsRow B 35 2 vv2 k' (Vs'.flatMap V.cs)) (hc : Chg vv.ownBlock.toList w w5) (hat : vv2.ownBlock = vv.ownBlock ∨ vv2.ownBlock = some w.heap.size) : Tri B rv dv vv2 R D Vs' n n2 k' w5 := by
  have h1 := hat_ne hat (fun g hg e => h.rv' g e hg) fun g hg => (h.r.lt g hg).2
  have h2 := hat_ne hat (fun g hg e => h.dv' g e hg) fun g hg => (h.d.lt g hg).2
  exact ⟨own_chg h.r hc fun g hg hm => h.rv' g hg (by simpa using hm), own_chg h.d hc fun g hg hm => h.dv' g hg (by simpa using hm), ho, h.rd, fun g hg e => h1 g e hg, fun g hg e => h2 g e hg⟩


/-- Which values are there, and the levels. -/
def colD17 : List V → List Bool → List Int
  | [], _ => []
  | _ :: l, [] => 1 :: colD17 l []
  | _ :: l, b :: bs => (if b then 1 else 0) :: colD17 l bs
def colV17 : List V → List Bool → List V
  | [], _ => []
  | v :: l, [] => v :: colV17 l []
  | v :: l, b :: bs => (if b then [v] else []) ++ colV17 l bs

theorem colD17_len : ∀ (l : List V) (bs : List Bool), (colD17 l bs).length = l.length
  | [], _ => rfl
  | _ :: l, [] => by rw [colD17, List.length_cons, colD17_len l, List.length_cons]
  | _ :: l, b :: bs => by rw [colD17, List.length_cons, colD17_len l, List.length_cons]

theorem colD17_app : ∀ (l m : List V) (bs : List Bool), colD17 (l ++ m) bs = colD17 l bs ++ colD17 m (bs.drop l.length)
  | [], m, bs => rfl
  | _ :: l, m, [] => by rw [List.cons_append, colD17, colD17, colD17_app l m []]; simp
  | _ :: l, m, b :: bs => by rw [List.cons_append, colD17, colD17, colD17_app l m bs]; simp
theorem colV17_app : ∀ (l m : List V) (bs : List Bool), colV17 (l ++ m) bs = colV17 l bs ++ colV17 m (bs.drop l.length)
  | [], m, bs => rfl
  | _ :: l, m, [] => by rw [List.cons_append, colV17, colV17, colV17_app l m []]; simp
  | _ :: l, m, b :: bs => by rw [List.cons_append, colV17, colV17, colV17_app l m bs]; simp

theorem colV17_nil : ∀ l : List V, colV17 l [] = l
  | [] => rfl
  | v :: l => by rw [colV17, colV17_nil l]

theorem colV17_mem : ∀ (l : List V) (bs : List Bool), ∀ x ∈ colV17 l bs, x ∈ l
  | [], _, x, h => by cases h
  | v :: l, [], x, h => by rw [colV17_nil] at h; exact h
  | v :: l, b :: bs, x, h => by
    rw [colV17] at h
    rcases List.mem_append.1 h with h | h
    · cases b
      · simp at h
      · simp at h; simp [h]
    · exact List.mem_cons_of_mem _ (colV17_mem l bs x h)

theorem colV17_cnt : ∀ (l : List V) (bs : List Bool), (colV17 l bs).length = cntD 1 (colD17 l bs)
  | [], _ => rfl
  | v :: l, [] => by
    have := colV17_cnt l []
    unfold cntD at this ⊢
    rw [colV17, colD17, List.filter_cons_of_pos (by decide), List.length_cons, List.length_cons, this]
  | v :: l, b :: bs => by
    have := colV17_cnt l bs
    unfold cntD at this ⊢
    rw [colV17, colD17, List.length_append, this]
    cases b
    · rw [List.filter_cons_of_neg (by decide)]; simp
    · rw [List.filter_cons_of_pos (by decide), List.length_cons]; simp; omega

/-- Is the i-th there. -/
theorem col17_one (v : V) (bs : List Bool) : colD17 [v] bs = [if bs.getD 0 true then 1 else 0] ∧ colV17 [v] bs = (if bs.getD 0 true then [v] else []) := by
  cases bs with
  | nil => exact ⟨rfl, rfl⟩
  | cons b bs => exact ⟨rfl, by rw [colV17]; simp [colV17]⟩

theorem col17_snoc {l : List V} {i : Nat} {v : V} (bs : List Bool) (h : l[i]? = some v) :
    colD17 (l.take (i + 1)) bs = colD17 (l.take i) bs ++ [if bs.getD i true then 1 else 0] ∧ colV17 (l.take (i + 1)) bs = colV17 (l.take i) bs ++ (if bs.getD i true then [v] else []) := by
  have hi := (List.getElem?_eq_some_iff.1 h).1
  have hl : (l.take i).length = i := by simp; omega
  have e : (bs.drop i).getD 0 true = bs.getD i true := by simp [List.getD, List.getElem?_drop]
  rw [List.take_add_one, h, Option.toList_some, colD17_app, colV17_app, hl, (col17_one v _).1, (col17_one v _).2, e]
  exact ⟨rfl, rfl⟩

/-- A truth's cell. -/
def bc1 (b : Bool) : List Value := [.bool b]
abbrev SeenB := SeenK bc1 1
theorem SeenB.get {w : World} {ao : Option Addr} {n cap : Nat} {l : List Bool} (h : SeenB w (.slice ao n cap) l) (hn : 0 < n) (hl : l.length = n) : ∃ g off, ao = some ⟨g, off, none⟩ ∧ ∀ j, j < n → w.cell? ⟨g, off + j, none⟩ = some (.bool (l.getD j true)) := by
  obtain ⟨g, off, e, hc⟩ := h.at hn
  refine ⟨g, off, e, fun j hj => ?_⟩
  have := hc j (l.getD j true) 0 (.bool (l.getD j true)) (by rw [List.getD, List.getElem?_eq_getElem (by omega)]; rfl) rfl
  simpa using this

theorem ret_lc {fn : Func} (hres : fn.results = #[.cell 4 28, .cell 5 31]) {post : Ending → World → Prop} {a : Act} {W : World} {gr gs : Nat} {p q r s x y z : Value} (h4 : a.tmps.getD 4 undef = .pointer (some ⟨gr, 0, none⟩)) (h5 : a.tmps.getD 5 undef = .pointer (some ⟨gs, 0, none⟩)) (hd : a.defers = []) (hh : W.heap[gr]? = some (.cells #[p, q, r, s] 28 (0, 0))) (hh2 : W.heap[gs]? = some (.cells #[x, y, z] 31 (0, 0))) (hp : post (.returned (.tuple #[.agg #[p, q, r, s], .agg #[x, y, z]])) W) : bodyPost Try.prog fn post .ret a W := by
  have h4' : a.tmps[4]?.getD undef = .pointer (some ⟨gr, 0, none⟩) := by simpa using h4
  have h5' : a.tmps[5]?.getD undef = .pointer (some ⟨gs, 0, none⟩) := by simpa using h5
  have hl := run_loadVar_row (P := Try.prog) W gr 28 28 _ _ _ hh Try.underlying28 rfl (by kernel_rfl)
  have hl2 := run_loadVar_row (P := Try.prog) W gs 31 31 _ _ _ hh2 Try.underlying31 rfl (by kernel_rfl)
  refine bodyPost_ret ?_ hd hp
  simp [results, hres, h4', h5', asAddr, hl, hl2, Sem.run_bind, Result.andThen]

theorem Tri.nil (B : Nat) (A : World) : Tri B (.slice none 0 0) (.slice none 0 0) (.slice none 0 0) [] [] [] 0 0 0 A :=
  ⟨World.ownsRow_nil _ _ _ _, World.ownsRow_nil _ _ _ _, World.ownsRow_nil _ _ _ _, fun g h => (by cases h), fun g h => (by cases h), fun g h => (by cases h)⟩

/-- How far it has come. -/
structure CJ17 (l : List V) (bs : List Bool) (w w' : World) (i : Nat) : Prop where
  hi : i ≤ l.length
  cg : Chg [] w w'
  sz : w.heap.size + 3 ≤ w'.heap.size
  rows : ∃ rv dv vv, w'.heap[w.heap.size + 2]? = some (.cells #[rv, dv, vv] 31 (0, 0)) ∧ Tri (w.heap.size + 3) rv dv vv (List.replicate i 0) (colD17 (l.take i) bs) (colV17 (l.take i) bs) i i (colV17 (l.take i) bs).length w'
  b0 : w'.heap[w.heap.size]? = some (.cells #[.int .i64 0, .int .i64 0, .int .i64 0, .int .i64 0] 28 (0, 0))
  b1 : w'.heap[w.heap.size + 1]? = some (.cells #[.slice none 0 0, .slice none 0 0, .slice none 0 0] 31 (0, 0))

/-- Its value is in, its levels are not yet. -/
structure Mid17 (l : List V) (bs : List Bool) (w : World) (i : Nat) (rv dv : Value) (wx : World) : Prop where
  rows : ∃ vv, wx.heap[w.heap.size + 2]? = some (.cells #[rv, dv, vv] 31 (0, 0)) ∧ Tri (w.heap.size + 3) rv dv vv (List.replicate i 0) (colD17 (l.take i) bs) (colV17 (l.take (i + 1)) bs) i i (colV17 (l.take (i + 1)) bs).length wx
  cg : Chg [] w wx
  sz : w.heap.size + 3 ≤ wx.heap.size
  b0 : wx.heap[w.heap.size]? = some (.cells #[.int .i64 0, .int .i64 0, .int .i64 0, .int .i64 0] 28 (0, 0))
  b1 : wx.heap[w.heap.size + 1]? = some (.cells #[.slice none 0 0, .slice none 0 0, .slice none 0 0] 31 (0, 0))

theorem own_far {w : World} {B T size n : Nat} {v : Value} {xs : List Value} (h : w.ownsRow B T size v n xs) {g : Nat} (hg : g < B) : g ∉ v.ownBlock.toList := by
  intro hm
  have := (h.lt g (by simpa using hm)).1
  omega

/-- What stands besides the rows. -/
structure Rest17 (w : World) (rv dv vv : Value) (W : World) : Prop where
  cg : Chg [] w W
  sz : w.heap.size + 3 ≤ W.heap.size
  hc : W.heap[w.heap.size + 2]? = some (.cells #[rv, dv, vv] 31 (0, 0))
  b0 : W.heap[w.heap.size]? = some (.cells #[.int .i64 0, .int .i64 0, .int .i64 0, .int .i64 0] 28 (0, 0))
  b1 : W.heap[w.heap.size + 1]? = some (.cells #[.slice none 0 0, .slice none 0 0, .slice none 0 0] 31 (0, 0))

theorem Rest17.go {w W W' : World} {rv dv vv : Value} {T : List Nat} (h : Rest17 w rv dv vv W) (hc : Chg T W W') (hT : ∀ g ∈ T, w.heap.size + 3 ≤ g) : Rest17 w rv dv vv W' :=
  ⟨h.cg.trans hc (fun g hg => .inr (by have := hT g hg; omega)), Nat.le_trans h.sz hc.size, hc.heap h.hc (fun hm => by have := hT _ hm; omega), hc.heap h.b0 (fun hm => by have := hT _ hm; omega), hc.heap h.b1 (fun hm => by have := hT _ hm; omega)⟩
theorem Rest17.grow {w W W' W0 : World} {rv dv vv v : Value} {Ty n : Nat} {xs : List Value} (h : Rest17 w rv dv vv W) (ho : W0.ownsRow (w.heap.size + 3) Ty 1 v n xs) (hg : W.grownBy W' v.ownBlock) : Rest17 w rv dv vv W' :=
  h.go ((Chg.refl v.ownBlock.toList W).grown hg (fun g hg => .inl (by simp [hg]))) (fun g hg => (ho.lt g (by simpa using hg)).1)
theorem Rest17.cells {w W : World} {rv dv vv : Value} (h : Rest17 w rv dv vv W) : W.cell? ⟨w.heap.size + 2, 0, none⟩ = some rv ∧ W.cell? ⟨w.heap.size + 2, 1, none⟩ = some dv := by
  constructor <;> (rw [cell_of_row _ _ _ _ _ _ h.hc]; rfl)
theorem Rest17.froz {w W : World} {rv dv vv : Value} (h : Rest17 w rv dv vv W) : ∀ k, W.frozen? ⟨w.heap.size + 2, k, none⟩ = false := fun k => by simp [World.frozen?, h.hc]
/-- What was made behind a row is not touched by its growth. -/
theorem Rest17.grow2 {w W1 W W' W0 : World} {rv dv vv v : Value} {Ty n : Nat} {xs : List Value} (h : Rest17 w rv dv vv W1) (hc : Chg [] W1 W) (ho : W0.ownsRow (w.heap.size + 3) Ty 1 v n xs) (hg : W.grownBy W' v.ownBlock) : Rest17 w rv dv vv W' :=
  (h.go hc (by simp)).grow ho hg
theorem chg_at {W W' W0 : World} {b : Option Nat} (hg : W.grownBy W' b) (h : Chg [] W0 W) : Chg [] W0 W := h
theorem iv_snoc (l : List Int) (x : Int) : iv (l ++ [x]) = iv l ++ [.int .i64 x] := by simp [iv]
theorem Tri.growr {B : Nat} {rv dv vv v3 : Value} {R D : List Int} {Vs : List V} {n n2 k : Nat} {x : Int} {W0 W W' : World} (h : Tri B rv dv vv R D Vs n n2 k W0) (hc : Chg [] W0 W) (hown : W'.ownsRow B 3 1 v3 (n + 1) (iv R ++ [.int .i64 x])) (hg : W.grownBy W' rv.ownBlock) (hat : v3.ownBlock = rv.ownBlock ∨ v3.ownBlock = some W.heap.size) : Tri B v3 dv vv (R ++ [x]) D Vs (n + 1) n2 k W' :=
  (h.keep hc (by simp)).appr (by rw [iv_snoc]; exact hown) ((Chg.refl _ _).grown hg (fun g hg => .inl (by simp [hg]))) hat
theorem Tri.growd {B : Nat} {rv dv vv v3 : Value} {R D : List Int} {Vs : List V} {n n2 k : Nat} {x : Int} {W0 W W' : World} (h : Tri B rv dv vv R D Vs n n2 k W0) (hc : Chg [] W0 W) (hown : W'.ownsRow B 3 1 v3 (n2 + 1) (iv D ++ [.int .i64 x])) (hg : W.grownBy W' dv.ownBlock) (hat : v3.ownBlock = dv.ownBlock ∨ v3.ownBlock = some W.heap.size) : Tri B rv v3 vv R (D ++ [x]) Vs n (n2 + 1) k W' :=
  (h.keep hc (by simp)).appd (by rw [iv_snoc]; exact hown) ((Chg.refl _ _).grown hg (fun g hg => .inl (by simp [hg]))) hat
theorem grown_far {W0 W W' : World} {v : Value} {B Ty n : Nat} {xs : List Value} (ho : W0.ownsRow B Ty 1 v n xs) (hg : W.grownBy W' v.ownBlock) (g : Nat) (o : Obj) (h : W.heap[g]? = some o) (hl : W0.heap.size ≤ g) : W'.heap[g]? = some o :=
  ((Chg.refl v.ownBlock.toList W).grown hg (fun g hg => .inl (by simp [hg]))).heap h (fun hm => by have := (ho.lt g (by simpa using hm)).2; omega)

theorem CJ17.fin {l : List V} {bs : List Bool} {w W : World} {i : Nat} {rv dv vv rv2 dv2 : Value} {d : Int} (hr : Rest17 w rv dv vv W) (hT : Tri (w.heap.size + 3) rv2 dv2 vv (List.replicate i 0 ++ [0]) (colD17 (l.take i) bs ++ [d]) (colV17 (l.take (i + 1)) bs) (i + 1) (i + 1) (colV17 (l.take (i + 1)) bs).length W) (hD : colD17 (l.take (i + 1)) bs = colD17 (l.take i) bs ++ [d]) (hi : i + 1 ≤ l.length) :
    CJ17 l bs w ((W.setCell ⟨w.heap.size + 2, 0, none⟩ rv2).setCell ⟨w.heap.size + 2, 1, none⟩ dv2) (i + 1) := by
  have hcc : Chg [w.heap.size + 2] W ((W.setCell ⟨w.heap.size + 2, 0, none⟩ rv2).setCell ⟨w.heap.size + 2, 1, none⟩ dv2) := ((Chg.refl _ W).setCell (.inl (by simp)) _).setCell (.inl (by simp)) _
  refine ⟨hi, hr.cg.trans hcc (by simp), Nat.le_trans hr.sz hcc.size, ⟨rv2, dv2, vv, heap_set (heap_set hr.hc _) _, ?_⟩, hcc.heap hr.b0 (by simp), hcc.heap hr.b1 (by simp)⟩
  rw [hD, List.replicate_succ']
  refine hT.keep hcc (fun g hg hm => ?_)
  have hm' : g = w.heap.size + 2 := by simpa using hm
  subst hm'
  rcases hg with hg | hg | hg
  · have := (hT.r.lt _ hg).1; omega
  · have := (hT.d.lt _ hg).1; omega
  · have := (hT.v.lt _ hg).1; omega

/-- What it answers: the leaf, the column. -/
def ColOut17 (l : List V) (bs : List Bool) (w : World) (e : Ending) (w' : World) : Prop :=
  ∃ rv dv vv, e = .returned (.tuple #[.agg #[.int .i64 0, .int .i64 0, .int .i64 1, .int .i64 0], .agg #[rv, dv, vv]]) ∧ Chg [] w w' ∧ SeenI w' dv (colD17 l bs) ∧ SeenV w' vv (colV17 l bs) ∧ ∃ ro rc, rv = .slice ro l.length rc

theorem own_seenI17 {w : World} {B n : Nat} {v : Value} {l : List Int} (h : w.ownsRow B 3 1 v n (iv l)) (hn : n = l.length) : SeenI w v l := by
  have e : ∀ l : List Int, iv l = l.flatMap ic := by
    intro l
    unfold iv
    induction l with
    | nil => rfl
    | cons x l ih => simp [ic, ih]
  rw [e] at h
  exact SeenK.own (enc := ic) (fun x => rfl) h hn.symm

set_option maxRecDepth 100000 in
set_option maxHeartbeats 4000000 in
theorem column17_any (lv bv : Value) (l : List V) (bs : List Bool) (w : World) (hS : SeenV w lv l) (hB : SeenB w bv bs) (hl : l.length ≤ 1000) :
    Calls Try.prog 11 #[lv, bv] w (ColOut17 l bs w) := by
  obtain ⟨lao, lcap, rfl, lc1, lc2⟩ := hS.shape
  obtain ⟨bao, bcap, rfl, bc1, bc2⟩ := hB.shape
  obtain ⟨ii, hii, hiz0, hiz1, hiz2⟩ := info_int
  obtain ⟨iV, hiV, hvz0, hvz1, hvz2⟩ := info_value
  obtain ⟨n, hn⟩ : ∃ n, n = l.length := ⟨_, rfl⟩
  obtain ⟨m, hm⟩ : ∃ m, m = bs.length := ⟨_, rfl⟩
  have HSL := Lib.hid hS; have HSB := Lib.hid hB
  rw [← hn] at HSL lc1
  rw [← hm] at HSB bc1
  have HN := Lib.hid hn; have HM := Lib.hid hm
  have hl' := hl
  rw [← hn] at hl'
  rw [← hn, ← hm]
  have hmx : m ≤ 9223372036854775807 := by unfold maxLen at bc2; omega
  obtain ⟨wb, hwb⟩ : ∃ wb, wb = ((w.alloc (.cells #[.int .i64 0, .int .i64 0, .int .i64 0, .int .i64 0] 28)).alloc (.cells #[.slice none 0 0, .slice none 0 0, .slice none 0 0] 31)).alloc (.cells #[.slice none 0 0, .slice none 0 0, .slice none 0 0] 31) := ⟨_, rfl⟩
  have HJ0 := Lib.hid (show CJ17 l bs w wb 0 from ⟨Nat.zero_le _, by rw [hwb]; exact (((Chg.refl [] w).alloc _).alloc _).alloc _, by rw [hwb]; simp, ⟨_, _, _, by rw [hwb]; exact at32 w _ _ _, Tri.nil _ _⟩, by rw [hwb]; exact at30 w _ _ _, by rw [hwb]; exact at31 w _ _ _⟩)
  have HWB := Lib.hid hwb
  clear hS hB hn hm hwb hl
  go_enter Try.func11, Try.ntmps11
  go_wp2
  rw [← HWB.out]
  go_loopw [7, 8] (fun x y w' => ∃ i : Nat, x = .int .i64 (i : Int) ∧ CJ17 l bs w w' i) (fun x _ _ => n - (intOf x).toNat)
  case atStart => exact ⟨0, rfl, HJ0.out⟩
  case round =>
    obtain ⟨i, rfl, hJ⟩ := hrel
    have HJ := Lib.hid hJ
    have hin : i ≤ n := by rw [HN.out]; exact hJ.hi
    obtain ⟨hi, hcg, hsz, ⟨rv, dv, vv, hc, hT⟩, hb0, hb1⟩ := hJ
    have HC := Lib.hid hcg; have HT := Lib.hid hT; have HCB := Lib.hid hc; have HB0 := Lib.hid hb0; have HB1 := Lib.hid hb1
    clear hcg hT hc hb0 hb1
    by_cases hlt : i < n
    · have d1 : decide ((i : Int) < (n : Int)) = true := by simp; omega
      obtain ⟨v, hv⟩ : ∃ v, l[i]? = some v := ⟨_, List.getElem?_eq_getElem (by rw [← HN.out]; exact hlt)⟩
      obtain ⟨gl, ol, rfl, hget⟩ := SeenV.get HSL.out (by omega)
      have z0 := HC.out.cell (hget i v hv).1 (by simp)
      have z1 := HC.out.cell (hget i v hv).2 (by simp)
      have HSN := Lib.hid (col17_snoc bs hv)
      obtain ⟨ro, rc, rfl⟩ := own_shape HT.out.r
      obtain ⟨dO, dc, rfl⟩ := own_shape HT.out.d
      obtain ⟨vO, vc, rfl⟩ := own_shape HT.out.v
      obtain ⟨kv, hkv⟩ : ∃ k, k = (colV17 (l.take i) bs).length := ⟨_, rfl⟩
      rw [← hkv] at HT HCB
      have HKV := Lib.hid hkv
      have hkl : kv ≤ i := by rw [hkv, colV17_cnt]; have : cntD 1 (colD17 (l.take i) bs) ≤ _ := List.length_filter_le _ _; rw [colD17_len] at this; simp at this; omega
      have e0 : wr.cell? ⟨w.heap.size + 2, 0, none⟩ = some (.slice ro i rc) := by rw [cell_of_row _ _ _ _ _ _ HCB.out]; rfl
      have e1 : wr.cell? ⟨w.heap.size + 2, 1, none⟩ = some (.slice dO i dc) := by rw [cell_of_row _ _ _ _ _ _ HCB.out]; rfl
      have e2 : wr.cell? ⟨w.heap.size + 2, 2, none⟩ = some (.slice vO kv vc) := by rw [cell_of_row _ _ _ _ _ _ HCB.out]; rfl
      have f9 : ∀ k, wr.frozen? ⟨w.heap.size + 2, k, none⟩ = false := fun k => by simp [World.frozen?, HCB.out]
      have f2 := f9 2
      have e2' : (wr.alloc (.cells #[.int .i64 v.n, .string v.s] 35)).cell? ⟨w.heap.size + 2, 2, none⟩ = some (.slice vO kv vc) := ((Chg.refl [] wr).alloc _).cell e2 (by simp)
      have hi0 : (i : Int).toNat = i := by omega
      have hi1 : (0 : Int) ≤ (i : Int) := by omega
      clear hget hkv
      by_cases him : i < m
      · have d2 : decide ((i : Int) < (m : Int)) = true := by simp; omega
        obtain ⟨gb, ob, rfl, hgb⟩ := SeenB.get HSB.out (by omega) HM.out.symm
        have y0 := HC.out.cell (hgb i him) (by simp)
        obtain ⟨b, hb⟩ : ∃ b, b = bs.getD i true := ⟨_, rfl⟩
        rw [← hb] at y0 HSN
        clear hgb hb
        cases b
        · have HD1 := Lib.hid (show colD17 (l.take (i + 1)) bs = colD17 (l.take i) bs ++ [0] by simpa using HSN.out.1)
          have HMID := Lib.hid (show Mid17 l bs w i (.slice ro i rc) (.slice dO i dc) wr from ⟨⟨_, HCB.out, by have hsn : colV17 (l.take (i + 1)) bs = colV17 (l.take i) bs := (by simpa using HSN.out.2); rw [hsn, ← HKV.out]; exact HT.out⟩, HC.out, hsz, HB0.out, HB1.out⟩)
          obtain ⟨wc, rfl⟩ : ∃ wc, wc = wr := ⟨_, rfl⟩
          obtain ⟨⟨vv2, hcb, hT⟩, hcg, hsz2, hb0, hb1⟩ := HMID.out
          have HT0 := Lib.hid hT
          have HR0 := Lib.hid (show Rest17 w (.slice ro i rc) (.slice dO i dc) vv2 wc from ⟨hcg, hsz2, hcb, hb0, hb1⟩)
          have hLD : ∀ W, Chg [] wc W → W.cell? ⟨w.heap.size + 2, 0, none⟩ = some (.slice ro i rc) ∧ W.cell? ⟨w.heap.size + 2, 1, none⟩ = some (.slice dO i dc) := fun W h => (HR0.out.go h (by simp)).cells
          obtain ⟨m00, m01⟩ := hLD (wc) (Chg.refl [] wc)
          obtain ⟨m10, m11⟩ := hLD (wc.alloc (.cells #[.int .i64 0] 3)) ((Chg.refl [] wc).alloc _)
          obtain ⟨m20, m21⟩ := hLD (wc.alloc (.cells #[.int .i64 0] 3)) ((Chg.refl [] wc).alloc _)
          obtain ⟨m30, m31⟩ := hLD ((wc.alloc (.cells #[.int .i64 0] 3)).alloc (.cells #[.int .i64 0] 3)) (((Chg.refl [] wc).alloc _).alloc _)
          obtain ⟨m40, m41⟩ := hLD ((wc.alloc (.cells #[.int .i64 0] 3)).alloc (.cells #[.int .i64 0] 3)) (((Chg.refl [] wc).alloc _).alloc _)
          clear hcb hT hcg hb0 hb1 hLD e0 e1 e2 e2' f2 f9
          go_upto_region 9 with fail
          go_region_law (first
            | (refine step_append_at rfl (.tmp 37) (.tmp 38) 29 rfl (w.heap.size + 3) 3 ii (.int .i64 0) 1 8 Try.underlying29 hii hiz0 hiz1 hiz2 (by rfl) (by decide) (.slice ro i rc) i (iv (List.replicate i 0)) (by rfl) ?own ⟨_, 0, none⟩ 1 1 [.int .i64 0] rfl rfl ?lit ?h0 ?h1 ?h2 ?h3 ?_; (case own => refine (HT0.out.keep (T := []) ?_ (fun _ _ => List.not_mem_nil)).r; (with_reducible repeat (first | exact Chg.refl _ _ | refine Chg.drew ?_ | refine Chg.alloc ?_ _))); (case lit => refine cells_of (T := 3) (C := #[.int .i64 0]) (fr := (0, 0)) ?_; (repeat (first | ((with_reducible apply hl_new); (simp; done)) | (with_reducible apply hl_drew) | (with_reducible apply hl_old)))); (case h0 => simp [Value.oneCell']); (case h1 => unfold maxLen; omega); (case h2 => omega); (case h3 => have hz := HR0.out.sz; first | omega | (simp; omega)); intro v3 wR hown hgrow hat; have hF := fun hc => Tri.growr HT0.out hc hown hgrow hat; have hF2 := fun hc => Rest17.grow2 HR0.out hc HT0.out.r hgrow; have HCW := Lib.hid (chg_at hgrow (W0 := wc) (by (with_reducible repeat (first | exact Chg.refl _ _ | refine Chg.drew ?_ | refine Chg.alloc ?_ _)))); have HTR := Lib.hid (hF HCW.out); have HRR := Lib.hid (hF2 HCW.out); obtain ⟨xro, xrc, rfl⟩ := own_shape hown; have HGR := Lib.hid (grown_far HT0.out.r hgrow); obtain ⟨k0, k1⟩ := HRR.out.cells; obtain ⟨j0, j1⟩ := (HRR.out.go ((Chg.refl [] wR).alloc (.cells #[.int .i64 0] 3)) (by simp)).cells; clear hF hF2 HCW hown hgrow hat)
            | (refine step_append_at rfl (.tmp 41) (.tmp 43) 29 rfl (w.heap.size + 3) 3 ii (.int .i64 0) 1 8 Try.underlying29 hii hiz0 hiz1 hiz2 (by rfl) (by decide) (.slice dO i dc) i (iv (colD17 (l.take i) bs)) (by rfl) ?own ⟨_, 0, none⟩ 1 1 [.int .i64 0] rfl rfl ?lit ?h0 ?h1 ?h2 ?h3 ?_; (case own => refine (HTR.out.keep (T := []) ?_ (fun _ _ => List.not_mem_nil)).d; (with_reducible repeat (first | exact Chg.refl _ _ | refine Chg.drew ?_ | refine Chg.alloc ?_ _))); (case lit => refine cells_of (T := 3) (C := #[.int .i64 0]) (fr := (0, 0)) ?_; first | ((with_reducible apply hl_new); (simp; done)) | ((with_reducible apply hl_drew); (with_reducible apply hl_new); (simp; done)) | ((refine HGR.out _ _ ?_ (by omega)); (repeat (first | ((with_reducible apply hl_new); (simp; done)) | (with_reducible apply hl_drew) | (with_reducible apply hl_old))))); (case h0 => simp [Value.oneCell']); (case h1 => unfold maxLen; omega); (case h2 => omega); (case h3 => have hz := HRR.out.sz; first | omega | (simp; omega)); intro v3 wE hown hgrow hat; have hF := fun hc => Tri.growd HTR.out hc hown hgrow hat; have hF2 := fun hc => Rest17.grow2 HRR.out hc HTR.out.d hgrow; have HCW := Lib.hid (chg_at hgrow (W0 := wR) (by (with_reducible repeat (first | exact Chg.refl _ _ | refine Chg.drew ?_ | refine Chg.alloc ?_ _)))); have HTE := Lib.hid (hF HCW.out); have HRE := Lib.hid (hF2 HCW.out); obtain ⟨xdo, xdc, rfl⟩ := own_shape hown; obtain ⟨k0, k1⟩ := HRE.out.cells; have kf := HRE.out.froz; have kf0 := kf 0; have kf1 := kf 1; clear hF hF2 HCW hown hgrow hat))
          all_goals
            go_wp2
            go_roundw
            case rel => exact ⟨i + 1, by go_num, CJ17.fin HRE.out HTE.out HD1.out (by have := HN.out; omega)⟩
            case measure => simp [intOf]; omega
        · have HD1 := Lib.hid (show colD17 (l.take (i + 1)) bs = colD17 (l.take i) bs ++ [1] by simpa using HSN.out.1)
          go_upto_region 8 with fail
          go_cut [34] (fun s34 wx => Mid17 l bs w i (.slice ro i rc) (.slice dO i dc) wx)
          case first =>
            go_region_law (first
              | (refine step_append_at (by rfl) (.tmp 28) (.tmp 33) 22 (by rfl) (w.heap.size + 3) 35 iV (.agg #[.int .i64 0, .string ByteArray.empty]) 2 24 Try.underlying22 hiV hvz0 hvz1 hvz2 (by rfl) (by decide) (.slice vO kv vc) kv ((colV17 (l.take i) bs).flatMap V.cs) (by rfl) ?own ⟨wr.heap.size, 0, none⟩ 1 1 (V.cs v) (by rfl) (by rfl) ?lit (V.one v) ?h1 ?h2 ?h3 ?_; (case own => exact (HT.out.keep (T := []) (show Chg [] wr (wr.alloc (vo v)).drew from ((Chg.refl _ wr).alloc (vo v)).drew) (by simp)).v); (case lit => exact new_cells (C := #[.int .i64 v.n, .string v.s]) _ rfl); (case h1 => unfold maxLen; omega); (case h2 => omega); (case h3 => simp; omega); intro v3 w3 hown hgrow hat; obtain ⟨v3o, v3c, rfl⟩ := own_shape hown; have HK3 := Lib.hid (show Chg (Value.slice vO kv vc).ownBlock.toList wr w3 from (((Chg.refl _ wr).alloc (vo v)).drew).grown hgrow (fun g hg => .inl (by simp [hg]))); have HT3 := Lib.hid ((HT.out.keep (T := []) (show Chg [] wr (wr.alloc (vo v)).drew from ((Chg.refl _ wr).alloc (vo v)).drew) (by simp)).appv (Vs' := colV17 (l.take i) bs ++ [v]) (by rw [List.flatMap_append]; simpa using hown) ((Chg.refl _ _).grown hgrow (fun g hg => .inl (by simp [hg]))) hat); have kc := HK3.out.heap HCB.out (own_far HT.out.v (by omega)); have kz : w3.cell? ⟨w.heap.size + 2, 2, none⟩ = some (.slice vO kv vc) := (by rw [cell_of_row _ _ _ _ _ _ kc]; rfl); have kf : w3.frozen? ⟨w.heap.size + 2, 2, none⟩ = false := (by simp [World.frozen?, kc]); have KC := Lib.hid kc; clear kc hown hgrow hat))
            all_goals
              try go_wp2
              go_meet
              case rel =>
                have hcc : Chg [w.heap.size + 2] w3 (w3.setCell ⟨w.heap.size + 2, 2, none⟩ (.slice v3o (kv + 1) v3c)) := (Chg.refl _ w3).setCell (.inl (by simp)) _
                have hcw : Chg (Value.slice vO kv vc).ownBlock.toList w (w3.setCell ⟨w.heap.size + 2, 2, none⟩ (.slice v3o (kv + 1) v3c)) := ((HC.out.mono (by simp)).trans HK3.out (fun g hg => .inl hg)).trans hcc (by simp)
                refine ⟨⟨.slice v3o (kv + 1) v3c, heap_set KC.out _, ?_⟩, hcw.mono (fun g hg => .inr (by have := (HT.out.v.lt g (by simpa using hg)).1; omega)), Nat.le_trans hsz (Nat.le_trans HK3.out.size hcc.size), hcc.heap (HK3.out.heap HB0.out (own_far HT.out.v (by omega))) (by simp), hcc.heap (HK3.out.heap HB1.out (own_far HT.out.v (by omega))) (by simp)⟩
                have h3 := HT3.out.keep hcc (fun g hg hm => by
                  have hm' : g = w.heap.size + 2 := by simpa using hm
                  subst hm'
                  rcases hg with hg | hg | hg
                  · have := (HT3.out.r.lt _ hg).1; omega
                  · have := (HT3.out.d.lt _ hg).1; omega
                  · have := (HT3.out.v.lt _ hg).1; omega)
                have hsn : colV17 (l.take (i + 1)) bs = colV17 (l.take i) bs ++ [v] := by simpa using HSN.out.2
                rw [hsn, List.length_append, ← HKV.out]
                exact h3
          case rest =>
            have HMID := Lib.hid hcut
            clear hcut
            obtain ⟨⟨vv2, hcb, hT⟩, hcg, hsz2, hb0, hb1⟩ := HMID.out
            have HT0 := Lib.hid hT
            have HR0 := Lib.hid (show Rest17 w (.slice ro i rc) (.slice dO i dc) vv2 wc from ⟨hcg, hsz2, hcb, hb0, hb1⟩)
            have hLD : ∀ W, Chg [] wc W → W.cell? ⟨w.heap.size + 2, 0, none⟩ = some (.slice ro i rc) ∧ W.cell? ⟨w.heap.size + 2, 1, none⟩ = some (.slice dO i dc) := fun W h => (HR0.out.go h (by simp)).cells
            obtain ⟨m00, m01⟩ := hLD (wc) (Chg.refl [] wc)
            obtain ⟨m10, m11⟩ := hLD (wc.alloc (.cells #[.int .i64 0] 3)) ((Chg.refl [] wc).alloc _)
            obtain ⟨m20, m21⟩ := hLD (wc.alloc (.cells #[.int .i64 1] 3)) ((Chg.refl [] wc).alloc _)
            obtain ⟨m30, m31⟩ := hLD ((wc.alloc (.cells #[.int .i64 0] 3)).alloc (.cells #[.int .i64 1] 3)) (((Chg.refl [] wc).alloc _).alloc _)
            obtain ⟨m40, m41⟩ := hLD ((wc.alloc (.cells #[.int .i64 1] 3)).alloc (.cells #[.int .i64 0] 3)) (((Chg.refl [] wc).alloc _).alloc _)
            clear hcb hT hcg hb0 hb1 hLD e0 e1 e2 e2' f2 f9
            go_upto_region 9 with fail
            go_region_law (first
              | (refine step_append_at rfl (.tmp 37) (.tmp 38) 29 rfl (w.heap.size + 3) 3 ii (.int .i64 0) 1 8 Try.underlying29 hii hiz0 hiz1 hiz2 (by rfl) (by decide) (.slice ro i rc) i (iv (List.replicate i 0)) (by rfl) ?own ⟨_, 0, none⟩ 1 1 [.int .i64 0] rfl rfl ?lit ?h0 ?h1 ?h2 ?h3 ?_; (case own => refine (HT0.out.keep (T := []) ?_ (fun _ _ => List.not_mem_nil)).r; (with_reducible repeat (first | exact Chg.refl _ _ | refine Chg.drew ?_ | refine Chg.alloc ?_ _))); (case lit => refine cells_of (T := 3) (C := #[.int .i64 0]) (fr := (0, 0)) ?_; (repeat (first | ((with_reducible apply hl_new); (simp; done)) | (with_reducible apply hl_drew) | (with_reducible apply hl_old)))); (case h0 => simp [Value.oneCell']); (case h1 => unfold maxLen; omega); (case h2 => omega); (case h3 => have hz := HR0.out.sz; first | omega | (simp; omega)); intro v3 wR hown hgrow hat; have hF := fun hc => Tri.growr HT0.out hc hown hgrow hat; have hF2 := fun hc => Rest17.grow2 HR0.out hc HT0.out.r hgrow; have HCW := Lib.hid (chg_at hgrow (W0 := wc) (by (with_reducible repeat (first | exact Chg.refl _ _ | refine Chg.drew ?_ | refine Chg.alloc ?_ _)))); have HTR := Lib.hid (hF HCW.out); have HRR := Lib.hid (hF2 HCW.out); obtain ⟨xro, xrc, rfl⟩ := own_shape hown; have HGR := Lib.hid (grown_far HT0.out.r hgrow); obtain ⟨k0, k1⟩ := HRR.out.cells; obtain ⟨j0, j1⟩ := (HRR.out.go ((Chg.refl [] wR).alloc (.cells #[.int .i64 1] 3)) (by simp)).cells; clear hF hF2 HCW hown hgrow hat)
              | (refine step_append_at rfl (.tmp 41) (.tmp 43) 29 rfl (w.heap.size + 3) 3 ii (.int .i64 0) 1 8 Try.underlying29 hii hiz0 hiz1 hiz2 (by rfl) (by decide) (.slice dO i dc) i (iv (colD17 (l.take i) bs)) (by rfl) ?own ⟨_, 0, none⟩ 1 1 [.int .i64 1] rfl rfl ?lit ?h0 ?h1 ?h2 ?h3 ?_; (case own => refine (HTR.out.keep (T := []) ?_ (fun _ _ => List.not_mem_nil)).d; (with_reducible repeat (first | exact Chg.refl _ _ | refine Chg.drew ?_ | refine Chg.alloc ?_ _))); (case lit => refine cells_of (T := 3) (C := #[.int .i64 1]) (fr := (0, 0)) ?_; first | ((with_reducible apply hl_new); (simp; done)) | ((with_reducible apply hl_drew); (with_reducible apply hl_new); (simp; done)) | ((refine HGR.out _ _ ?_ (by omega)); (repeat (first | ((with_reducible apply hl_new); (simp; done)) | (with_reducible apply hl_drew) | (with_reducible apply hl_old))))); (case h0 => simp [Value.oneCell']); (case h1 => unfold maxLen; omega); (case h2 => omega); (case h3 => have hz := HRR.out.sz; first | omega | (simp; omega)); intro v3 wE hown hgrow hat; have hF := fun hc => Tri.growd HTR.out hc hown hgrow hat; have hF2 := fun hc => Rest17.grow2 HRR.out hc HTR.out.d hgrow; have HCW := Lib.hid (chg_at hgrow (W0 := wR) (by (with_reducible repeat (first | exact Chg.refl _ _ | refine Chg.drew ?_ | refine Chg.alloc ?_ _)))); have HTE := Lib.hid (hF HCW.out); have HRE := Lib.hid (hF2 HCW.out); obtain ⟨xdo, xdc, rfl⟩ := own_shape hown; obtain ⟨k0, k1⟩ := HRE.out.cells; have kf := HRE.out.froz; have kf0 := kf 0; have kf1 := kf 1; clear hF hF2 HCW hown hgrow hat))
            all_goals
              go_wp2
              go_roundw
              case rel => exact ⟨i + 1, by go_num, CJ17.fin HRE.out HTE.out HD1.out (by have := HN.out; omega)⟩
              case measure => simp [intOf]; omega
      · have d2 : decide ((i : Int) < (m : Int)) = false := by simp; omega
        have hgd : bs.getD i true = true := by rw [List.getD, List.getElem?_eq_none (by rw [← HM.out]; omega)]; rfl
        rw [hgd] at HSN
        clear hgd
        have HD1 := Lib.hid (show colD17 (l.take (i + 1)) bs = colD17 (l.take i) bs ++ [1] by simpa using HSN.out.1)
        go_upto_region 8 with fail
        go_cut [34] (fun s34 wx => Mid17 l bs w i (.slice ro i rc) (.slice dO i dc) wx)
        case first =>
          go_region_law (first
            | (refine step_append_at (by rfl) (.tmp 28) (.tmp 33) 22 (by rfl) (w.heap.size + 3) 35 iV (.agg #[.int .i64 0, .string ByteArray.empty]) 2 24 Try.underlying22 hiV hvz0 hvz1 hvz2 (by rfl) (by decide) (.slice vO kv vc) kv ((colV17 (l.take i) bs).flatMap V.cs) (by rfl) ?own ⟨wr.heap.size, 0, none⟩ 1 1 (V.cs v) (by rfl) (by rfl) ?lit (V.one v) ?h1 ?h2 ?h3 ?_; (case own => exact (HT.out.keep (T := []) (show Chg [] wr (wr.alloc (vo v)).drew from ((Chg.refl _ wr).alloc (vo v)).drew) (by simp)).v); (case lit => exact new_cells (C := #[.int .i64 v.n, .string v.s]) _ rfl); (case h1 => unfold maxLen; omega); (case h2 => omega); (case h3 => simp; omega); intro v3 w3 hown hgrow hat; obtain ⟨v3o, v3c, rfl⟩ := own_shape hown; have HK3 := Lib.hid (show Chg (Value.slice vO kv vc).ownBlock.toList wr w3 from (((Chg.refl _ wr).alloc (vo v)).drew).grown hgrow (fun g hg => .inl (by simp [hg]))); have HT3 := Lib.hid ((HT.out.keep (T := []) (show Chg [] wr (wr.alloc (vo v)).drew from ((Chg.refl _ wr).alloc (vo v)).drew) (by simp)).appv (Vs' := colV17 (l.take i) bs ++ [v]) (by rw [List.flatMap_append]; simpa using hown) ((Chg.refl _ _).grown hgrow (fun g hg => .inl (by simp [hg]))) hat); have kc := HK3.out.heap HCB.out (own_far HT.out.v (by omega)); have kz : w3.cell? ⟨w.heap.size + 2, 2, none⟩ = some (.slice vO kv vc) := (by rw [cell_of_row _ _ _ _ _ _ kc]; rfl); have kf : w3.frozen? ⟨w.heap.size + 2, 2, none⟩ = false := (by simp [World.frozen?, kc]); have KC := Lib.hid kc; clear kc hown hgrow hat))
          all_goals
            try go_wp2
            go_meet
            case rel =>
              have hcc : Chg [w.heap.size + 2] w3 (w3.setCell ⟨w.heap.size + 2, 2, none⟩ (.slice v3o (kv + 1) v3c)) := (Chg.refl _ w3).setCell (.inl (by simp)) _
              have hcw : Chg (Value.slice vO kv vc).ownBlock.toList w (w3.setCell ⟨w.heap.size + 2, 2, none⟩ (.slice v3o (kv + 1) v3c)) := ((HC.out.mono (by simp)).trans HK3.out (fun g hg => .inl hg)).trans hcc (by simp)
              refine ⟨⟨.slice v3o (kv + 1) v3c, heap_set KC.out _, ?_⟩, hcw.mono (fun g hg => .inr (by have := (HT.out.v.lt g (by simpa using hg)).1; omega)), Nat.le_trans hsz (Nat.le_trans HK3.out.size hcc.size), hcc.heap (HK3.out.heap HB0.out (own_far HT.out.v (by omega))) (by simp), hcc.heap (HK3.out.heap HB1.out (own_far HT.out.v (by omega))) (by simp)⟩
              have h3 := HT3.out.keep hcc (fun g hg hm => by
                have hm' : g = w.heap.size + 2 := by simpa using hm
                subst hm'
                rcases hg with hg | hg | hg
                · have := (HT3.out.r.lt _ hg).1; omega
                · have := (HT3.out.d.lt _ hg).1; omega
                · have := (HT3.out.v.lt _ hg).1; omega)
              have hsn : colV17 (l.take (i + 1)) bs = colV17 (l.take i) bs ++ [v] := by simpa using HSN.out.2
              rw [hsn, List.length_append, ← HKV.out]
              exact h3
        case rest =>
          have HMID := Lib.hid hcut
          clear hcut
          obtain ⟨⟨vv2, hcb, hT⟩, hcg, hsz2, hb0, hb1⟩ := HMID.out
          have HT0 := Lib.hid hT
          have HR0 := Lib.hid (show Rest17 w (.slice ro i rc) (.slice dO i dc) vv2 wc from ⟨hcg, hsz2, hcb, hb0, hb1⟩)
          have hLD : ∀ W, Chg [] wc W → W.cell? ⟨w.heap.size + 2, 0, none⟩ = some (.slice ro i rc) ∧ W.cell? ⟨w.heap.size + 2, 1, none⟩ = some (.slice dO i dc) := fun W h => (HR0.out.go h (by simp)).cells
          obtain ⟨m00, m01⟩ := hLD (wc) (Chg.refl [] wc)
          obtain ⟨m10, m11⟩ := hLD (wc.alloc (.cells #[.int .i64 0] 3)) ((Chg.refl [] wc).alloc _)
          obtain ⟨m20, m21⟩ := hLD (wc.alloc (.cells #[.int .i64 1] 3)) ((Chg.refl [] wc).alloc _)
          obtain ⟨m30, m31⟩ := hLD ((wc.alloc (.cells #[.int .i64 0] 3)).alloc (.cells #[.int .i64 1] 3)) (((Chg.refl [] wc).alloc _).alloc _)
          obtain ⟨m40, m41⟩ := hLD ((wc.alloc (.cells #[.int .i64 1] 3)).alloc (.cells #[.int .i64 0] 3)) (((Chg.refl [] wc).alloc _).alloc _)
          clear hcb hT hcg hb0 hb1 hLD e0 e1 e2 e2' f2 f9
          go_upto_region 9 with fail
          go_region_law (first
            | (refine step_append_at rfl (.tmp 37) (.tmp 38) 29 rfl (w.heap.size + 3) 3 ii (.int .i64 0) 1 8 Try.underlying29 hii hiz0 hiz1 hiz2 (by rfl) (by decide) (.slice ro i rc) i (iv (List.replicate i 0)) (by rfl) ?own ⟨_, 0, none⟩ 1 1 [.int .i64 0] rfl rfl ?lit ?h0 ?h1 ?h2 ?h3 ?_; (case own => refine (HT0.out.keep (T := []) ?_ (fun _ _ => List.not_mem_nil)).r; (with_reducible repeat (first | exact Chg.refl _ _ | refine Chg.drew ?_ | refine Chg.alloc ?_ _))); (case lit => refine cells_of (T := 3) (C := #[.int .i64 0]) (fr := (0, 0)) ?_; (repeat (first | ((with_reducible apply hl_new); (simp; done)) | (with_reducible apply hl_drew) | (with_reducible apply hl_old)))); (case h0 => simp [Value.oneCell']); (case h1 => unfold maxLen; omega); (case h2 => omega); (case h3 => have hz := HR0.out.sz; first | omega | (simp; omega)); intro v3 wR hown hgrow hat; have hF := fun hc => Tri.growr HT0.out hc hown hgrow hat; have hF2 := fun hc => Rest17.grow2 HR0.out hc HT0.out.r hgrow; have HCW := Lib.hid (chg_at hgrow (W0 := wc) (by (with_reducible repeat (first | exact Chg.refl _ _ | refine Chg.drew ?_ | refine Chg.alloc ?_ _)))); have HTR := Lib.hid (hF HCW.out); have HRR := Lib.hid (hF2 HCW.out); obtain ⟨xro, xrc, rfl⟩ := own_shape hown; have HGR := Lib.hid (grown_far HT0.out.r hgrow); obtain ⟨k0, k1⟩ := HRR.out.cells; obtain ⟨j0, j1⟩ := (HRR.out.go ((Chg.refl [] wR).alloc (.cells #[.int .i64 1] 3)) (by simp)).cells; clear hF hF2 HCW hown hgrow hat)
            | (refine step_append_at rfl (.tmp 41) (.tmp 43) 29 rfl (w.heap.size + 3) 3 ii (.int .i64 0) 1 8 Try.underlying29 hii hiz0 hiz1 hiz2 (by rfl) (by decide) (.slice dO i dc) i (iv (colD17 (l.take i) bs)) (by rfl) ?own ⟨_, 0, none⟩ 1 1 [.int .i64 1] rfl rfl ?lit ?h0 ?h1 ?h2 ?h3 ?_; (case own => refine (HTR.out.keep (T := []) ?_ (fun _ _ => List.not_mem_nil)).d; (with_reducible repeat (first | exact Chg.refl _ _ | refine Chg.drew ?_ | refine Chg.alloc ?_ _))); (case lit => refine cells_of (T := 3) (C := #[.int .i64 1]) (fr := (0, 0)) ?_; first | ((with_reducible apply hl_new); (simp; done)) | ((with_reducible apply hl_drew); (with_reducible apply hl_new); (simp; done)) | ((refine HGR.out _ _ ?_ (by omega)); (repeat (first | ((with_reducible apply hl_new); (simp; done)) | (with_reducible apply hl_drew) | (with_reducible apply hl_old))))); (case h0 => simp [Value.oneCell']); (case h1 => unfold maxLen; omega); (case h2 => omega); (case h3 => have hz := HRR.out.sz; first | omega | (simp; omega)); intro v3 wE hown hgrow hat; have hF := fun hc => Tri.growd HTR.out hc hown hgrow hat; have hF2 := fun hc => Rest17.grow2 HRR.out hc HTR.out.d hgrow; have HCW := Lib.hid (chg_at hgrow (W0 := wR) (by (with_reducible repeat (first | exact Chg.refl _ _ | refine Chg.drew ?_ | refine Chg.alloc ?_ _)))); have HTE := Lib.hid (hF HCW.out); have HRE := Lib.hid (hF2 HCW.out); obtain ⟨xdo, xdc, rfl⟩ := own_shape hown; obtain ⟨k0, k1⟩ := HRE.out.cells; have kf := HRE.out.froz; have kf0 := kf 0; have kf1 := kf 1; clear hF hF2 HCW hown hgrow hat))
          all_goals
            go_wp2
            go_roundw
            case rel => exact ⟨i + 1, by go_num, CJ17.fin HRE.out HTE.out HD1.out (by have := HN.out; omega)⟩
            case measure => simp [intOf]; omega
    · have d1 : decide ((i : Int) < (n : Int)) = false := by simp; omega
      have HE := Lib.hid (show l.take i = l from List.take_of_length_le (by have := HN.out; omega))
      have HIL := Lib.hid (show i = n by omega)
      have X0 := HB0.out
      have X1 := HB1.out
      have X2 := HCB.out
      obtain ⟨ro, rc, rfl⟩ := own_shape HT.out.r
      obtain ⟨dO, dc, rfl⟩ := own_shape HT.out.d
      obtain ⟨vO, vc, rfl⟩ := own_shape HT.out.v
      obtain ⟨kv, hkv⟩ : ∃ k, k = (colV17 (l.take i) bs).length := ⟨_, rfl⟩
      rw [← hkv] at HT HCB X2
      have HKV := Lib.hid hkv
      clear hkv
      have p0 : wr.cell? ⟨w.heap.size, 0, none⟩ = some (.int .i64 0) := by rw [cell_of_row _ _ _ _ _ _ X0]; rfl
      have p1 : wr.cell? ⟨w.heap.size, 1, none⟩ = some (.int .i64 0) := by rw [cell_of_row _ _ _ _ _ _ X0]; rfl
      have p2 : wr.cell? ⟨w.heap.size, 2, none⟩ = some (.int .i64 0) := by rw [cell_of_row _ _ _ _ _ _ X0]; rfl
      have p3 : wr.cell? ⟨w.heap.size, 3, none⟩ = some (.int .i64 0) := by rw [cell_of_row _ _ _ _ _ _ X0]; rfl
      have q0 : wr.cell? ⟨w.heap.size + 1, 0, none⟩ = some (.slice none 0 0) := by rw [cell_of_row _ _ _ _ _ _ X1]; rfl
      have q1 : wr.cell? ⟨w.heap.size + 1, 1, none⟩ = some (.slice none 0 0) := by rw [cell_of_row _ _ _ _ _ _ X1]; rfl
      have q2 : wr.cell? ⟨w.heap.size + 1, 2, none⟩ = some (.slice none 0 0) := by rw [cell_of_row _ _ _ _ _ _ X1]; rfl
      have r0 : wr.cell? ⟨w.heap.size + 2, 0, none⟩ = some (.slice ro i rc) := by rw [cell_of_row _ _ _ _ _ _ X2]; rfl
      have r1 : wr.cell? ⟨w.heap.size + 2, 1, none⟩ = some (.slice dO i dc) := by rw [cell_of_row _ _ _ _ _ _ X2]; rfl
      have r2 : wr.cell? ⟨w.heap.size + 2, 2, none⟩ = some (.slice vO kv vc) := by rw [cell_of_row _ _ _ _ _ _ X2]; rfl
      have fp : ∀ k, wr.frozen? ⟨w.heap.size, k, none⟩ = false := fun k => by simp [World.frozen?, X0]
      have fq : ∀ k, wr.frozen? ⟨w.heap.size + 1, k, none⟩ = false := fun k => by simp [World.frozen?, X1]
      have fp0 := fp 0; have fp1 := fp 1; have fp2 := fp 2; have fp3 := fp 3
      have fq0 := fq 0; have fq1 := fq 1; have fq2 := fq 2
      have HY := Lib.hid (⟨X0, X1, X2⟩ : _ ∧ _ ∧ _)
      clear X0 X1 X2 fp fq
      go_upto_region 10 with fail
      go_region
      obtain ⟨X0, X1, X2⟩ := HY.out
      have hcc : Chg [w.heap.size, w.heap.size + 1] wr (((((((wr.setCell ⟨w.heap.size, 0, none⟩ (.int .i64 0)).setCell ⟨w.heap.size, 1, none⟩ (.int .i64 0)).setCell ⟨w.heap.size, 2, none⟩ (.int .i64 1)).setCell ⟨w.heap.size, 3, none⟩ (.int .i64 0)).setCell ⟨w.heap.size + 1, 0, none⟩ (.slice ro i rc)).setCell ⟨w.heap.size + 1, 1, none⟩ (.slice dO i dc)).setCell ⟨w.heap.size + 1, 2, none⟩ (.slice vO kv vc)) := (((((((Chg.refl _ wr).setCell (.inl (by simp)) _).setCell (.inl (by simp)) _).setCell (.inl (by simp)) _).setCell (.inl (by simp)) _).setCell (.inl (by simp)) _).setCell (.inl (by simp)) _).setCell (.inl (by simp)) _
      have ha : (((((((wr.setCell ⟨w.heap.size, 0, none⟩ (.int .i64 0)).setCell ⟨w.heap.size, 1, none⟩ (.int .i64 0)).setCell ⟨w.heap.size, 2, none⟩ (.int .i64 1)).setCell ⟨w.heap.size, 3, none⟩ (.int .i64 0)).setCell ⟨w.heap.size + 1, 0, none⟩ (.slice ro i rc)).setCell ⟨w.heap.size + 1, 1, none⟩ (.slice dO i dc)).setCell ⟨w.heap.size + 1, 2, none⟩ (.slice vO kv vc)).heap[w.heap.size]? = some (.cells #[.int .i64 0, .int .i64 0, .int .i64 1, .int .i64 0] 28 (0, 0)) := other1 (other2 (heap_set (i := 3) (heap_set (i := 2) (heap_set (i := 1) (heap_set (i := 0) X0 _) _) _) _) (by simp)) (by simp)
      have hb : (((((((wr.setCell ⟨w.heap.size, 0, none⟩ (.int .i64 0)).setCell ⟨w.heap.size, 1, none⟩ (.int .i64 0)).setCell ⟨w.heap.size, 2, none⟩ (.int .i64 1)).setCell ⟨w.heap.size, 3, none⟩ (.int .i64 0)).setCell ⟨w.heap.size + 1, 0, none⟩ (.slice ro i rc)).setCell ⟨w.heap.size + 1, 1, none⟩ (.slice dO i dc)).setCell ⟨w.heap.size + 1, 2, none⟩ (.slice vO kv vc)).heap[w.heap.size + 1]? = some (.cells #[.slice ro i rc, .slice dO i dc, .slice vO kv vc] 31 (0, 0)) := heap_set (i := 2) (heap_set (i := 1) (heap_set (i := 0) (other2 (other2 X1 (by simp)) (by simp)) _) _) _
      have HF := Lib.hid (⟨hcc, ha, hb⟩ : _ ∧ _ ∧ _)
      clear hcc ha hb
      generalize ((((((wr.setCell ⟨w.heap.size, 0, none⟩ (.int .i64 0)).setCell ⟨w.heap.size, 1, none⟩ (.int .i64 0)).setCell ⟨w.heap.size, 2, none⟩ (.int .i64 1)).setCell ⟨w.heap.size, 3, none⟩ (.int .i64 0)).setCell ⟨w.heap.size + 1, 0, none⟩ (.slice ro i rc)).setCell ⟨w.heap.size + 1, 1, none⟩ (.slice dO i dc)).setCell ⟨w.heap.size + 1, 2, none⟩ (.slice vO kv vc) = wz at HF ⊢
      obtain ⟨hcc, ha, hb⟩ := HF.out
      have hT := HT.out.keep hcc (fun g hg hm => by
        have hm' : g = w.heap.size ∨ g = w.heap.size + 1 := by simpa using hm
        have : w.heap.size + 3 ≤ g := by
          rcases hg with hg | hg | hg
          · exact (HT.out.r.lt _ hg).1
          · exact (HT.out.d.lt _ hg).1
          · exact (HT.out.v.lt _ hg).1
        omega)
      rw [HE.out] at hT
      have hkv := HKV.out
      rw [HE.out] at hkv
      have hD : SeenI wz (.slice dO i dc) (colD17 l bs) := own_seenI17 hT.d (by rw [colD17_len, ← HN.out, HIL.out])
      have hV : SeenV wz (.slice vO kv vc) (colV17 l bs) := SeenK.own V.cs_len hT.v hkv.symm
      have HFIN := Lib.hid (⟨HC.out.trans hcc (by simp), hD, hV, ha, hb⟩ : _ ∧ _ ∧ _ ∧ _ ∧ _)
      clear hcc ha hb hT hD hV hkv X0 X1 X2
      go_wp2
      refine ret_lc rfl rfl rfl rfl HFIN.out.2.2.2.1 HFIN.out.2.2.2.2 ⟨_, _, _, rfl, HFIN.out.1.drew, HFIN.out.2.1, HFIN.out.2.2.1, ro, rc, by rw [HIL.out, HN.out]⟩

end Go.Proofs.Ytgfjmbjpikcffaa
