/- Yh, Yi, Yj, Jc: texts of one group, one behind the other. -/
import Derived.Test.YtfdmbpfpdijpdaaA5
import Derived.Test.YtfdmbpfpdijpdaaYA
import Derived.Test.YtfdmbpfpdijpdaaA1
import Derived.Test.YtfdmbpfpdijpdaaA3
import Derived.BigQuiet
import Derived.Test.YtfdmbpfpdijpdaaA2
import Derived.Laws.Rows
import Derived.Test.YtfdmbpfpdijpdaaRl
namespace Go.Proofs.Ytfdmbpfpdijpdaa
open Go.RowKit
set_option linter.unusedVariables false

/-- The next number, and where one stands behind it. -/
def nx (ns : List Int) (p : Nat) : Int × Nat := if p < ns.length then (ns.getD p 0, p + 1) else (0, p)

/-- So many values, one behind the other. -/
def mkLs (f : Nat → Tr × Nat) : Nat → Nat → List Tr × Nat
  | 0, p => ([], p)
  | j + 1, p => ((mkLs f j p).1 ++ [(f (mkLs f j p).2).1], (f (mkLs f j p).2).2)

/-- How often a field is there, and where one stands behind that. -/
def cntF (l : List F) (ns : List Int) (i p : Nat) : Nat × Nat :=
  if (l.getD i default).r = 1 then (((nx ns p).1 % 2).toNat, (nx ns p).2) else if (l.getD i default).r = 2 then (((nx ns p).1 % 4).toNat, (nx ns p).2) else (1, p)

/-- One field more. -/
def stepK (l : List F) (ns : List Int) (f : Nat → Nat → Tr × Nat) (s : List (List Tr) × Nat) (i : Int) : List (List Tr) × Nat :=
  (s.1 ++ [(mkLs (f i.toNat) (cntF l ns i.toNat s.2).1 (cntF l ns i.toNat s.2).2).1], (mkLs (f i.toNat) (cntF l ns i.toNat s.2).1 (cntF l ns i.toNat s.2).2).2)

def abc : ByteArray := { data := #[97, 98, 99, 97, 98, 99, 97, 98, 99, 97, 98, 99] }

/-- The fields of a group, up to a place. -/
def kidsTo (l : List F) (ns : List Int) (f : Nat → Nat → Tr × Nat) (at' m p : Nat) : List (List Tr) × Nat := (kidsU (parents l) m at').foldl (stepK l ns f) ([], p)

/-- A value of a field, of raw numbers from a place on. -/
def mkT (l : List F) (ns : List Int) : Nat → Nat → Nat → Tr × Nat
  | 0, _, p => (default, p)
  | d + 1, f, p =>
    if (l.getD f default).k = 1 then (.mk ((nx ns p).1 % 2) ByteArray.empty [], (nx ns p).2)
    else if (l.getD f default).k = 2 then (.mk ((nx ns p).1 % 300 - 100) ByteArray.empty [], (nx ns p).2)
    else if (l.getD f default).k = 3 then (.mk (nx ns p).1 ByteArray.empty [], (nx ns p).2)
    else if (l.getD f default).k = 4 then (.mk 0 (abc.extract 0 ((nx ns p).1 % 9).toNat) [], (nx ns p).2)
    else (.mk 0 ByteArray.empty (kidsTo l ns (mkT l ns d) f l.length (nx ns p).2).1, (kidsTo l ns (mkT l ns d) f l.length (nx ns p).2).2)

theorem mkLs_len (f : Nat → Tr × Nat) : ∀ j p, (mkLs f j p).1.length = j
  | 0, _ => rfl
  | j + 1, p => by rw [mkLs, List.length_append, mkLs_len f j p]; rfl

theorem nx_le {ns : List Int} {p : Nat} (h : p ≤ ns.length) : (nx ns p).2 ≤ ns.length := by
  unfold nx
  split
  · show p + 1 ≤ _; omega
  · exact h

theorem kidsTo_skip {l : List F} {ns : List Int} {f : Nat → Nat → Tr × Nat} {at' m p : Nat} (h : (parents l).getD m 0 ≠ (at' : Int)) : kidsTo l ns f at' (m + 1) p = kidsTo l ns f at' m p := by
  unfold kidsTo
  rw [kidsU_succ, if_neg h]

theorem kidsTo_step {l : List F} {ns : List Int} {f : Nat → Nat → Tr × Nat} {at' m p : Nat} (h : (parents l).getD m 0 = (at' : Int)) : kidsTo l ns f at' (m + 1) p = stepK l ns f (kidsTo l ns f at' m p) (m : Int) := by
  unfold kidsTo
  rw [kidsU_succ, if_pos h, List.foldl_append]
  rfl

theorem kidsTo_low (l : List F) (ns : List Int) (f : Nat → Nat → Tr × Nat) (at' p : Nat) (h : at' < l.length) : kidsTo l ns f at' (at' + 1) p = ([], p) := by
  unfold kidsTo
  rw [kidsU_low l at' (at' + 1) (Nat.le_refl _) h]
  rfl

theorem stepK_len (l : List F) (ns : List Int) (f : Nat → Nat → Tr × Nat) : ∀ (is : List Int) (s : List (List Tr) × Nat), (is.foldl (stepK l ns f) s).1.length = s.1.length + is.length
  | [], s => rfl
  | i :: is, s => by
    rw [List.foldl_cons, stepK_len l ns f is]
    simp [stepK]
    omega

theorem kidsTo_len (l : List F) (ns : List Int) (f : Nat → Nat → Tr × Nat) (at' m p : Nat) : (kidsTo l ns f at' m p).1.length ≤ m := by
  unfold kidsTo
  rw [stepK_len]
  simpa using kidsU_len (parents l) m at'

/-- How the maker stands. -/
structure MkM (w0 w : World) (gm : Nat) (l : List F) (ns : List Int) (sv pv nv : Value) (p : Nat) : Prop where
  hs : SeenF w0 sv l
  hp : SeenI w0 pv (parents l)
  hn : SeenI w0 nv ns
  g0 : w0.heap.size ≤ gm
  c0 : Chg [] w0 w
  bl : w.heap[gm]? = some (.cells #[sv, pv, nv, .int .i64 (p : Int)] 117 (0, 0))
  pl : p ≤ ns.length

theorem MkM.cells {w0 w : World} {gm : Nat} {l : List F} {ns : List Int} {sv pv nv : Value} {p : Nat} (h : MkM w0 w gm l ns sv pv nv p) : w.cell? ⟨gm, 0, none⟩ = some sv ∧ w.cell? ⟨gm, 1, none⟩ = some pv ∧ w.cell? ⟨gm, 2, none⟩ = some nv ∧ w.cell? ⟨gm, 3, none⟩ = some (.int .i64 (p : Int)) ∧ ∀ i, w.frozen? ⟨gm, i, none⟩ = false := by
  have hb := h.bl
  exact ⟨by rw [cell_of_row w gm 0 _ _ _ hb]; rfl, by rw [cell_of_row w gm 1 _ _ _ hb]; rfl, by rw [cell_of_row w gm 2 _ _ _ hb]; rfl, by rw [cell_of_row w gm 3 _ _ _ hb]; rfl, fun i => by simp [World.frozen?, hb]⟩

theorem MkM.keep {w0 w w' : World} {gm : Nat} {l : List F} {ns : List Int} {sv pv nv : Value} {p : Nat} (h : MkM w0 w gm l ns sv pv nv p) (hc : Chg [] w w') : MkM w0 w' gm l ns sv pv nv p :=
  ⟨h.hs, h.hp, h.hn, h.g0, h.c0.trans hc (by simp), hc.heap h.bl (by simp), h.pl⟩

theorem MkM.keepS {w0 w w' : World} {gm : Nat} {S : List Nat} {l : List F} {ns : List Int} {sv pv nv : Value} {p : Nat} (h : MkM w0 w gm l ns sv pv nv p) (hc : Chg S w w') (hS : ∀ g ∈ S, gm < g) : MkM w0 w' gm l ns sv pv nv p :=
  ⟨h.hs, h.hp, h.hn, h.g0, h.c0.trans hc fun t ht => .inr (by have := hS t ht; have := h.g0; omega), hc.heap h.bl fun hm => by have := hS gm hm; omega, h.pl⟩

theorem MkM.bump {w0 w : World} {gm : Nat} {l : List F} {ns : List Int} {sv pv nv : Value} {p : Nat} (h : MkM w0 w gm l ns sv pv nv p) (hp : p < ns.length) : MkM w0 (w.setCell ⟨gm, 3, none⟩ (.int .i64 ((p : Int) + 1))) gm l ns sv pv nv (p + 1) := by
  have hc : Chg [gm] w (w.setCell ⟨gm, 3, none⟩ (.int .i64 ((p : Int) + 1))) := (Chg.refl [gm] w).setCell (by simp) _
  refine ⟨h.hs, h.hp, h.hn, h.g0, h.c0.trans hc (by have := h.g0; simpa using this), ?_, hp⟩
  rw [heap_set h.bl]
  simp

set_option maxRecDepth 100000 in
set_option maxHeartbeats 1000000 in
theorem next8_any (w0 w : World) (gm : Nat) (l : List F) (ns : List Int) (sv pv nv : Value) (p : Nat) (h : MkM w0 w gm l ns sv pv nv p) :
    Calls Try.prog 95 #[.pointer (some ⟨gm, 0, none⟩)] w fun e w' => e = .returned (.int .i64 (nx ns p).1) ∧ MkM w0 w' gm l ns sv pv nv (nx ns p).2 ∧ Chg [gm] w w' := by
  obtain ⟨c0, c1, c2, c3, hfz⟩ := h.cells
  obtain ⟨no, ncap, rfl, hn1, hn2⟩ := h.hn.shape
  have hpl := h.pl
  have H := Lib.hid h
  obtain ⟨n, hn⟩ : ∃ n, n = ns.length := ⟨_, rfl⟩
  rw [← hn] at c2 hn1 hpl H ⊢
  have HN := Lib.hid hn
  have hnx : n ≤ 9223372036854775807 := by unfold maxLen at hn2; omega
  by_cases hlt : p < n
  · obtain ⟨g, off, rfl, hcs⟩ := SeenI.get (h.hn.keep h.c0) (by rw [← hn]; omega) rfl
    have hx := hcs p (by rw [← hn]; exact hlt)
    obtain ⟨x, hxx⟩ : ∃ x, x = ns.getD p 0 := ⟨_, rfl⟩
    rw [← hxx] at hx
    have E := Lib.hid (show nx ns p = (x, p + 1) by unfold nx; rw [if_pos (by rw [← hn]; exact hlt), hxx])
    have d1 : decide ((n : Int) ≤ (p : Int)) = false := by simp; omega
    have d1' : ¬ n ≤ p := by omega
    have hz1 : IntKind.i64.wrap ((p : Int) + 1) = (p : Int) + 1 := IntWalk.i64_in _ (by omega)
    have hz2 : IntKind.i64.wrap ((p : Int) + 1 - 1) = (p : Int) := by rw [Int.add_sub_cancel]; exact IntWalk.i64_in _ (by omega)
    have hgs : g ≠ gm := by
      have h0 := h.g0
      obtain ⟨_, _, e, h5⟩ := h.hn.at (by rw [← hn]; omega)
      injection e with e; injection e with e1 e2 e3
      subst e1
      have : g < w0.heap.size := World.block_lt_of_cell? w0 _ (h5 p x 0 _ (by rw [hxx, List.getD, List.getElem?_eq_getElem (by rw [← hn]; exact hlt)]; rfl) rfl)
      omega
    clear h hcs hxx hn
    go_enter Try.func95, Try.ntmps95
    go_wp2_with fail
    go_quiet (fail)
    go_wp2_with fail
    have hP := (H.out.keep ((Chg.refl [] w).drewN nq)).bump (by rw [← HN.out]; exact hlt)
    have hcx : ((w.drewN nq).setCell ⟨gm, 3, none⟩ (.int .i64 ((p : Int) + 1))).cell? ⟨g, off + p, none⟩ = some (.int .i64 x) := (((Chg.refl [gm] w).drewN nq).setCell (by simp) _).cell hx (by simpa using hgs)
    have HCW := Lib.hid (show Chg [gm] w ((w.drewN nq).setCell ⟨gm, 3, none⟩ (.int .i64 ((p : Int) + 1))) from ((Chg.refl [gm] w).drewN nq).setCell (by simp) _)
    generalize (w.drewN nq).setCell ⟨gm, 3, none⟩ (.int .i64 ((p : Int) + 1)) = W1 at hP hcx HCW ⊢
    obtain ⟨b0, b1, b2, b3, -⟩ := hP.cells
    rw [show (((p + 1 : Nat)) : Int) = (p : Int) + 1 by omega] at b3
    have HP := Lib.hid hP
    clear hP c0 c1 c2 c3 hfz hx d1 d1'
    go_quiet (fail)
    go_wp2
    go_ret
    rw [E.out]
    exact ⟨rfl, HP.out.keep ((Chg.refl [] W1).drewN _), HCW.out.drewN _⟩
  · have E := Lib.hid (show nx ns p = (0, p) by unfold nx; rw [if_neg (by rw [← hn]; exact hlt)])
    have d1 : decide ((n : Int) ≤ (p : Int)) = true := by simp; omega
    have d1' : n ≤ p := by omega
    clear h hn
    go_enter Try.func95, Try.ntmps95
    go_wp2_with fail
    go_quiet (fail)
    go_wp2
    go_ret
    rw [E.out]
    exact ⟨rfl, H.out.keep ((Chg.refl [] w).drewN _), (Chg.refl _ w).drewN _⟩

end Go.Proofs.Ytfdmbpfpdijpdaa

namespace Go.Proofs.Ytfdmbpfpdijpdaa
open Go.RowKit
set_option linter.unusedVariables false

theorem ret_tree {fn : Func} (hres : fn.results = #[.cell 4 57]) {post : Ending → World → Prop} {a : Act} {W : World} {gr : Nat} {x y z : Value} (h4 : a.tmps.getD 4 undef = .pointer (some ⟨gr, 0, none⟩)) (hd : a.defers = []) (hh : W.heap[gr]? = some (.cells #[x, y, z] 57 (0, 0))) (hp : post (.returned (.agg #[x, y, z])) W) : bodyPost Try.prog fn post .ret a W :=
  bodyPost_ret (results_cell_row hres a.tmps W gr _ _ _ _ h4 hh Try.underlying57 rfl (by kernel_rfl)) hd hp

theorem set3 {W : World} {gr : Nat} {T : TypeId} {a b c : Value} (hb : W.heap[gr]? = some (.cells #[a, b, c] T (0, 0))) (x y z : Value) : (((W.setCell ⟨gr, 0, none⟩ x).setCell ⟨gr, 1, none⟩ y).setCell ⟨gr, 2, none⟩ z).heap[gr]? = some (.cells #[x, y, z] T (0, 0)) := by
  rw [heap_set (heap_set (heap_set hb x) y) z]
  rfl

theorem chg3 {S : List Nat} {a W : World} (h : Chg S a W) {gr : Nat} (hg : gr ∈ S ∨ a.heap.size ≤ gr) (x y z : Value) : Chg S a (((W.setCell ⟨gr, 0, none⟩ x).setCell ⟨gr, 1, none⟩ y).setCell ⟨gr, 2, none⟩ z) := ((h.setCell hg x).setCell hg y).setCell hg z

/-- How value stands while it goes through a group's fields. -/
structure VJ (w0 w wi : World) (gm gr gt : Nat) (l : List F) (ns : List Int) (sv pv nv : Value) (d f p1 i : Nat) (R : List (List Tr × Value)) (kv : Value) : Prop where
  rm : R.map (·.1) = (kidsTo l ns (mkT l ns d) f i p1).1
  ow : wi.ownsRow (gt + 1) 28 1 kv R.length (R.flatMap encR)
  bt : wi.heap[gt]? = some (.cells #[.int .i64 0, .string { data := #[] }, kv] 57 (0, 0))
  br : wi.heap[gr]? = some (.cells #[.int .i64 0, .string { data := #[] }, .slice none 0 0] 57 (0, 0))
  li : ∀ p ∈ R, ListIn (fun g => gt + 1 ≤ g ∧ kv.ownBlock ≠ some g) wi d p.1 p.2
  mm : MkM w0 wi gm l ns sv pv nv (kidsTo l ns (mkT l ns d) f i p1).2
  cg : Chg [gm] w wi

/-- How value stands while it goes through what is there of a field. -/
structure VI (w0 w wi : World) (gm B : Nat) (l : List F) (ns : List Int) (sv pv nv : Value) (d i p3 j : Nat) (E : List (Tr × Value)) (lv : Value) : Prop where
  em : E.map (·.1) = (mkLs (mkT l ns d i) j p3).1
  ow : wi.ownsRow B 57 3 lv E.length (E.flatMap encT)
  li : ∀ q ∈ E, KidsIn (fun g => B ≤ g ∧ lv.ownBlock ≠ some g) wi d q.1.k q.2
  mm : MkM w0 wi gm l ns sv pv nv (mkLs (mkT l ns d i) j p3).2
  cg : Chg [gm] w wi

theorem VI.len {w0 w wi : World} {gm gt : Nat} {l : List F} {ns : List Int} {sv pv nv : Value} {d i p3 j : Nat} {E : List (Tr × Value)} {lv : Value} (h : VI w0 w wi gm gt l ns sv pv nv d i p3 j E lv) : E.length = j := by
  have := congrArg List.length h.em
  rw [List.length_map, mkLs_len] at this
  exact this

theorem VJ.len {w0 w wi : World} {gm gr gt : Nat} {l : List F} {ns : List Int} {sv pv nv : Value} {d f p1 i : Nat} {R : List (List Tr × Value)} {kv : Value} (h : VJ w0 w wi gm gr gt l ns sv pv nv d f p1 i R kv) : R.length ≤ i := by
  have := congrArg List.length h.rm
  rw [List.length_map] at this
  rw [this]
  exact kidsTo_len l ns _ f i p1

theorem VI.step {w0 w wx w4 w5 : World} {gm B : Nat} {l : List F} {ns : List Int} {sv pv nv : Value} {d i p3 j : Nat} {E : List (Tr × Value)} {lv kv4 v5 : Value} {T : Tr × Nat} {o : Obj}
    (h : VI w0 w wx gm B l ns sv pv nv d i p3 j E lv) (hwB : w.heap.size ≤ B) (hT : T = mkT l ns d i (mkLs (mkT l ns d i) j p3).2) (hB : B ≤ wx.heap.size) (hgB : gm < B)
    (hk4 : KidsIn (wx.heap.size ≤ ·) w4 d T.1.k kv4) (hm4 : MkM w0 w4 gm l ns sv pv nv T.2) (hc4 : Chg [gm] wx w4)
    (hown5 : w5.ownsRow B 57 3 v5 (j + 1) (E.flatMap encT ++ encT (T.1, kv4))) (hg5 : (w4.alloc o).grownBy w5 lv.ownBlock) (hat5 : v5.ownBlock = lv.ownBlock ∨ v5.ownBlock = some (w4.alloc o).heap.size) :
    VI w0 w w5 gm B l ns sv pv nv d i p3 (j + 1) (E ++ [(T.1, kv4)]) v5 := by
  have hlen := h.len
  have hlB : ∀ g, lv.ownBlock = some g → B ≤ g ∧ g < wx.heap.size := fun g hg => ⟨own_ge h.ow g hg, own_lt h.ow g hg⟩
  have hrow : ∀ g, lv.ownBlock = some g → gm < g := fun g hg => by have := hlB g hg; omega
  have hcW : Chg lv.ownBlock.toList w4 w5 := ((Chg.refl _ w4).alloc o).grown hg5 (fun q hq => .inl (by simp [hq]))
  have hsz4 := hc4.size
  have hfin : ∀ {k : List (List Tr)} {v : Value}, KidsIn (fun g => B ≤ g ∧ lv.ownBlock ≠ some g) w4 d k v → KidsIn (fun g => B ≤ g ∧ v5.ownBlock ≠ some g) w5 d k v := fun hk => by
    have h1 := hk.lt
    have h2 := h1.keep hcW (fun g hg hm => by simp at hm; exact hg.1.2 hm)
    refine h2.mono (fun g hg => ⟨hg.1.1, fun e => ?_⟩) (Nat.le_refl _)
    rcases hat5 with h3 | h3
    · rw [h3] at e; exact hg.1.2 e
    · rw [h3] at e
      injection e with e
      have : (w4.alloc o).heap.size = w4.heap.size + 1 := by simp
      have := hg.2
      omega
  refine ⟨?_, ?_, fun q hq => ?_, ?_, ?_⟩
  · rw [List.map_append, h.em, mkLs, hT]; rfl
  · rw [List.length_append, List.flatMap_append, hlen]
    simpa using hown5
  · rcases List.mem_append.1 hq with hq | hq
    · refine hfin ((h.li q hq).keep hc4 fun g hg hm => ?_)
      simp at hm
      omega
    · simp at hq
      subst hq
      refine hfin (hk4.mono (fun g hg => ⟨Nat.le_trans hB hg, fun e => ?_⟩) (Nat.le_refl _))
      have := (hlB g e).2
      omega
  · rw [mkLs, ← hT]
    exact hm4.keepS hcW (fun g hg => by simp at hg; exact hrow g hg)
  · exact (h.cg.trans hc4 (by simp)).trans hcW (fun t ht => .inr (by simp at ht; have := hlB t ht; omega))

theorem VJ.step {w0 w wr w3 wx w5 : World} {gm gr gt : Nat} {l : List F} {ns : List Int} {sv pv nv : Value} {d f p1 i p3 c : Nat} {R : List (List Tr × Value)} {E : List (Tr × Value)} {kv lv kv5 : Value} {o : Obj}
    (h : VJ w0 w wr gm gr gt l ns sv pv nv d f p1 i R kv) (hV : VI w0 w3 wx gm w3.heap.size l ns sv pv nv d i p3 c E lv) (hc3 : Chg [gm] wr w3) (hp : (parents l).getD i 0 = (f : Int))
    (hcnt : cntF l ns i (kidsTo l ns (mkT l ns d) f i p1).2 = (c, p3)) (hgr : gr < gt) (hgm : gm < gr) (hwg : w.heap.size ≤ gt)
    (hown5 : w5.ownsRow (gt + 1) 28 1 kv5 (R.length + 1) (R.flatMap encR ++ [lv])) (hg5 : (wx.alloc o).grownBy w5 kv.ownBlock) (hat5 : kv5.ownBlock = kv.ownBlock ∨ kv5.ownBlock = some (wx.alloc o).heap.size) :
    VJ w0 w (w5.setCell ⟨gt, 2, none⟩ kv5) gm gr gt l ns sv pv nv d f p1 (i + 1) (R ++ [((mkLs (mkT l ns d i) c p3).1, lv)]) kv5 := by
  have hcX : Chg [gm] wr wx := hc3.trans hV.cg (by simp)
  have hgtl : gt < wr.heap.size := Go.lt_of_block h.bt
  have hkB : ∀ g, kv.ownBlock = some g → gt + 1 ≤ g ∧ g < wr.heap.size := fun g hg => ⟨own_ge h.ow g hg, own_lt h.ow g hg⟩
  have hk5 : ∀ g, kv5.ownBlock = some g → gt + 1 ≤ g := fun g hg => own_ge hown5 g hg
  have hs3 := hc3.size
  have hsX := hV.cg.size
  have hcW : Chg kv.ownBlock.toList wx w5 := ((Chg.refl _ wx).alloc o).grown hg5 (fun q hq => .inl (by simp [hq]))
  have hcG : Chg [gt] w5 (w5.setCell ⟨gt, 2, none⟩ kv5) := (Chg.refl [gt] w5).setCell (by simp) _
  have hlst : ListIn (w3.heap.size ≤ ·) wx d (mkLs (mkT l ns d i) c p3).1 lv := by
    rw [← hV.em]
    exact listIn_own hV.ow rfl (fun g hg => hg) fun q hq => (hV.li q hq).mono (fun g hg => hg.1) (Nat.le_refl _)
  have hfin : ∀ {x : List Tr} {v : Value}, ListIn (fun g => gt + 1 ≤ g ∧ kv.ownBlock ≠ some g) wx d x v → ListIn (fun g => gt + 1 ≤ g ∧ kv5.ownBlock ≠ some g) (w5.setCell ⟨gt, 2, none⟩ kv5) d x v := fun hk => by
    have h1 := hk.lt
    have h2 := h1.keep hcW (fun g hg hm => by simp at hm; exact hg.1.2 hm)
    have h3 := h2.keep hcG (fun g hg hm => by simp at hm; have := hg.1.1; omega)
    refine h3.mono (fun g hg => ⟨hg.1.1, fun e => ?_⟩) (Nat.le_refl _)
    rcases hat5 with h4 | h4
    · rw [h4] at e; exact hg.1.2 e
    · rw [h4] at e
      injection e with e
      have : (wx.alloc o).heap.size = wx.heap.size + 1 := by simp
      have := hg.2
      omega
  have hkid : kidsTo l ns (mkT l ns d) f (i + 1) p1 = ((kidsTo l ns (mkT l ns d) f i p1).1 ++ [(mkLs (mkT l ns d i) c p3).1], (mkLs (mkT l ns d i) c p3).2) := by
    rw [kidsTo_step hp]
    unfold stepK
    rw [Int.toNat_natCast, hcnt]
  have hb5 : ∀ g, g ≤ gt → g ≠ gm → w5.heap[g]? = wr.heap[g]? := fun g hg hne => by
    have h1 := hcX.block g (by omega) (by simpa using hne)
    have h2 := hcW.block g (by omega) (fun hm => by simp at hm; have := hkB g hm; omega)
    rw [h2, h1]
  refine ⟨?_, ?_, ?_, ?_, fun p hp => ?_, ?_, ?_⟩
  · rw [List.map_append, h.rm, hkid]; rfl
  · rw [List.length_append, List.flatMap_append]
    have := own_chg hown5 hcG (fun g hg hm => by simp at hm; have := hk5 g hg; omega)
    simpa [encR] using this
  · rw [heap_set ((hb5 gt (Nat.le_refl _) (by omega)).trans h.bt)]
    rfl
  · exact (hcG.block gr (by have := hcX.size; have := hcW.size; omega) (by simp; omega)).trans ((hb5 gr (by omega) (by omega)).trans h.br)
  · rcases List.mem_append.1 hp with hp | hp
    · refine hfin ((h.li p hp).keep hcX fun g hg hm => ?_)
      simp at hm
      omega
    · simp at hp
      subst hp
      refine hfin (hlst.mono (fun g hg => ⟨by omega, fun e => ?_⟩) (Nat.le_refl _))
      have := (hkB g e).2
      omega
  · rw [hkid]
    exact (hV.mm.keepS hcW (fun g hg => by simp at hg; have := hkB g hg; omega)).keepS hcG (fun g hg => by simp at hg; omega)
  · exact ((h.cg.trans hcX (by simp)).trans hcW (fun t ht => .inr (by simp at ht; have := hkB t ht; omega))).trans hcG (fun t ht => .inr (by simp at ht; omega))

theorem VJ.skip {w0 w wr w' : World} {gm gr gt : Nat} {l : List F} {ns : List Int} {sv pv nv : Value} {d f p1 i : Nat} {R : List (List Tr × Value)} {kv : Value} (h : VJ w0 w wr gm gr gt l ns sv pv nv d f p1 i R kv) (hp : (parents l).getD i 0 ≠ (f : Int)) (hc : Chg [] wr w') : VJ w0 w w' gm gr gt l ns sv pv nv d f p1 (i + 1) R kv := by
  refine ⟨by rw [kidsTo_skip hp]; exact h.rm, own_chg h.ow hc (by simp), hc.heap h.bt (by simp), hc.heap h.br (by simp), fun p hp => (h.li p hp).keep hc (by simp), by rw [kidsTo_skip hp]; exact h.mm.keep hc, h.cg.trans hc (by simp)⟩

theorem MkM.field {w0 w : World} {gm gs off n cap : Nat} {l : List F} {ns : List Int} {pv nv : Value} {p : Nat} (h : MkM w0 w gm l ns (.slice (some ⟨gs, off, none⟩) n cap) pv nv p) (hn : n = l.length) {j : Nat} (hj : j < n) : w.cell? ⟨gs, off + j * 4 + 1, none⟩ = some (.int .i64 (l.getD j default).r) ∧ w.cell? ⟨gs, off + j * 4 + 2, none⟩ = some (.int .i64 (l.getD j default).k) := by
  obtain ⟨g, o, e, hcs⟩ := SeenF.get (h.hs.keep h.c0) (by omega) hn.symm
  injection e with e
  injection e with e1 e2 e3
  subst e1 e2
  obtain ⟨-, a2, a3, -⟩ := hcs j hj
  exact ⟨a2, a3⟩

theorem MkM.par {w0 w : World} {gm gs off n cap : Nat} {l : List F} {ns : List Int} {sv nv : Value} {p : Nat} (h : MkM w0 w gm l ns sv (.slice (some ⟨gs, off, none⟩) n cap) nv p) (hn : n = l.length) {j : Nat} (hj : j < n) : w.cell? ⟨gs, off + j, none⟩ = some (.int .i64 ((parents l).getD j 0)) := by
  obtain ⟨g, o, e, hcs⟩ := SeenI.get (h.hp.keep h.c0) (by omega) (by rw [parents_length, hn])
  injection e with e
  injection e with e1 e2 e3
  subst e1 e2
  exact hcs j hj

/-- What value answers. -/
def MkOut (w0 : World) (gm : Nat) (l : List F) (ns : List Int) (sv pv nv : Value) (d : Nat) (r : Tr × Nat) (w : World) (e : Ending) (w' : World) : Prop :=
  ∃ kv, e = .returned (.agg #[.int .i64 r.1.n, .string r.1.s, kv]) ∧ KidsIn (w.heap.size ≤ ·) w' d r.1.k kv ∧ MkM w0 w' gm l ns sv pv nv r.2 ∧ Chg [gm] w w'

def MkC (w0 : World) (gm : Nat) (l : List F) (ns : List Int) (sv pv nv : Value) (d : Nat) : Prop :=
  ∀ (f p : Nat) (w : World), f < l.length → l.length ≤ f + d → MkM w0 w gm l ns sv pv nv p →
    Calls Try.prog 66 #[.pointer (some ⟨gm, 0, none⟩), .int .i64 (f : Int)] w fun e w' => MkOut w0 gm l ns sv pv nv d (mkT l ns d f p) w e w'

set_option maxRecDepth 100000 in
set_option maxHeartbeats 4000000 in
theorem value8_step (w0 : World) (gm : Nat) (l : List F) (ns : List Int) (sv pv nv : Value) (d : Nat) (hl : l.length ≤ 1000) (hwf : ∀ x ∈ ns, (Lit.int .i64 x).wf = true) (hI : MkC w0 gm l ns sv pv nv d) : MkC w0 gm l ns sv pv nv (d + 1) := by
  intro f p w hf hfd hM
  obtain ⟨i0, hi, hz0, hz1, hz2⟩ := info_tree
  obtain ⟨i1, ji, jz0, jz1, jz2⟩ := info_list
  obtain ⟨ao, cap, rfl, hc1, hc2⟩ := hM.hs.shape
  obtain ⟨po, pcap, rfl, hp1, hp2⟩ := hM.hp.shape
  rw [parents_length] at hp1 hM hI ⊢
  have HM := Lib.hid hM; have HI := Lib.hid hI; have HWF := Lib.hid hwf
  clear hI hwf
  obtain ⟨n, hn⟩ : ∃ n, n = l.length := ⟨_, rfl⟩
  rw [← hn] at hc1 hp1 hl hf HM HI hM ⊢ hfd
  have HN := Lib.hid hn
  have hnx : n ≤ 9223372036854775807 := by unfold maxLen at hc2; omega
  have hgl : gm < w.heap.size := Go.lt_of_block hM.bl
  have HNX := Lib.hid (next8_any w0 (w.alloc (.cells #[.int .i64 0, .string { data := #[] }, .slice none 0 0] 57)) gm l ns _ _ nv p (HM.out.keep ((Chg.refl [] w).alloc _)))
  have HE := Lib.hid (show mkT l ns (d + 1) f p = if (l.getD f default).k = 1 then (.mk ((nx ns p).1 % 2) ByteArray.empty [], (nx ns p).2)
    else if (l.getD f default).k = 2 then (.mk ((nx ns p).1 % 300 - 100) ByteArray.empty [], (nx ns p).2)
    else if (l.getD f default).k = 3 then (.mk (nx ns p).1 ByteArray.empty [], (nx ns p).2)
    else if (l.getD f default).k = 4 then (.mk 0 (abc.extract 0 ((nx ns p).1 % 9).toNat) [], (nx ns p).2)
    else (.mk 0 ByteArray.empty (kidsTo l ns (mkT l ns d) f l.length (nx ns p).2).1, (kidsTo l ns (mkT l ns d) f l.length (nx ns p).2).2) from rfl)
  obtain ⟨R, hR⟩ : ∃ R, R = mkT l ns (d + 1) f p := ⟨_, rfl⟩
  rw [← hR] at HE ⊢
  clear hR
  obtain ⟨gr, hgr⟩ : ∃ gr, gr = w.heap.size := ⟨_, rfl⟩
  have HGR := Lib.hid hgr
  clear hn hM
  go_enter Try.func66, Try.ntmps66
  go_wp2_with fail
  (with_reducible refine HNX.out.mono ?_)
  rintro e w1 ⟨rfl, hM1, hk1⟩
  have hwq : (Lit.int .i64 (nx ns p).1).wf = true := by
    unfold nx
    split
    · rename_i h
      show (Lit.int .i64 (ns.getD p 0)).wf = true
      rw [List.getD, List.getElem?_eq_getElem h]
      exact HWF.out _ (List.getElem_mem h)
    · show (Lit.int .i64 0).wf = true; decide
  obtain ⟨q, hq⟩ : ∃ q, q = (nx ns p).1 := ⟨_, rfl⟩
  obtain ⟨p1, hp1'⟩ : ∃ p1, p1 = (nx ns p).2 := ⟨_, rfl⟩
  rw [← hq] at HE hwq ⊢
  rw [← hp1'] at HE hM1
  clear hq hp1'
  have hne : gr ≠ gm := by omega
  have hb : w1.heap[gr]? = some (.cells #[.int .i64 0, .string { data := #[] }, .slice none 0 0] 57 (0, 0)) := hk1.heap (by rw [hgr]; exact heap_alloc_new w _) (by simpa using hne)
  have HCW := Lib.hid (show Chg [gm] w w1 from ((Chg.refl [gm] w).alloc _).trans hk1 (by simp))
  have HM1 := Lib.hid hM1; have HB := Lib.hid hb
  obtain ⟨c0, c1, c2, c3, hfz⟩ := hM1.cells
  obtain ⟨gs, off, rfl, hcs⟩ := SeenF.get (hM1.hs.keep hM1.c0) (by omega) HN.out.symm
  obtain ⟨-, -, a3, -⟩ := hcs f hf
  obtain ⟨gp, poff, rfl, -⟩ := SeenI.get (hM1.hp.keep hM1.c0) (by omega) (by rw [parents_length, HN.out])
  obtain ⟨kk, hkk⟩ : ∃ k, k = (l.getD f default).k := ⟨_, rfl⟩
  rw [← hkk] at a3 HE
  have HKK := Lib.hid hkk
  obtain ⟨v2, hv2⟩ : ∃ v, v = (q % (2 : Nat)).toNat := ⟨_, rfl⟩
  obtain ⟨v300, hv300⟩ : ∃ v, v = (q % (300 : Nat)).toNat := ⟨_, rfl⟩
  obtain ⟨v9, hv9⟩ : ∃ v, v = (q % (9 : Nat)).toNat := ⟨_, rfl⟩
  have hw2 := Lib.hid (fun wx => w8_int q 2 2 wx rfl (by decide) (by decide) hwq)
  have hw300 := Lib.hid (fun wx => w8_int q 300 300 wx rfl (by decide) (by decide) hwq)
  have hw9 := Lib.hid (fun wx => w8_int q 9 9 wx rfl (by decide) (by decide) hwq)
  rw [← hv2] at hw2
  rw [← hv300] at hw300
  rw [← hv9] at hw9
  have hv9l : v9 < 9 := by rw [hv9]; exact within_lt q 9 (by decide)
  have hv300l : v300 < 300 := by rw [hv300]; exact within_lt q 300 (by decide)
  have HV2 := Lib.hid (show (v2 : Int) = q % 2 by rw [hv2]; have := Int.emod_nonneg q (show (2 : Int) ≠ 0 by decide); show (((q % 2).toNat : Nat) : Int) = q % 2; omega)
  have HV300 := Lib.hid (show (v300 : Int) = q % 300 by rw [hv300]; have := Int.emod_nonneg q (show (300 : Int) ≠ 0 by decide); show (((q % 300).toNat : Nat) : Int) = q % 300; omega)
  have HV9 := Lib.hid (show v9 = (q % 9).toNat from hv9)
  clear hv2 hv300 hv9
  have hgr0 : w1.frozen? ⟨gr, 0, none⟩ = false := by simp [World.frozen?, hb]
  have hgr1 : w1.frozen? ⟨gr, 1, none⟩ = false := by simp [World.frozen?, hb]
  have hgr2 : w1.frozen? ⟨gr, 2, none⟩ = false := by simp [World.frozen?, hb]
  have hg0 : w1.cell? ⟨gr, 0, none⟩ = some (.int .i64 0) := by rw [cell_of_row w1 gr 0 _ _ _ hb]; rfl
  have hg1 : w1.cell? ⟨gr, 1, none⟩ = some (.string { data := #[] }) := by rw [cell_of_row w1 gr 1 _ _ _ hb]; rfl
  have hg2 : w1.cell? ⟨gr, 2, none⟩ = some (.slice none 0 0) := by rw [cell_of_row w1 gr 2 _ _ _ hb]; rfl
  rw [← hgr]
  clear hM1 hk1 hcs hkk hb hgr
  have HFIN := Lib.hid (show ∀ x y (R' : Tr × Nat), R = R' → R'.1.k = [] → x = Value.int .i64 R'.1.n → y = Value.string R'.1.s → R'.2 = p1 → MkOut w0 gm l ns (.slice (some ⟨gs, off, none⟩) n cap) (.slice (some ⟨gp, poff, none⟩) n pcap) nv (d + 1) R w (.returned (.agg #[x, y, .slice none 0 0])) (((w1.setCell ⟨gr, 0, none⟩ x).setCell ⟨gr, 1, none⟩ y).setCell ⟨gr, 2, none⟩ (.slice none 0 0)) from fun x y R' h1 h2 h3 h4 h5 => by
    subst h1
    refine ⟨.slice none 0 0, by rw [h3, h4], by rw [h2]; exact kidsIn_nil, ?_, chg3 HCW.out (.inr (by rw [HGR.out]; exact Nat.le_refl _)) _ _ _⟩
    rw [h5]
    exact HM1.out.keepS (chg3 (S := [gr]) (Chg.refl _ w1) (by simp) x y _) (by intro g hg; simp at hg; rw [hg, HGR.out]; exact hgl))
  by_cases h1 : kk = 1
  · have e1 : (kk == 1) = true := by simpa using h1
    have HE1 := Lib.hid (show R = (.mk (q % 2) ByteArray.empty [], p1) by rw [HE.out, if_pos h1])
    clear HE h1
    go_wp2_with (first
      | (go_at_call 96; (with_reducible refine (hw2.out _).mono ?_); rintro e w2 ⟨rfl, rfl⟩)
      | fail)
    exact ret_tree rfl rfl rfl (set3 HB.out _ _ _) (HFIN.out _ _ _ HE1.out rfl (by rw [HV2.out]; rfl) rfl rfl)
  have e1 : (kk == 1) = false := by simpa using h1
  by_cases h2 : kk = 2
  · have e2 : (kk == 2) = true := by simpa using h2
    have HE1 := Lib.hid (show R = (.mk (q % 300 - 100) ByteArray.empty [], p1) by rw [HE.out, if_neg h1, if_pos h2])
    have hz : IntKind.i64.wrap ((v300 : Int) - 100) = (v300 : Int) - 100 := IntWalk.i64_in _ (by omega)
    clear HE h1 h2
    go_wp2_with (first
      | (go_at_call 96; (with_reducible refine (hw300.out _).mono ?_); rintro e w2 ⟨rfl, rfl⟩)
      | fail)
    exact ret_tree rfl rfl rfl (set3 HB.out _ _ _) (HFIN.out _ _ _ HE1.out rfl (by rw [HV300.out]; rfl) rfl rfl)
  have e2 : (kk == 2) = false := by simpa using h2
  by_cases h3 : kk = 3
  · have e3 : (kk == 3) = true := by simpa using h3
    have HE1 := Lib.hid (show R = (.mk q ByteArray.empty [], p1) by rw [HE.out, if_neg h1, if_neg h2, if_pos h3])
    clear HE h1 h2 h3
    go_wp2
    exact ret_tree rfl rfl rfl (set3 HB.out _ _ _) (HFIN.out _ _ _ HE1.out rfl rfl rfl rfl)
  have e3 : (kk == 3) = false := by simpa using h3
  by_cases h4 : kk = 4
  · have e4 : (kk == 4) = true := by simpa using h4
    have HE1 := Lib.hid (show R = (.mk 0 (abc.extract 0 v9) [], p1) by rw [HE.out, if_neg h1, if_neg h2, if_neg h3, if_pos h4, HV9.out])
    have hv0 : (0 : Int) ≤ (v9 : Int) := by omega
    have hv12 : (v9 : Int) ≤ 12 := by omega
    clear HE h1 h2 h3 h4
    go_wp2_with (first
      | (go_at_call 96; (with_reducible refine (hw9.out _).mono ?_); rintro e w2 ⟨rfl, rfl⟩)
      | fail)
    exact ret_tree rfl rfl rfl (set3 HB.out _ _ _) (HFIN.out _ _ _ HE1.out rfl rfl rfl rfl)
  have e4 : (kk == 4) = false := by simpa using h4
  have HE1 := Lib.hid (show R = (.mk 0 ByteArray.empty (kidsTo l ns (mkT l ns d) f l.length p1).1, (kidsTo l ns (mkT l ns d) f l.length p1).2) by rw [HE.out, if_neg h1, if_neg h2, if_neg h3, if_neg h4])
  clear HE h1 h2 h3 h4 hw2 hw300 hw9 hv300l hv9l hwq
  have hwz1 : IntKind.i64.wrap ((f : Int) + 1) = (f : Int) + 1 := IntWalk.i64_in _ (by omega)
  go_wp2
  have hgt1 : gr < w1.heap.size := Go.lt_of_block HB.out
  have hgw : gm < w1.heap.size := Go.lt_of_block HM1.out.bl
  obtain ⟨gt, hgt⟩ : ∃ gt, gt = w1.heap.size := ⟨_, rfl⟩
  rw [← hgt] at hgt1 hgw ⊢
  have HGT := Lib.hid hgt
  clear hgt a3 c0 c1 c2 c3 hfz hgr0 hgr1 hgr2 hg0 hg1 hg2 HFIN HM
  go_loopw [7] (fun x wi => ∃ (i : Nat) (R : List (List Tr × Value)) (kv : Value), x = .int .i64 (i : Int) ∧ f + 1 ≤ i ∧ i ≤ n ∧ VJ w0 w wi gm gr gt l ns (.slice (some ⟨gs, off, none⟩) n cap) (.slice (some ⟨gp, poff, none⟩) n pcap) nv d f p1 i R kv) (fun x _ => n - (intOf x).toNat)
  case atStart =>
    refine ⟨f + 1, [], .slice none 0 0, by go_num, Nat.le_refl _, hf, ⟨?_, World.ownsRow_nil _ _ _ _, ?_, ((Chg.refl [] _).alloc _).heap HB.out (by simp), by simp, ?_, HCW.out.alloc _⟩⟩
    · rw [kidsTo_low l ns _ f p1 (by rw [← HN.out]; exact hf)]; rfl
    · rw [HGT.out]; exact heap_alloc_new w1 _
    · rw [kidsTo_low l ns _ f p1 (by rw [← HN.out]; exact hf)]
      exact HM1.out.keep ((Chg.refl [] _).alloc _)
  case round =>
    obtain ⟨i, R1, kv, rfl, hfi, hin, hJ⟩ := hrel
    obtain ⟨ka, kc, rfl⟩ := own_shape hJ.ow
    have hRl := hJ.len
    have HJ := Lib.hid hJ
    obtain ⟨m, hm⟩ : ∃ m, m = R1.length := ⟨_, rfl⟩
    rw [← hm] at HJ hRl
    have HM := Lib.hid hm
    clear hm
    obtain ⟨c0, c1, c2, c3, hfz⟩ := hJ.mm.cells
    clear hJ
    by_cases hlt : i < n
    · obtain ⟨b2', -⟩ := HJ.out.mm.field HN.out hlt
      have hpc := HJ.out.mm.par HN.out hlt
      have d13 : decide ((i : Int) < (n : Int)) = true := by simp; omega
      obtain ⟨x, hx⟩ : ∃ x, x = (parents l).getD i 0 := ⟨_, rfl⟩
      rw [← hx] at hpc
      have HX := Lib.hid hx
      clear hx
      by_cases hxf : x = (f : Int)
      · subst hxf
        have d14 : ((f : Int) != (f : Int)) = false := by simp
        obtain ⟨r, hr⟩ : ∃ r, r = (l.getD i default).r := ⟨_, rfl⟩
        rw [← hr] at b2'
        have HRR := Lib.hid hr
        obtain ⟨pos, hpos⟩ : ∃ p, p = (kidsTo l ns (mkT l ns d) f i p1).2 := ⟨_, rfl⟩
        have hmm := HJ.out.mm
        rw [← hpos] at hmm
        have HMJ := Lib.hid hmm; have HPOS := Lib.hid hpos
        clear hr hmm hpos
        have hnw : (Lit.int .i64 (nx ns pos).1).wf = true := by
          unfold nx
          split
          · rename_i h
            show (Lit.int .i64 (ns.getD pos 0)).wf = true
            rw [List.getD, List.getElem?_eq_getElem h]
            exact HWF.out _ (List.getElem_mem h)
          · show (Lit.int .i64 0).wf = true; decide
        by_cases hr1 : r = 1
        · have e11 : (r == 1) = true := by simpa using hr1
          have e12 : (r == 2) = false := by simp; omega
          obtain ⟨c, hc⟩ : ∃ c, c = ((nx ns pos).1 % (2 : Nat)).toNat := ⟨_, rfl⟩
          have hcl : c < 2 := by rw [hc]; exact within_lt _ 2 (by decide)
          have hwc := Lib.hid (fun wx => w8_int (nx ns pos).1 2 2 wx rfl (by decide) (by decide) hnw)
          rw [← hc] at hwc
          have HNX2 := Lib.hid (next8_any w0 wr gm l ns _ _ nv pos HMJ.out)
          have HCNT := Lib.hid (show cntF l ns i pos = (c, (nx ns pos).2) by unfold cntF; rw [if_pos (by rw [← HRR.out]; exact hr1), hc]; rfl)
          obtain ⟨q3, hq3⟩ : ∃ q, q = (nx ns pos).1 := ⟨_, rfl⟩
          obtain ⟨p3, hp3⟩ : ∃ q, q = (nx ns pos).2 := ⟨_, rfl⟩
          rw [← hq3] at HNX2 hwc
          rw [← hp3] at HNX2 HCNT
          clear hq3 hp3 hc hnw
          go_wp2_with (first
            | (go_at_call 95; (with_reducible refine HNX2.out.mono ?_); rintro e w3 ⟨rfl, hM3, hk3⟩; have HM3 := Lib.hid hM3; have HK3 := Lib.hid hk3; obtain ⟨b2', -⟩ := hM3.field HN.out hlt; rw [← HRR.out] at b2'; obtain ⟨c0, c1, c2, c3, hfz⟩ := hM3.cells; clear hM3 hk3)
            | (go_at_call 96; (with_reducible refine (hwc.out _).mono ?_); rintro e w2 ⟨rfl, rfl⟩)
            | fail)
          clear hr1
          go_loopw [9, 10] (fun lv x wi => ∃ (j : Nat) (E : List (Tr × Value)), x = .int .i64 (j : Int) ∧ j ≤ c ∧ VI w0 w3 wi gm w3.heap.size l ns (.slice (some ⟨gs, off, none⟩) n cap) (.slice (some ⟨gp, poff, none⟩) n pcap) nv d i p3 j E lv) (fun _ x _ => c - (intOf x).toNat)
          case atStart => exact ⟨0, [], rfl, Nat.zero_le _, ⟨rfl, ⟨rfl, .inl ⟨rfl, rfl⟩⟩, by simp, HM3.out, Chg.refl _ _⟩⟩
          case round =>
            obtain ⟨j, E, rfl, hj, hV⟩ := hrel
            have hlen := hV.len
            obtain ⟨la, lc, rfl⟩ := own_shape hV.ow
            have hown := hV.ow
            rw [hlen] at hV hown ⊢
            have HV := Lib.hid hV; have HLEN := Lib.hid hlen; have HOW := Lib.hid hown
            obtain ⟨b0, b1, b2, b3, bfz⟩ := hV.mm.cells
            clear hV hlen hown
            by_cases hjc : j < c
            · have hjd : decide ((j : Int) < (c : Int)) = true := by simp; omega
              obtain ⟨T4, hT4⟩ : ∃ T, T = mkT l ns d i (mkLs (mkT l ns d i) j p3).2 := ⟨_, rfl⟩
              have hIV := HI.out i _ _ (by rw [← HN.out]; exact hlt) (by rw [← HN.out]; omega) HV.out.mm
              rw [← hT4] at hIV
              have HIV := Lib.hid hIV; have HT4 := Lib.hid hT4
              have HW3 := Lib.hid (show w3.heap.size ≤ wr.heap.size from HV.out.cg.size)
              have HGM := Lib.hid (show gm < w3.heap.size from Go.lt_of_block HM3.out.bl)
              clear hIV hT4
              go_wp2_with (first
                | (go_at_call 66; (with_reducible refine HIV.out.mono ?_); rintro e w4 ⟨kv4, rfl, hk4, hm4, hc4⟩; obtain ⟨ko4, kc4, rfl, -, -⟩ := hk4.shape; have HO4 := Lib.hid (own_chg HOW.out hc4 (fun g hg hm => by simp at hm; have := own_ge HOW.out g hg; have := HGM.out; omega)); have HZ4 := Lib.hid (Nat.le_trans HW3.out hc4.size); have HK4 := Lib.hid hk4; have HM4 := Lib.hid hm4; have HC4 := Lib.hid hc4; clear hk4 hm4 hc4)
                | (at_builtin; refine wpList_append_at _ rfl (.tmp 92) (.tmp 96) _ rfl w3.heap.size 57 i0 (.agg #[.int .i64 0, .string ByteArray.empty, .slice none 0 0]) 3 48 Try.underlying28 hi hz0 hz1 hz2 rfl (by decide) (.slice la j lc) j (E.flatMap encT) rfl (HO4.out.alloc _) ⟨w4.heap.size, 0, none⟩ 1 1 (encT (T4.1, .slice ko4 T4.1.k.length kc4)) rfl rfl (new_cells (C := #[.int .i64 T4.1.n, .string T4.1.s, .slice ko4 T4.1.k.length kc4]) _ rfl) (encT_one _ rfl) (by unfold maxLen; omega) (by omega) (le_alloc HZ4.out _) ?_; intro v5 w5 hown5 hg5 hat5; obtain ⟨la5, lc5, rfl⟩ := own_shape hown5; have HO5 := Lib.hid hown5; have HG5 := Lib.hid hg5; have HA5 := Lib.hid hat5; clear hown5 hg5 hat5)
                | fail)
              go_roundw
              case rel =>
                have hst := VI.step (lv := .slice la j lc) HV.out (Nat.le_refl _) HT4.out HW3.out HGM.out HK4.out HM4.out HC4.out HO5.out HG5.out HA5.out
                exact ⟨j + 1, _, by go_num, by omega, hst⟩
              case measure => simp [intOf]; omega
            · have hjd : decide ((j : Int) < (c : Int)) = false := by simp; omega
              have EJ := Lib.hid (show j = c by omega)
              have hcX : Chg [gm] _ wr := HK3.out.trans HV.out.cg (by simp)
              have hbt := hcX.heap HJ.out.bt (by simp; omega)
              have t2 : wr.cell? ⟨gt, 2, none⟩ = some (.slice ka m kc) := by rw [cell_of_row wr gt 2 _ _ _ hbt]; rfl
              have HOK := Lib.hid (own_chg HJ.out.ow hcX (fun g hg hm => by simp at hm; have := own_ge HJ.out.ow g hg; omega))
              have HGB := Lib.hid (show ∀ g, (Value.slice ka m kc).ownBlock = some g → gt + 1 ≤ g from fun g hg => own_ge HJ.out.ow g hg)
              rw [← HM.out] at HOK
              have HWG := Lib.hid (show gt + 1 ≤ wr.heap.size from Go.lt_of_block hbt)
              have HF2 := Lib.hid (show ∀ o wx, (wr.alloc o).grownBy wx (Value.slice ka m kc).ownBlock → wx.frozen? ⟨gt, 2, none⟩ = false ∧ wx.cell? ⟨gt, 2, none⟩ = some (.slice ka m kc) from fun o wx hg => by
                have h1 := ((Chg.refl [] wr).alloc o).heap hbt (by simp)
                have h2 := (hg.block gt (Go.lt_of_block h1) (fun e => by have := HGB.out gt e.symm; omega)).trans h1
                exact ⟨by simp [World.frozen?, h2], by rw [cell_of_row wx gt 2 _ _ _ h2]; rfl⟩)
              clear hbt hcX
              go_wp2_with (first
                | (at_builtin; refine wpList_append_at _ rfl (.tmp 99) (.tmp 101) _ rfl (gt + 1) 28 i1 (.slice none 0 0) 1 24 Try.underlying55 ji jz0 jz1 jz2 rfl (by decide) (.slice ka m kc) m (R1.flatMap encR) rfl (HOK.out.alloc _) ⟨wr.heap.size, 0, none⟩ 1 1 [.slice la j lc] rfl rfl new_cell (by simp [Value.oneCell']) (by unfold maxLen; omega) (by omega) (le_alloc HWG.out _) ?_; intro v6 w6 hown6 hg6 hat6; obtain ⟨ka6, kc6, rfl⟩ := own_shape hown6; obtain ⟨hfr6, hcl6⟩ := HF2.out _ _ hg6; have HO6 := Lib.hid hown6; have HG6 := Lib.hid hg6; have HA6 := Lib.hid hat6; clear hown6 hg6 hat6)
                | fail)
              go_roundw
              case rel =>
                have hst := VJ.step (c := j) (kv := .slice ka m kc) (lv := .slice la j lc) HJ.out HV.out HK3.out HX.out.symm (by rw [← HPOS.out, HCNT.out, EJ.out]) hgt1 (by have := HGR.out; omega) (by have := HGR.out; omega) (by rw [← HM.out]; exact HO6.out) HG6.out HA6.out
                exact ⟨i + 1, _, _, by go_num, by omega, by omega, hst⟩
              case measure => simp [intOf]; omega
        have e11 : (r == 1) = false := by simpa using hr1
        by_cases hr2 : r = 2
        · have e12 : (r == 2) = true := by simpa using hr2
          obtain ⟨c, hc⟩ : ∃ c, c = ((nx ns pos).1 % (4 : Nat)).toNat := ⟨_, rfl⟩
          have hcl : c < 4 := by rw [hc]; exact within_lt _ 4 (by decide)
          have hwc := Lib.hid (fun wx => w8_int (nx ns pos).1 4 4 wx rfl (by decide) (by decide) hnw)
          rw [← hc] at hwc
          have HNX2 := Lib.hid (next8_any w0 wr gm l ns _ _ nv pos HMJ.out)
          have HCNT := Lib.hid (show cntF l ns i pos = (c, (nx ns pos).2) by unfold cntF; rw [if_neg (by rw [← HRR.out]; exact hr1), if_pos (by rw [← HRR.out]; exact hr2), hc]; rfl)
          obtain ⟨q3, hq3⟩ : ∃ q, q = (nx ns pos).1 := ⟨_, rfl⟩
          obtain ⟨p3, hp3⟩ : ∃ q, q = (nx ns pos).2 := ⟨_, rfl⟩
          rw [← hq3] at HNX2 hwc
          rw [← hp3] at HNX2 HCNT
          clear hq3 hp3 hc hnw
          go_wp2_with (first
            | (go_at_call 95; (with_reducible refine HNX2.out.mono ?_); rintro e w3 ⟨rfl, hM3, hk3⟩; have HM3 := Lib.hid hM3; have HK3 := Lib.hid hk3; obtain ⟨b2', -⟩ := hM3.field HN.out hlt; rw [← HRR.out] at b2'; obtain ⟨c0, c1, c2, c3, hfz⟩ := hM3.cells; clear hM3 hk3)
            | (go_at_call 96; (with_reducible refine (hwc.out _).mono ?_); rintro e w2 ⟨rfl, rfl⟩)
            | fail)
          clear hr1 hr2
          go_loopw [9, 10] (fun lv x wi => ∃ (j : Nat) (E : List (Tr × Value)), x = .int .i64 (j : Int) ∧ j ≤ c ∧ VI w0 w3 wi gm w3.heap.size l ns (.slice (some ⟨gs, off, none⟩) n cap) (.slice (some ⟨gp, poff, none⟩) n pcap) nv d i p3 j E lv) (fun _ x _ => c - (intOf x).toNat)
          case atStart => exact ⟨0, [], rfl, Nat.zero_le _, ⟨rfl, ⟨rfl, .inl ⟨rfl, rfl⟩⟩, by simp, HM3.out, Chg.refl _ _⟩⟩
          case round =>
            obtain ⟨j, E, rfl, hj, hV⟩ := hrel
            have hlen := hV.len
            obtain ⟨la, lc, rfl⟩ := own_shape hV.ow
            have hown := hV.ow
            rw [hlen] at hV hown ⊢
            have HV := Lib.hid hV; have HLEN := Lib.hid hlen; have HOW := Lib.hid hown
            obtain ⟨b0, b1, b2, b3, bfz⟩ := hV.mm.cells
            clear hV hlen hown
            by_cases hjc : j < c
            · have hjd : decide ((j : Int) < (c : Int)) = true := by simp; omega
              obtain ⟨T4, hT4⟩ : ∃ T, T = mkT l ns d i (mkLs (mkT l ns d i) j p3).2 := ⟨_, rfl⟩
              have hIV := HI.out i _ _ (by rw [← HN.out]; exact hlt) (by rw [← HN.out]; omega) HV.out.mm
              rw [← hT4] at hIV
              have HIV := Lib.hid hIV; have HT4 := Lib.hid hT4
              have HW3 := Lib.hid (show w3.heap.size ≤ wr.heap.size from HV.out.cg.size)
              have HGM := Lib.hid (show gm < w3.heap.size from Go.lt_of_block HM3.out.bl)
              clear hIV hT4
              go_wp2_with (first
                | (go_at_call 66; (with_reducible refine HIV.out.mono ?_); rintro e w4 ⟨kv4, rfl, hk4, hm4, hc4⟩; obtain ⟨ko4, kc4, rfl, -, -⟩ := hk4.shape; have HO4 := Lib.hid (own_chg HOW.out hc4 (fun g hg hm => by simp at hm; have := own_ge HOW.out g hg; have := HGM.out; omega)); have HZ4 := Lib.hid (Nat.le_trans HW3.out hc4.size); have HK4 := Lib.hid hk4; have HM4 := Lib.hid hm4; have HC4 := Lib.hid hc4; clear hk4 hm4 hc4)
                | (at_builtin; refine wpList_append_at _ rfl (.tmp 92) (.tmp 96) _ rfl w3.heap.size 57 i0 (.agg #[.int .i64 0, .string ByteArray.empty, .slice none 0 0]) 3 48 Try.underlying28 hi hz0 hz1 hz2 rfl (by decide) (.slice la j lc) j (E.flatMap encT) rfl (HO4.out.alloc _) ⟨w4.heap.size, 0, none⟩ 1 1 (encT (T4.1, .slice ko4 T4.1.k.length kc4)) rfl rfl (new_cells (C := #[.int .i64 T4.1.n, .string T4.1.s, .slice ko4 T4.1.k.length kc4]) _ rfl) (encT_one _ rfl) (by unfold maxLen; omega) (by omega) (le_alloc HZ4.out _) ?_; intro v5 w5 hown5 hg5 hat5; obtain ⟨la5, lc5, rfl⟩ := own_shape hown5; have HO5 := Lib.hid hown5; have HG5 := Lib.hid hg5; have HA5 := Lib.hid hat5; clear hown5 hg5 hat5)
                | fail)
              go_roundw
              case rel =>
                have hst := VI.step (lv := .slice la j lc) HV.out (Nat.le_refl _) HT4.out HW3.out HGM.out HK4.out HM4.out HC4.out HO5.out HG5.out HA5.out
                exact ⟨j + 1, _, by go_num, by omega, hst⟩
              case measure => simp [intOf]; omega
            · have hjd : decide ((j : Int) < (c : Int)) = false := by simp; omega
              have EJ := Lib.hid (show j = c by omega)
              have hcX : Chg [gm] _ wr := HK3.out.trans HV.out.cg (by simp)
              have hbt := hcX.heap HJ.out.bt (by simp; omega)
              have t2 : wr.cell? ⟨gt, 2, none⟩ = some (.slice ka m kc) := by rw [cell_of_row wr gt 2 _ _ _ hbt]; rfl
              have HOK := Lib.hid (own_chg HJ.out.ow hcX (fun g hg hm => by simp at hm; have := own_ge HJ.out.ow g hg; omega))
              have HGB := Lib.hid (show ∀ g, (Value.slice ka m kc).ownBlock = some g → gt + 1 ≤ g from fun g hg => own_ge HJ.out.ow g hg)
              rw [← HM.out] at HOK
              have HWG := Lib.hid (show gt + 1 ≤ wr.heap.size from Go.lt_of_block hbt)
              have HF2 := Lib.hid (show ∀ o wx, (wr.alloc o).grownBy wx (Value.slice ka m kc).ownBlock → wx.frozen? ⟨gt, 2, none⟩ = false ∧ wx.cell? ⟨gt, 2, none⟩ = some (.slice ka m kc) from fun o wx hg => by
                have h1 := ((Chg.refl [] wr).alloc o).heap hbt (by simp)
                have h2 := (hg.block gt (Go.lt_of_block h1) (fun e => by have := HGB.out gt e.symm; omega)).trans h1
                exact ⟨by simp [World.frozen?, h2], by rw [cell_of_row wx gt 2 _ _ _ h2]; rfl⟩)
              clear hbt hcX
              go_wp2_with (first
                | (at_builtin; refine wpList_append_at _ rfl (.tmp 99) (.tmp 101) _ rfl (gt + 1) 28 i1 (.slice none 0 0) 1 24 Try.underlying55 ji jz0 jz1 jz2 rfl (by decide) (.slice ka m kc) m (R1.flatMap encR) rfl (HOK.out.alloc _) ⟨wr.heap.size, 0, none⟩ 1 1 [.slice la j lc] rfl rfl new_cell (by simp [Value.oneCell']) (by unfold maxLen; omega) (by omega) (le_alloc HWG.out _) ?_; intro v6 w6 hown6 hg6 hat6; obtain ⟨ka6, kc6, rfl⟩ := own_shape hown6; obtain ⟨hfr6, hcl6⟩ := HF2.out _ _ hg6; have HO6 := Lib.hid hown6; have HG6 := Lib.hid hg6; have HA6 := Lib.hid hat6; clear hown6 hg6 hat6)
                | fail)
              go_roundw
              case rel =>
                have hst := VJ.step (c := j) (kv := .slice ka m kc) (lv := .slice la j lc) HJ.out HV.out HK3.out HX.out.symm (by rw [← HPOS.out, HCNT.out, EJ.out]) hgt1 (by have := HGR.out; omega) (by have := HGR.out; omega) (by rw [← HM.out]; exact HO6.out) HG6.out HA6.out
                exact ⟨i + 1, _, _, by go_num, by omega, by omega, hst⟩
              case measure => simp [intOf]; omega
        · have e12 : (r == 2) = false := by simpa using hr2
          obtain ⟨p3, hp3⟩ : ∃ q, q = pos := ⟨_, rfl⟩
          have HCNT := Lib.hid (show cntF l ns i pos = (1, p3) by unfold cntF; rw [if_neg (by rw [← HRR.out]; exact hr1), if_neg (by rw [← HRR.out]; exact hr2), hp3])
          have HK3 := Lib.hid (Chg.refl [gm] wr)
          have hM3 := HMJ.out
          rw [← hp3] at hM3
          have HM3 := Lib.hid hM3
          clear hr1 hr2 hp3 hM3 hnw
          generalize wr = w3 at *
          go_wp2
          go_loopw [9, 10] (fun lv x wi => ∃ (j : Nat) (E : List (Tr × Value)), x = .int .i64 (j : Int) ∧ j ≤ 1 ∧ VI w0 w3 wi gm w3.heap.size l ns (.slice (some ⟨gs, off, none⟩) n cap) (.slice (some ⟨gp, poff, none⟩) n pcap) nv d i p3 j E lv) (fun _ x _ => 1 - (intOf x).toNat)
          case atStart => exact ⟨0, [], rfl, Nat.zero_le _, ⟨rfl, ⟨rfl, .inl ⟨rfl, rfl⟩⟩, by simp, HM3.out, Chg.refl _ _⟩⟩
          case round =>
            obtain ⟨j, E, rfl, hj, hV⟩ := hrel
            have hlen := hV.len
            obtain ⟨la, lc, rfl⟩ := own_shape hV.ow
            have hown := hV.ow
            rw [hlen] at hV hown ⊢
            have HV := Lib.hid hV; have HLEN := Lib.hid hlen; have HOW := Lib.hid hown
            obtain ⟨b0, b1, b2, b3, bfz⟩ := hV.mm.cells
            clear hV hlen hown
            by_cases hjc : j < 1
            · have hjd : decide ((j : Int) < (1 : Int)) = true := by simp; omega
              obtain ⟨T4, hT4⟩ : ∃ T, T = mkT l ns d i (mkLs (mkT l ns d i) j p3).2 := ⟨_, rfl⟩
              have hIV := HI.out i _ _ (by rw [← HN.out]; exact hlt) (by rw [← HN.out]; omega) HV.out.mm
              rw [← hT4] at hIV
              have HIV := Lib.hid hIV; have HT4 := Lib.hid hT4
              have HW3 := Lib.hid (show w3.heap.size ≤ wr.heap.size from HV.out.cg.size)
              have HGM := Lib.hid (show gm < w3.heap.size from Go.lt_of_block HM3.out.bl)
              clear hIV hT4
              go_wp2_with (first
                | (go_at_call 66; (with_reducible refine HIV.out.mono ?_); rintro e w4 ⟨kv4, rfl, hk4, hm4, hc4⟩; obtain ⟨ko4, kc4, rfl, -, -⟩ := hk4.shape; have HO4 := Lib.hid (own_chg HOW.out hc4 (fun g hg hm => by simp at hm; have := own_ge HOW.out g hg; have := HGM.out; omega)); have HZ4 := Lib.hid (Nat.le_trans HW3.out hc4.size); have HK4 := Lib.hid hk4; have HM4 := Lib.hid hm4; have HC4 := Lib.hid hc4; clear hk4 hm4 hc4)
                | (at_builtin; refine wpList_append_at _ rfl (.tmp 92) (.tmp 96) _ rfl w3.heap.size 57 i0 (.agg #[.int .i64 0, .string ByteArray.empty, .slice none 0 0]) 3 48 Try.underlying28 hi hz0 hz1 hz2 rfl (by decide) (.slice la j lc) j (E.flatMap encT) rfl (HO4.out.alloc _) ⟨w4.heap.size, 0, none⟩ 1 1 (encT (T4.1, .slice ko4 T4.1.k.length kc4)) rfl rfl (new_cells (C := #[.int .i64 T4.1.n, .string T4.1.s, .slice ko4 T4.1.k.length kc4]) _ rfl) (encT_one _ rfl) (by unfold maxLen; omega) (by omega) (le_alloc HZ4.out _) ?_; intro v5 w5 hown5 hg5 hat5; obtain ⟨la5, lc5, rfl⟩ := own_shape hown5; have HO5 := Lib.hid hown5; have HG5 := Lib.hid hg5; have HA5 := Lib.hid hat5; clear hown5 hg5 hat5)
                | fail)
              go_roundw
              case rel =>
                have hst := VI.step (lv := .slice la j lc) HV.out (Nat.le_refl _) HT4.out HW3.out HGM.out HK4.out HM4.out HC4.out HO5.out HG5.out HA5.out
                exact ⟨j + 1, _, by go_num, by omega, hst⟩
              case measure => simp [intOf]; omega
            · have hjd : decide ((j : Int) < (1 : Int)) = false := by simp; omega
              have EJ := Lib.hid (show j = 1 by omega)
              have hcX : Chg [gm] _ wr := HK3.out.trans HV.out.cg (by simp)
              have hbt := hcX.heap HJ.out.bt (by simp; omega)
              have t2 : wr.cell? ⟨gt, 2, none⟩ = some (.slice ka m kc) := by rw [cell_of_row wr gt 2 _ _ _ hbt]; rfl
              have HOK := Lib.hid (own_chg HJ.out.ow hcX (fun g hg hm => by simp at hm; have := own_ge HJ.out.ow g hg; omega))
              have HGB := Lib.hid (show ∀ g, (Value.slice ka m kc).ownBlock = some g → gt + 1 ≤ g from fun g hg => own_ge HJ.out.ow g hg)
              rw [← HM.out] at HOK
              have HWG := Lib.hid (show gt + 1 ≤ wr.heap.size from Go.lt_of_block hbt)
              have HF2 := Lib.hid (show ∀ o wx, (wr.alloc o).grownBy wx (Value.slice ka m kc).ownBlock → wx.frozen? ⟨gt, 2, none⟩ = false ∧ wx.cell? ⟨gt, 2, none⟩ = some (.slice ka m kc) from fun o wx hg => by
                have h1 := ((Chg.refl [] wr).alloc o).heap hbt (by simp)
                have h2 := (hg.block gt (Go.lt_of_block h1) (fun e => by have := HGB.out gt e.symm; omega)).trans h1
                exact ⟨by simp [World.frozen?, h2], by rw [cell_of_row wx gt 2 _ _ _ h2]; rfl⟩)
              clear hbt hcX
              go_wp2_with (first
                | (at_builtin; refine wpList_append_at _ rfl (.tmp 99) (.tmp 101) _ rfl (gt + 1) 28 i1 (.slice none 0 0) 1 24 Try.underlying55 ji jz0 jz1 jz2 rfl (by decide) (.slice ka m kc) m (R1.flatMap encR) rfl (HOK.out.alloc _) ⟨wr.heap.size, 0, none⟩ 1 1 [.slice la j lc] rfl rfl new_cell (by simp [Value.oneCell']) (by unfold maxLen; omega) (by omega) (le_alloc HWG.out _) ?_; intro v6 w6 hown6 hg6 hat6; obtain ⟨ka6, kc6, rfl⟩ := own_shape hown6; obtain ⟨hfr6, hcl6⟩ := HF2.out _ _ hg6; have HO6 := Lib.hid hown6; have HG6 := Lib.hid hg6; have HA6 := Lib.hid hat6; clear hown6 hg6 hat6)
                | fail)
              go_roundw
              case rel =>
                have hst := VJ.step (c := j) (kv := .slice ka m kc) (lv := .slice la j lc) HJ.out HV.out HK3.out HX.out.symm (by rw [← HPOS.out, HCNT.out, EJ.out]) hgt1 (by have := HGR.out; omega) (by have := HGR.out; omega) (by rw [← HM.out]; exact HO6.out) HG6.out HA6.out
                exact ⟨i + 1, _, _, by go_num, by omega, by omega, hst⟩
              case measure => simp [intOf]; omega
      · have d14 : (x != (f : Int)) = true := by simpa using hxf
        go_wp2
        go_roundw
        case rel => exact ⟨i + 1, R1, _, by go_num, by omega, by omega, HJ.out.skip (by rw [← HX.out]; exact hxf) (Chg.refl [] _)⟩
        case measure => simp [intOf]; omega
    · have hie : i = n := by omega
      have t0 : wr.cell? ⟨gt, 0, none⟩ = some (.int .i64 0) := by rw [cell_of_row wr gt 0 _ _ _ HJ.out.bt]; rfl
      have t1 : wr.cell? ⟨gt, 1, none⟩ = some (.string { data := #[] }) := by rw [cell_of_row wr gt 1 _ _ _ HJ.out.bt]; rfl
      have t2 : wr.cell? ⟨gt, 2, none⟩ = some (.slice ka m kc) := by rw [cell_of_row wr gt 2 _ _ _ HJ.out.bt]; rfl
      have r0 : wr.cell? ⟨gr, 0, none⟩ = some (.int .i64 0) := by rw [cell_of_row wr gr 0 _ _ _ HJ.out.br]; rfl
      have r1 : wr.cell? ⟨gr, 1, none⟩ = some (.string { data := #[] }) := by rw [cell_of_row wr gr 1 _ _ _ HJ.out.br]; rfl
      have r2 : wr.cell? ⟨gr, 2, none⟩ = some (.slice none 0 0) := by rw [cell_of_row wr gr 2 _ _ _ HJ.out.br]; rfl
      have hgr0 : wr.frozen? ⟨gr, 0, none⟩ = false := by simp [World.frozen?, HJ.out.br]
      have hgr1 : wr.frozen? ⟨gr, 1, none⟩ = false := by simp [World.frozen?, HJ.out.br]
      have hgr2 : wr.frozen? ⟨gr, 2, none⟩ = false := by simp [World.frozen?, HJ.out.br]
      have HIE := Lib.hid (show i = l.length by rw [hie, HN.out])
      clear hie
      go_wp2
      refine ret_tree rfl rfl rfl (set3 HJ.out.br _ _ _) ?_
      rw [HE1.out]
      have hc3 := chg3 (S := [gr]) (Chg.refl _ wr) (gr := gr) (by simp) (.int .i64 0) (.string { data := #[] }) (.slice ka m kc)
      refine ⟨.slice ka m kc, rfl, ?_, ?_, chg3 HJ.out.cg (.inr (by rw [HGR.out]; exact Nat.le_refl _)) _ _ _⟩
      · show KidsIn _ _ (d + 1) (kidsTo l ns (mkT l ns d) f l.length p1).1 (.slice ka m kc)
        rw [← HIE.out, ← HJ.out.rm]
        exact ((kidsIn_own HJ.out.ow rfl (fun g hg => hg) fun q hq => (HJ.out.li q hq).mono (fun g hg => hg.1) (Nat.le_refl _)).keep hc3 (fun g hg hm => by simp at hm; omega)).mono (fun g hg => by have := HGR.out; omega) (Nat.le_refl _)
      · show MkM _ _ _ _ _ _ _ _ (kidsTo l ns (mkT l ns d) f l.length p1).2
        rw [← HIE.out]
        exact HJ.out.mm.keepS hc3 (by intro g hg; simp at hg; rw [hg, HGR.out]; exact hgl)

end Go.Proofs.Ytfdmbpfpdijpdaa

namespace Go.Proofs.Ytfdmbpfpdijpdaa
open Go.RowKit
set_option linter.unusedVariables false

theorem value8_any (w0 : World) (gm : Nat) (l : List F) (ns : List Int) (sv pv nv : Value) (hl : l.length ≤ 1000) (hwf : ∀ x ∈ ns, (Lit.int .i64 x).wf = true) : ∀ d, MkC w0 gm l ns sv pv nv d
  | 0 => fun f p w hf hd _ => absurd hd (by omega)
  | d + 1 => value8_step w0 gm l ns sv pv nv d hl hwf (value8_any w0 gm l ns sv pv nv hl hwf d)

/-- A record of raw numbers. -/
def mk8 (l : List F) (ns : List Int) : Tr := (mkT l ns l.length 0 0).1

set_option maxRecDepth 100000 in
set_option maxHeartbeats 1000000 in
theorem make8_any (sv nv : Value) (l : List F) (ns : List Int) (w : World) (hS : SeenF w sv l) (hN : SeenI w nv ns) (h1 : 1 ≤ l.length) (hl : l.length ≤ 1000) (hw : ∀ f ∈ l, f.c ≤ 9223372036854775807) (hwf : ∀ x ∈ ns, (Lit.int .i64 x).wf = true) :
    Calls Try.prog 40 #[sv, nv] w fun e w' => ∃ kv, e = .returned (tv (mk8 l ns).n (mk8 l ns).s kv) ∧ KidsIn (w.heap.size ≤ ·) w' l.length (mk8 l ns).k kv ∧ Chg [] w w' := by
  obtain ⟨ao, cap, rfl, hc1, hc2⟩ := hS.shape
  obtain ⟨no, ncap, rfl, hn1, hn2⟩ := hN.shape
  have HS := Lib.hid hS; have HNS := Lib.hid hN; have HWF := Lib.hid hwf
  obtain ⟨gr, hgr⟩ : ∃ gr, gr = w.heap.size := ⟨_, rfl⟩
  have HGR := Lib.hid hgr
  have hsz : (w.alloc (.cells #[.int .i64 0, .string { data := #[] }, .slice none 0 0] 57)).heap.size = gr + 1 := by rw [hgr]; simp
  have HSZ := Lib.hid hsz
  have HP := Lib.hid (rparents_any (.slice ao l.length cap) l (w.alloc (.cells #[.int .i64 0, .string { data := #[] }, .slice none 0 0] 57)) (HS.out.keep ((Chg.refl [] w).alloc _)) (by omega) hw)
  have hb0 : (w.alloc (.cells #[.int .i64 0, .string { data := #[] }, .slice none 0 0] 57)).heap[gr]? = some (.cells #[.int .i64 0, .string { data := #[] }, .slice none 0 0] 57 (0, 0)) := by rw [hgr]; exact heap_alloc_new w _
  have HB0 := Lib.hid hb0
  have HC0 := Lib.hid ((Chg.refl [] w).alloc (.cells #[.int .i64 0, .string { data := #[] }, .slice none 0 0] 57))
  obtain ⟨n, hn⟩ : ∃ n, n = l.length := ⟨_, rfl⟩
  obtain ⟨q, hq⟩ : ∃ q, q = ns.length := ⟨_, rfl⟩
  rw [← hn] at HS HP
  rw [← hq] at HNS
  rw [← hn, ← hq]
  have HN := Lib.hid hn; have HQ := Lib.hid hq
  clear hS hN hwf hsz hb0 hgr hn hq
  go_enter Try.func40, Try.ntmps40
  go_wp2_with fail
  refine HP.out.mono ?_
  rintro e w1 ⟨pv, rfl, hpv, hk1⟩
  obtain ⟨po, pcap, rfl, hp1, hp2⟩ := hpv.shape
  have HPV := Lib.hid hpv; have HK1 := Lib.hid hk1
  have hb1 := hk1.heap HB0.out (by simp)
  have HB1 := Lib.hid hb1
  have hgw : gr < w1.heap.size := Go.lt_of_block hb1
  rw [parents_length, ← HN.out]
  clear hpv hk1 hb1
  have HM := Lib.hid (show MkM w1 (w1.alloc (.cells #[.slice ao n cap, .slice po n pcap, .slice no q ncap, .int .i64 0] 117)) w1.heap.size l ns (.slice ao n cap) (.slice po n pcap) (.slice no q ncap) 0 from
    ⟨HS.out.keep (HC0.out.trans HK1.out (by simp)), by have h := HPV.out; rw [parents_length, ← HN.out] at h; exact h, HNS.out.keep (HC0.out.trans HK1.out (by simp)), Nat.le_refl _, (Chg.refl [] w1).alloc _, heap_alloc_new w1 _, Nat.zero_le _⟩)
  have HV := Lib.hid (value8_any w1 w1.heap.size l ns (.slice ao n cap) (.slice po n pcap) (.slice no q ncap) hl HWF.out n 0 0 _ (by omega) (by rw [← HN.out]; omega) HM.out)
  obtain ⟨T, hT⟩ : ∃ T, T = mkT l ns n 0 0 := ⟨_, rfl⟩
  have HT := Lib.hid (show mk8 l ns = T.1 by unfold mk8; rw [hT, HN.out])
  rw [← hT, show ((0 : Nat) : Int) = 0 from rfl] at HV
  clear hT
  go_wp2_with (first
    | (go_at_call 66; (with_reducible refine HV.out.mono ?_); rintro e w4 ⟨kv4, rfl, hk4, hm4, hc4⟩; obtain ⟨ko4, kc4, rfl, -, -⟩ := hk4.shape; have hb4 := hc4.heap (((Chg.refl [] w1).alloc _).heap HB1.out (by simp)) (by simp; omega); have r0 : w4.cell? ⟨gr, 0, none⟩ = some (.int .i64 0) := (by rw [cell_of_row w4 gr 0 _ _ _ hb4]; rfl); have r1 : w4.cell? ⟨gr, 1, none⟩ = some (.string { data := #[] }) := (by rw [cell_of_row w4 gr 1 _ _ _ hb4]; rfl); have r2 : w4.cell? ⟨gr, 2, none⟩ = some (.slice none 0 0) := (by rw [cell_of_row w4 gr 2 _ _ _ hb4]; rfl); have hf0 : w4.frozen? ⟨gr, 0, none⟩ = false := (by simp [World.frozen?, hb4]); have hf1 : w4.frozen? ⟨gr, 1, none⟩ = false := (by simp [World.frozen?, hb4]); have hf2 : w4.frozen? ⟨gr, 2, none⟩ = false := (by simp [World.frozen?, hb4]); rw [← HGR.out]; have HB4 := Lib.hid hb4; have HK4 := Lib.hid hk4; have HC4 := Lib.hid hc4; clear hb4 hk4 hc4 hm4)
    | fail)
  refine ret_tree rfl rfl rfl (set3 HB4.out _ _ _) ?_
  rw [HT.out]
  have hc3 := chg3 (S := [gr]) (Chg.refl _ w4) (gr := gr) (by simp) (.int .i64 T.1.n) (.string T.1.s) (.slice ko4 T.1.k.length kc4)
  have hgr := HGR.out
  refine ⟨_, rfl, ?_, ?_⟩
  · exact (HK4.out.keep hc3 (fun g hg hm => by simp at hm hg; omega)).mono (fun g hg => by simp at hg; omega) (Nat.le_refl _)
  · have hz1 := HC0.out.size
    have hz2 := HK1.out.size
    exact (((HC0.out.trans HK1.out (by simp)).alloc _).trans HC4.out (fun t ht => .inr (by simp at ht; omega))).trans hc3 (fun t ht => .inr (by simp at ht; omega))

end Go.Proofs.Ytfdmbpfpdijpdaa

namespace Go.Proofs.Ytfdmbpfpdijpdaa
open Go.RowKit
set_option linter.unusedVariables false
set_option linter.unusedSimpArgs false

/-- Rows of numbers that came in. -/
structure RowsI (w : World) (rv : Value) (rs : List (List Int)) : Prop where
  le : rs.length ≤ maxLen
  at' : ∃ ao cap, rv = .slice ao rs.length cap ∧ rs.length ≤ cap ∧ cap ≤ maxLen ∧ (0 < rs.length → ∃ g off, ao = some ⟨g, off, none⟩ ∧ ∀ j, j < rs.length → ∃ v, w.cell? ⟨g, off + j, none⟩ = some v ∧ SeenI w v (rs.getD j []))
  wf : ∀ r ∈ rs, ∀ x ∈ r, (Lit.int .i64 x).wf = true

theorem RowsI.keep {w w' : World} {rv : Value} {rs : List (List Int)} (h : RowsI w rv rs) (hc : Chg [] w w') : RowsI w' rv rs := by
  obtain ⟨h1, ⟨ao, cap, e, h2, h3, h4⟩, h5⟩ := h
  refine ⟨h1, ⟨ao, cap, e, h2, h3, fun hp => ?_⟩, h5⟩
  obtain ⟨g, off, e2, h6⟩ := h4 hp
  exact ⟨g, off, e2, fun j hj => by obtain ⟨v, q1, q2⟩ := h6 j hj; exact ⟨v, hc.cell q1 (by simp), q2.keep hc⟩⟩

set_option maxRecDepth 100000 in
set_option maxHeartbeats 4000000 in
theorem many_any (sv rv : Value) (l : List F) (rs : List (List Int)) (w : World) (hS : SeenF w sv l) (hR : RowsI w rv rs) (h1 : 1 ≤ l.length) (hl : l.length ≤ 1000) (hw : ∀ f ∈ l, f.c ≤ 9223372036854775807) :
    Calls Try.prog 17 #[sv, rv] w fun e w' => ∃ lv, e = .returned lv ∧ ListIn (w.heap.size ≤ ·) w' l.length ((rs.take 16).map (mk8 l)) lv ∧ Chg [] w w' := by
  obtain ⟨i0, hi, hz0, hz1, hz2⟩ := info_tree
  obtain ⟨hle, ⟨ro, rcap, rfl, hr1, hr2, hrat⟩, hwf⟩ := hR
  obtain ⟨so, scap, rfl, hs1, hs2⟩ := hS.shape
  have HS := Lib.hid hS
  have HW := Lib.hid hw; have HWF := Lib.hid hwf; have HRAT := Lib.hid hrat
  have hpos : 0 < w.heap.size := by
    obtain ⟨g, off, e, hc⟩ := hS.get (by omega) rfl
    exact Nat.lt_of_le_of_lt (Nat.zero_le g) (World.block_lt_of_cell? w _ (hc 0 (by omega)).1)
  obtain ⟨D, hD⟩ : ∃ D, D = l.length := ⟨_, rfl⟩
  rw [← hD] at HS h1 hl hs1 ⊢
  have HDD := Lib.hid hD
  obtain ⟨N, hN⟩ : ∃ N, N = rs.length := ⟨_, rfl⟩
  rw [← hN] at HRAT hle hr1 ⊢
  have HN := Lib.hid hN
  unfold maxLen at hle
  clear hS hw hwf hrat hD hN
  go_enter Try.func17, Try.ntmps17
  go_wp2
  go_loopw [5, 6] (fun lv i w' => ∃ (j : Nat) (E : List (Tr × Value)), j ≤ N ∧ j ≤ 16 ∧ i = .int .i64 (j : Int) ∧ j = E.length ∧ E.map (·.1) = (rs.take j).map (mk8 l) ∧ Chg [] w w' ∧ w'.ownsRow w.heap.size 57 3 lv j (E.flatMap encT) ∧ ∀ q ∈ E, KidsIn (fun x => w.heap.size ≤ x ∧ lv.ownBlock ≠ some x) w' D q.1.k q.2) (fun _ i _ => N - (intOf i).toNat)
  case atStart => exact ⟨0, [], Nat.zero_le _, by decide, rfl, rfl, by simp, Chg.refl _ _, ⟨rfl, .inl ⟨rfl, rfl⟩⟩, by simp⟩
  case round =>
    obtain ⟨j, E, hj, hj16, rfl, hjE, hmap, hc, ho, hli⟩ := hrel
    obtain ⟨la, lc, rfl⟩ := own_shape ho
    have HC := Lib.hid hc; have HO := Lib.hid ho; have HLI := Lib.hid hli; have HJE := Lib.hid hjE; have HMAP := Lib.hid hmap
    have hwi := hc.size
    clear hc ho hli hjE hmap
    by_cases hgo : j < N ∧ j < 16
    · obtain ⟨hjN, hj6⟩ := hgo
      have d1 : decide ((j : Int) < (N : Int)) = true := by simp; omega
      have d2 : decide ((j : Int) < 16) = true := by simp; omega
      obtain ⟨g, off, rfl, hat⟩ := HRAT.out (by omega)
      obtain ⟨v, hv, hvs⟩ := hat j hjN
      have hx := HC.out.cell hv (by simp)
      have HM := Lib.hid (make8_any (.slice so D scap) v l (rs.getD j []) wr (HS.out.keep HC.out) (hvs.keep HC.out) (by have := HDD.out; omega) (by have := HDD.out; omega) HW.out (fun x hx => HWF.out _ (by
        simp only [List.getD, List.getElem?_eq_getElem (show j < rs.length by have := HN.out; omega), Option.getD_some]; exact List.getElem_mem _) x hx))
      obtain ⟨t4, ht4⟩ : ∃ t, t = mk8 l (rs.getD j []) := ⟨_, rfl⟩
      rw [← ht4, ← HDD.out] at HM
      have HMAP2 := Lib.hid (show (E.map (·.1)) ++ [t4] = (rs.take (j + 1)).map (mk8 l) by
        have hjl : j < rs.length := by have := HN.out; omega
        have hg : rs[j]? = some (rs.getD j []) := by rw [List.getD, List.getElem?_eq_getElem hjl]; rfl
        rw [HMAP.out, List.take_add_one, hg, ht4, List.map_append]
        rfl)
      clear hat hv hvs ht4
      go_wp2_with (first
        | (go_at_call 40; (with_reducible refine HM.out.mono ?_); rintro e w4 ⟨kv4, rfl, hk4, hc4⟩; obtain ⟨ko4, kc4, rfl, -, -⟩ := hk4.shape; have HO4 := Lib.hid (own_chg HO.out hc4 (by simp)); have HZ4 := Lib.hid (Nat.le_trans hwi hc4.size); have HK4 := Lib.hid hk4; have HC4 := Lib.hid hc4; clear hk4 hc4)
        | (at_builtin; refine wpList_append_at _ rfl (.tmp 17) (.tmp 24) _ rfl w.heap.size 57 i0 (.agg #[.int .i64 0, .string ByteArray.empty, .slice none 0 0]) 3 48 Try.underlying28 hi hz0 hz1 hz2 rfl (by decide) (.slice la j lc) j (E.flatMap encT) rfl (HO4.out.alloc _) ⟨w4.heap.size, 0, none⟩ 1 1 (encT (t4, Value.slice ko4 t4.k.length kc4)) rfl rfl (new_cells (C := #[Value.int .i64 t4.n, Value.string t4.s, Value.slice ko4 t4.k.length kc4]) _ rfl) (encT_one _ rfl) (by unfold maxLen; omega) (by omega) (le_alloc HZ4.out _) ?_; intro v5 w5 hown5 hg5 hat5; obtain ⟨la5, lc5, rfl⟩ := own_shape hown5; have HO5 := Lib.hid hown5; have HG5 := Lib.hid hg5; have HA5 := Lib.hid hat5; clear hown5 hg5 hat5)
        | fail)
      obtain ⟨a1, a2, a3, a4⟩ := grow_trees (lv := .slice la j lc) (E := E) (gr := 0) (by rw [← HJE.out]; exact HO.out) HLI.out hwi hpos HK4.out (HC4.out.mono (by simp)) (by rw [← HJE.out]; exact HO5.out) HG5.out HA5.out
      have A1 := Lib.hid a1; have A2 := Lib.hid a2
      have A3 := Lib.hid (show Chg [] w w5 from (HC.out.trans HC4.out (by simp)).trans a3 (fun t ht => .inr (a4 t ht)))
      have HJE2 := Lib.hid (show j + 1 = (E ++ [(t4, Value.slice ko4 t4.k.length kc4)]).length by rw [List.length_append, ← HJE.out]; rfl)
      clear a1 a2 a3 a4
      go_wp2
      go_roundw
      case rel => exact ⟨j + 1, E ++ [(t4, Value.slice ko4 t4.k.length kc4)], hjN, hj6, by go_num, HJE2.out, by rw [List.map_append]; exact HMAP2.out, A3.out, by have h := A1.out; rw [← HJE2.out] at h; exact h, A2.out⟩
      case measure => simp [intOf]; omega
    · have hfull : rs.take j = rs.take 16 := by
        have := HN.out
        by_cases h : j < N
        · rw [show j = 16 by omega]
        · rw [List.take_of_length_le (by omega), List.take_of_length_le (by omega)]
      have hpick : (¬ j < N) ∨ (j < N ∧ ¬ ((j : Int) < 16)) := by
        by_cases h : j < N
        · right; exact ⟨h, by omega⟩
        · left; exact h
      have HF := Lib.hid hfull
      clear hgo hfull
      rcases hpick with d1 | ⟨d1, d2⟩
      all_goals
        go_wp2
        go_ret
        refine ⟨_, rfl, ?_, HC.out⟩
        change ListIn _ wr D _ (Value.slice la j lc)
        try rw [← List.map_take]
        rw [← HF.out, ← HMAP.out]
        exact listIn_own HO.out HJE.out.symm (fun g hg => hg) fun q hq => (HLI.out q hq).mono (fun g hg => hg.1) (Nat.le_refl _)

end Go.Proofs.Ytfdmbpfpdijpdaa
