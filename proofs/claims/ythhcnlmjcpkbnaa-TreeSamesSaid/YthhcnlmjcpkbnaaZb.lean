/- The law's turn. -/
import Derived.Test.YthhcnlmjcpkbnaaZa
import Derived.Test.YthhcnlmjcpkbnaaW8
import Derived.Test.YthhcnlmjcpkbnaaYi
import Derived.BigQuiet
import Derived.Deep.RegionLaw
namespace Go.Proofs.Ythhcnlmjcpkbnaa
open Go.RowKit
set_option linter.unusedVariables false

theorem own_empty {w : World} {B T s q : Nat} (hq : w.heap[q]? = some (.cells #[] T (0, 0))) (hB : B ≤ q) : w.ownsRow B T s (.slice (some ⟨q, 0, none⟩) 0 0) 0 [] :=
  ⟨by simp, .inr ⟨q, 0, #[], rfl, hB, hq, by simp, by decide, by simp, by simp⟩⟩

theorem run_append_zero {P : Program} (w : World) (base : Nat) (t ty e : TypeId) (i : TypeInfo) (z : Value) (size bytes : Nat) (ht : P.underlying t = some (.slice e)) (hi : P.info? e = some i) (hz : i.zero = some z)
    (hsize : i.size = size) (hby : i.bytes = bytes) (hzs : z.cells.size = size) (hsz : 0 < size)
    (v : Value) (n : Nat) (xs : List Value) (hown : w.ownsRow base e size v n xs) (ko : Option Addr) (c : Nat) (h63 : n ≤ maxLen) (hbytes : n * bytes ≤ 140737488355328) (hbase : base ≤ w.heap.size) :
    ∃ v' w', (Builtin.append_ #[t, t] ty #[v, .slice ko 0 c]).run P w = .ok v' w' ∧ w'.ownsRow base e size v' n xs ∧ w.grownBy w' v.ownBlock := by
  cases ko with
  | some ad =>
    obtain ⟨v', w', h1, h2, h3, _⟩ := run_append_own (P := P) w base t ty e i z size bytes ht hi hz hsize hby hzs hsz v n xs hown ad 0 c [] (by simp) (by simp) (by simp) h63 hbytes hbase
    exact ⟨v', w', h1, by simpa using h2, h3⟩
  | none =>
    refine ⟨v, w, ?_, hown, ⟨rfl, rfl, rfl, Nat.le_refl _, fun k _ _ => rfl⟩⟩
    rcases hown.2 with ⟨rfl, rfl⟩ | ⟨g, cap, cur, rfl, _, _, hnc, _⟩
    · simp [Builtin.append_, run_underlying ht, sizeOf, typeInfo, hi, Builtin.lenOf, Builtin.firstCells]
    · simp [Builtin.append_, run_underlying ht, sizeOf, typeInfo, hi, Builtin.lenOf, Builtin.firstCells, hnc, storeCells]

theorem step_append_zero {P : Program} {ops : Array Oper} {o : Oper} {a : Act} {w : World} {K : Act → World → Prop} {Q : Exit → Act → World → Prop} {E : Prop}
    (hg : o.guard = none) (s x : Operand) (t : TypeId) (hop : o.op = Op.call { callee := Callee.builtin Builtin.append, args := #[s, x], argTypes := #[t, t] })
    (base : Nat) (e : TypeId) (i : TypeInfo) (z : Value) (size bytes : Nat) (ht : P.underlying t = some (.slice e)) (hi : P.info? e = some i) (hz : i.zero = some z)
    (hsize : i.size = size) (hby : i.bytes = bytes) (hzs : z.cells.size = size) (hsz : 0 < size)
    (v : Value) (n : Nat) (xs : List Value) (hs : a.eval s = v) (hown : w.ownsRow base e size v n xs)
    (ko : Option Addr) (c : Nat) (hx : a.eval x = .slice ko 0 c)
    (h63 : n ≤ maxLen) (hbytes : n * bytes ≤ 140737488355328) (hbase : base ≤ w.heap.size)
    (hK : ∀ v' w', w'.ownsRow base e size v' n xs → w.grownBy w' v.ownBlock → K (a.put o.dst v') w') :
    if Region.wanted o (yielded ops a.tmps) = true then Oper.wp P o a w K Q else E := by
  have hw : Region.wanted o (yielded ops a.tmps) = true := by simp [Region.wanted, hg]
  rw [if_pos hw]
  obtain ⟨v', w', hrun, r1, r2⟩ := run_append_zero (P := P) w base t o.type e i z size bytes ht hi hz hsize hby hzs hsz v n xs hown ko c h63 hbytes hbase
  unfold Oper.wp
  simp [execOp, hop, resolve, invoke, builtin, hs, hx, hrun, Result.andThen]
  exact hK v' w' r1 r2

theorem own_keep {w w' : World} {S : List Nat} {B T s n : Nat} {v : Value} {xs : List Value} (h : w.ownsRow B T s v n xs) (hc : Chg S w w') (hS : ∀ g, v.ownBlock = some g → g ∉ S) : w'.ownsRow B T s v n xs := by
  obtain ⟨h1, h2⟩ := h
  refine ⟨h1, h2.imp id ?_⟩
  rintro ⟨g, cap, cur, rfl, hb, hg, hr⟩
  exact ⟨g, cap, cur, rfl, hb, hc.heap hg (hS g rfl), hr⟩

theorem box_c {W0 w3 : World} {E o : Obj} {v : Value} (hg : ((W0.alloc E).alloc o).drew.grownBy w3 v.ownBlock) (hv : v.ownBlock = some W0.heap.size) : w3.heap[W0.heap.size + 1]? = some o := by
  have h1 := (Chg.refl [W0.heap.size] ((W0.alloc E).alloc o).drew).grown hg (fun q hq => .inl (by rw [hv] at hq; injection hq with hq; simp [hq]))
  refine h1.heap ?_ (by simp)
  have := heap_alloc_new (W0.alloc E) o
  exact (Chg.refl [] _).drew.heap (by simpa using this) (by simp)

theorem box_b {W0 w3 : World} {E o : Obj} {v : Value} (hg : ((W0.alloc o).alloc E).drew.grownBy w3 v.ownBlock) (hv : v.ownBlock = some (W0.heap.size + 1)) : w3.heap[W0.heap.size]? = some o := by
  have h1 := (Chg.refl [W0.heap.size + 1] ((W0.alloc o).alloc E).drew).grown hg (fun q hq => .inl (by rw [hv] at hq; injection hq with hq; simp [hq]))
  refine h1.heap ?_ (by simp)
  exact ((Chg.refl [] _).alloc _).drew.heap (heap_alloc_new W0 o) (by simp)

theorem froz_of {w : World} {g : Nat} {C : Array Value} {T : TypeId} (h : w.heap[g]? = some (.cells C T (0, 0))) (i : Nat) : w.frozen? ⟨g, i, none⟩ = false := by simp [World.frozen?, h]

theorem cl0_of {w : World} {g : Nat} {a b c : Value} {T : TypeId} (h : w.heap[g]? = some (.cells #[a, b, c] T (0, 0))) : w.cell? ⟨g, 0, none⟩ = some a := by rw [cell_of_row w g 0 _ _ _ h]; rfl
theorem cl1_of {w : World} {g : Nat} {a b c : Value} {T : TypeId} (h : w.heap[g]? = some (.cells #[a, b, c] T (0, 0))) : w.cell? ⟨g, 1, none⟩ = some b := by rw [cell_of_row w g 1 _ _ _ h]; rfl
theorem cl2_of {w : World} {g : Nat} {a b c : Value} {T : TypeId} (h : w.heap[g]? = some (.cells #[a, b, c] T (0, 0))) : w.cell? ⟨g, 2, none⟩ = some c := by rw [cell_of_row w g 2 _ _ _ h]; rfl

theorem sz_rec {tn : Int} {ts : ByteArray} {K : List (List Tr)} {k j : Nat} {p : List Tr} {q U : Tr} (hK : K[k]? = some p) (hp : p[j]? = some q) (hz : szT U ≤ szT q + 51) : szT (.mk tn ts (K.set k (p.set j U))) ≤ szT (.mk tn ts K) + 51 := by
  rw [szT, szT]
  have h1 := szK_set (p.set j U) hK
  have h2 := szL_set U hp
  generalize szK (K.set k (p.set j U)) = a at *
  generalize szL (p.set j U) = b at *
  generalize szT U = c at *
  generalize szT q = d at *
  generalize szL p = e at *
  generalize szK K = f at *
  omega

theorem ret_tree12 {fn : Func} (hres : fn.results = #[.cell 12 30]) {post : Ending → World → Prop} {a : Act} {W : World} {gr : Nat} {x y z : Value} (h4 : a.tmps.getD 12 undef = .pointer (some ⟨gr, 0, none⟩)) (hd : a.defers = []) (hh : W.heap[gr]? = some (.cells #[x, y, z] 30 (0, 0))) (hp : post (.returned (.agg #[x, y, z])) W) : bodyPost Try.prog fn post .ret a W :=
  bodyPost_ret (results_cell_row hres a.tmps W gr _ _ _ _ h4 hh Try.underlying30 rfl (by kernel_rfl)) hd hp

set_option maxRecDepth 100000 in
theorem idx55 (g n c j : Nat) (h : j < n) (W : World) : (Instr.indexAt 55 (Value.slice (some { block := g, off := 0 }) n c) (Value.int IntKind.i64 (j : Int))).run Try.prog W = .ok (.pointer (some ⟨g, j * 3, none⟩)) W := by
  have h1 := run_indexAt_slice (P := Try.prog) (w := W) 55 ⟨g, 0, none⟩ n c .i64 (j : Int) (by rfl)
  rw [if_pos ⟨by omega, by omega⟩] at h1
  rw [h1]
  have h2 : Try.prog.elem 55 = 30 := by kernel_rfl
  rw [h2]
  simp [Try.sizeOf30, Result.andThen, Addr.add]
  exact fun h => h.symm

theorem nat_i7 {ii : Nat} (h : ii < 6) : (ii : Int) + 1 ≤ 6 := by omega
theorem nat_i8 (ii : Nat) : 0 ≤ (ii : Int) + 1 := by omega
theorem KidsIn.wide {X S : List Nat} {w w' : World} {n d : Nat} {k : List (List Tr)} {v : Value} (h : KidsIn (fun g => g ∉ X ∧ g < n) w d k v) (hS : ∀ g ∈ S, n ≤ g) (hc : Chg [] w w') : KidsIn (fun g => g ∉ X ++ S) w' d k v :=
  KidsIn.mono (P := fun g => g ∉ X ∧ g < n) (fun g hg hm => (List.mem_append.1 hm).elim hg.1 fun h => by have := hS g h; have := hg.2; omega) (KidsIn.keep hc (fun g _ => by simp) h) (Nat.le_refl _)

theorem SeenK.news {α : Type} {enc : α → List Value} {k : Nat} (hk : ∀ x, (enc x).length = k) {w : World} {g : Nat} : ∀ (l : List α) (off : Nat), (∀ j x i u, l[j]? = some x → (enc x)[i]? = some u → w.cell? ⟨g, off + j * k + i, none⟩ = some u) → ∀ j u, (l.flatMap enc)[j]? = some u → w.cell? ((⟨g, off, none⟩ : Addr).add j) = some u
  | [], off, h, j, u, hj => by simp at hj
  | y :: l, off, h, j, u, hj => by
    rw [List.flatMap_cons] at hj
    by_cases hlt : j < k
    · rw [List.getElem?_append_left (by rw [hk]; exact hlt)] at hj
      have := h 0 y j u rfl hj
      rw [addr_add]
      simpa using this
    · rw [List.getElem?_append_right (by rw [hk]; omega), hk] at hj
      have := SeenK.news hk l (off + k) (fun a x i v hx hv => by
        have := h (a + 1) x i v hx hv
        rw [show off + k + a * k + i = off + (a + 1) * k + i by rw [Nat.succ_mul]; omega]
        exact this) (j - k) u hj
      rw [addr_add] at this ⊢
      rw [show off + j = off + k + (j - k) by omega]
      exact this

theorem one_encR {P : Nat → Prop} {w : World} {D : Nat} {R : List (List Tr × Value)} (h : ∀ p ∈ R, ListIn P w D p.1 p.2) : ∀ u ∈ R.flatMap encR, u.oneCell' = true := by
  intro u hu
  rw [encR_flat] at hu
  obtain ⟨p, hp, rfl⟩ := List.mem_map.1 hu
  obtain ⟨ao, cap, he, -, -⟩ := (h p hp).shape
  rw [he]
  rfl

theorem one_encT {P : Nat → Prop} {w : World} {D : Nat} {E : List (Tr × Value)} (h : ∀ q ∈ E, KidsIn P w D q.1.k q.2) : ∀ u ∈ E.flatMap encT, u.oneCell' = true := by
  intro u hu
  obtain ⟨p, hp, hu⟩ := List.mem_flatMap.1 hu
  obtain ⟨ao, cap, he, -, -⟩ := (h p hp).shape
  exact encT_one p (by rw [he]; rfl) u hu

theorem rec_end {X : List Nat} {w W7 : World} {D m ln k j g6 gk0 b12 : Nat} {c6 vc0 : Nat} {R : List (List Tr × Value)} {E : List (Tr × Value)} {U : Tr} {kvu x y z : Value}
    (hX : ∀ g ∈ X, g < w.heap.size) (hk7 : Chg [] w W7) (hR4 : ∀ p ∈ R, ListIn (fun g => g ∉ X ∧ g < w.heap.size) w D p.1 p.2) (hE4 : ∀ q ∈ E, KidsIn (fun g => g ∉ X ∧ g < w.heap.size) w D q.1.k q.2)
    (ho6 : W7.ownsRow w.heap.size 30 3 (.slice (some ⟨g6, 0, none⟩) ln c6) ln (E.flatMap encT)) (ho0 : W7.ownsRow w.heap.size 55 1 (.slice (some ⟨gk0, 0, none⟩) m vc0) m (R.flatMap encR))
    (hR : R.length = m) (hE : E.length = ln) (hj : j < ln) (hkm : k < m) (h1 : g6 ≠ gk0) (h2 : g6 ≠ b12) (h3 : gk0 ≠ b12) (hb : w.heap.size ≤ b12)
    (hku : KidsIn (fun g => g ∉ X ++ [g6, gk0, b12]) W7 (D + 1) U.k kvu) :
    KidsIn (fun g => g ∉ X) ((((((((W7.setCell ⟨g6, j * 3, none⟩ (.int .i64 U.n)).setCell ⟨g6, j * 3 + 1, none⟩ (.string U.s)).setCell ⟨g6, j * 3 + 2, none⟩ kvu)).setCell ⟨gk0, k, none⟩ (.slice (some ⟨g6, 0, none⟩) ln c6)).setCell ⟨b12, 0, none⟩ x).setCell ⟨b12, 1, none⟩ y).setCell ⟨b12, 2, none⟩ z) (D + 2) ((R.map (·.1)).set k ((E.map (·.1)).set j U)) (.slice (some ⟨gk0, 0, none⟩) m vc0) ∧
    Chg [] w ((((((((W7.setCell ⟨g6, j * 3, none⟩ (.int .i64 U.n)).setCell ⟨g6, j * 3 + 1, none⟩ (.string U.s)).setCell ⟨g6, j * 3 + 2, none⟩ kvu)).setCell ⟨gk0, k, none⟩ (.slice (some ⟨g6, 0, none⟩) ln c6)).setCell ⟨b12, 0, none⟩ x).setCell ⟨b12, 1, none⟩ y).setCell ⟨b12, 2, none⟩ z) := by
  have hg6 : w.heap.size ≤ g6 := own_ge ho6 g6 rfl
  have hgk : w.heap.size ≤ gk0 := own_ge ho0 gk0 rfl
  have e6 : E.set j (U, kvu) = E.set j (U, kvu) := rfl
  have s1 := own_set (own_set (own_set ho6 (j * 3) (by omega) (.int .i64 U.n)) (j * 3 + 1) (by omega) (.string U.s)) (j * 3 + 2) (by omega) kvu
  rw [← encT_set E j (U, kvu)] at s1
  obtain ⟨W8, hW8⟩ : ∃ W8, W8 = ((W7.setCell ⟨g6, j * 3, none⟩ (.int .i64 U.n)).setCell ⟨g6, j * 3 + 1, none⟩ (.string U.s)).setCell ⟨g6, j * 3 + 2, none⟩ kvu := ⟨_, rfl⟩
  have c8 : Chg [g6] W7 W8 := by
    rw [hW8]
    exact (((Chg.refl [g6] W7).setCell (p := ⟨g6, j * 3, none⟩) (.inl (by simp)) _).setCell (p := ⟨g6, j * 3 + 1, none⟩) (.inl (by simp)) _).setCell (p := ⟨g6, j * 3 + 2, none⟩) (.inl (by simp)) _
  rw [← hW8] at s1 ⊢
  have t1 := own_keep ho0 c8 (fun g hg => by cases (show some gk0 = some g from hg); simp; omega)
  have t2 := own_set t1 k (by omega) (.slice (some ⟨g6, 0, none⟩) ln c6)
  rw [← encR_set R k ((E.map (·.1)).set j U, .slice (some ⟨g6, 0, none⟩) ln c6)] at t2
  obtain ⟨W9, hW9⟩ : ∃ W9, W9 = W8.setCell ⟨gk0, k, none⟩ (.slice (some ⟨g6, 0, none⟩) ln c6) := ⟨_, rfl⟩
  have c9 : Chg [gk0] W8 W9 := by rw [hW9]; exact (Chg.refl [gk0] W8).setCell (p := ⟨gk0, k, none⟩) (.inl (by simp)) _
  rw [← hW9] at t2 ⊢
  have s2 := own_keep s1 c9 (fun g hg => by cases (show some g6 = some g from hg); simp; omega)
  obtain ⟨W10, hW10⟩ : ∃ W10, W10 = ((W9.setCell ⟨b12, 0, none⟩ x).setCell ⟨b12, 1, none⟩ y).setCell ⟨b12, 2, none⟩ z := ⟨_, rfl⟩
  have c10 : Chg [b12] W9 W10 := by rw [hW10]; exact chg3 (Chg.refl [b12] W9) (.inl (by simp)) x y z
  rw [← hW10]
  have s3 := own_keep s2 c10 (fun g hg => by cases (show some g6 = some g from hg); simp; omega)
  have t3 := own_keep t2 c10 (fun g hg => by cases (show some gk0 = some g from hg); simp; omega)
  have call : Chg [g6, gk0, b12] W7 W10 := by
    exact Chg.trans (Chg.trans (c8.mono (T := [g6, gk0, b12]) (fun q hq => .inl (by simp at hq; simp [hq]))) c9 (fun q hq => .inl (by simp at hq; simp [hq]))) c10 (fun q hq => .inl (by simp at hq; simp [hq]))
  have cw : Chg [] w W10 := hk7.trans call (by intro g hg; simp at hg; rcases hg with rfl | rfl | rfl <;> right <;> assumption)
  refine ⟨?_, cw⟩
  have hmap : (R.map (·.1)).set k ((E.map (·.1)).set j U) = (R.set k ((E.map (·.1)).set j U, .slice (some ⟨g6, 0, none⟩) ln c6)).map (·.1) := by rw [List.map_set]
  rw [hmap]
  refine kidsIn_own (d := D + 1) t3 (by simpa using hR) (fun g hg hm => by have := hX g hm; omega) fun p hp => ?_
  rcases List.mem_or_eq_of_mem_set hp with hp | rfl
  · exact ListIn.mono (fun g hg => hg.1) (ListIn.keep cw (fun g _ => by simp) (hR4 p hp)) (Nat.le_succ D)
  · show ListIn _ W10 (D + 1) ((E.map (·.1)).set j U) _
    rw [show (E.map (·.1)).set j U = (E.set j (U, kvu)).map (·.1) by rw [List.map_set]]
    refine listIn_own s3 (by simpa using hE) (fun g hg hm => by have := hX g hm; omega) fun q hq => ?_
    rcases List.mem_or_eq_of_mem_set hq with hq | rfl
    · exact KidsIn.mono (fun g hg => hg.1) (KidsIn.keep cw (fun g _ => by simp) (hE4 q hq)) (Nat.le_succ D)
    · exact KidsIn.mono (fun g hg hm => hg (by simp [hm])) (KidsIn.keep call (fun g hg => by simp at hg ⊢; exact ⟨hg.2.1, hg.2.2.1, hg.2.2.2⟩) hku) (Nat.le_refl _)


theorem sw_end {X : List Nat} {w W : World} {B D m b12 : Nat} {v x y z : Value} {R : List (List Tr × Value)} (hX : ∀ g ∈ X, g < w.heap.size) (hk : Chg [] w W) (ho : W.ownsRow B 55 1 v m (R.flatMap encR)) (hB : w.heap.size ≤ B) (hR : R.length = m)
    (hv : ∀ g, v.ownBlock = some g → g ≠ b12) (hb : w.heap.size ≤ b12) (hl : ∀ p ∈ R, ListIn (fun g => g ∉ X ∧ g ≠ b12) W (D + 1) p.1 p.2) :
    KidsIn (fun g => g ∉ X) (((W.setCell ⟨b12, 0, none⟩ x).setCell ⟨b12, 1, none⟩ y).setCell ⟨b12, 2, none⟩ z) (D + 2) (R.map (·.1)) v ∧ Chg [] w (((W.setCell ⟨b12, 0, none⟩ x).setCell ⟨b12, 1, none⟩ y).setCell ⟨b12, 2, none⟩ z) := by
  obtain ⟨W10, hW10⟩ : ∃ W10, W10 = ((W.setCell ⟨b12, 0, none⟩ x).setCell ⟨b12, 1, none⟩ y).setCell ⟨b12, 2, none⟩ z := ⟨_, rfl⟩
  have c10 : Chg [b12] W W10 := by rw [hW10]; exact chg3 (Chg.refl [b12] W) (.inl (by simp)) x y z
  rw [← hW10]
  refine ⟨kidsIn_own (d := D + 1) (own_keep ho c10 (fun g hg => by simpa using hv g hg)) hR (fun g hg hm => by have := hX g hm; omega) fun p hp => ?_, hk.trans c10 (fun g hg => .inr (by rw [List.mem_singleton.1 hg]; exact hb))⟩
  exact ListIn.mono (fun g hg => hg.1) (ListIn.keep c10 (fun g hg => by simpa using hg.2) (hl p hp)) (Nat.le_refl _)

theorem old_lists {X : List Nat} {w W : World} {D b12 : Nat} {R : List (List Tr × Value)} (h : ∀ p ∈ R, ListIn (fun g => g ∉ X ∧ g < w.heap.size) w D p.1 p.2) (hk : Chg [] w W) (hb : w.heap.size ≤ b12) : ∀ p ∈ R, ListIn (fun g => g ∉ X ∧ g ≠ b12) W (D + 1) p.1 p.2 :=
  fun p hp => ListIn.mono (P := fun g => g ∉ X ∧ g < w.heap.size) (fun g hg => ⟨hg.1, by have := hg.2; omega⟩) (ListIn.keep hk (fun g _ => by simp) (h p hp)) (Nat.le_succ D)

theorem szT_same (a b : Int) (s r : ByteArray) (K : List (List Tr)) : szT (.mk a s K) ≤ szT (.mk b r K) + 51 := by rw [szT, szT]; exact Nat.le_add_right _ _
theorem szT_snoc (a b : Int) (s r : ByteArray) (K : List (List Tr)) : szT (.mk a s (K ++ [[]])) ≤ szT (.mk b r K) + 51 := by rw [szT, szT, szK_app, szK, szL, szK]; exact Nat.le_add_right _ _

set_option maxRecDepth 100000 in
set_option maxHeartbeats 4000000 in
theorem turn_at : ∀ d, TurnAt d := by
  intro d
  induction d with
  | zero => intro X t kv av ats i wh n s w hT; exact hT.elim
  | succ D ih =>
    intro X t kv av ats i wh n s w hT hsl hsz hX hA hAw hi0 hi6 hw3 hwh hnw
    obtain ⟨ko, kcap, rfl, hl1, hl2⟩ := hT.shape
    have IH := Lib.hid ih
    have HW3 := Lib.hid hw3; have HWH := Lib.hid hwh; have HNW := Lib.hid hnw; have HAW := Lib.hid hAw; have HXB := Lib.hid hX; have HA := Lib.hid hA
    clear ih hw3 hwh hnw hAw hX hA
    obtain ⟨il, hil, hlz0, hlz1, hlz2⟩ := info_list2
    obtain ⟨it, hit, htz0, htz1, htz2⟩ := info_tree
    obtain ⟨R, hR1, hR2, hR3, hR4⟩ := kidsIn_succ.1 hT.lt
    obtain ⟨K, hK⟩ : ∃ K, K = t.k := ⟨_, rfl⟩
    obtain ⟨tn, htn⟩ : ∃ n, n = t.n := ⟨_, rfl⟩
    obtain ⟨ts, hts⟩ : ∃ s, s = t.s := ⟨_, rfl⟩
    have HTE := Lib.hid (show t = .mk tn ts K by rw [htn, hts, hK]; exact Tr.eta t)
    obtain ⟨hs1, hs2⟩ := hsl
    rw [← hK] at hR1 hl1 hR2 hs1 hs2 ⊢
    rw [← htn, ← hts]
    clear hT htn hts hK
    obtain ⟨m, hm⟩ : ∃ m, m = K.length := ⟨_, rfl⟩
    have hRl : R.length = m := by rw [hm, ← hR1, List.length_map]
    rw [← hm] at hl1 hR2 hs1 ⊢
    have HS2 := Lib.hid hs2; have HSZ := Lib.hid hsz; have HM := Lib.hid hm; have HRL := Lib.hid hRl; have HR1 := Lib.hid hR1; have HR2 := Lib.hid hR2; have HR3 := Lib.hid hR3; have HR4 := Lib.hid hR4
    clear hs2 hsz hm hRl hR1 hR2 hR3 hR4
    obtain ⟨W0, hW0⟩ : ∃ W0, W0 = (w.alloc (.cells #[.int .i64 tn, .string ts, .slice ko m kcap] 30)).alloc (.cells #[.int .i64 0, .string { data := #[] }, .slice none 0 0] 30) := ⟨_, rfl⟩
    obtain ⟨b, hb⟩ : ∃ b, b = w.heap.size := ⟨_, rfl⟩
    have hC0 : Chg [] w W0 := by rw [hW0]; exact ((Chg.refl [] w).alloc _).alloc _
    have hB6 : W0.heap[b]? = some (.cells #[.int .i64 tn, .string ts, .slice ko m kcap] 30 (0, 0)) := by
      rw [hW0, hb]
      exact ((Chg.refl [] _).alloc _).heap (heap_alloc_new w _) (by simp)
    have hB12 : W0.heap[b + 1]? = some (.cells #[.int .i64 0, .string { data := #[] }, .slice none 0 0] 30 (0, 0)) := by
      have := heap_alloc_new (w.alloc (.cells #[.int .i64 tn, .string ts, .slice ko m kcap] 30)) (.cells #[.int .i64 0, .string { data := #[] }, .slice none 0 0] 30)
      rw [hW0, hb]
      simpa using this
    have HC0 := Lib.hid hC0; have HB6 := Lib.hid hB6; have HB12 := Lib.hid hB12; have HBW := Lib.hid hb; have HW0 := Lib.hid hW0
    have b60 : W0.cell? ⟨b, 0, none⟩ = some (.int .i64 tn) := by rw [cell_of_row W0 b 0 _ _ _ hB6]; rfl
    have b61 : W0.cell? ⟨b, 1, none⟩ = some (.string ts) := by rw [cell_of_row W0 b 1 _ _ _ hB6]; rfl
    have b62 : W0.cell? ⟨b, 2, none⟩ = some (.slice ko m kcap) := by rw [cell_of_row W0 b 2 _ _ _ hB6]; rfl
    have HBC := Lib.hid (And.intro b60 (And.intro b61 b62))
    clear hC0 hB6 hB12 hb hW0 b60 b61 b62
    go_enter Try.func38, Try.ntmps38
    go_upto_region 1 with fail
    rw [← HBW.out, ← HW0.out]
    go_cut [13] (fun s13 wx => ∃ (g : Nat) (v0 : Value), s13 = .pointer (some ⟨g, 0, none⟩) ∧ Chg [] W0 wx ∧ wx.heap[g]? = some (.cells #[.int .i64 tn, .string ts, v0] 30 (0, 0)) ∧ W0.heap.size ≤ g ∧ W0.heap.size ≤ wx.heap.size ∧ ∃ xs, xs = R.flatMap encR ∧ wx.ownsRow W0.heap.size 55 1 v0 m xs)
    case first =>
      obtain ⟨b60, b61, b62⟩ := HBC.out
      have a60 : ∀ o, (W0.alloc o).cell? ⟨b, 0, none⟩ = some (.int .i64 tn) := fun o => ((Chg.refl [] W0).alloc o).cell b60 (by simp)
      have a61 : ∀ o, (W0.alloc o).cell? ⟨b, 1, none⟩ = some (.string ts) := fun o => ((Chg.refl [] W0).alloc o).cell b61 (by simp)
      have a62 : ∀ o, (W0.alloc o).cell? ⟨b, 2, none⟩ = some (.slice ko m kcap) := fun o => ((Chg.refl [] W0).alloc o).cell b62 (by simp)
      have q60 : ∀ o p, ((W0.alloc o).alloc p).cell? ⟨b, 0, none⟩ = some (.int .i64 tn) := fun o p => (((Chg.refl [] W0).alloc o).alloc p).cell b60 (by simp)
      have q61 : ∀ o p, ((W0.alloc o).alloc p).cell? ⟨b, 1, none⟩ = some (.string ts) := fun o p => (((Chg.refl [] W0).alloc o).alloc p).cell b61 (by simp)
      have q62 : ∀ o p, ((W0.alloc o).alloc p).cell? ⟨b, 2, none⟩ = some (.slice ko m kcap) := fun o p => (((Chg.refl [] W0).alloc o).alloc p).cell b62 (by simp)
      by_cases h0 : m = 0
      · subst h0
        obtain rfl : R = [] := List.eq_nil_of_length_eq_zero HRL.out
        have HEA := Lib.hid (own_empty (s := 1) (B := W0.heap.size) (T := 55) (w := (W0.alloc (.cells #[] 55)).drew) (q := W0.heap.size) ((Chg.refl [] _).drew.heap (heap_alloc_new W0 _) (by simp)) (Nat.le_refl _))
        have HEC := Lib.hid (fun o => own_empty (s := 1) (B := W0.heap.size) (T := 55) (w := ((W0.alloc (.cells #[] 55)).alloc o).drew) (q := W0.heap.size) (((Chg.refl [] _).alloc _).drew.heap (heap_alloc_new W0 _) (by simp)) (Nat.le_refl _))
        have HEB := Lib.hid (fun o => own_empty (s := 1) (B := W0.heap.size) (T := 55) (w := ((W0.alloc o).alloc (.cells #[] 55)).drew) (q := W0.heap.size + 1) ((Chg.refl [] _).drew.heap (by have := heap_alloc_new (W0.alloc o) (.cells #[] 55); simpa using this) (by simp)) (Nat.le_add_right _ _))
        have HSC := Lib.hid (show ∀ w', Chg [] W0 w' → w'.cell? ⟨b, 0, none⟩ = some (.int .i64 tn) ∧ w'.cell? ⟨b, 1, none⟩ = some (.string ts) ∧ w'.cell? ⟨b, 2, none⟩ = some (.slice ko 0 kcap) from fun w' hk => ⟨hk.cell b60 (by simp), hk.cell b61 (by simp), hk.cell b62 (by simp)⟩)
        clear a60 a61 a62 q60 q61 q62
        go_region_held3 (fun w' => w'.cell? ⟨b, 0, none⟩ = some (.int .i64 tn) ∧ w'.cell? ⟨b, 1, none⟩ = some (.string ts) ∧ w'.cell? ⟨b, 2, none⟩ = some (.slice ko 0 kcap)) (exact HSC.out _ (by first | exact HC3.out | exact HC3.out.alloc _ | exact HC3.out.drew | with_reducible exact chg3 HC3.out (.inr (Nat.le_refl _)) _ _ _ | with_reducible exact chg3 HC3.out (.inr (Nat.le_add_right _ 1)) _ _ _ | exact Chg.refl _ _ | with_reducible exact (Chg.refl [] W0).drew | with_reducible exact (Chg.refl [] W0).alloc _ | with_reducible exact ((Chg.refl [] W0).alloc _).drew | with_reducible exact ((Chg.refl [] W0).alloc _).alloc _ | with_reducible exact (((Chg.refl [] W0).alloc _).alloc _).drew)) (first
          | (refine step_append_zero (by rfl) (.tmp 22) (.tmp 24) 28 (by rfl) W0.heap.size 55 il (.slice none 0 0) 1 24 Try.underlying28 hil hlz0 hlz1 hlz2 (by rfl) (by decide) _ 0 [] (by rfl) (by first | (change World.ownsRow _ _ _ _ (Value.slice (some ⟨W0.heap.size, 0, none⟩) 0 0) _ _; with_reducible exact HEA.out) | (change World.ownsRow _ _ _ _ (Value.slice (some ⟨W0.heap.size, 0, none⟩) 0 0) _ _; with_reducible exact HEC.out _) | (change World.ownsRow _ _ _ _ (Value.slice (some ⟨W0.heap.size + 1, 0, none⟩) 0 0) _ _; with_reducible exact HEB.out _)) ko kcap (by rfl) (by decide) (by decide) (Chg.size (by first | with_reducible exact ((Chg.refl [] W0).alloc _).drew | with_reducible exact (((Chg.refl [] W0).alloc _).alloc _).drew)) ?_; intro v3 w3 hown hgrow; (try rw [Nat.zero_add, List.nil_append] at hown); obtain ⟨va3, vc3, rfl⟩ := own_shape hown; have HO3 := Lib.hid hown; have HC3 := Lib.hid (Chg.grown (by first | with_reducible exact ((Chg.refl [] W0).alloc _).drew | with_reducible exact (((Chg.refl [] W0).alloc _).alloc _).drew) hgrow (fun q hq => .inr (by first | exact own_ge HEA.out q hq | exact own_ge (HEB.out (.cells #[] 0)) q hq))); (first | (have hx3 := box_c hgrow rfl; have f0 := froz_of hx3 0; have f1 := froz_of hx3 1; have f2 := froz_of hx3 2; have k0 := cl0_of hx3; have k1 := cl1_of hx3; have k2 := cl2_of hx3; have HX3 := Lib.hid hx3; clear hx3) | (have hx3 := box_b hgrow rfl; have f0 := froz_of hx3 0; have f1 := froz_of hx3 1; have f2 := froz_of hx3 2; have k0 := cl0_of hx3; have k1 := cl1_of hx3; have k2 := cl2_of hx3; have HX3 := Lib.hid hx3; clear hx3) | skip); clear hown hgrow))
        all_goals
          go_wp2_with fail
          go_meet
          refine ⟨_, .slice va3 0 vc3, rfl, ?refine_1, ?refine_2, ?refine_3, ?refine_4, [], ?refine_5, ?refine_6⟩
          case refine_6 => first | with_reducible exact own_keep HO3.out ((Chg.refl [] w3).alloc _) (by simp) | with_reducible exact own_keep HO3.out (chg3 (S := [W0.heap.size]) (Chg.refl _ w3) (gr := W0.heap.size) (.inl (List.mem_singleton.2 rfl)) _ _ _) (fun q hq => by simpa using (tagged_of_own HO3.out).ne HX3.out (by decide) q hq) | with_reducible exact own_keep HO3.out (chg3 (S := [W0.heap.size + 1]) (Chg.refl _ w3) (gr := W0.heap.size + 1) (.inl (List.mem_singleton.2 rfl)) _ _ _) (fun q hq => by simpa using (tagged_of_own HO3.out).ne HX3.out (by decide) q hq)
          case refine_5 => rfl
          case refine_4 => first | with_reducible exact Nat.le_trans HC3.out.size ((Chg.refl [] w3).alloc _).size | with_reducible exact (chg3 HC3.out (.inr (Nat.le_refl _)) _ _ _).size | with_reducible exact (chg3 HC3.out (.inr (Nat.le_add_right _ 1)) _ _ _).size
          case refine_3 => first | with_reducible exact HC3.out.size | with_reducible exact Nat.le_refl _ | with_reducible exact Nat.le_add_right _ 1
          case refine_2 => first | with_reducible exact heap_alloc_new w3 _ | with_reducible exact set3 HX3.out _ _ _
          case refine_1 => first | with_reducible exact HC3.out.alloc _ | with_reducible exact chg3 HC3.out (.inr (Nat.le_refl _)) _ _ _ | with_reducible exact chg3 HC3.out (.inr (Nat.le_add_right _ 1)) _ _ _
      · obtain ⟨g, off, hko, hcs⟩ := HR2.out.at (by omega)
        subst hko
        have HN := Lib.hid (show ∀ wx, Chg [] W0 wx → ∀ j u, (R.flatMap encR)[j]? = some u → wx.cell? ((⟨g, off, none⟩ : Addr).add j) = some u from fun wx hk j u hj => by
          exact hk.cell (HC0.out.cell (SeenK.news encR_len R off hcs j u hj) (by simp)) (by simp))
        have HEA := Lib.hid (own_empty (s := 1) (B := W0.heap.size) (T := 55) (w := (W0.alloc (.cells #[] 55)).drew) (q := W0.heap.size) ((Chg.refl [] _).drew.heap (heap_alloc_new W0 _) (by simp)) (Nat.le_refl _))
        have HEC := Lib.hid (fun o => own_empty (s := 1) (B := W0.heap.size) (T := 55) (w := ((W0.alloc (.cells #[] 55)).alloc o).drew) (q := W0.heap.size) (((Chg.refl [] _).alloc _).drew.heap (heap_alloc_new W0 _) (by simp)) (Nat.le_refl _))
        have HEB := Lib.hid (fun o => own_empty (s := 1) (B := W0.heap.size) (T := 55) (w := ((W0.alloc o).alloc (.cells #[] 55)).drew) (q := W0.heap.size + 1) ((Chg.refl [] _).drew.heap (by have := heap_alloc_new (W0.alloc o) (.cells #[] 55); simpa using this) (by simp)) (Nat.le_add_right _ _))
        have HM1 := Lib.hid (show 0 + m ≤ maxLen by unfold maxLen; omega)
        have HM2 := Lib.hid (show (0 + m) * 24 ≤ 140737488355328 by omega)
        have HNL := Lib.hid (show (R.flatMap encR).length = m * 1 by rw [encR_flat, List.length_map, HRL.out, Nat.mul_one])
        have HN1 := Lib.hid (show ∀ u ∈ R.flatMap encR, u.oneCell' = true from one_encR HR4.out)
        have HSC := Lib.hid (show ∀ w', Chg [] W0 w' → w'.cell? ⟨b, 0, none⟩ = some (.int .i64 tn) ∧ w'.cell? ⟨b, 1, none⟩ = some (.string ts) ∧ w'.cell? ⟨b, 2, none⟩ = some (.slice (some ⟨g, off, none⟩) m kcap) from fun w' hk => ⟨hk.cell b60 (by simp), hk.cell b61 (by simp), hk.cell b62 (by simp)⟩)
        clear h0 hcs a60 a61 a62 q60 q61 q62
        go_region_held3 (fun w' => w'.cell? ⟨b, 0, none⟩ = some (.int .i64 tn) ∧ w'.cell? ⟨b, 1, none⟩ = some (.string ts) ∧ w'.cell? ⟨b, 2, none⟩ = some (.slice (some ⟨g, off, none⟩) m kcap)) (exact HSC.out _ (by first | exact HC3.out | exact HC3.out.alloc _ | exact HC3.out.drew | with_reducible exact chg3 HC3.out (.inr (Nat.le_refl _)) _ _ _ | with_reducible exact chg3 HC3.out (.inr (Nat.le_add_right _ 1)) _ _ _ | exact Chg.refl _ _ | with_reducible exact (Chg.refl [] W0).drew | with_reducible exact (Chg.refl [] W0).alloc _ | with_reducible exact ((Chg.refl [] W0).alloc _).drew | with_reducible exact ((Chg.refl [] W0).alloc _).alloc _ | with_reducible exact (((Chg.refl [] W0).alloc _).alloc _).drew)) (first
          | (refine step_append_cells (by rfl) (.tmp 22) (.tmp 24) 28 (by rfl) W0.heap.size 55 il (.slice none 0 0) 1 24 Try.underlying28 hil hlz0 hlz1 hlz2 (by rfl) (by decide) _ 0 [] (by rfl) (by first | (change World.ownsRow _ _ _ _ (Value.slice (some ⟨W0.heap.size, 0, none⟩) 0 0) _ _; with_reducible exact HEA.out) | (change World.ownsRow _ _ _ _ (Value.slice (some ⟨W0.heap.size, 0, none⟩) 0 0) _ _; with_reducible exact HEC.out _) | (change World.ownsRow _ _ _ _ (Value.slice (some ⟨W0.heap.size + 1, 0, none⟩) 0 0) _ _; with_reducible exact HEB.out _)) ⟨g, off, none⟩ m kcap (R.flatMap encR) (by rfl) HNL.out (HN.out _ (by first | with_reducible exact ((Chg.refl [] W0).alloc _).drew | with_reducible exact (((Chg.refl [] W0).alloc _).alloc _).drew)) HN1.out HM1.out HM2.out (Chg.size (by first | with_reducible exact ((Chg.refl [] W0).alloc _).drew | with_reducible exact (((Chg.refl [] W0).alloc _).alloc _).drew)) ?_; intro v3 w3 hown hgrow; (try rw [Nat.zero_add, List.nil_append] at hown); obtain ⟨va3, vc3, rfl⟩ := own_shape hown; have HO3 := Lib.hid hown; have HC3 := Lib.hid (Chg.grown (by first | with_reducible exact ((Chg.refl [] W0).alloc _).drew | with_reducible exact (((Chg.refl [] W0).alloc _).alloc _).drew) hgrow (fun q hq => .inr (by first | exact own_ge HEA.out q hq | exact own_ge (HEB.out (.cells #[] 0)) q hq))); (first | (have hx3 := box_c hgrow rfl; have f0 := froz_of hx3 0; have f1 := froz_of hx3 1; have f2 := froz_of hx3 2; have k0 := cl0_of hx3; have k1 := cl1_of hx3; have k2 := cl2_of hx3; have HX3 := Lib.hid hx3; clear hx3) | (have hx3 := box_b hgrow rfl; have f0 := froz_of hx3 0; have f1 := froz_of hx3 1; have f2 := froz_of hx3 2; have k0 := cl0_of hx3; have k1 := cl1_of hx3; have k2 := cl2_of hx3; have HX3 := Lib.hid hx3; clear hx3) | skip); clear hown hgrow))
        all_goals
          go_wp2_with fail
          go_meet
          refine ⟨_, .slice va3 m vc3, rfl, ?refine_1, ?refine_2, ?refine_3, ?refine_4, R.flatMap encR, ?refine_5, ?refine_6⟩
          case refine_6 => first | with_reducible exact own_keep HO3.out ((Chg.refl [] w3).alloc _) (by simp) | with_reducible exact own_keep HO3.out (chg3 (S := [W0.heap.size]) (Chg.refl _ w3) (gr := W0.heap.size) (.inl (List.mem_singleton.2 rfl)) _ _ _) (fun q hq => by simpa using (tagged_of_own HO3.out).ne HX3.out (by decide) q hq) | with_reducible exact own_keep HO3.out (chg3 (S := [W0.heap.size + 1]) (Chg.refl _ w3) (gr := W0.heap.size + 1) (.inl (List.mem_singleton.2 rfl)) _ _ _) (fun q hq => by simpa using (tagged_of_own HO3.out).ne HX3.out (by decide) q hq)
          case refine_5 => rfl
          case refine_4 => first | with_reducible exact Nat.le_trans HC3.out.size ((Chg.refl [] w3).alloc _).size | with_reducible exact (chg3 HC3.out (.inr (Nat.le_refl _)) _ _ _).size | with_reducible exact (chg3 HC3.out (.inr (Nat.le_add_right _ 1)) _ _ _).size
          case refine_3 => first | with_reducible exact HC3.out.size | with_reducible exact Nat.le_refl _ | with_reducible exact Nat.le_add_right _ 1
          case refine_2 => first | with_reducible exact heap_alloc_new w3 _ | with_reducible exact set3 HX3.out _ _ _
          case refine_1 => first | with_reducible exact HC3.out.alloc _ | with_reducible exact chg3 HC3.out (.inr (Nat.le_refl _)) _ _ _ | with_reducible exact chg3 HC3.out (.inr (Nat.le_add_right _ 1)) _ _ _
    case rest =>
      obtain ⟨g13, v0, rfl, hk1, hb13, hg13, hsz1, xs, rfl, hown0⟩ := hcut
      obtain ⟨va0, vc0, rfl⟩ := own_shape hown0
      rename World => W1
      have HK1 := Lib.hid hk1
      have HKW := Lib.hid (HC0.out.trans hk1 (by simp))
      have HKW01 := Lib.hid hk1
      have HB13 := Lib.hid hb13; have HOW := Lib.hid hown0; have HG13 := Lib.hid hg13
      have HSC := Lib.hid (show ∀ w', Chg [] W1 w' → w'.cell? ⟨b, 0, none⟩ = some (.int .i64 tn) ∧ w'.cell? ⟨b, 1, none⟩ = some (.string ts) ∧ w'.cell? ⟨b, 2, none⟩ = some (.slice ko m kcap) from fun w' hk => ⟨hk.cell (hk1.cell HBC.out.1 (by simp)) (by simp), hk.cell (hk1.cell HBC.out.2.1 (by simp)) (by simp), hk.cell (hk1.cell HBC.out.2.2 (by simp)) (by simp)⟩)
      obtain ⟨aa, ac, rfl, ha1, ha2⟩ := HA.out.shape
      obtain ⟨al, hal⟩ : ∃ al, al = ats.length := ⟨_, rfl⟩
      rw [← hal] at ha1 HA ⊢
      have HAL := Lib.hid hal
      obtain ⟨ii, hii⟩ : ∃ ii : Nat, i = (ii : Int) := ⟨i.toNat, by omega⟩
      subst hii
      clear hk1 hb13 hown0 hg13 hsz1 hal
      obtain ⟨c60, c61, c62⟩ := HSC.out W1 (Chg.refl [] W1)
      go_upto_region 2 with fail
      go_cut [40] (fun s40 wx => ∃ c : Bool, s40 = .bool c ∧ (c = true → ii < al ∧ ii < 6 ∧ 0 < m) ∧ wx = W1)
      case first =>
        by_cases h1 : ii < al
        · have d1 : decide ((ii : Int) < (al : Int)) = true := by simpa using h1
          by_cases h2 : ii < 6
          · have d2 : decide ((ii : Int) < 6) = true := by simp; omega
            by_cases h3 : 0 < m
            · have d3 : decide ((0 : Int) < (m : Int)) = true := by simpa using h3
              go_wp2_with fail
              go_meet
              case rel => exact ⟨true, rfl, fun _ => ⟨h1, h2, h3⟩, rfl⟩
            · have d3 : decide ((0 : Int) < (m : Int)) = false := by simpa using h3
              go_wp2_with fail
              go_meet
              case rel => exact ⟨false, rfl, fun h => (by cases h), rfl⟩
          · have d2 : decide ((ii : Int) < 6) = false := by simp; omega
            go_wp2_with fail
            go_meet
            case rel => exact ⟨false, rfl, fun h => (by cases h), rfl⟩
        · have d1 : decide ((ii : Int) < (al : Int)) = false := by simpa using h1
          go_wp2_with fail
          go_meet
          case rel => exact ⟨false, rfl, fun h => (by cases h), rfl⟩
      case rest =>
        obtain ⟨c, rfl, hcc, rfl⟩ := hcut
        rename World => W1
        go_upto_if 40 with fail
        go_cut [] (fun wx => Chg [] W1 wx)
        case first =>
          cases c with
          | false =>
            go_wp2_with fail
            go_meet
            case rel => exact Chg.refl [] _
          | true =>
            obtain ⟨h1, h2, h3⟩ := hcc rfl
            obtain ⟨ga, oa, rfl, hca⟩ := SeenI.get HA.out (by omega) HAL.out.symm
            obtain ⟨x, hx⟩ : ∃ x, x = ats.getD ii 0 := ⟨_, rfl⟩
            have hxw : (Lit.int .i64 x).wf = true := HAW.out x (by rw [hx, List.getD, List.getElem?_eq_getElem (by rw [← HAL.out]; exact h1)]; exact List.getElem_mem _)
            have hca' := HKW.out.cell (hca ii h1) (by simp)
            rw [← hx] at hca'
            obtain ⟨k, hk⟩ : ∃ k, k = (x % (m : Nat)).toNat := ⟨_, rfl⟩
            have hkm : k < m := by rw [hk]; exact within_lt x m (by omega)
            have HW1 := Lib.hid (fun wx => w8_nat x m wx (by omega) (by omega) hxw)
            rw [← hk] at HW1
            obtain ⟨gk, ok, rfl, hck⟩ := HR2.out.at (by omega)
            obtain ⟨p, hp⟩ : ∃ p, R[k]? = some p := ⟨_, List.getElem?_eq_getElem (by rw [HRL.out]; exact hkm)⟩
            have hck' := HKW.out.cell (hck k p 0 _ hp rfl) (by simp)
            obtain ⟨E, hE1, hE2, hE3, hE4⟩ := HR4.out p (List.mem_of_getElem? hp)
            obtain ⟨lo, lcap, hpv, hlc1, hlc2⟩ := hE2.shape
            obtain ⟨ln, hln⟩ : ∃ ln, ln = E.length := ⟨_, rfl⟩
            rw [hpv, ← hln] at hck'
            rw [← hln] at hlc1
            rw [hpv, ← hln] at hE2
            have HE2 := Lib.hid hE2; have HE4 := Lib.hid hE4; have HE1 := Lib.hid hE1; have HP := Lib.hid hp; have HLN := Lib.hid hln; have HK := Lib.hid hk
            simp only [Nat.mul_one, Nat.add_zero] at hck'
            have HIT := Lib.hid (show ∀ w', Chg [] W1 w' → w'.cell? ⟨ga, oa + ii, none⟩ = some (.int .i64 x) ∧ w'.cell? ⟨gk, ok + k, none⟩ = some (.slice lo ln lcap) from fun w' hk => ⟨hk.cell hca' (by simp), hk.cell hck' (by simp)⟩)
            clear hca hx hck hE2 hE4 hE1 hp hln hk hE3 hpv
            have hiw : IntKind.i64.wrap ((ii : Int) + 1) = (ii : Int) + 1 := IntWalk.i64_in _ (by omega)
            have hki : decide ((k : Int) < (m : Int)) = true := by simpa using hkm
            clear hcc
            go_upto_region 3 with fail
            go_cut [14] (fun s14 wx => s14 = .int .i64 (k : Int) ∧ Chg [] W1 wx)
            case first =>
              go_region_with (first | (go_at_call 39; (with_reducible refine (HW1.out _).mono ?_); rintro e wq ⟨rfl, rfl⟩))
              all_goals
                go_wp2_with fail
                go_meet
                exact ⟨rfl, by first | exact Chg.refl [] _ | exact (Chg.refl [] _).drew⟩
            case rest =>
              obtain ⟨rfl, hk2⟩ := hcut
              rename World => W2
              have HK2 := Lib.hid hk2
              obtain ⟨c60, c61, c62⟩ := HSC.out W2 hk2
              obtain ⟨i1, i2⟩ := HIT.out W2 hk2
              clear hk2
              by_cases hl0 : 0 < ln
              · have d4 : decide ((0 : Int) < (ln : Int)) = true := by simpa using hl0
                obtain ⟨td1, td2, td3⟩ := tdiv_wf x 16 (by decide) hxw
                have hq2 : IntKind.i64.wrap (x.tdiv 16) = x.tdiv 16 := IntWalk.i64_in _ ⟨td2, td3⟩
                obtain ⟨j, hj⟩ : ∃ j, j = ((x.tdiv 16) % (ln : Nat)).toNat := ⟨_, rfl⟩
                have hjl : j < ln := by rw [hj]; exact within_lt _ ln (by omega)
                have HLB := Lib.hid (show ln ≤ 1000000 by
                  have h1 := szL_len p.1
                  have h2 := szK_mem (show p.1 ∈ K by rw [← HR1.out]; exact List.mem_map_of_mem (List.mem_of_getElem? HP.out))
                  have h3 := HSZ.out
                  rw [HTE.out, szT] at h3
                  have h4 : p.1.length = ln := by rw [← HE1.out, List.length_map, HLN.out]
                  omega)
                have hlnb : ln ≤ 1000000 := HLB.out
                have hji : decide ((j : Int) < (ln : Int)) = true := by simpa using hjl
                have HW2 := Lib.hid (fun wx => w8_nat (x.tdiv 16) ln wx (by omega) (by have := HLB.out; omega) td1)
                rw [← hj] at HW2
                clear td1 td2 td3 hj
                go_upto_region 5 with fail
                go_cut [15] (fun s15 wx => s15 = .int .i64 (j : Int) ∧ Chg [] W2 wx)
                case first =>
                  go_region_with (first | (go_at_call 39; (with_reducible refine (HW2.out _).mono ?_); rintro e wq ⟨rfl, rfl⟩))
                  all_goals
                    go_wp2_with fail
                    go_meet
                    exact ⟨rfl, by first | exact Chg.refl [] _ | exact (Chg.refl [] _).drew⟩
                case rest =>
                  obtain ⟨rfl, hk3⟩ := hcut
                  rename World => W3
                  have hk13 := HK2.out.trans hk3 (by simp)
                  have HK3 := Lib.hid (HKW.out.trans hk13 (by simp))
                  have HK13 := Lib.hid hk13
                  obtain ⟨c60, c61, c62⟩ := HSC.out W3 hk13
                  obtain ⟨i1, i2⟩ := HIT.out W3 hk13
                  obtain ⟨gl, ol, rfl, hcl⟩ := HE2.out.at hl0
                  have HNL := Lib.hid (show (E.flatMap encT).length = ln * 3 by rw [flat_length encT_len, HLN.out])
                  have HNN := Lib.hid (fun (wx : World) (hk : Chg [] W3 wx) j u hj => hk.cell (HK3.out.cell (SeenK.news encT_len E ol hcl j u hj) (by simp)) (by simp))
                  have HN1 := Lib.hid (one_encT HE4.out)
                  have hwl : W3.heap.size ≤ W3.heap.size := Nat.le_refl _
                  have i2' : ∀ o, (W3.alloc o).cell? ⟨gk, ok + k, none⟩ = some (.slice (some ⟨gl, ol, none⟩) ln lcap) := fun o => ((Chg.refl [] W3).alloc o).cell i2 (by simp)
                  have c62' : ∀ o, (W3.alloc o).cell? ⟨b, 2, none⟩ = some (.slice (some ⟨gk, ok, none⟩) m kcap) := fun o => ((Chg.refl [] W3).alloc o).cell c62 (by simp)
                  have HM1 := Lib.hid (show 0 + ln ≤ maxLen by omega)
                  have HM2 := Lib.hid (show (0 + ln) * 48 ≤ 140737488355328 by have := HLB.out; omega)
                  clear hk3 hk13 hcl
                  go_wp2_with (at_builtin; refine wpList_append_own _ rfl _ _ 55 rfl W3.heap.size 30 it (.agg #[.int .i64 0, .string ByteArray.empty, .slice none 0 0]) 3 48 Try.underlying55 hit htz0 htz1 htz2 rfl (by decide) (.slice (some ⟨W3.heap.size, 0, none⟩) 0 0) 0 [] rfl (own_empty (heap_alloc_new W3 _) (Nat.le_refl _)) ⟨gl, ol, none⟩ ln lcap (E.flatMap encT) rfl HNL.out (HNN.out _ ((Chg.refl [] W3).alloc _)) HN1.out HM1.out HM2.out ((Chg.refl [] W3).alloc _).size ?_; intro v6 W6 hown6 hg6 _)
                  rw [Nat.zero_add, List.nil_append] at hown6
                  obtain ⟨a6, c6, rfl⟩ := own_shape hown6
                  obtain ⟨g6, rfl, hg6b, hg6l, hf6, hc6⟩ := own_ptr hown6 hl0
                  have hk36 : Chg [] W3 W6 := Chg.grown ((Chg.refl [] W3).alloc _) hg6 (fun q hq => .inr (by cases (show some W3.heap.size = some q from hq); exact Nat.le_refl _))
                  have hk16 := HK13.out.trans hk36 (by simp)
                  have hkw6 := HK3.out.trans hk36 (by simp)
                  obtain ⟨q, hq⟩ : ∃ q, E[j]? = some q := ⟨_, List.getElem?_eq_getElem (by rw [← HLN.out]; exact hjl)⟩
                  have e0 := hc6 (j * 3) (.int .i64 q.1.n) (by simpa using flat_get encT_len E j q 0 _ hq rfl)
                  have e1 := hc6 (j * 3 + 1) (.string q.1.s) (by simpa using flat_get encT_len E j q 1 _ hq rfl)
                  have e2 := hc6 (j * 3 + 2) q.2 (by simpa using flat_get encT_len E j q 2 _ hq rfl)
                  obtain ⟨gk0, rfl, hgk0, hgk1, -, -⟩ := own_ptr HOW.out h3
                  have hqm := List.mem_of_getElem? hq
                  have hpm : p.1 ∈ K := by rw [← HR1.out]; exact List.mem_map_of_mem (List.mem_of_getElem? HP.out)
                  have hqp : q.1 ∈ p.1 := by rw [← HE1.out]; exact List.mem_map_of_mem hqm
                  have hszq : szT q.1 ≤ szL p.1 := szL_mem hqp
                  have hszp : szL p.1 ≤ szK K := szK_mem hpm
                  have hszt : 1 + szK K ≤ 1000000 := by have h3 := HSZ.out; rw [HTE.out, szT] at h3; exact h3
                  have hb0 : w.heap.size ≤ W0.heap.size := HC0.out.size
                  have hb1 : b + 1 < W0.heap.size := Go.lt_of_block HB12.out
                  have hb2 : w.heap.size ≤ b := by rw [HBW.out]; exact Nat.le_refl _
                  have hb3 : W0.heap.size ≤ W3.heap.size := Nat.le_trans (Nat.le_trans (Nat.le_of_lt (Nat.lt_of_le_of_lt HG13.out (Go.lt_of_block HB13.out))) (Nat.le_refl _)) HK13.out.size
                  have hX6 : ∀ g ∈ [g6, gk0, b + 1], w.heap.size ≤ g := by
                    intro g hg
                    rcases List.mem_cons.1 hg with rfl | hg
                    · omega
                    · rcases List.mem_cons.1 hg with rfl | hg
                      · omega
                      · rw [List.mem_singleton.1 hg]; omega
                  have hX7 : ∀ g ∈ [g6, gk0, b + 1], g < W6.heap.size := by
                    intro g hg
                    have h1 := HK13.out.size
                    have h2 := hk36.size
                    have h4 := Go.lt_of_block HB13.out
                    have h5 := HG13.out
                    rcases List.mem_cons.1 hg with rfl | hg
                    · exact hg6l
                    · rcases List.mem_cons.1 hg with rfl | hg
                      · omega
                      · rw [List.mem_singleton.1 hg]; omega
                  have hin6 := (HE4.out q hqm).wide (S := [g6, gk0, b + 1]) hX6 hkw6
                  have hha6 := HA.out.keep hkw6
                  have hx6 : ∀ g ∈ X ++ [g6, gk0, b + 1], g < W6.heap.size := fun g hg => (List.mem_append.1 hg).elim (fun h => Nat.lt_of_lt_of_le (HXB.out g h) hkw6.size) (hX7 g)
                  have hsz6 : szT q.1 ≤ 1000000 := Nat.le_trans hszq (Nat.le_trans hszp (Nat.le_trans (Nat.le_add_left _ 1) hszt))
                  have HZ := Lib.hid (And.intro hszq (And.intro hszp hszt))
                  clear hszq hszp hszt
                  have hin7 : (ii : Int) + 1 ≤ 6 := nat_i7 h2
                  have hin8 : 0 ≤ (ii : Int) + 1 := nat_i8 ii
                  have HTN := Lib.hid (IH.out (X ++ [g6, gk0, b + 1]) q.1 q.2 (.slice (some ⟨ga, oa, none⟩) al ac) ats ((ii : Int) + 1) wh n s W6 hin6 (HS2.out p.1 hpm q.1 hqp) hsz6 hx6 hha6 HAW.out hin8 hin7 HW3.out HWH.out HNW.out)
                  clear hX6 hX7 hin6 hha6 hx6 hsz6 hin7 hin8
                  have HQ := Lib.hid hq
                  have HO6 := Lib.hid hown6
                  have HK36 := Lib.hid hk36
                  have HK16 := Lib.hid hk16
                  have HKW6 := Lib.hid hkw6
                  have HNE := Lib.hid (show g6 ≠ gk0 ∧ g6 ≠ b + 1 ∧ gk0 ≠ b + 1 ∧ g6 ≠ g13 ∧ gk0 ≠ g13 ∧ W3.heap.size ≤ g6 ∧ g13 ≠ b + 1 by
                    have := Go.lt_of_block HB13.out
                    have := HK13.out.size
                    have := HG13.out
                    have := (tagged_of_own HOW.out).ne HB13.out (by decide) gk0 rfl
                    exact ⟨by omega, by omega, by omega, by omega, by omega, by omega, by omega⟩)
                  clear hg6 hk36 hk16 hkw6 hq hown6 hc6 hf6
                  have HQP := Lib.hid (And.intro hqp hpm)
                  clear hqm hpm hqp
                  have hz55 := fun W => idx55 g6 ln c6 j hjl W
                  clear hji i2' c62' hki
                  go_wp2_with fail
                  rw [hz55 W6]
                  go_wp2_with fail
                  (with_reducible refine HTN.out.mono ?_)
                  rintro e W7 ⟨⟨U, kvu, rfl, hku, hzu⟩, hk7⟩
                  obtain ⟨uo, uc, rfl, -, -⟩ := hku.shape
                  have HO7 := Lib.hid (own_keep HO6.out hk7 (by simp))
                  have hk17 := HK16.out.trans hk7 (by simp)
                  have HR7 := Lib.hid (own_keep HOW.out hk17 (by simp))
                  have HKU := Lib.hid hku; have HZU := Lib.hid hzu
                  have HK17 := Lib.hid hk17
                  have HKW7 := Lib.hid (HKW6.out.trans hk7 (by simp))
                  have e0' := hk7.cell e0 (by simp)
                  have e1' := hk7.cell e1 (by simp)
                  have e2' := hk7.cell e2 (by simp)
                  obtain ⟨g7, he7, -, -, hf7, -⟩ := own_ptr HO7.out hl0
                  cases he7
                  have f0 := hf7 (j * 3); have f1 := hf7 (j * 3 + 1); have f2 := hf7 (j * 3 + 2)
                  clear hk7 hk17 hku hzu hf7 e0 e1 e2
                  go_upto_region 8 with fail
                  obtain ⟨n1, n2, n3, n4, n5, n6, n7⟩ := HNE.out
                  obtain ⟨W8, hW8⟩ : ∃ W8, W8 = ((W7.setCell ⟨g6, j * 3, none⟩ (.int .i64 U.n)).setCell ⟨g6, j * 3 + 1, none⟩ (.string U.s)).setCell ⟨g6, j * 3 + 2, none⟩ (.slice uo U.k.length uc) := ⟨_, rfl⟩
                  rw [← hW8]
                  have c8 : Chg [g6] W7 W8 := by
                    rw [hW8]
                    exact (((Chg.refl [g6] W7).setCell (p := ⟨g6, j * 3, none⟩) (.inl (by simp)) _).setCell (p := ⟨g6, j * 3 + 1, none⟩) (.inl (by simp)) _).setCell (p := ⟨g6, j * 3 + 2, none⟩) (.inl (by simp)) _
                  have hb138 := c8.heap (HK17.out.heap HB13.out (by simp)) (by simpa using fun e => n4 e.symm)
                  have hb128 := c8.heap ((HKW01.out.trans HK17.out (by simp)).heap HB12.out (by simp)) (by simpa using fun e => n2 e.symm)
                  have x2 := cl2_of hb138
                  have hr8 := own_keep HR7.out c8 (fun g hg => by cases (show some gk0 = some g from hg); simpa using fun e => n1 e.symm)
                  obtain ⟨g8, he8, -, -, hf8, hc8⟩ := own_ptr hr8 h3
                  cases he8
                  have y0 := hc8 k p.2 (by rw [encR_flat, List.getElem?_map, HP.out]; rfl)
                  have y1 := hf8 k
                  have HB138 := Lib.hid hb138; have HB128 := Lib.hid hb128; have HW8 := Lib.hid hW8
                  have hki : decide ((k : Int) < (m : Int)) = true := by simpa using hkm
                  clear hb138 hb128 hr8 hf8 hc8 hW8 c8
                  go_upto_region 9 with fail
                  obtain ⟨W9, hW9⟩ : ∃ W9, W9 = W8.setCell ⟨gk0, k, none⟩ (.slice (some ⟨g6, 0, none⟩) ln c6) := ⟨_, rfl⟩
                  rw [← hW9]
                  have c9 : Chg [gk0] W8 W9 := by rw [hW9]; exact (Chg.refl [gk0] W8).setCell (p := ⟨gk0, k, none⟩) (.inl (by simp)) _
                  have hb139 := c9.heap HB138.out (by simpa using fun e => n5 e.symm)
                  have hb129 := c9.heap HB128.out (by simpa using fun e => n3 e.symm)
                  have z0 := cl0_of hb139; have z1 := cl1_of hb139; have z2 := cl2_of hb139
                  have v0 := cl0_of hb129; have v1 := cl1_of hb129; have v2 := cl2_of hb129
                  have q0 := froz_of hb129 0; have q1 := froz_of hb129 1; have q2 := froz_of hb129 2
                  have HB129 := Lib.hid hb129; have HW9 := Lib.hid hW9
                  clear hb139 hb129 hW9 c9
                  go_wp2_with fail
                  have hre := rec_end (X := X) (x := .int .i64 tn) (y := .string ts) (z := .slice (some ⟨gk0, 0, none⟩) m vc0) HXB.out HKW7.out HR4.out HE4.out (own_mono HO7.out (Nat.le_trans hb0 hb3)) (own_mono HR7.out hb0) HRL.out HLN.out.symm hjl hkm n1 n2 n3 (Nat.le_succ_of_le hb2) HKU.out
                  rw [← HW8.out, ← HW9.out, HR1.out, HE1.out] at hre
                  refine ret_tree12 rfl rfl rfl (set3 HB129.out _ _ _) ⟨⟨.mk tn ts (K.set k (p.1.set j U)), .slice (some ⟨gk0, 0, none⟩) m vc0, rfl, hre.1, ?_⟩, hre.2⟩
                  rw [HTE.out]
                  exact sz_rec (by rw [← HR1.out, List.getElem?_map, HP.out]; rfl) (by rw [← HE1.out, List.getElem?_map, HQ.out]; rfl) HZU.out
              · have d4 : decide ((0 : Int) < (ln : Int)) = false := by simp; omega
                go_wp2_with fail
                go_meet
                case rel => exact HK2.out
        case rest =>
          rename World => W2
          have HK2 := Lib.hid (HKW.out.trans hcut (by simp))
          have HB2 := Lib.hid (hcut.heap HB13.out (by simp))
          have HZ2 := Lib.hid ((HKW01.out.trans hcut (by simp)).heap HB12.out (by simp))
          have HO2 := Lib.hid (own_keep HOW.out hcut (by simp))
          have HS02 := Lib.hid (Nat.le_trans HKW01.out.size hcut.size)
          have hbw : w.heap.size ≤ b + 1 := by rw [HBW.out]; exact Nat.le_succ _
          have hgb : g13 ≠ b + 1 := by
            have := Go.lt_of_block HB12.out
            have := HG13.out
            omega
          have hwW0 : w.heap.size ≤ W0.heap.size := HC0.out.size
          have hvb : ∀ g, (Value.slice va0 m vc0).ownBlock = some g → g ≠ b + 1 ∧ g ≠ g13 := fun g hg => by
            have h1 := own_ge HOW.out g hg
            have h2 := Go.lt_of_block HB12.out
            exact ⟨by omega, (tagged_of_own HOW.out).ne HB13.out (by decide) g hg⟩
          have HVB := Lib.hid hvb
          obtain ⟨c, hc⟩ : ∃ c, c = (wh % ((6 : Nat) : Int)).toNat := ⟨_, rfl⟩
          have HWC := Lib.hid (fun wx => w8_int wh 6 6 wx rfl (by decide) (by decide) HWH.out)
          have hc3 : c < 3 := by rw [hc]; exact HW3.out
          rw [← hc] at HWC
          clear hcut hc hvb c60 c61 c62 hcc
          have x0 := cl0_of HB2.out; have x1 := cl1_of HB2.out; have x2 := cl2_of HB2.out
          have k0 := froz_of HB2.out 0; have k1 := froz_of HB2.out 1; have k2 := froz_of HB2.out 2
          have hcs : c = 0 ∨ c = 1 ∨ c = 2 := by omega
          rcases hcs with rfl | rfl | rfl
          · have hc8 : Chg [g13] W2 (W2.setCell ⟨g13, 0, none⟩ (.int .i64 n)) := (Chg.refl [g13] W2).setCell (p := ⟨g13, 0, none⟩) (.inl (by simp)) _
            have hb8 : (W2.setCell ⟨g13, 0, none⟩ (.int .i64 n)).heap[g13]? = some (.cells #[.int .i64 n, .string ts, .slice va0 m vc0] 30 (0, 0)) := by rw [heap_set HB2.out]; rfl
            have hz8 := hc8.heap HZ2.out (by simpa using fun e => hgb e.symm)
            obtain ⟨W8, hW8⟩ : ∃ W8, W8 = W2.setCell ⟨g13, 0, none⟩ (.int .i64 n) := ⟨_, rfl⟩
            rw [← hW8] at hc8 hb8 hz8
            have HC8 := Lib.hid hc8; have HB8 := Lib.hid hb8; have HZ8 := Lib.hid hz8; have HW8 := Lib.hid hW8
            have y0 := cl0_of hb8; have y1 := cl1_of hb8; have y2 := cl2_of hb8
            have z0 := cl0_of hz8; have z1 := cl1_of hz8; have z2 := cl2_of hz8
            have q0 := froz_of hz8 0; have q1 := froz_of hz8 1; have q2 := froz_of hz8 2
            clear hc8 hb8 hz8 hW8
            go_upto_region 11 with (first | (go_at_call 39; (with_reducible refine (HWC.out _).mono ?_); rintro e wq ⟨rfl, rfl⟩) | fail)
            go_upto_region 27 with fail
            rw [← HW8.out]
            go_wp2_with fail
            have hkw := HK2.out.trans HC8.out (fun g hg => .inr (by rw [List.mem_singleton.1 hg]; have := HG13.out; omega))
            have hre := sw_end (X := X) (D := D) (x := .int .i64 n) (y := .string ts) (z := .slice va0 m vc0) HXB.out hkw (own_keep HO2.out HC8.out (fun g hg => by simpa using (HVB.out g hg).2)) hwW0 HRL.out (fun g hg => (HVB.out g hg).1) hbw (old_lists HR4.out hkw hbw)
            rw [HR1.out] at hre
            refine ret_tree12 rfl rfl rfl (set3 HZ8.out _ _ _) ⟨⟨.mk n ts K, .slice va0 m vc0, rfl, hre.1, ?_⟩, hre.2⟩
            rw [HTE.out]
            exact szT_same _ _ _ _ _
          · have hc8 : Chg [g13] W2 (W2.setCell ⟨g13, 1, none⟩ (.string s)) := (Chg.refl [g13] W2).setCell (p := ⟨g13, 1, none⟩) (.inl (by simp)) _
            have hb8 : (W2.setCell ⟨g13, 1, none⟩ (.string s)).heap[g13]? = some (.cells #[.int .i64 tn, .string s, .slice va0 m vc0] 30 (0, 0)) := by rw [heap_set HB2.out]; rfl
            have hz8 := hc8.heap HZ2.out (by simpa using fun e => hgb e.symm)
            obtain ⟨W8, hW8⟩ : ∃ W8, W8 = W2.setCell ⟨g13, 1, none⟩ (.string s) := ⟨_, rfl⟩
            rw [← hW8] at hc8 hb8 hz8
            have HC8 := Lib.hid hc8; have HB8 := Lib.hid hb8; have HZ8 := Lib.hid hz8; have HW8 := Lib.hid hW8
            have y0 := cl0_of hb8; have y1 := cl1_of hb8; have y2 := cl2_of hb8
            have z0 := cl0_of hz8; have z1 := cl1_of hz8; have z2 := cl2_of hz8
            have q0 := froz_of hz8 0; have q1 := froz_of hz8 1; have q2 := froz_of hz8 2
            clear hc8 hb8 hz8 hW8
            go_upto_region 11 with (first | (go_at_call 39; (with_reducible refine (HWC.out _).mono ?_); rintro e wq ⟨rfl, rfl⟩) | fail)
            go_upto_region 27 with fail
            rw [← HW8.out]
            go_wp2_with fail
            have hkw := HK2.out.trans HC8.out (fun g hg => .inr (by rw [List.mem_singleton.1 hg]; have := HG13.out; omega))
            have hre := sw_end (X := X) (D := D) (x := .int .i64 tn) (y := .string s) (z := .slice va0 m vc0) HXB.out hkw (own_keep HO2.out HC8.out (fun g hg => by simpa using (HVB.out g hg).2)) hwW0 HRL.out (fun g hg => (HVB.out g hg).1) hbw (old_lists HR4.out hkw hbw)
            rw [HR1.out] at hre
            refine ret_tree12 rfl rfl rfl (set3 HZ8.out _ _ _) ⟨⟨.mk tn s K, .slice va0 m vc0, rfl, hre.1, ?_⟩, hre.2⟩
            rw [HTE.out]
            exact szT_same _ _ _ _ _
          · have HOA := Lib.hid (HO2.out.alloc (.cells #[.slice none 0 0] 55))
            have HM1 := Lib.hid (show m + 1 ≤ maxLen by unfold maxLen; omega)
            have HM2 := Lib.hid (show (m + 1) * 24 ≤ 140737488355328 by omega)
            have HBZ := Lib.hid (show W0.heap.size ≤ (W2.alloc (.cells #[.slice none 0 0] 55)).heap.size from Nat.le_trans HS02.out ((Chg.refl [] W2).alloc _).size)
            have HNW := Lib.hid (new_cells (w := W2) (T := 55) (C := #[.slice none 0 0]) W2.heap.size rfl)
            go_upto_region 11 with (first | (go_at_call 39; (with_reducible refine (HWC.out _).mono ?_); rintro e wq ⟨rfl, rfl⟩) | fail)
            go_upto_region 27 with (first | (at_builtin; refine wpList_append_own _ rfl _ _ 28 rfl W0.heap.size 55 il (.slice none 0 0) 1 24 Try.underlying28 hil hlz0 hlz1 hlz2 rfl (by decide) (.slice va0 m vc0) m (R.flatMap encR) rfl HOA.out ⟨W2.heap.size, 0, none⟩ 1 1 [.slice none 0 0] rfl rfl HNW.out (by simp; rfl) HM1.out HM2.out HBZ.out ?_; intro v3 W3 hown3 hg3 _; obtain ⟨va3, vc3, rfl⟩ := own_shape hown3; have hc3 := ((Chg.refl (Value.slice va0 m vc0).ownBlock.toList W2).alloc (.cells #[.slice none 0 0] 55)).grown hg3 (fun q hq => .inl (Option.mem_toList.2 hq)); have hb3 := hc3.heap HB2.out (fun hm => (HVB.out g13 (Option.mem_toList.1 hm)).2 rfl); have hz3 := hc3.heap HZ2.out (fun hm => (HVB.out (b + 1) (Option.mem_toList.1 hm)).1 rfl); have l2 := cl2_of hb3; have m2 := froz_of hb3 2; have HB3 := Lib.hid hb3; have HZ3 := Lib.hid hz3; have HC3 := Lib.hid hc3; have HO3 := Lib.hid hown3; clear hb3 hz3 hc3 hown3 hg3) | fail)
            have hb8 : (W3.setCell ⟨g13, 2, none⟩ (.slice va3 (m + 1) vc3)).heap[g13]? = some (.cells #[.int .i64 tn, .string ts, .slice va3 (m + 1) vc3] 30 (0, 0)) := by rw [heap_set HB3.out]; rfl
            have hc8 : Chg [g13] W3 (W3.setCell ⟨g13, 2, none⟩ (.slice va3 (m + 1) vc3)) := (Chg.refl [g13] W3).setCell (p := ⟨g13, 2, none⟩) (.inl (by simp)) _
            have hz8 := hc8.heap HZ3.out (by simpa using fun e => hgb e.symm)
            obtain ⟨W8, hW8⟩ : ∃ W8, W8 = W3.setCell ⟨g13, 2, none⟩ (.slice va3 (m + 1) vc3) := ⟨_, rfl⟩
            rw [← hW8] at hc8 hb8 hz8 ⊢
            have HZ8 := Lib.hid hz8; have HC8 := Lib.hid hc8
            have y0 := cl0_of hb8; have y1 := cl1_of hb8; have y2 := cl2_of hb8
            have z0 := cl0_of hz8; have z1 := cl1_of hz8; have z2 := cl2_of hz8
            have q0 := froz_of hz8 0; have q1 := froz_of hz8 1; have q2 := froz_of hz8 2
            clear hc8 hb8 hz8 hW8
            go_wp2_with fail
            have hk3 : Chg [] w W3 := HK2.out.trans HC3.out (fun g hg => .inr (Nat.le_trans hwW0 (own_ge HOW.out g (Option.mem_toList.1 hg))))
            have hkw := hk3.trans HC8.out (fun g hg => .inr (by rw [List.mem_singleton.1 hg]; have := HG13.out; omega))
            have hv3 : ∀ g, (Value.slice va3 (m + 1) vc3).ownBlock = some g → g ≠ b + 1 ∧ g ≠ g13 := fun g hg => by
              have h1 := own_ge HO3.out g hg
              have h2 := Go.lt_of_block HB12.out
              exact ⟨by omega, (tagged_of_own HO3.out).ne HB3.out (by decide) g hg⟩
            have hre := sw_end (X := X) (D := D) (R := R ++ [([], .slice none 0 0)]) (x := .int .i64 tn) (y := .string ts) (z := .slice va3 (m + 1) vc3) HXB.out hkw (by rw [List.flatMap_append]; exact own_keep HO3.out HC8.out (fun g hg => by simpa using (hv3 g hg).2)) hwW0 (by rw [List.length_append, HRL.out]; rfl) (fun g hg => (hv3 g hg).1) hbw (fun p hp => (List.mem_append.1 hp).elim (old_lists HR4.out hkw hbw p) (fun h => by rw [List.mem_singleton.1 h]; exact listIn_nil))
            rw [List.map_append, HR1.out] at hre
            refine ret_tree12 rfl rfl rfl (set3 HZ8.out _ _ _) ⟨⟨.mk tn ts (K ++ [[]]), .slice va3 (m + 1) vc3, rfl, hre.1, ?_⟩, hre.2⟩
            rw [HTE.out]
            exact szT_snoc _ _ _ _ _

end Go.Proofs.Ythhcnlmjcpkbnaa
