/- A row that is appended to, and where it lies then; rows of one element type that lie in blocks of their own. (For the reference's walk.) -/
import Derived.Test.YtofnpcfclcfgfaaMw
import Derived.Test.YtofnpcfclcfgfaaSu
import Derived.Maps.AppendAt
namespace Go.Proofs.Ytofnpcfclcfgfaa
open Go.RowKit
set_option linter.unusedVariables false

/-- append of one element laid at a, and where the row lies then. -/
theorem wp_append_at {P : Program} (w : World) {o : Oper} {a : Act} {K : Act → World → Prop} {Q : Exit → Act → World → Prop} (s x : Operand) (t : TypeId)
    (ho : o.op = .call { callee := .builtin .append, args := #[s, x], argTypes := #[t, t] })
    (base : Nat) (e : TypeId) (i : TypeInfo) (z : Value) (size bytes : Nat) (ht : P.underlying t = some (.slice e)) (hi : P.info? e = some i) (hz : i.zero = some z)
    (hsize : i.size = size) (hby : i.bytes = bytes) (hzs : z.cells.size = size) (hsz : 0 < size)
    (v : Value) (n : Nat) (xs : List Value) (hs : a.eval s = v) (hown : w.ownsRow base e size v n xs)
    (ad : Addr) (m c : Nat) (news : List Value) (hx : a.eval x = .slice (some ad) m c) (hl : news.length = m * size) (hnews : ∀ j u, news[j]? = some u → w.cell? (ad.add j) = some u) (h1 : ∀ u ∈ news, u.oneCell' = true)
    (h63 : n + m ≤ maxLen) (hbytes : (n + m) * bytes ≤ 140737488355328) (hbase : base ≤ w.heap.size)
    (h : ∀ v' w', w'.ownsRow base e size v' (n + m) (xs ++ news) → w.grownBy w' v.ownBlock → (v'.ownBlock = v.ownBlock ∨ v'.ownBlock = some w.heap.size) → K (a.put o.dst v') w') : o.wp P a w K Q := by
  obtain ⟨v', w', hrun, h2, h3, -, h4⟩ := run_append_own_at (P := P) w base t o.type e i z size bytes ht hi hz hsize hby hzs hsz v n xs hown ad m c news hl hnews h1 h63 hbytes hbase
  unfold Oper.wp execOp
  simp only [ho, resolve, invoke, builtin, Sem.run_bind, Sem.run_pure, Result.andThen_ok, List.map_toArray, List.map_cons, List.map_nil, hs, hx, hrun]
  exact h v' w' h2 h3 h4

theorem wpList_append_at {P : Program} (w : World) {ops : Array Oper} {rest : List Oper} {o : Oper} {a : Act} {Q : Exit → Act → World → Prop} (hgd : o.guard = none) (s x : Operand) (t : TypeId)
    (ho : o.op = .call { callee := .builtin .append, args := #[s, x], argTypes := #[t, t] })
    (base : Nat) (e : TypeId) (i : TypeInfo) (z : Value) (size bytes : Nat) (ht : P.underlying t = some (.slice e)) (hi : P.info? e = some i) (hz : i.zero = some z)
    (hsize : i.size = size) (hby : i.bytes = bytes) (hzs : z.cells.size = size) (hsz : 0 < size)
    (v : Value) (n : Nat) (xs : List Value) (hs : a.eval s = v) (hown : w.ownsRow base e size v n xs)
    (ad : Addr) (m c : Nat) (news : List Value) (hx : a.eval x = .slice (some ad) m c) (hl : news.length = m * size) (hnews : ∀ j u, news[j]? = some u → w.cell? (ad.add j) = some u) (h1 : ∀ u ∈ news, u.oneCell' = true)
    (h63 : n + m ≤ maxLen) (hbytes : (n + m) * bytes ≤ 140737488355328) (hbase : base ≤ w.heap.size)
    (h : ∀ v' w', w'.ownsRow base e size v' (n + m) (xs ++ news) → w.grownBy w' v.ownBlock → (v'.ownBlock = v.ownBlock ∨ v'.ownBlock = some w.heap.size) → wpList P ops Q rest (a.put o.dst v') w') : wpList P ops Q (o :: rest) a w :=
  wpList_plain hgd fun _ hK => wp_append_at w s x t ho base e i z size bytes ht hi hz hsize hby hzs hsz v n xs hs hown ad m c news hx hl hnews h1 h63 hbytes hbase fun v' w' h2 h3 h4 => hK _ _ (h v' w' h2 h3 h4)

theorem step_append_at {P : Program} {w : World} {ops : Array Oper} {o : Oper} {a : Act} {K : Act → World → Prop} {Q : Exit → Act → World → Prop} {E : Prop} (hgd : o.guard = none) (s x : Operand) (t : TypeId)
    (ho : o.op = .call { callee := .builtin .append, args := #[s, x], argTypes := #[t, t] })
    (base : Nat) (e : TypeId) (i : TypeInfo) (z : Value) (size bytes : Nat) (ht : P.underlying t = some (.slice e)) (hi : P.info? e = some i) (hz : i.zero = some z)
    (hsize : i.size = size) (hby : i.bytes = bytes) (hzs : z.cells.size = size) (hsz : 0 < size)
    (v : Value) (n : Nat) (xs : List Value) (hs : a.eval s = v) (hown : w.ownsRow base e size v n xs)
    (ad : Addr) (m c : Nat) (news : List Value) (hx : a.eval x = .slice (some ad) m c) (hl : news.length = m * size) (hnews : ∀ j u, news[j]? = some u → w.cell? (ad.add j) = some u) (h1 : ∀ u ∈ news, u.oneCell' = true)
    (h63 : n + m ≤ maxLen) (hbytes : (n + m) * bytes ≤ 140737488355328) (hbase : base ≤ w.heap.size)
    (h : ∀ v' w', w'.ownsRow base e size v' (n + m) (xs ++ news) → w.grownBy w' v.ownBlock → (v'.ownBlock = v.ownBlock ∨ v'.ownBlock = some w.heap.size) → K (a.put o.dst v') w') :
    if Region.wanted o (yielded ops a.tmps) = true then Oper.wp P o a w K Q else E := by
  have hw : Region.wanted o (yielded ops a.tmps) = true := by simp [Region.wanted, hgd]
  rw [if_pos hw]
  exact wp_append_at w s x t ho base e i z size bytes ht hi hz hsize hby hzs hsz v n xs hs hown ad m c news hx hl hnews h1 h63 hbytes hbase h

/-- Two values do not lie in one block. -/
def Sep (a b : Value) : Prop := ∀ g, a.ownBlock = some g → b.ownBlock = some g → False
theorem Sep.symm {a b : Value} (h : Sep a b) : Sep b a := fun g h1 h2 => h g h2 h1
theorem Sep.nil (b : Value) : Sep (.slice none 0 0) b := fun g h => by simp [Value.ownBlock] at h
/-- The row has grown: it lies where it lay, or in a new block. -/
theorem Sep.grow {w : World} {a a' b : Value} (h : Sep a b) (hg : a'.ownBlock = a.ownBlock ∨ a'.ownBlock = some w.heap.size) (hb : ∀ g, b.ownBlock = some g → g < w.heap.size) : Sep a' b := by
  intro g h1 h2
  rcases hg with e | e
  · exact h g (by rw [← e]; exact h1) h2
  · rw [e] at h1
    injection h1 with h1
    have := hb g h2
    omega
theorem own_lt {w : World} {B T size n : Nat} {v : Value} {xs : List Value} (h : w.ownsRow B T size v n xs) : ∀ g, v.ownBlock = some g → g < w.heap.size := fun g hg => (h.lt g hg).2
theorem own_kept {w w' : World} {B T size n : Nat} {v a : Value} {xs : List Value} (h : w.ownsRow B T size v n xs) (hg : w.grownBy w' a.ownBlock) (hs : Sep v a) : w'.ownsRow B T size v n xs := by
  refine h.kept hg ?_
  cases hv : v.ownBlock with
  | none => exact .inl rfl
  | some g => exact .inr fun e => hs g hv e.symm

theorem new_cell {w : World} {T : TypeId} {x : Value} : ∀ (j : Nat) (u : Value), [x][j]? = some u → (w.alloc (.cells #[x] T)).cell? ((⟨w.heap.size, 0, none⟩ : Addr).add j) = some u := by
  intro j u hu
  have := new_cells (w := w) (T := T) (C := #[x]) w.heap.size rfl j u
  exact this hu

theorem le_alloc {w : World} {B : Nat} (h : B ≤ w.heap.size) (o : Obj) : B ≤ (w.alloc o).heap.size := Nat.le_trans h (by simp)
theorem lt_alloc {w : World} {B : Nat} (h : B < w.heap.size) (o : Obj) : B < (w.alloc o).heap.size := Nat.lt_of_lt_of_le h (by simp)

theorem one_i {x : Int} : ∀ u ∈ [Value.int .i64 x], u.oneCell' = true := by intro u hu; simp at hu; subst hu; rfl

theorem cell_old {w0 w4 : World} {row : Option Nat} (hg : w0.grownBy w4 row) {g : Nat} {x : Value} (hc : w0.cell? ⟨g, 0, none⟩ = some x) (hr : row ≠ some g) : ∀ (j : Nat) (u : Value), [x][j]? = some u → w4.cell? ((⟨g, 0, none⟩ : Addr).add j) = some u := by
  intro j u hu
  cases j with
  | zero =>
    simp at hu
    subst hu
    have hlt : g < w0.heap.size := World.block_lt_of_cell? w0 ⟨g, 0, none⟩ hc
    have h : w4.cell? ⟨g, 0, none⟩ = w0.cell? ⟨g, 0, none⟩ := World.cell?_of_block (hg.block g hlt (fun e => hr e.symm))
    rw [show (⟨g, 0, none⟩ : Addr).add 0 = ⟨g, 0, none⟩ from rfl]
    exact h.trans hc
  | succ j => simp at hu

theorem new_cell2 {w : World} {T : TypeId} {x : Value} {o : Obj} : ∀ (j : Nat) (u : Value), [x][j]? = some u → ((w.alloc (.cells #[x] T)).alloc o).cell? ((⟨w.heap.size, 0, none⟩ : Addr).add j) = some u := by
  intro j u hu
  have h := new_cell (w := w) (T := T) j u hu
  rwa [World.cell?_alloc_lt _ _ _ (by rw [addr_add]; simp)]

theorem Sep.sl {a : Option Addr} {n c m d : Nat} {b : Value} (h : Sep (.slice a n c) b) : Sep (.slice a m d) b := by cases a <;> exact h

/-! ### the reference's stack -/

/-- The groups, the outer ones first. -/
def grS (st : List (Nat × Int)) : List Int := (st.map fun e => (e.1 : Int)).reverse
def ctS (st : List (Nat × Int)) : List Int := (st.map (·.2)).reverse
@[simp] theorem grS_length (st : List (Nat × Int)) : (grS st).length = st.length := by simp [grS]
@[simp] theorem ctS_length (st : List (Nat × Int)) : (ctS st).length = st.length := by simp [ctS]
theorem grS_cons (g : Nat) (x : Int) (t : List (Nat × Int)) : grS ((g, x) :: t) = grS t ++ [(g : Int)] := by simp [grS]
theorem ctS_cons (g : Nat) (x : Int) (t : List (Nat × Int)) : ctS ((g, x) :: t) = ctS t ++ [x] := by simp [ctS]
theorem grS_last (g : Nat) (x : Int) (t : List (Nat × Int)) : (iv (grS ((g, x) :: t)))[t.length]? = some (.int .i64 (g : Int)) := by
  rw [grS_cons, iv, List.map_append, List.getElem?_append_right (by simp)]
  simp
theorem ctS_last (g : Nat) (x : Int) (t : List (Nat × Int)) : (iv (ctS ((g, x) :: t)))[t.length]? = some (.int .i64 x) := by
  rw [ctS_cons, iv, List.map_append, List.getElem?_append_right (by simp)]
  simp
theorem grS_pop (g : Nat) (x : Int) (t : List (Nat × Int)) : (iv (grS ((g, x) :: t))).take t.length = iv (grS t) := by
  rw [grS_cons, iv, List.map_append, List.take_append_of_le_length (by simp), List.take_of_length_le (by simp)]
  rfl
theorem ctS_pop (g : Nat) (x : Int) (t : List (Nat × Int)) : (iv (ctS ((g, x) :: t))).take t.length = iv (ctS t) := by
  rw [ctS_cons, iv, List.map_append, List.take_append_of_le_length (by simp), List.take_of_length_le (by simp)]
  rfl
theorem ctS_dec (g : Nat) (x : Int) (t : List (Nat × Int)) : (iv (ctS ((g, x) :: t))).set t.length (.int .i64 (x - 1)) = iv (ctS ((g, x - 1) :: t)) := by
  rw [ctS_cons, ctS_cons, iv, List.map_append, List.set_append, if_neg (by simp)]
  simp [iv]
theorem iv_snoc (l : List Int) (x : Int) : iv l ++ [.int .i64 x] = iv (l ++ [x]) := by simp [iv]

/-- What the groups that are open say is not below nought, nor too much for a number. -/
def Fine (st : List (Nat × Int)) : Prop := ∀ e ∈ st, 0 ≤ e.2 ∧ e.2 ≤ 9223372036854775807
theorem Fine.pop {st : List (Nat × Int)} (h : Fine st) : Fine (popR st) := fun e he => h e ((popR_suffix st).subset he)
theorem popR_len (st : List (Nat × Int)) : (popR st).length ≤ st.length := (popR_suffix st).length_le
theorem popR_top {st : List (Nat × Int)} {g : Nat} {x : Int} {t : List (Nat × Int)} (h : popR st = (g, x) :: t) : x ≠ 0 := by
  induction st with
  | nil => cases h
  | cons a s ih =>
    obtain ⟨g', x'⟩ := a
    rw [popR] at h
    split at h
    · exact ih h
    · rename_i hx
      injection h with h1 h2
      injection h1 with h3 h4
      rw [← h4]; exact hx
theorem Fine.push {st : List (Nat × Int)} (h : Fine st) {i : Nat} {f : F} (hc : f.c ≤ 9223372036854775807) : Fine (pushR i f st) := by
  unfold pushR
  split
  · rename_i hk
    intro e he
    rcases List.mem_cons.1 he with rfl | he
    · exact ⟨by simp only; omega, hc⟩
    · exact h e he
  · exact h

end Go.Proofs.Ytofnpcfclcfgfaa
