/- Plain words on memory: which blocks a call may have changed; a slice that reads as a list; append of a slice of another named type. -/
import Derived.WalkKit
import Derived.WalkSpells
import Derived.WalkLawsBesides
import Derived.Lib.Hide
namespace Go.Proofs.Ytgfjmbjpikcffaa
open Go.RowKit
set_option linter.unusedVariables false

/-- Of the blocks that were there at most those of the list S have changed. -/
structure Chg (S : List Nat) (w w' : World) : Prop where
  os : w'.os = w.os
  tape : w'.tape = w.tape
  output : w'.output = w.output
  size : w.heap.size ≤ w'.heap.size
  block : ∀ k, k < w.heap.size → k ∉ S → w'.heap[k]? = w.heap[k]?

theorem Chg.refl (S : List Nat) (w : World) : Chg S w w := ⟨rfl, rfl, rfl, Nat.le_refl _, fun _ _ _ => rfl⟩

theorem Chg.trans {S T : List Nat} {a b c : World} (h : Chg S a b) (k : Chg T b c) (hT : ∀ t, t ∈ T → t ∈ S ∨ a.heap.size ≤ t) : Chg S a c :=
  ⟨k.os.trans h.os, k.tape.trans h.tape, k.output.trans h.output, Nat.le_trans h.size k.size, fun i hi hS => by
    have hiT : i ∉ T := fun hm => by rcases hT i hm with h1 | h1 <;> first | exact hS h1 | omega
    exact (k.block i (Nat.lt_of_lt_of_le hi h.size) hiT).trans (h.block i hi hS)⟩

theorem Chg.mono {S T : List Nat} {w w' : World} (h : Chg S w w') (hs : ∀ k, k ∈ S → k ∈ T ∨ w.heap.size ≤ k) : Chg T w w' :=
  ⟨h.os, h.tape, h.output, h.size, fun k hk hT => h.block k hk fun hm => by rcases hs k hm with h1 | h1 <;> first | exact hT h1 | omega⟩

theorem Chg.drew {S : List Nat} {a w : World} (h : Chg S a w) : Chg S a w.drew := ⟨h.os, h.tape, h.output, h.size, h.block⟩

theorem Chg.drewN {S : List Nat} {a w : World} (h : Chg S a w) (n : Nat) : Chg S a (w.drewN n) := ⟨h.os, h.tape, h.output, h.size, h.block⟩

theorem Chg.alloc {S : List Nat} {a w : World} (h : Chg S a w) (o : Obj) : Chg S a (w.alloc o) :=
  h.trans (T := []) ⟨rfl, rfl, rfl, by simp, fun k hk _ => Go.heap_alloc_old w o hk⟩ (by simp)

theorem Chg.setCell {S : List Nat} {a w : World} (h : Chg S a w) {p : Addr} (hp : p.block ∈ S ∨ a.heap.size ≤ p.block) (u : Value) : Chg S a (w.setCell p u) :=
  h.trans (T := [p.block]) ⟨rfl, rfl, rfl, by simp, fun k _ hk => heap_setCell_other w p k u (by simpa using hk)⟩ (by simpa using hp)

theorem Chg.grown {S : List Nat} {a w w' : World} {row : Option Nat} (h : Chg S a w) (hg : w.grownBy w' row) (hr : ∀ k, row = some k → k ∈ S ∨ a.heap.size ≤ k) : Chg S a w' :=
  h.trans (T := row.toList) ⟨hg.os, hg.tape, hg.output, hg.size, fun k hk hn => hg.block k hk fun e => hn (by simp [← e])⟩ (fun t ht => hr t (by simpa using ht))

theorem Chg.alike {S : List Nat} {a w w' : World} (h : Chg S a w) (hw : w'.Alike w) (ht : w'.tape = w.tape) : Chg S a w' :=
  h.trans (T := []) ⟨hw.2.1, ht, hw.2.2, by rw [hw.1]; exact Nat.le_refl _, fun k _ _ => by rw [hw.1]⟩ (by simp)

theorem Chg.cell {S : List Nat} {w w' : World} (h : Chg S w w') {p : Addr} {v : Value} (hc : w.cell? p = some v) (hp : p.block ∉ S) : w'.cell? p = some v :=
  (World.cell?_of_block (h.block p.block (World.block_lt_of_cell? w p hc) hp)).trans hc

theorem Chg.heap {S : List Nat} {w w' : World} (h : Chg S w w') {k : Nat} {o : Obj} (hk : w.heap[k]? = some o) (hS : k ∉ S) : w'.heap[k]? = some o :=
  (h.block k (Go.lt_of_block hk) hS).trans hk

theorem Chg.below {S : List Nat} {w w' : World} (h : Chg S w w') {B : Nat} (hB : B ≤ w.heap.size) (hS : ∀ k, k ∈ S → B ≤ k) : Below B w w' :=
  ⟨h.os, h.tape, h.output, h.size, fun k hk => h.block k (by omega) fun hm => by have := hS k hm; omega⟩

theorem Chg.toGrown {r : Nat} {w w' : World} (h : Chg [r] w w') : w.grownBy w' (some r) :=
  ⟨h.os, h.tape, h.output, h.size, fun k hk hn => h.block k hk (by simpa [eq_comm] using hn)⟩

theorem Chg.toGrown0 {w w' : World} (h : Chg [] w w') : w.grownBy w' none :=
  ⟨h.os, h.tape, h.output, h.size, fun k hk _ => h.block k hk (by simp)⟩

theorem Below.chg {w w' : World} (h : Below w.heap.size w w') : Chg [] w w' := ⟨h.os, h.tape, h.output, h.size, fun k hk _ => h.block k hk⟩

/-! ### a slice that reads as a list (one cell an element) -/

/-- The slice value v reads as the list xs. -/
def Reads (w : World) (v : Value) (xs : List Value) : Prop :=
  (v = .slice none 0 0 ∧ xs = []) ∨
  ∃ g off cap, v = .slice (some ⟨g, off, none⟩) xs.length cap ∧ xs.length ≤ cap ∧ cap ≤ maxLen ∧ ∀ j u, xs[j]? = some u → w.cell? ⟨g, off + j, none⟩ = some u

/-- The slice value v reads as the list xs, wherever its array lies (an argument's, too). -/
def Seen (w : World) (v : Value) (xs : List Value) : Prop :=
  (v = .slice none 0 0 ∧ xs = []) ∨
  ∃ a cap, v = .slice (some a) xs.length cap ∧ xs.length ≤ cap ∧ cap ≤ maxLen ∧ ∀ j u, xs[j]? = some u → w.cell? (a.add j) = some u

theorem addr_add (g off j : Nat) : (⟨g, off, none⟩ : Addr).add j = ⟨g, off + j, none⟩ := by unfold Addr.add; split <;> simp_all

theorem Reads.seen {w : World} {v : Value} {xs : List Value} (h : Reads w v xs) : Seen w v xs := by
  rcases h with h | ⟨g, off, cap, rfl, h1, h2, h3⟩
  · exact .inl h
  · exact .inr ⟨_, cap, rfl, h1, h2, fun j u hu => by rw [addr_add]; exact h3 j u hu⟩

theorem Seen.nil (w : World) : Seen w (.slice none 0 0) [] := .inl ⟨rfl, rfl⟩

theorem Seen.shape {w : World} {v : Value} {xs : List Value} (h : Seen w v xs) : ∃ ao cap, v = .slice ao xs.length cap ∧ xs.length ≤ cap ∧ cap ≤ maxLen := by
  rcases h with ⟨rfl, rfl⟩ | ⟨a, cap, rfl, h1, h2, _⟩
  · exact ⟨none, 0, rfl, by simp, by simp⟩
  · exact ⟨_, cap, rfl, h1, h2⟩

theorem Seen.keep {w w' : World} {v : Value} {xs : List Value} (h : Seen w v xs) (hc : Chg [] w w') : Seen w' v xs := by
  rcases h with h | ⟨a, cap, rfl, h1, h2, h3⟩
  · exact .inl h
  · exact .inr ⟨a, cap, rfl, h1, h2, fun j u hu => hc.cell (h3 j u hu) (by simp)⟩

/-- What the walk is told of a slice of integers that came in. -/
def IsRow (k : IntKind) (w : World) (a : Option Addr) (len cap : Nat) (zs : List Int) : Prop :=
  (a = none ∧ len = 0 ∧ cap = 0 ∧ zs = []) ∨
  ∃ x, a = some x ∧ len ≤ cap ∧ cap ≤ maxLen ∧ zs.length = cap ∧ (∀ i, i < zs.length → w.cell? (x.add i) = some (.int k (zs.getD i 0))) ∧ ∀ n ∈ zs, (Lit.int k n).wf = true

theorem IsRow.seen {k : IntKind} {w : World} {a : Option Addr} {len cap : Nat} {zs : List Int} (h : IsRow k w a len cap zs) : Seen w (.slice a len cap) ((zs.take len).map (Value.int k)) ∧ (zs.take len).length = len := by
  rcases h with ⟨rfl, rfl, rfl, rfl⟩ | ⟨x, rfl, h1, h2, h3, h4, h5⟩
  · exact ⟨.inl ⟨rfl, rfl⟩, rfl⟩
  · have e : (zs.take len).length = len := by simp; omega
    refine ⟨.inr ⟨x, cap, by rw [List.length_map, e], by rw [List.length_map, e]; exact h1, h2, fun j u hu => ?_⟩, e⟩
    rw [List.getElem?_map, List.getElem?_take] at hu
    split at hu
    · have hj : j < zs.length := by omega
      rw [List.getElem?_eq_getElem hj] at hu
      simp at hu
      subst hu
      have := h4 j hj
      simpa [List.getD, hj] using this
    · cases hu

theorem IsRow.wf {k : IntKind} {w : World} {a : Option Addr} {len cap : Nat} {zs : List Int} (h : IsRow k w a len cap zs) : ∀ n ∈ zs, (Lit.int k n).wf = true := by
  rcases h with ⟨rfl, rfl, rfl, rfl⟩ | ⟨x, rfl, h1, h2, h3, h4, h5⟩
  · simp
  · exact h5

/-- The block of v's array is one of element type T. -/
def Tagged (w : World) (T : TypeId) (v : Value) : Prop := ∀ g, v.ownBlock = some g → ∃ cur fr, w.heap[g]? = some (.cells cur T fr)

theorem Tagged.ne {w : World} {T T' : TypeId} {v : Value} {r : Nat} {cs : Array Value} {fr : Nat × Nat} (h : Tagged w T v) (hr : w.heap[r]? = some (.cells cs T' fr)) (hT : T ≠ T') : ∀ g, v.ownBlock = some g → g ≠ r := by
  intro g hg e
  subst e
  obtain ⟨cur, f, hc⟩ := h g hg
  rw [hr] at hc
  injection hc with hc
  injection hc with h1 h2 h3
  exact hT h2.symm

theorem Tagged.lt {w : World} {T : TypeId} {v : Value} (h : Tagged w T v) : ∀ g, v.ownBlock = some g → g < w.heap.size := by
  intro g hg
  obtain ⟨cur, f, hc⟩ := h g hg
  exact Go.lt_of_block hc

theorem Tagged.keep {w w' : World} {S : List Nat} {T : TypeId} {v : Value} (h : Tagged w T v) (hc : Chg S w w') (hS : ∀ g, v.ownBlock = some g → g ∉ S) : Tagged w' T v := by
  intro g hg
  obtain ⟨cur, f, hb⟩ := h g hg
  exact ⟨cur, f, hc.heap hb (hS g hg)⟩

theorem Reads.keep {w w' : World} {S : List Nat} {v : Value} {xs : List Value} (h : Reads w v xs) (hc : Chg S w w') (hS : ∀ g, v.ownBlock = some g → g ∉ S) : Reads w' v xs := by
  rcases h with h | ⟨g, off, cap, rfl, h1, h2, h3⟩
  · exact .inl h
  · exact .inr ⟨g, off, cap, rfl, h1, h2, fun j u hu => hc.cell (h3 j u hu) (hS g rfl)⟩

theorem Reads.nil (w : World) : Reads w (.slice none 0 0) [] := .inl ⟨rfl, rfl⟩

theorem reads_of_own {w : World} {B T : Nat} {v : Value} {n : Nat} {xs : List Value} (h : w.ownsRow B T 1 v n xs) : Reads w v xs := by
  have h0 := h
  obtain ⟨hl, h1⟩ := h
  rcases h1 with ⟨rfl, hn⟩ | ⟨g, cap, cur, rfl, _, hg, hc, hm, hs, ht⟩
  · exact .inl ⟨rfl, by apply List.eq_nil_of_length_eq_zero; omega⟩
  · have : xs.length = n := by omega
    refine .inr ⟨g, 0, cap, by rw [this], by omega, hm, fun j u hu => ?_⟩
    have := h0.cells (g := g) rfl j u hu
    have hadd : (⟨g, 0, none⟩ : Addr).add j = ⟨g, 0 + j, none⟩ := by unfold Addr.add; split <;> simp_all
    rw [hadd] at this
    exact this

theorem tagged_of_own {w : World} {B T s : Nat} {v : Value} {n : Nat} {xs : List Value} (h : w.ownsRow B T s v n xs) : Tagged w T v := by
  intro g hg
  obtain ⟨hl, h1⟩ := h
  rcases h1 with ⟨rfl, hn⟩ | ⟨g', cap, cur, rfl, _, hh, _⟩
  · simp [Value.ownBlock] at hg
  · simp [Value.ownBlock] at hg
    subst hg
    exact ⟨cur, _, hh⟩

theorem own_ge {w : World} {B T s : Nat} {v : Value} {n : Nat} {xs : List Value} (h : w.ownsRow B T s v n xs) : ∀ g, v.ownBlock = some g → B ≤ g := fun g hg => (h.lt g hg).1

theorem own_shape {w : World} {B T s : Nat} {v : Value} {n : Nat} {xs : List Value} (h : w.ownsRow B T s v n xs) : ∃ ao cap, v = .slice ao n cap := by
  obtain ⟨hl, h1⟩ := h
  rcases h1 with ⟨rfl, rfl⟩ | ⟨g', cap, cur, rfl, _⟩
  · exact ⟨_, _, rfl⟩
  · exact ⟨_, _, rfl⟩

theorem own_mono {w : World} {B B' T s : Nat} {v : Value} {n : Nat} {xs : List Value} (h : w.ownsRow B T s v n xs) (hB : B' ≤ B) : w.ownsRow B' T s v n xs := by
  obtain ⟨hl, h1⟩ := h
  refine ⟨hl, ?_⟩
  rcases h1 with h1 | ⟨g', cap, cur, e, hg, r⟩
  · exact .inl h1
  · exact .inr ⟨g', cap, cur, e, Nat.le_trans hB hg, r⟩

theorem tagged_nil (w : World) (T : TypeId) : Tagged w T (.slice none 0 0) := fun g hg => by simp [Value.ownBlock] at hg

/-- The value, written out: its length is the list's. -/
theorem Reads.shape {w : World} {v : Value} {xs : List Value} (h : Reads w v xs) : ∃ ao cap, v = .slice ao xs.length cap ∧ xs.length ≤ cap ∧ cap ≤ maxLen := by
  rcases h with ⟨rfl, rfl⟩ | ⟨g, off, cap, rfl, h1, h2, _⟩
  · exact ⟨none, 0, rfl, by simp, by simp⟩
  · exact ⟨_, cap, rfl, h1, h2⟩

/-- v[lo:hi] as the model slices. -/
theorem Reads.sliced {w : World} {ao : Option Addr} {len cap : Nat} {xs : List Value} (h : Reads w (.slice ao len cap) xs) (lo hi : Nat) (h1 : lo ≤ hi) (h2 : hi ≤ len) :
    Reads w (sliced ao lo hi cap 1) ((xs.take hi).drop lo) ∧ (∀ g, (sliced ao lo hi cap 1).ownBlock = some g → (Value.slice ao len cap).ownBlock = some g) := by
  rcases h with ⟨he, rfl⟩ | ⟨g, off, cap', he, hc, hm, hcell⟩
  · injection he with e1 e2 e3
    subst e1 e2 e3
    obtain rfl : hi = 0 := by omega
    obtain rfl : lo = 0 := by omega
    exact ⟨.inl ⟨by simp [Go.sliced], by simp⟩, by simp [Go.sliced, Value.ownBlock]⟩
  · injection he with e1 e2 e3
    subst e1 e2 e3
    have hlen : ((xs.take hi).drop lo).length = hi - lo := by simp; omega
    by_cases hcl : cap = lo
    · have : hi = lo := by omega
      subst this
      refine ⟨.inr ⟨g, off, 0, ?_, by omega, by simp, ?_⟩, by simp [Go.sliced, hcl, Value.ownBlock]⟩
      · simp [Go.sliced, hcl]
      · intro j u hu
        have : j < ((xs.take hi).drop hi).length := (List.getElem?_eq_some_iff.1 hu).1
        omega
    · have hadd : (⟨g, off, none⟩ : Addr).add (lo * 1) = ⟨g, off + lo, none⟩ := by unfold Addr.add; split <;> simp_all
      refine ⟨.inr ⟨g, off + lo, cap - lo, ?_, by omega, by omega, ?_⟩, ?_⟩
      · simp [Go.sliced, hcl, hlen]
        rw [← hadd]; simp
      · intro j u hu
        rw [List.getElem?_drop, List.getElem?_take] at hu
        split at hu
        · have := hcell (lo + j) u hu
          rw [← Nat.add_assoc] at this
          exact this
        · cases hu
      · simp only [Go.sliced, hcl, if_false, Option.map_some, hadd]
        simp [Value.ownBlock]

/-! ### append of a slice that reads as a list, of whatever slice type -/

theorem run_append_types {P : Program} (w : World) (t t' ty e e' : TypeId) (args : Array Value) (ht : P.underlying t = some (.slice e)) (ht' : P.underlying t' = some (.slice e')) :
    (Builtin.append_ #[t, t'] ty args).run P w = (Builtin.append_ #[t, t] ty args).run P w := by
  simp only [Builtin.append_]
  cases h0 : args[0]? <;> cases h1 : args[1]? <;> simp only [List.getElem?_toArray, List.getElem?_cons_zero, List.getElem?_cons_succ, Sem.run_bind, run_underlying ht, Result.andThen_ok]
  rename_i s x
  cases s <;> simp only [Sem.run_bind, run_underlying ht, run_underlying ht', Result.andThen_ok, Sem.run_pure]

theorem run_append_reads {P : Program} (w : World) (t t' ty : TypeId)
    (base : Nat) (e e' : TypeId) (i : TypeInfo) (z : Value) (bytes : Nat) (ht : P.underlying t = some (.slice e)) (ht' : P.underlying t' = some (.slice e')) (hi : P.info? e = some i) (hz : i.zero = some z)
    (hsize : i.size = 1) (hby : i.bytes = bytes) (hzs : z.cells.size = 1)
    (v : Value) (n : Nat) (xs : List Value) (hown : w.ownsRow base e 1 v n xs)
    (xv : Value) (news : List Value) (hr : Seen w xv news) (h1 : ∀ u ∈ news, u.oneCell' = true)
    (h63 : n + news.length ≤ maxLen) (hbytes : (n + news.length) * bytes ≤ 140737488355328) (hbase : base ≤ w.heap.size) :
    ∃ v' w', (Builtin.append_ #[t, t'] ty #[v, xv]).run P w = .ok v' w' ∧ w'.ownsRow base e 1 v' (n + news.length) (xs ++ news) ∧ w.grownBy w' v.ownBlock := by
  rw [run_append_types w t t' ty e e' _ ht ht']
  rcases hr with ⟨rfl, rfl⟩ | ⟨ad, cap, rfl, _, _, hc'⟩
  · exact ⟨v, w, run_append_owned_none (P := P) (w := w) base t ty e i 1 ht hi v n xs hown, by simpa using hown, World.grownBy.refl _ _⟩
  · obtain ⟨v', w', q1, q2, q3, _⟩ := run_append_own (P := P) w base t ty e i z 1 bytes ht hi hz hsize hby hzs (by decide) v n xs hown ad news.length cap news (by simp) hc' h1 h63 hbytes hbase
    exact ⟨v', w', q1, q2, q3⟩

/-- The same as one step of a region that draws its order. -/
theorem step_append_reads {P : Program} {ops : Array Oper} {o : Oper} {a : Act} {w : World} {K : Act → World → Prop} {Q : Exit → Act → World → Prop} {E : Prop}
    (hg : o.guard = none) (s x : Operand) (t t' : TypeId) (hop : o.op = Op.call { callee := Callee.builtin Builtin.append, args := #[s, x], argTypes := #[t, t'] })
    (base : Nat) (e e' : TypeId) (i : TypeInfo) (z : Value) (bytes : Nat) (ht : P.underlying t = some (.slice e)) (ht' : P.underlying t' = some (.slice e')) (hi : P.info? e = some i) (hz : i.zero = some z)
    (hsize : i.size = 1) (hby : i.bytes = bytes) (hzs : z.cells.size = 1)
    (v : Value) (n : Nat) (xs : List Value) (hs : a.eval s = v) (hown : w.ownsRow base e 1 v n xs)
    (xv : Value) (news : List Value) (hx : a.eval x = xv) (hr : Seen w xv news) (h1 : ∀ u ∈ news, u.oneCell' = true)
    (h63 : n + news.length ≤ maxLen) (hbytes : (n + news.length) * bytes ≤ 140737488355328) (hbase : base ≤ w.heap.size)
    (hK : ∀ v' w', w'.ownsRow base e 1 v' (n + news.length) (xs ++ news) → w.grownBy w' v.ownBlock → K (a.put o.dst v') w') :
    if Region.wanted o (yielded ops a.tmps) = true then Oper.wp P o a w K Q else E := by
  have hw : Region.wanted o (yielded ops a.tmps) = true := by simp [Region.wanted, hg]
  rw [if_pos hw]
  obtain ⟨v', w', hrun, r1, r2⟩ := run_append_reads (P := P) w t t' o.type base e e' i z bytes ht ht' hi hz hsize hby hzs v n xs hown xv news hr h1 h63 hbytes hbase
  unfold Oper.wp
  simp [execOp, hop, resolve, invoke, builtin, hs, hx, hrun, Result.andThen]
  exact hK v' w' r1 r2

theorem wpList_append_reads {P : Program} (w : World) {ops : Array Oper} {rest : List Oper} {o : Oper} {a : Act} {Q : Exit → Act → World → Prop} (hgd : o.guard = none) (s x : Operand) (t t' : TypeId)
    (ho : o.op = .call { callee := .builtin .append, args := #[s, x], argTypes := #[t, t'] })
    (base : Nat) (e e' : TypeId) (i : TypeInfo) (z : Value) (bytes : Nat) (ht : P.underlying t = some (.slice e)) (ht' : P.underlying t' = some (.slice e')) (hi : P.info? e = some i) (hz : i.zero = some z)
    (hsize : i.size = 1) (hby : i.bytes = bytes) (hzs : z.cells.size = 1)
    (v : Value) (n : Nat) (xs : List Value) (hs : a.eval s = v) (hown : w.ownsRow base e 1 v n xs)
    (xv : Value) (news : List Value) (hx : a.eval x = xv) (hr : Seen w xv news) (h1 : ∀ u ∈ news, u.oneCell' = true)
    (h63 : n + news.length ≤ maxLen) (hbytes : (n + news.length) * bytes ≤ 140737488355328) (hbase : base ≤ w.heap.size)
    (h : ∀ v' w', w'.ownsRow base e 1 v' (n + news.length) (xs ++ news) → w.grownBy w' v.ownBlock → wpList P ops Q rest (a.put o.dst v') w') : wpList P ops Q (o :: rest) a w := by
  have key : ∃ v' w', (Builtin.append_ #[t, t] o.type #[v, xv]).run P w = .ok v' w' ∧ w'.ownsRow base e 1 v' (n + news.length) (xs ++ news) ∧ w.grownBy w' v.ownBlock := by
    rcases hr with ⟨rfl, rfl⟩ | ⟨ad, cap, rfl, _, _, hc'⟩
    · have hrun := run_append_owned_none (P := P) (w := w) base t o.type e i 1 ht hi v n xs hown
      exact ⟨v, w, hrun, by simpa using hown, World.grownBy.refl _ _⟩
    · skip
      obtain ⟨v', w', q1, q2, q3, _⟩ := run_append_own (P := P) w base t o.type e i z 1 bytes ht hi hz hsize hby hzs (by decide) v n xs hown ad news.length cap news (by simp) hc' h1 h63 hbytes hbase
      exact ⟨v', w', q1, q2, q3⟩
  obtain ⟨v', w', q1, q2, q3⟩ := key
  rw [← run_append_types w t t' o.type e e' _ ht ht'] at q1
  refine wpList_plain hgd fun K hK => ?_
  unfold Oper.wp execOp
  simp only [ho, resolve, invoke, builtin, Sem.run_bind, Sem.run_pure, Result.andThen_ok, List.map_toArray, List.map_cons, List.map_nil, hs, hx, q1]
  exact hK _ _ (h v' w' q2 q3)

/-- A scope that begins with the label to which it jumps. -/
theorem wp_scope_head {P : Program} {a : Act} {w : World} {Q : Exit → Act → World → Prop} {rest : Code} (l : Nat) (J : Act → World → Prop) (m : Act → World → Nat) (hf : findLabel (.seq (.label l) rest) l = some (.seq .skip rest)) (h0 : J a w)
    (pass : ∀ a w, J a w → rest.wp P (Exit.jump l (fun a' w' => J a' w' ∧ m a' w' < m a w) Q) a w) : (Code.scope (.seq (.label l) rest)).wp P Q a w := by
  refine wp_scope_jumps l J m hf (wp_seq (wp_label ?_)) fun a' w' h => wp_seq (wp_skip (pass a' w' h))
  refine wp_mono (pass a w h0) fun e a' w' h => ?_
  cases e with
  | goto l' => exact ⟨h.1, h.2.1⟩
  | _ => exact h

/-- A scope in which some code stands ahead of the label to which it jumps. -/
theorem wp_scope_pre {P : Program} {a : Act} {w : World} {Q : Exit → Act → World → Prop} {pre rest : Code} (l : Nat) (J : Act → World → Prop) (m : Act → World → Nat) (hf : findLabel (.seq pre (.seq (.label l) rest)) l = some (.seq .skip rest)) (h0 : pre.wp P (Exit.then J (fun _ _ _ => False)) a w)
    (pass : ∀ a w, J a w → rest.wp P (Exit.jump l (fun a' w' => J a' w' ∧ m a' w' < m a w) Q) a w) : (Code.scope (.seq pre (.seq (.label l) rest))).wp P Q a w := by
  refine wp_scope_jumps l J m hf (wp_seq (wp_mono h0 fun e a' w' h => ?_)) fun a' w' h => wp_seq (wp_skip (pass a' w' h))
  cases e with
  | normal =>
    refine wp_seq (wp_label (wp_mono (pass a' w' h) fun e a' w' h => ?_))
    cases e with
    | goto l' => exact ⟨h.1, h.2.1⟩
    | _ => exact h
  | _ => exact h.elim

end Go.Proofs.Ytgfjmbjpikcffaa
