/- Mem, Nv, Bs, Mo, Iv, Fs, Sc, Bd, So, Oc, Og, Sa, Within, W14, W16, W8, Vb, Vc, Ls, Ex: texts of one group, one behind the other. -/
import Derived.WalkKit
import Derived.WalkSpells
import Derived.WalkLawsBesides
import Derived.Lib.Hide
import Derived.Test.YtfdmbpfpdijpdaaRows
import Derived.Deep.QuietTactic
import Derived.BigQuiet
import Derived.BigRegion
import Derived.Deep.RegionLaw
import Derived.Laws.IdiomStrings
import Derived.Outline
import Derived.StillTailTactics
import Derived.Laws.Bits64b
import Derived.RegionTactic
import Derived.Lib.AppendStr
import Derived.Laws.Rows
namespace Go.Proofs.Ytfdmbpfpdijpdaa
open Go.RowKit
set_option linter.unusedVariables false

/-- Of the blocks that were there at most those of the list S have changed. -/
structure Chg (S : List Nat) (w w' : World) : Prop where
  os : w'.os = w.os
  tape : w'.tape = w.tape
  output : w'.output = w.output
  size : w.heap.size ≤ w'.heap.size
  block : ∀ k, k < w.heap.size → k ∉ S → w'.heap[k]? = w.heap[k]?

theorem Chg.refl (S : List Nat) (w : World) : Chg S w w := ⟨rfl, rfl, rfl, Nat.le_refl _, fun _ _ _ => rfl⟩

theorem Chg.trans {S T : List Nat} {a b c : World} (h : Chg S a b) (k : Chg T b c) (hT : ∀ t, t ∈ T → t ∈ S ∨ a.heap.size ≤ t) : Chg S a c :=
  ⟨k.os.trans h.os, k.tape.trans h.tape, k.output.trans h.output, Nat.le_trans h.size k.size, fun i hi hS => by
    have hiT : i ∉ T := fun hm => by rcases hT i hm with h1 | h1 <;> first | exact hS h1 | omega
    exact (k.block i (Nat.lt_of_lt_of_le hi h.size) hiT).trans (h.block i hi hS)⟩

theorem Chg.mono {S T : List Nat} {w w' : World} (h : Chg S w w') (hs : ∀ k, k ∈ S → k ∈ T ∨ w.heap.size ≤ k) : Chg T w w' :=
  ⟨h.os, h.tape, h.output, h.size, fun k hk hT => h.block k hk fun hm => by rcases hs k hm with h1 | h1 <;> first | exact hT h1 | omega⟩

theorem Chg.drew {S : List Nat} {a w : World} (h : Chg S a w) : Chg S a w.drew := ⟨h.os, h.tape, h.output, h.size, h.block⟩

theorem Chg.drewN {S : List Nat} {a w : World} (h : Chg S a w) (n : Nat) : Chg S a (w.drewN n) := ⟨h.os, h.tape, h.output, h.size, h.block⟩

theorem Chg.alloc {S : List Nat} {a w : World} (h : Chg S a w) (o : Obj) : Chg S a (w.alloc o) :=
  h.trans (T := []) ⟨rfl, rfl, rfl, by simp, fun k hk _ => Go.heap_alloc_old w o hk⟩ (by simp)

theorem Chg.setCell {S : List Nat} {a w : World} (h : Chg S a w) {p : Addr} (hp : p.block ∈ S ∨ a.heap.size ≤ p.block) (u : Value) : Chg S a (w.setCell p u) :=
  h.trans (T := [p.block]) ⟨rfl, rfl, rfl, by simp, fun k _ hk => heap_setCell_other w p k u (by simpa using hk)⟩ (by simpa using hp)

theorem Chg.grown {S : List Nat} {a w w' : World} {row : Option Nat} (h : Chg S a w) (hg : w.grownBy w' row) (hr : ∀ k, row = some k → k ∈ S ∨ a.heap.size ≤ k) : Chg S a w' :=
  h.trans (T := row.toList) ⟨hg.os, hg.tape, hg.output, hg.size, fun k hk hn => hg.block k hk fun e => hn (by simp [← e])⟩ (fun t ht => hr t (by simpa using ht))

theorem Chg.alike {S : List Nat} {a w w' : World} (h : Chg S a w) (hw : w'.Alike w) (ht : w'.tape = w.tape) : Chg S a w' :=
  h.trans (T := []) ⟨hw.2.1, ht, hw.2.2, by rw [hw.1]; exact Nat.le_refl _, fun k _ _ => by rw [hw.1]⟩ (by simp)

theorem Chg.cell {S : List Nat} {w w' : World} (h : Chg S w w') {p : Addr} {v : Value} (hc : w.cell? p = some v) (hp : p.block ∉ S) : w'.cell? p = some v :=
  (World.cell?_of_block (h.block p.block (World.block_lt_of_cell? w p hc) hp)).trans hc

theorem Chg.heap {S : List Nat} {w w' : World} (h : Chg S w w') {k : Nat} {o : Obj} (hk : w.heap[k]? = some o) (hS : k ∉ S) : w'.heap[k]? = some o :=
  (h.block k (Go.lt_of_block hk) hS).trans hk

theorem Chg.below {S : List Nat} {w w' : World} (h : Chg S w w') {B : Nat} (hB : B ≤ w.heap.size) (hS : ∀ k, k ∈ S → B ≤ k) : Below B w w' :=
  ⟨h.os, h.tape, h.output, h.size, fun k hk => h.block k (by omega) fun hm => by have := hS k hm; omega⟩

theorem Chg.toGrown {r : Nat} {w w' : World} (h : Chg [r] w w') : w.grownBy w' (some r) :=
  ⟨h.os, h.tape, h.output, h.size, fun k hk hn => h.block k hk (by simpa [eq_comm] using hn)⟩

theorem Chg.toGrown0 {w w' : World} (h : Chg [] w w') : w.grownBy w' none :=
  ⟨h.os, h.tape, h.output, h.size, fun k hk _ => h.block k hk (by simp)⟩

theorem Below.chg {w w' : World} (h : Below w.heap.size w w') : Chg [] w w' := ⟨h.os, h.tape, h.output, h.size, fun k hk _ => h.block k hk⟩

/-! ### a slice that reads as a list (one cell an element) -/

/-- The slice value v reads as the list xs. -/
def Reads (w : World) (v : Value) (xs : List Value) : Prop :=
  (v = .slice none 0 0 ∧ xs = []) ∨
  ∃ g off cap, v = .slice (some ⟨g, off, none⟩) xs.length cap ∧ xs.length ≤ cap ∧ cap ≤ maxLen ∧ ∀ j u, xs[j]? = some u → w.cell? ⟨g, off + j, none⟩ = some u

/-- The slice value v reads as the list xs, wherever its array lies (an argument's, too). -/
def Seen (w : World) (v : Value) (xs : List Value) : Prop :=
  (v = .slice none 0 0 ∧ xs = []) ∨
  ∃ a cap, v = .slice (some a) xs.length cap ∧ xs.length ≤ cap ∧ cap ≤ maxLen ∧ ∀ j u, xs[j]? = some u → w.cell? (a.add j) = some u

theorem addr_add (g off j : Nat) : (⟨g, off, none⟩ : Addr).add j = ⟨g, off + j, none⟩ := by unfold Addr.add; split <;> simp_all

theorem Reads.seen {w : World} {v : Value} {xs : List Value} (h : Reads w v xs) : Seen w v xs := by
  rcases h with h | ⟨g, off, cap, rfl, h1, h2, h3⟩
  · exact .inl h
  · exact .inr ⟨_, cap, rfl, h1, h2, fun j u hu => by rw [addr_add]; exact h3 j u hu⟩

theorem Seen.nil (w : World) : Seen w (.slice none 0 0) [] := .inl ⟨rfl, rfl⟩

theorem Seen.shape {w : World} {v : Value} {xs : List Value} (h : Seen w v xs) : ∃ ao cap, v = .slice ao xs.length cap ∧ xs.length ≤ cap ∧ cap ≤ maxLen := by
  rcases h with ⟨rfl, rfl⟩ | ⟨a, cap, rfl, h1, h2, _⟩
  · exact ⟨none, 0, rfl, by simp, by simp⟩
  · exact ⟨_, cap, rfl, h1, h2⟩

theorem Seen.keep {w w' : World} {v : Value} {xs : List Value} (h : Seen w v xs) (hc : Chg [] w w') : Seen w' v xs := by
  rcases h with h | ⟨a, cap, rfl, h1, h2, h3⟩
  · exact .inl h
  · exact .inr ⟨a, cap, rfl, h1, h2, fun j u hu => hc.cell (h3 j u hu) (by simp)⟩

/-- What the walk is told of a slice of integers that came in. -/
def IsRow (k : IntKind) (w : World) (a : Option Addr) (len cap : Nat) (zs : List Int) : Prop :=
  (a = none ∧ len = 0 ∧ cap = 0 ∧ zs = []) ∨
  ∃ x, a = some x ∧ len ≤ cap ∧ cap ≤ maxLen ∧ zs.length = cap ∧ (∀ i, i < zs.length → w.cell? (x.add i) = some (.int k (zs.getD i 0))) ∧ ∀ n ∈ zs, (Lit.int k n).wf = true

theorem IsRow.seen {k : IntKind} {w : World} {a : Option Addr} {len cap : Nat} {zs : List Int} (h : IsRow k w a len cap zs) : Seen w (.slice a len cap) ((zs.take len).map (Value.int k)) ∧ (zs.take len).length = len := by
  rcases h with ⟨rfl, rfl, rfl, rfl⟩ | ⟨x, rfl, h1, h2, h3, h4, h5⟩
  · exact ⟨.inl ⟨rfl, rfl⟩, rfl⟩
  · have e : (zs.take len).length = len := by simp; omega
    refine ⟨.inr ⟨x, cap, by rw [List.length_map, e], by rw [List.length_map, e]; exact h1, h2, fun j u hu => ?_⟩, e⟩
    rw [List.getElem?_map, List.getElem?_take] at hu
    split at hu
    · have hj : j < zs.length := by omega
      rw [List.getElem?_eq_getElem hj] at hu
      simp at hu
      subst hu
      have := h4 j hj
      simpa [List.getD, hj] using this
    · cases hu

theorem IsRow.wf {k : IntKind} {w : World} {a : Option Addr} {len cap : Nat} {zs : List Int} (h : IsRow k w a len cap zs) : ∀ n ∈ zs, (Lit.int k n).wf = true := by
  rcases h with ⟨rfl, rfl, rfl, rfl⟩ | ⟨x, rfl, h1, h2, h3, h4, h5⟩
  · simp
  · exact h5

/-- The block of v's array is one of element type T. -/
def Tagged (w : World) (T : TypeId) (v : Value) : Prop := ∀ g, v.ownBlock = some g → ∃ cur fr, w.heap[g]? = some (.cells cur T fr)

theorem Tagged.ne {w : World} {T T' : TypeId} {v : Value} {r : Nat} {cs : Array Value} {fr : Nat × Nat} (h : Tagged w T v) (hr : w.heap[r]? = some (.cells cs T' fr)) (hT : T ≠ T') : ∀ g, v.ownBlock = some g → g ≠ r := by
  intro g hg e
  subst e
  obtain ⟨cur, f, hc⟩ := h g hg
  rw [hr] at hc
  injection hc with hc
  injection hc with h1 h2 h3
  exact hT h2.symm

theorem Tagged.lt {w : World} {T : TypeId} {v : Value} (h : Tagged w T v) : ∀ g, v.ownBlock = some g → g < w.heap.size := by
  intro g hg
  obtain ⟨cur, f, hc⟩ := h g hg
  exact Go.lt_of_block hc

theorem Tagged.keep {w w' : World} {S : List Nat} {T : TypeId} {v : Value} (h : Tagged w T v) (hc : Chg S w w') (hS : ∀ g, v.ownBlock = some g → g ∉ S) : Tagged w' T v := by
  intro g hg
  obtain ⟨cur, f, hb⟩ := h g hg
  exact ⟨cur, f, hc.heap hb (hS g hg)⟩

theorem Reads.keep {w w' : World} {S : List Nat} {v : Value} {xs : List Value} (h : Reads w v xs) (hc : Chg S w w') (hS : ∀ g, v.ownBlock = some g → g ∉ S) : Reads w' v xs := by
  rcases h with h | ⟨g, off, cap, rfl, h1, h2, h3⟩
  · exact .inl h
  · exact .inr ⟨g, off, cap, rfl, h1, h2, fun j u hu => hc.cell (h3 j u hu) (hS g rfl)⟩

theorem Reads.nil (w : World) : Reads w (.slice none 0 0) [] := .inl ⟨rfl, rfl⟩

theorem reads_of_own {w : World} {B T : Nat} {v : Value} {n : Nat} {xs : List Value} (h : w.ownsRow B T 1 v n xs) : Reads w v xs := by
  have h0 := h
  obtain ⟨hl, h1⟩ := h
  rcases h1 with ⟨rfl, hn⟩ | ⟨g, cap, cur, rfl, _, hg, hc, hm, hs, ht⟩
  · exact .inl ⟨rfl, by apply List.eq_nil_of_length_eq_zero; omega⟩
  · have : xs.length = n := by omega
    refine .inr ⟨g, 0, cap, by rw [this], by omega, hm, fun j u hu => ?_⟩
    have := h0.cells (g := g) rfl j u hu
    have hadd : (⟨g, 0, none⟩ : Addr).add j = ⟨g, 0 + j, none⟩ := by unfold Addr.add; split <;> simp_all
    rw [hadd] at this
    exact this

theorem tagged_of_own {w : World} {B T s : Nat} {v : Value} {n : Nat} {xs : List Value} (h : w.ownsRow B T s v n xs) : Tagged w T v := by
  intro g hg
  obtain ⟨hl, h1⟩ := h
  rcases h1 with ⟨rfl, hn⟩ | ⟨g', cap, cur, rfl, _, hh, _⟩
  · simp [Value.ownBlock] at hg
  · simp [Value.ownBlock] at hg
    subst hg
    exact ⟨cur, _, hh⟩

theorem own_ge {w : World} {B T s : Nat} {v : Value} {n : Nat} {xs : List Value} (h : w.ownsRow B T s v n xs) : ∀ g, v.ownBlock = some g → B ≤ g := fun g hg => (h.lt g hg).1

theorem own_shape {w : World} {B T s : Nat} {v : Value} {n : Nat} {xs : List Value} (h : w.ownsRow B T s v n xs) : ∃ ao cap, v = .slice ao n cap := by
  obtain ⟨hl, h1⟩ := h
  rcases h1 with ⟨rfl, rfl⟩ | ⟨g', cap, cur, rfl, _⟩
  · exact ⟨_, _, rfl⟩
  · exact ⟨_, _, rfl⟩

theorem own_mono {w : World} {B B' T s : Nat} {v : Value} {n : Nat} {xs : List Value} (h : w.ownsRow B T s v n xs) (hB : B' ≤ B) : w.ownsRow B' T s v n xs := by
  obtain ⟨hl, h1⟩ := h
  refine ⟨hl, ?_⟩
  rcases h1 with h1 | ⟨g', cap, cur, e, hg, r⟩
  · exact .inl h1
  · exact .inr ⟨g', cap, cur, e, Nat.le_trans hB hg, r⟩

theorem tagged_nil (w : World) (T : TypeId) : Tagged w T (.slice none 0 0) := fun g hg => by simp [Value.ownBlock] at hg

/-- The value, written out: its length is the list's. -/
theorem Reads.shape {w : World} {v : Value} {xs : List Value} (h : Reads w v xs) : ∃ ao cap, v = .slice ao xs.length cap ∧ xs.length ≤ cap ∧ cap ≤ maxLen := by
  rcases h with ⟨rfl, rfl⟩ | ⟨g, off, cap, rfl, h1, h2, _⟩
  · exact ⟨none, 0, rfl, by simp, by simp⟩
  · exact ⟨_, cap, rfl, h1, h2⟩

/-- v[lo:hi] as the model slices. -/
theorem Reads.sliced {w : World} {ao : Option Addr} {len cap : Nat} {xs : List Value} (h : Reads w (.slice ao len cap) xs) (lo hi : Nat) (h1 : lo ≤ hi) (h2 : hi ≤ len) :
    Reads w (sliced ao lo hi cap 1) ((xs.take hi).drop lo) ∧ (∀ g, (sliced ao lo hi cap 1).ownBlock = some g → (Value.slice ao len cap).ownBlock = some g) := by
  rcases h with ⟨he, rfl⟩ | ⟨g, off, cap', he, hc, hm, hcell⟩
  · injection he with e1 e2 e3
    subst e1 e2 e3
    obtain rfl : hi = 0 := by omega
    obtain rfl : lo = 0 := by omega
    exact ⟨.inl ⟨by simp [Go.sliced], by simp⟩, by simp [Go.sliced, Value.ownBlock]⟩
  · injection he with e1 e2 e3
    subst e1 e2 e3
    have hlen : ((xs.take hi).drop lo).length = hi - lo := by simp; omega
    by_cases hcl : cap = lo
    · have : hi = lo := by omega
      subst this
      refine ⟨.inr ⟨g, off, 0, ?_, by omega, by simp, ?_⟩, by simp [Go.sliced, hcl, Value.ownBlock]⟩
      · simp [Go.sliced, hcl]
      · intro j u hu
        have : j < ((xs.take hi).drop hi).length := (List.getElem?_eq_some_iff.1 hu).1
        omega
    · have hadd : (⟨g, off, none⟩ : Addr).add (lo * 1) = ⟨g, off + lo, none⟩ := by unfold Addr.add; split <;> simp_all
      refine ⟨.inr ⟨g, off + lo, cap - lo, ?_, by omega, by omega, ?_⟩, ?_⟩
      · simp [Go.sliced, hcl, hlen]
        rw [← hadd]; simp
      · intro j u hu
        rw [List.getElem?_drop, List.getElem?_take] at hu
        split at hu
        · have := hcell (lo + j) u hu
          rw [← Nat.add_assoc] at this
          exact this
        · cases hu
      · simp only [Go.sliced, hcl, if_false, Option.map_some, hadd]
        simp [Value.ownBlock]

/-! ### append of a slice that reads as a list, of whatever slice type -/

theorem run_append_types {P : Program} (w : World) (t t' ty e e' : TypeId) (args : Array Value) (ht : P.underlying t = some (.slice e)) (ht' : P.underlying t' = some (.slice e')) :
    (Builtin.append_ #[t, t'] ty args).run P w = (Builtin.append_ #[t, t] ty args).run P w := by
  simp only [Builtin.append_]
  cases h0 : args[0]? <;> cases h1 : args[1]? <;> simp only [List.getElem?_toArray, List.getElem?_cons_zero, List.getElem?_cons_succ, Sem.run_bind, run_underlying ht, Result.andThen_ok]
  rename_i s x
  cases s <;> simp only [Sem.run_bind, run_underlying ht, run_underlying ht', Result.andThen_ok, Sem.run_pure]

theorem run_append_reads {P : Program} (w : World) (t t' ty : TypeId)
    (base : Nat) (e e' : TypeId) (i : TypeInfo) (z : Value) (bytes : Nat) (ht : P.underlying t = some (.slice e)) (ht' : P.underlying t' = some (.slice e')) (hi : P.info? e = some i) (hz : i.zero = some z)
    (hsize : i.size = 1) (hby : i.bytes = bytes) (hzs : z.cells.size = 1)
    (v : Value) (n : Nat) (xs : List Value) (hown : w.ownsRow base e 1 v n xs)
    (xv : Value) (news : List Value) (hr : Seen w xv news) (h1 : ∀ u ∈ news, u.oneCell' = true)
    (h63 : n + news.length ≤ maxLen) (hbytes : (n + news.length) * bytes ≤ 140737488355328) (hbase : base ≤ w.heap.size) :
    ∃ v' w', (Builtin.append_ #[t, t'] ty #[v, xv]).run P w = .ok v' w' ∧ w'.ownsRow base e 1 v' (n + news.length) (xs ++ news) ∧ w.grownBy w' v.ownBlock := by
  rw [run_append_types w t t' ty e e' _ ht ht']
  rcases hr with ⟨rfl, rfl⟩ | ⟨ad, cap, rfl, _, _, hc'⟩
  · exact ⟨v, w, run_append_owned_none (P := P) (w := w) base t ty e i 1 ht hi v n xs hown, by simpa using hown, World.grownBy.refl _ _⟩
  · obtain ⟨v', w', q1, q2, q3, _⟩ := run_append_own (P := P) w base t ty e i z 1 bytes ht hi hz hsize hby hzs (by decide) v n xs hown ad news.length cap news (by simp) hc' h1 h63 hbytes hbase
    exact ⟨v', w', q1, q2, q3⟩

/-- The same as one step of a region that draws its order. -/
theorem step_append_reads {P : Program} {ops : Array Oper} {o : Oper} {a : Act} {w : World} {K : Act → World → Prop} {Q : Exit → Act → World → Prop} {E : Prop}
    (hg : o.guard = none) (s x : Operand) (t t' : TypeId) (hop : o.op = Op.call { callee := Callee.builtin Builtin.append, args := #[s, x], argTypes := #[t, t'] })
    (base : Nat) (e e' : TypeId) (i : TypeInfo) (z : Value) (bytes : Nat) (ht : P.underlying t = some (.slice e)) (ht' : P.underlying t' = some (.slice e')) (hi : P.info? e = some i) (hz : i.zero = some z)
    (hsize : i.size = 1) (hby : i.bytes = bytes) (hzs : z.cells.size = 1)
    (v : Value) (n : Nat) (xs : List Value) (hs : a.eval s = v) (hown : w.ownsRow base e 1 v n xs)
    (xv : Value) (news : List Value) (hx : a.eval x = xv) (hr : Seen w xv news) (h1 : ∀ u ∈ news, u.oneCell' = true)
    (h63 : n + news.length ≤ maxLen) (hbytes : (n + news.length) * bytes ≤ 140737488355328) (hbase : base ≤ w.heap.size)
    (hK : ∀ v' w', w'.ownsRow base e 1 v' (n + news.length) (xs ++ news) → w.grownBy w' v.ownBlock → K (a.put o.dst v') w') :
    if Region.wanted o (yielded ops a.tmps) = true then Oper.wp P o a w K Q else E := by
  have hw : Region.wanted o (yielded ops a.tmps) = true := by simp [Region.wanted, hg]
  rw [if_pos hw]
  obtain ⟨v', w', hrun, r1, r2⟩ := run_append_reads (P := P) w t t' o.type base e e' i z bytes ht ht' hi hz hsize hby hzs v n xs hown xv news hr h1 h63 hbytes hbase
  unfold Oper.wp
  simp [execOp, hop, resolve, invoke, builtin, hs, hx, hrun, Result.andThen]
  exact hK v' w' r1 r2

theorem wpList_append_reads {P : Program} (w : World) {ops : Array Oper} {rest : List Oper} {o : Oper} {a : Act} {Q : Exit → Act → World → Prop} (hgd : o.guard = none) (s x : Operand) (t t' : TypeId)
    (ho : o.op = .call { callee := .builtin .append, args := #[s, x], argTypes := #[t, t'] })
    (base : Nat) (e e' : TypeId) (i : TypeInfo) (z : Value) (bytes : Nat) (ht : P.underlying t = some (.slice e)) (ht' : P.underlying t' = some (.slice e')) (hi : P.info? e = some i) (hz : i.zero = some z)
    (hsize : i.size = 1) (hby : i.bytes = bytes) (hzs : z.cells.size = 1)
    (v : Value) (n : Nat) (xs : List Value) (hs : a.eval s = v) (hown : w.ownsRow base e 1 v n xs)
    (xv : Value) (news : List Value) (hx : a.eval x = xv) (hr : Seen w xv news) (h1 : ∀ u ∈ news, u.oneCell' = true)
    (h63 : n + news.length ≤ maxLen) (hbytes : (n + news.length) * bytes ≤ 140737488355328) (hbase : base ≤ w.heap.size)
    (h : ∀ v' w', w'.ownsRow base e 1 v' (n + news.length) (xs ++ news) → w.grownBy w' v.ownBlock → wpList P ops Q rest (a.put o.dst v') w') : wpList P ops Q (o :: rest) a w := by
  have key : ∃ v' w', (Builtin.append_ #[t, t] o.type #[v, xv]).run P w = .ok v' w' ∧ w'.ownsRow base e 1 v' (n + news.length) (xs ++ news) ∧ w.grownBy w' v.ownBlock := by
    rcases hr with ⟨rfl, rfl⟩ | ⟨ad, cap, rfl, _, _, hc'⟩
    · have hrun := run_append_owned_none (P := P) (w := w) base t o.type e i 1 ht hi v n xs hown
      exact ⟨v, w, hrun, by simpa using hown, World.grownBy.refl _ _⟩
    · skip
      obtain ⟨v', w', q1, q2, q3, _⟩ := run_append_own (P := P) w base t o.type e i z 1 bytes ht hi hz hsize hby hzs (by decide) v n xs hown ad news.length cap news (by simp) hc' h1 h63 hbytes hbase
      exact ⟨v', w', q1, q2, q3⟩
  obtain ⟨v', w', q1, q2, q3⟩ := key
  rw [← run_append_types w t t' o.type e e' _ ht ht'] at q1
  refine wpList_plain hgd fun K hK => ?_
  unfold Oper.wp execOp
  simp only [ho, resolve, invoke, builtin, Sem.run_bind, Sem.run_pure, Result.andThen_ok, List.map_toArray, List.map_cons, List.map_nil, hs, hx, q1]
  exact hK _ _ (h v' w' q2 q3)

/-- A scope that begins with the label to which it jumps. -/
theorem wp_scope_head {P : Program} {a : Act} {w : World} {Q : Exit → Act → World → Prop} {rest : Code} (l : Nat) (J : Act → World → Prop) (m : Act → World → Nat) (hf : findLabel (.seq (.label l) rest) l = some (.seq .skip rest)) (h0 : J a w)
    (pass : ∀ a w, J a w → rest.wp P (Exit.jump l (fun a' w' => J a' w' ∧ m a' w' < m a w) Q) a w) : (Code.scope (.seq (.label l) rest)).wp P Q a w := by
  refine wp_scope_jumps l J m hf (wp_seq (wp_label ?_)) fun a' w' h => wp_seq (wp_skip (pass a' w' h))
  refine wp_mono (pass a w h0) fun e a' w' h => ?_
  cases e with
  | goto l' => exact ⟨h.1, h.2.1⟩
  | _ => exact h

/-- A scope in which some code stands ahead of the label to which it jumps. -/
theorem wp_scope_pre {P : Program} {a : Act} {w : World} {Q : Exit → Act → World → Prop} {pre rest : Code} (l : Nat) (J : Act → World → Prop) (m : Act → World → Nat) (hf : findLabel (.seq pre (.seq (.label l) rest)) l = some (.seq .skip rest)) (h0 : pre.wp P (Exit.then J (fun _ _ _ => False)) a w)
    (pass : ∀ a w, J a w → rest.wp P (Exit.jump l (fun a' w' => J a' w' ∧ m a' w' < m a w) Q) a w) : (Code.scope (.seq pre (.seq (.label l) rest))).wp P Q a w := by
  refine wp_scope_jumps l J m hf (wp_seq (wp_mono h0 fun e a' w' h => ?_)) fun a' w' h => wp_seq (wp_skip (pass a' w' h))
  cases e with
  | normal =>
    refine wp_seq (wp_label (wp_mono (pass a' w' h) fun e a' w' h => ?_))
    cases e with
    | goto l' => exact ⟨h.1, h.2.1⟩
    | _ => exact h
  | _ => exact h.elim

end Go.Proofs.Ytfdmbpfpdijpdaa

namespace Go.Proofs.Ytfdmbpfpdijpdaa
open Go.RowKit
set_option linter.unusedVariables false

/-- A row of numbers as values of a kind. -/
def nv (k : IntKind) (l : List Nat) : List Value := l.map fun (n : Nat) => .int k (n : Int)
@[simp] theorem nv_length (k : IntKind) (l : List Nat) : (nv k l).length = l.length := by simp [nv]
theorem nv_get (k : IntKind) (l : List Nat) (j : Nat) (h : j < l.length) : (nv k l)[j]? = some (.int k ((l.getD j 0 : Nat) : Int)) := by
  simp [nv, h, List.getD]
theorem nv_one (k : IntKind) (l : List Nat) : ∀ u ∈ nv k l, u.oneCell' = true := by
  intro u hu
  simp [nv] at hu
  obtain ⟨y, _, rfl⟩ := hu
  rfl
theorem nv_set (k : IntKind) (l : List Nat) (j v : Nat) : (nv k l).set j (.int k (v : Int)) = nv k (l.set j v) := by simp [nv, List.map_set]

theorem own_cell {w : World} {B T g n cap : Nat} {k : IntKind} {l : List Nat} (h : w.ownsRow B T 1 (.slice (some ⟨g, 0, none⟩) n cap) n (nv k l)) (hl : l.length = n) (j : Nat) (hj : j < n) :
    w.cell? ⟨g, j, none⟩ = some (.int k ((l.getD j 0 : Nat) : Int)) := by
  rw [h.cellAt j (by simpa using hj), nv_get k l j (by omega)]

/-- What Seen says of one place. -/
theorem Seen.at {w : World} {a : Option Addr} {n cap : Nat} {k : IntKind} {l : List Nat} (h : Seen w (.slice a n cap) (nv k l)) (hl : l.length = n) (hn : 0 < n) : ∃ x, a = some x ∧ ∀ j, j < n → w.cell? (x.add j) = some (.int k ((l.getD j 0 : Nat) : Int)) := by
  rcases h with ⟨he, hx⟩ | ⟨x, cap', he, h1, h2, h3⟩
  · injection he with e1 e2 e3; omega
  · injection he with e1 e2 e3
    exact ⟨x, e1, fun j hj => h3 j _ (nv_get k l j (by omega))⟩

theorem wraps64 (n : Int) (h0 : 0 ≤ n) (h1 : n < 2 ^ 64) : IntKind.u64.wrap n = n := by
  have e : IntKind.u64.wrap n = n % 18446744073709551616 := by simp [IntKind.wrap, IntKind.bits, IntKind.signed]
  rw [e]
  exact Int.emod_eq_of_lt h0 (by simpa using h1)

theorem ret_int {k : IntKind} {a b : Int} (h : a = b) : Ending.returned (.int k a) = .returned (.int k b) := by rw [h]

theorem info_u8 : ∃ i, Try.prog.info? 5 = some i ∧ i.zero = some (.int .u8 0) ∧ i.size = 1 ∧ i.bytes = 1 :=
  info_parts (show (Try.prog.info? 5).map (fun i => (i.zero, i.size, i.bytes)) = some (some (.int .u8 0), 1, 1) by kernel_rfl)
/-- A new row was made. -/
def Made (T : TypeId) (k : IntKind) (l : List Nat) (w : World) (v : Value) (w' : World) : Prop :=
  Chg [] w w' ∧ w'.ownsRow w.heap.size T 1 v l.length (nv k l)

theorem cells_zero8 (n : Nat) : (madeCells #[Value.int .u8 0] n).toList = nv .u8 (List.replicate n 0) := by
  rw [toList_madeCells_one]; simp [nv]
theorem tmod_fix (a n : Int) (hn : 1 ≤ n) : a % n = if a.tmod n < 0 then a.tmod n + n else a.tmod n := by
  have h := Int.tmod_eq_emod (a := a) (b := n)
  have h1 := Int.emod_nonneg a (show n ≠ 0 by omega)
  have h2 := Int.emod_lt_of_pos a (show 0 < n by omega)
  have h3 : (n.natAbs : Int) = n := by omega
  rw [h]
  split <;> split <;> simp_all <;> omega

theorem wf_i64 {a : Int} (h : (Lit.int .i64 a).wf = true) : -9223372036854775808 ≤ a ∧ a ≤ 9223372036854775807 := by
  simp [Lit.wf, IntKind.min, IntKind.max, IntKind.signed, IntKind.bits] at h
  omega

theorem within_lt (a : Int) (n : Nat) (hn : 1 ≤ n) : (a % n).toNat < n := by
  have h1 := Int.emod_nonneg a (show (n : Int) ≠ 0 by omega)
  have h2 := Int.emod_lt_of_pos a (show 0 < (n : Int) by omega)
  omega

theorem wf_u64 {a : Int} (h : (Lit.int .u64 a).wf = true) : 0 ≤ a ∧ a ≤ 18446744073709551615 := by
  simp [Lit.wf, IntKind.min, IntKind.max, IntKind.signed, IntKind.bits] at h
  omega
theorem wf_u8 {a : Int} (h : (Lit.int .u8 a).wf = true) : 0 ≤ a ∧ a < 256 := by
  simp [Lit.wf, IntKind.min, IntKind.max, IntKind.signed, IntKind.bits] at h
  omega

/-- A row of numbers without a sign that came in: the natural numbers that it reads as. -/
theorem IsRow.nats {k : IntKind} {w : World} {a : Option Addr} {len cap : Nat} {z : List Int} (h : IsRow k w a len cap z) (m : Nat) (hm : ∀ n : Int, (Lit.int k n).wf = true → 0 ≤ n ∧ n < m) :
    ∃ S : List Nat, Seen w (.slice a len cap) (nv k S) ∧ len = S.length ∧ ∀ x ∈ S, x < m := by
  obtain ⟨h1, h2⟩ := h.seen
  have e : (z.take len).map (Value.int k) = nv k ((z.take len).map Int.toNat) := by
    simp only [nv, List.map_map]
    apply List.map_congr_left
    intro x hx
    have := hm x (h.wf x (List.mem_of_mem_take hx))
    simp; omega
  refine ⟨(z.take len).map Int.toNat, by rw [← e]; exact h1, by simp; simpa using h2.symm, ?_⟩
  intro x hx
  obtain ⟨y, hy, rfl⟩ := List.mem_map.1 hx
  have := hm y (h.wf y (List.mem_of_mem_take hy))
  omega

theorem IsRow.u64s {w : World} {a : Option Addr} {len cap : Nat} {z : List Int} (h : IsRow .u64 w a len cap z) : ∃ S : List Nat, Seen w (.slice a len cap) (nv .u64 S) ∧ len = S.length ∧ ∀ x ∈ S, x < 2 ^ 64 :=
  h.nats (2 ^ 64) fun n hn => by have := wf_u64 hn; omega
theorem IsRow.u8s {w : World} {a : Option Addr} {len cap : Nat} {z : List Int} (h : IsRow .u8 w a len cap z) : ∃ S : List Nat, Seen w (.slice a len cap) (nv .u8 S) ∧ len = S.length ∧ ∀ x ∈ S, x < 2 ^ 8 :=
  h.nats (2 ^ 8) fun n hn => by have := wf_u8 hn; omega

/-- The string of these bytes. -/
def str (l : List Nat) : ByteArray := ⟨(l.map UInt8.ofNat).toArray⟩

theorem conv_seen {P : Program} {w : World} {src dst e : TypeId} {ao : Option Addr} {n cap : Nat} {l : List Nat} (hs : P.underlying src = some (.slice e)) (he : P.underlying e = some (.int .u8)) (hd : P.underlying dst = some .string)
    (h : Seen w (.slice ao n cap) (nv .u8 l)) (hl : l.length = n) (hb : ∀ x ∈ l, x < 2 ^ 8) : (convert src dst (.slice ao n cap)).run P w = .ok (.string (str l)) w := by
  rcases h with ⟨h, h0⟩ | ⟨x, cap', h, h1, h2, h3⟩
  · injection h with e1 e2 e3
    subst e1 e2 e3
    have : l = [] := List.eq_nil_of_length_eq_zero hl
    subst this
    rw [run_convert_bytes_string w src dst e none 0 0 hs he hd]
    simp [Conv.bytesToString, str]
    rfl
  · injection h with e1 e2 e3
    subst e1 e3
    have hlen : (l.map UInt8.ofNat).length = n := by simpa using hl
    rw [← hlen]
    have := run_convert_bytes_back (P := P) w src dst e x cap (l.map UInt8.ofNat) hs he hd (fun j hj => by
      have hj' : j < l.length := by simpa using hj
      rw [h3 j _ (nv_get .u8 l j hj')]
      have hx : l[j] < 2 ^ 8 := hb _ (List.getElem_mem hj')
      have e1 : l.getD j 0 = l[j] := by simp [List.getD, hj']
      rw [e1]
      simp
      omega)
    exact this


theorem IsRow.at {k : IntKind} {w : World} {a : Option Addr} {len cap : Nat} {zs : List Int} (h : IsRow k w a len cap zs) {i : Nat} (hi : i < len) :
    ∃ g off, a = some ⟨g, off, none⟩ ∧ ∀ j, j < len → w.cell? ⟨g, off + j, none⟩ = some (.int k (zs.getD j 0)) := by
  rcases h with ⟨rfl, rfl, rfl, rfl⟩ | ⟨⟨g, off, sp⟩, rfl, h1, h2, h3, h4, h5⟩
  · omega
  · have hc := h4 0 (by omega)
    have hsp : sp = none := by simpa [Addr.add] using World.cell?_spot hc
    subst hsp
    exact ⟨g, off, rfl, fun j hj => by have := h4 j (by omega); rwa [addr_add] at this⟩

theorem wf_getD {k : IntKind} {zs : List Int} (h : ∀ n ∈ zs, (Lit.int k n).wf = true) {i : Nat} (hi : i < zs.length) : (Lit.int k (zs.getD i 0)).wf = true := by
  simp only [List.getD, List.getElem?_eq_getElem hi]
  exact h _ (List.getElem_mem hi)

theorem IsRow.len {k : IntKind} {w : World} {a : Option Addr} {len cap : Nat} {zs : List Int} (h : IsRow k w a len cap zs) : len ≤ zs.length ∧ len ≤ maxLen := by
  rcases h with ⟨rfl, rfl, rfl, rfl⟩ | ⟨x, rfl, h1, h2, h3, h4, h5⟩
  · simp
  · omega

theorem getD_mem {l : List Nat} {j : Nat} (h : j < l.length) : l.getD j 0 ∈ l := by
  simp only [List.getD, List.getElem?_eq_getElem h]; exact List.getElem_mem h

/-- The front of a row that is owned. -/
theorem own_take {w : World} {B T g n cap : Nat} {k : IntKind} {l : List Nat} (h : w.ownsRow B T 1 (.slice (some ⟨g, 0, none⟩) n cap) n (nv k l)) (hl : l.length = n) (m : Nat) (hm : m ≤ n) :
    Seen w (.slice (some ⟨g, 0, none⟩) m cap) (nv k (l.take m)) := by
  have e : (nv k (l.take m)).length = m := by simp; omega
  obtain ⟨ao, cap', he, h1, h2⟩ := (reads_of_own h).shape
  injection he with e1 e2 e3
  subst e1 e3
  refine .inr ⟨_, cap, by rw [e], by rw [e]; rw [nv_length] at h1; omega, h2, fun j u hu => ?_⟩
  have hj : j < m := by rw [← e]; exact (List.getElem?_eq_some_iff.1 hu).1
  rw [addr_add, Nat.zero_add, own_cell h hl j (by omega)]
  rw [nv_get _ _ _ (by simp; omega)] at hu
  rw [← hu]
  simp [List.getD, hj]

theorem tdiv_wf (a : Int) (n : Int) (hn : 1 ≤ n) (h : (Lit.int .i64 a).wf = true) : (Lit.int .i64 (a.tdiv n)).wf = true ∧ -9223372036854775808 ≤ a.tdiv n ∧ a.tdiv n ≤ 9223372036854775807 := by
  have hb := wf_i64 h
  have key : -9223372036854775808 ≤ a.tdiv n ∧ a.tdiv n ≤ 9223372036854775807 := by
    by_cases h0 : 0 ≤ a
    · rw [Int.tdiv_eq_ediv_of_nonneg h0]
      have h1 := Int.ediv_nonneg h0 (show 0 ≤ n by omega)
      have h2 := Int.ediv_le_self n h0
      omega
    · have h3 : 0 ≤ -a := by omega
      have e : a.tdiv n = -((-a).tdiv n) := by rw [Int.neg_tdiv]; omega
      rw [e, Int.tdiv_eq_ediv_of_nonneg h3]
      have h1 := Int.ediv_nonneg h3 (show 0 ≤ n by omega)
      have h2 := Int.ediv_le_self n h3
      omega
  refine ⟨?_, key⟩
  simp [Lit.wf, IntKind.min, IntKind.max, IntKind.signed, IntKind.bits]
  omega

end Go.Proofs.Ytfdmbpfpdijpdaa

namespace Go.Proofs.Ytfdmbpfpdijpdaa
open Go.RowKit
set_option linter.unusedVariables false
set_option linter.unusedSimpArgs false

/-- The bytes of a string. -/
def bl (s : ByteArray) : List Nat := s.data.toList.map (·.toNat)

@[simp] theorem bl_length (s : ByteArray) : (bl s).length = s.size := by simp only [bl, List.length_map, Array.length_toList]; rfl

theorem bl_get (s : ByteArray) (i : Nat) (h : i < s.size) : (bl s)[i]? = some (s[i]'h).toNat := by
  have h1 : i < s.data.size := h
  simp only [bl, List.getElem?_map, Array.getElem?_toList, Array.getElem?_eq_getElem h1]
  rfl

theorem bl_str {l : List Nat} (h : ∀ c ∈ l, c < 256) : bl (str l) = l := by
  unfold bl str
  simp only [List.map_map]
  have : ∀ l : List Nat, (∀ c ∈ l, c < 256) → l.map ((fun x : UInt8 => x.toNat) ∘ UInt8.ofNat) = l := by
    intro l hl
    induction l with
    | nil => rfl
    | cons a t ih =>
      rw [List.map_cons, ih fun c hc => hl c (by simp [hc])]
      congr 1
      exact UInt8.toNat_ofNat_of_lt' (hl a (by simp))
  exact this l h

theorem str_size (l : List Nat) : (str l).size = l.length := by show ((l.map UInt8.ofNat).toArray).size = _; simp

end Go.Proofs.Ytfdmbpfpdijpdaa

namespace Go.Proofs.Ytfdmbpfpdijpdaa
open Go.RowKit
set_option linter.unusedVariables false

theorem Seen.at0 {w : World} {a : Option Addr} {n cap : Nat} {k : IntKind} {l : List Nat} (h : Seen w (.slice a n cap) (nv k l)) (hl : l.length = n) (hn : 0 < n) : ∃ g off, a = some ⟨g, off, none⟩ ∧ ∀ j, j < n → w.cell? ⟨g, off + j, none⟩ = some (.int k ((l.getD j 0 : Nat) : Int)) := by
  obtain ⟨⟨g, off, sp⟩, rfl, h4⟩ := h.at hl hn
  have hc := h4 0 (by omega)
  have hsp : sp = none := by simpa [Addr.add] using World.cell?_spot hc
  subst hsp
  exact ⟨g, off, rfl, fun j hj => by have := h4 j (by omega); rwa [addr_add] at this⟩

/-- The front of a slice that reads as a list. -/
theorem Seen.front {w : World} {ao : Option Addr} {n cap : Nat} {k : IntKind} {l : List Nat} (h : Seen w (.slice ao n cap) (nv k l)) (hl : l.length = n) (m : Nat) (hm : m ≤ n) :
    Seen w (.slice ao m cap) (nv k (l.take m)) := by
  rcases h with ⟨he, hx⟩ | ⟨x, cap', he, h1, h2, h3⟩
  · injection he with e1 e2 e3
    subst e1 e2 e3
    obtain rfl : m = 0 := by omega
    exact .inl ⟨rfl, by simp [nv]⟩
  · injection he with e1 e2 e3
    subst e1 e3
    have e : (nv k (l.take m)).length = m := by simp; omega
    refine .inr ⟨x, cap, by rw [e], by rw [e]; rw [nv_length] at h1; omega, h2, fun j u hu => h3 j u ?_⟩
    have hj : j < m := by rw [← e]; exact (List.getElem?_eq_some_iff.1 hu).1
    rw [nv_get _ _ _ (by simp; omega)] at hu
    rw [← hu, nv_get _ _ _ (by omega)]
    simp [List.getD, hj]

theorem and127 (s : Nat) (h : s < 256) : bits BinOp.and IntKind.u8 (s : Int) 127 = ((s % 128 : Nat) : Int) := by
  have e := bits_mask .u8 8 (by decide) (fun n h0 h1 => by
    have e : IntKind.u8.wrap n = n % 256 := by simp [IntKind.wrap, IntKind.bits, IntKind.signed]
    rw [e]; exact Int.emod_eq_of_lt h0 (by simpa using h1)) 7 (by omega) (s : Int) (Int.natCast_nonneg _) (by omega)
  rw [show ((2 : Int) ^ 7 - 1) = 127 by decide, show ((2 : Int) ^ 7) = 128 by decide] at e
  rw [e]; omega

theorem own_nv {w : World} {B T n : Nat} {x : Value} {k : IntKind} {a b : List Nat} {c : Nat} (h : w.ownsRow B T 1 x n (nv k a ++ [.int k (c : Int)])) (hb : b = a ++ [c]) : w.ownsRow B T 1 x n (nv k b) := by
  have e : nv k b = nv k a ++ [.int k (c : Int)] := by rw [hb]; simp [nv]
  rw [e]; exact h

theorem not64 (n : Nat) (h : n < 18446744073709551616) : bits BinOp.xor IntKind.u64 18446744073709551615 (n : Int) = ((18446744073709551615 - n : Nat) : Int) := by
  have := bits_xor_u64_nat 18446744073709551615 n (by decide) h
  rw [show ((18446744073709551615 : Nat) : Int) = 18446744073709551615 from rfl] at this
  rw [this]
  have e : (BitVec.allOnes 64 ^^^ BitVec.ofNat 64 n).toNat = 18446744073709551615 ^^^ n := by
    rw [BitVec.toNat_xor, BitVec.toNat_allOnes, BitVec.toNat_ofNat, Nat.mod_eq_of_lt (by omega)]
  rw [← e, BitVec.allOnes_xor, BitVec.toNat_not, BitVec.toNat_ofNat, Nat.mod_eq_of_lt (by omega)]

theorem noti64 (n : Nat) (h : n < 9223372036854775808) : bits BinOp.xor IntKind.i64 (-1) (n : Int) = -(n : Int) - 1 := by
  have h1 : (BitVec.ofInt 64 (-1)) = BitVec.allOnes 64 := by decide
  have h2 : BitVec.ofInt 64 (n : Int) = BitVec.ofNat 64 n := BitVec.ofInt_natCast _ _
  show IntKind.i64.wrap ((BitVec.ofInt 64 (-1) ^^^ BitVec.ofInt 64 (n : Int)).toNat : Int) = _
  rw [h1, h2, BitVec.allOnes_xor, BitVec.toNat_not, BitVec.toNat_ofNat, Nat.mod_eq_of_lt (by omega)]
  simp only [IntKind.wrap, IntKind.bits, IntKind.signed]
  simp
  omega

theorem xor0_64 (n : Nat) (h : n < 18446744073709551616) : bits BinOp.xor IntKind.u64 (n : Int) 0 = (n : Int) := by
  have := bits_xor_u64_nat n 0 h (by decide)
  simpa using this

theorem xor0_i64 (n : Nat) (h : n < 9223372036854775808) : bits BinOp.xor IntKind.i64 (n : Int) 0 = (n : Int) := by
  have h2 : BitVec.ofInt 64 (n : Int) = BitVec.ofNat 64 n := BitVec.ofInt_natCast _ _
  show IntKind.i64.wrap ((BitVec.ofInt 64 (n : Int) ^^^ BitVec.ofInt 64 0).toNat : Int) = _
  rw [h2, show BitVec.ofInt 64 0 = 0#64 by decide, BitVec.xor_zero, BitVec.toNat_ofNat, Nat.mod_eq_of_lt (by omega)]
  simp only [IntKind.wrap, IntKind.bits, IntKind.signed]
  simp
  omega

theorem xor_comm64 (a b : Int) : bits BinOp.xor IntKind.u64 a b = bits BinOp.xor IntKind.u64 b a := by
  show IntKind.u64.wrap ((BitVec.ofInt 64 a ^^^ BitVec.ofInt 64 b).toNat : Int) = IntKind.u64.wrap ((BitVec.ofInt 64 b ^^^ BitVec.ofInt 64 a).toNat : Int)
  rw [BitVec.xor_comm]

theorem xor_commi64 (a b : Int) : bits BinOp.xor IntKind.i64 a b = bits BinOp.xor IntKind.i64 b a := by
  show IntKind.i64.wrap ((BitVec.ofInt 64 a ^^^ BitVec.ofInt 64 b).toNat : Int) = IntKind.i64.wrap ((BitVec.ofInt 64 b ^^^ BitVec.ofInt 64 a).toNat : Int)
  rw [BitVec.xor_comm]

theorem and1_64 (n : Nat) (h : n < 18446744073709551616) : bits BinOp.and IntKind.u64 (n : Int) 1 = ((n % 2 : Nat) : Int) := by
  have := bits_and_u64_nat n 1 h (by decide)
  rw [Nat.and_one_is_mod] at this
  exact this

theorem wf64_of (x : Int) (h : -9223372036854775808 ≤ x ∧ x ≤ 9223372036854775807) : (Lit.int .i64 x).wf = true := by
  simp [Lit.wf, IntKind.min, IntKind.max, IntKind.signed, IntKind.bits]; omega

theorem own_some {w : World} {B T n cap : Nat} {ao : Option Addr} {xs : List Value} (h : w.ownsRow B T 1 (.slice ao n cap) n xs) (hn : 0 < n) : ∃ g, ao = some ⟨g, 0, none⟩ := by
  obtain ⟨hl, h1⟩ := h
  rcases h1 with ⟨e, rfl⟩ | ⟨g', cap', cur, e, _⟩
  · omega
  · injection e with e1 e2 e3
    exact ⟨g', e1⟩

theorem getD_left (X : List Nat) (c i : Nat) (h : i < X.length) : (X ++ [c]).getD i 0 = X.getD i 0 := by simp [List.getD, List.getElem?_append_left h]

theorem getD_last (X : List Nat) (c : Nat) : (X ++ [c]).getD X.length 0 = c := by simp [List.getD]

/-- The length of a slice value. -/
def slen : Value → Nat | .slice _ n _ => n | _ => 0

theorem getD_lt {l : List Nat} {m : Nat} (h : ∀ x ∈ l, x < m) (hm : 0 < m) (j : Nat) : l.getD j 0 < m := by
  by_cases hj : j < l.length
  · exact h _ (getD_mem hj)
  · rw [show l.getD j 0 = 0 by simp [List.getD, show l.length ≤ j by omega]]; exact hm

theorem set_lt {l : List Nat} {m c : Nat} (h : ∀ x ∈ l, x < m) (hc : c < m) (j : Nat) : ∀ x ∈ l.set j c, x < m := by
  intro x hx
  rcases List.mem_or_eq_of_mem_set hx with h1 | h1
  · exact h x h1
  · omega

theorem cells4 {w : World} {r : Nat} {a b c d : Value} {T : TypeId} (h : w.heap[r]? = some (.cells #[a, b, c, d] T (0, 0))) : w.cell? ⟨r, 0, none⟩ = some a ∧ w.cell? ⟨r, 1, none⟩ = some b ∧ w.cell? ⟨r, 2, none⟩ = some c ∧ w.cell? ⟨r, 3, none⟩ = some d := by
  simp [World.cell?, h]

theorem Reads.ptr {w : World} {ao : Option Addr} {n cap : Nat} {xs : List Value} (h : Reads w (.slice ao n cap) xs) (hn : 0 < n) : ∃ g off, ao = some ⟨g, off, none⟩ := by
  rcases h with ⟨e, _⟩ | ⟨g, off, cap', e, _⟩
  · injection e with e1 e2 e3; omega
  · injection e with e1 e2 e3
    exact ⟨g, off, e1⟩

/-- The back part of a row, by its own address. -/
theorem Reads.back {w : World} {g off n cap : Nat} {k : IntKind} {l r : List Nat} (h : Reads w (.slice (some ⟨g, off, none⟩) n cap) (nv k (l ++ r))) :
    (r ≠ [] → Reads w (.slice (some ⟨g, off + l.length, none⟩) r.length (cap - l.length)) (nv k r) ∧ l.length < cap) ∧ cap ≤ maxLen := by
  rcases h with ⟨e, _⟩ | ⟨g', off', cap', e, h1, h2, h3⟩
  · injection e with e1 e2 e3; cases e1
  · injection e with e1 e2 e3
    injection e1 with e1
    injection e1 with e11 e12 e13
    subst e11 e12 e3
    rw [nv_length, List.length_append] at h1
    refine ⟨fun hr => ?_, h2⟩
    have hr0 : 0 < r.length := List.length_pos_iff.2 hr
    refine ⟨.inr ⟨g, off + l.length, cap - l.length, by rw [nv_length], by rw [nv_length]; omega, by omega, fun j u hu => ?_⟩, by omega⟩
    have hj : j < r.length := by
      have := (List.getElem?_eq_some_iff.1 hu).1
      simpa using this
    have := h3 (l.length + j) u (by
      rw [← hu]
      simp [nv, List.getElem?_append_right])
    rwa [← Nat.add_assoc] at this

theorem cvp {l : List Nat} {n : Nat} {s : ByteArray} {w : World} {ao : Option Addr} {cap : Nat} (h : Seen w (.slice ao n cap) (nv .u8 l)) (hn : n = l.length) (hs : s = str l) (hb : ∀ x ∈ l, x < 2 ^ 8) :
    ∀ w', Hid (Chg [] w w') → (convert 75 9 (.slice ao n cap)).run Try.prog w' = .ok (.string s) w' := fun w' hc => by
  rw [hs]
  exact conv_seen Try.underlying75 Try.underlying5 Try.underlying9 (h.keep hc.out) hn.symm hb

end Go.Proofs.Ytfdmbpfpdijpdaa

namespace Go.Proofs.Ytfdmbpfpdijpdaa
open Go.RowKit
set_option linter.unusedVariables false

theorem ready_at {md : Region.Mode} {ops : Array Oper} {listed : Array Bool} {i : Nat} {o : Oper} (ho : ops[i]? = some o) (hi : i ∈ Region.ready md ops listed) :
    (!listed.getD i true && o.after.all fun e => !Region.binds md e || listed.getD e.on false) = true := by
  unfold Region.ready at hi
  have h := (List.mem_filter.1 hi).2
  rw [ho] at h
  exact h

theorem ready_not {md : Region.Mode} {ops : Array Oper} {listed : Array Bool} {i : Nat} {o : Oper} (ho : ops[i]? = some o) (hr : Region.ready md ops listed = []) :
    (!listed.getD i true && o.after.all fun e => !Region.binds md e || listed.getD e.on false) = false := by
  cases h : (!listed.getD i true && o.after.all fun e => !Region.binds md e || listed.getD e.on false) with
  | false => rfl
  | true =>
    have hm : i ∈ Region.ready md ops listed := by
      unfold Region.ready
      refine List.mem_filter.2 ⟨List.mem_range.2 (Array.getElem?_eq_some_iff.1 ho).1, ?_⟩
      rw [ho]; exact h
    rw [hr] at hm
    cases hm

/-- Where nothing is ready and each operation waits for earlier ones alone, all are done. -/
theorem ready_all {md : Region.Mode} {ops : Array Oper} {listed : Array Bool} (hr : Region.ready md ops listed = []) (hs : listed.size = ops.size) (ha : ((List.range ops.size).all fun i => match ops[i]? with | some o => o.after.all fun e => decide (e.on < i) | none => true) = true) :
    ∀ i, i < ops.size → listed[i]? = some true := by
  intro i
  induction i using Nat.strongRecOn with
  | ind i ih =>
    intro hi
    have ho : ops[i]? = some ops[i] := Array.getElem?_eq_getElem hi
    have h1 := ready_not ho hr
    have h2 := (List.all_eq_true.1 ha) i (List.mem_range.2 hi)
    rw [ho] at h2
    simp only at h2
    have h3 : (ops[i].after.all fun e => !Region.binds md e || listed.getD e.on false) = true := by
      rw [Array.all_eq_true'] at h2 ⊢
      intro e he
      have h4 : e.on < i := of_decide_eq_true (h2 e he)
      have h5 := ih e.on h4 (by omega)
      have h6 : listed.getD e.on false = true := by
        rw [Array.getD_eq_getD_getElem?, h5]
        rfl
      rw [h6, Bool.or_true]
    rw [h3, Bool.and_true] at h1
    have hl : listed[i]? = some listed[i] := Array.getElem?_eq_getElem (by omega)
    rw [Array.getD_eq_getD_getElem?, hl] at h1
    rw [hl]
    simpa using h1

theorem ready_lt {md : Region.Mode} {ops : Array Oper} {listed : Array Bool} {i : Nat} (hi : i ∈ Region.ready md ops listed) : i < ops.size ∧ listed[i]? = some false := by
  unfold Region.ready at hi
  obtain ⟨h1, h2⟩ := List.mem_filter.1 hi
  refine ⟨List.mem_range.1 h1, ?_⟩
  rw [Bool.and_eq_true] at h2
  have h3 := h2.1
  rw [Array.getD_eq_getD_getElem?] at h3
  cases h : listed[i]? with
  | none => rw [h] at h3; simp at h3
  | some b => rw [h] at h3; simp at h3; rw [h3]

theorem count_rep (n : Nat) : (Array.replicate n false).toList.count false ≤ n := by
  rw [Array.toList_replicate, List.count_replicate]
  split <;> omega

theorem wpAny_inv {P : Program} {md : Region.Mode} {ops : Array Oper} {Q : Exit → Act → World → Prop} (I : Array Bool → Act → World → Prop)
    (hs : ∀ listed a w, I listed a w → ∀ i, i < ops.size → i ∈ Region.ready md ops listed → wpOp P ops Q i (fun a' w' => I (listed.setIfInBounds i true) a' w') a w)
    (hq : ∀ listed a w, I listed a w → Region.ready md ops listed = [] → Q .normal a w) :
    ∀ (fuel : Nat) (listed : Array Bool) (a : Act) (w : World), I listed a w → listed.toList.count false ≤ fuel → wpAny P md ops Q fuel listed a w
  | 0, listed, a, w, hI, hc => by
    have hr : Region.ready md ops listed = [] := by
      apply List.eq_nil_iff_forall_not_mem.2
      intro i hi
      have h := (ready_lt hi).2
      have hm : false ∈ listed.toList := by
        rw [← Array.getElem?_toList] at h
        exact List.mem_of_getElem? h
      have := List.count_pos_iff.2 hm
      omega
    exact ⟨hr, hq listed a w hI hr⟩
  | fuel + 1, listed, a, w, hI, hc => by
    refine ⟨hq listed a w hI, fun i hi => ?_⟩
    obtain ⟨h1, h2⟩ := ready_lt hi
    refine wpOp_mono (fun a' w' h => ?_) (hs listed a w hI i h1 hi)
    refine wpAny_inv I hs hq fuel _ a' w' h ?_
    rw [← Array.getElem?_toList] at h2
    obtain ⟨hl, he⟩ := List.getElem?_eq_some_iff.1 h2
    rw [Array.toList_setIfInBounds, List.count_set hl, he]
    have e1 : (false == false) = true := rfl
    have e2 : ¬ (true == false) = true := by decide
    rw [if_pos e1, if_neg e2]
    omega

end Go.Proofs.Ytfdmbpfpdijpdaa

namespace Go.Proofs.Ytfdmbpfpdijpdaa
open Go.RowKit
set_option linter.unusedVariables false

/-- A field of a schema: its name, how often, its kind, how many it has. -/
structure F where
  n : ByteArray
  r : Int
  k : Int
  c : Int
deriving DecidableEq, Inhabited

/-- A leaf. -/
structure L where
  f : Int
  r : Int
  d : Int
  k : Int
deriving DecidableEq, Inhabited

def F.cs (f : F) : List Value := [.string f.n, .int .i64 f.r, .int .i64 f.k, .int .i64 f.c]
def L.cs (l : L) : List Value := [.int .i64 l.f, .int .i64 l.r, .int .i64 l.d, .int .i64 l.k]
def ic (x : Int) : List Value := [.int .i64 x]

/-- The slice value v reads as the list l, an element taking k cells. -/
def SeenK {α : Type} (enc : α → List Value) (k : Nat) (w : World) (v : Value) (l : List α) : Prop :=
  ∃ ao cap, v = .slice ao l.length cap ∧ l.length ≤ cap ∧ cap ≤ maxLen ∧ (0 < l.length → ∃ g off, ao = some ⟨g, off, none⟩ ∧ ∀ j x i u, l[j]? = some x → (enc x)[i]? = some u → w.cell? ⟨g, off + j * k + i, none⟩ = some u)

theorem SeenK.shape {α : Type} {enc : α → List Value} {k : Nat} {w : World} {v : Value} {l : List α} (h : SeenK enc k w v l) : ∃ ao cap, v = .slice ao l.length cap ∧ l.length ≤ cap ∧ cap ≤ maxLen := by
  obtain ⟨ao, cap, h1, h2, h3, _⟩ := h
  exact ⟨ao, cap, h1, h2, h3⟩

theorem SeenK.keep {α : Type} {enc : α → List Value} {k : Nat} {w w' : World} {v : Value} {l : List α} (h : SeenK enc k w v l) (hc : Chg [] w w') : SeenK enc k w' v l := by
  obtain ⟨ao, cap, h1, h2, h3, h4⟩ := h
  refine ⟨ao, cap, h1, h2, h3, fun hn => ?_⟩
  obtain ⟨g, off, e, h5⟩ := h4 hn
  exact ⟨g, off, e, fun j x i u hx hu => hc.cell (h5 j x i u hx hu) (by simp)⟩

theorem SeenK.at {α : Type} {enc : α → List Value} {k : Nat} {w : World} {ao : Option Addr} {n cap : Nat} {l : List α} (h : SeenK enc k w (.slice ao n cap) l) (hn : 0 < n) :
    ∃ g off, ao = some ⟨g, off, none⟩ ∧ ∀ j x i u, l[j]? = some x → (enc x)[i]? = some u → w.cell? ⟨g, off + j * k + i, none⟩ = some u := by
  obtain ⟨ao', cap', h1, h2, h3, h4⟩ := h
  injection h1 with e1 e2 e3
  subst e1
  exact h4 (by omega)

abbrev SeenF := SeenK F.cs 4
abbrev SeenL := SeenK L.cs 4
abbrev SeenI := SeenK ic 1

/-- The four cells of a field. -/
theorem SeenF.cells {w : World} {g off : Nat} {l : List F} (h : ∀ j x i u, l[j]? = some x → (F.cs x)[i]? = some u → w.cell? ⟨g, off + j * 4 + i, none⟩ = some u) {j : Nat} {f : F} (hj : l[j]? = some f) :
    w.cell? ⟨g, off + j * 4, none⟩ = some (.string f.n) ∧ w.cell? ⟨g, off + j * 4 + 1, none⟩ = some (.int .i64 f.r) ∧ w.cell? ⟨g, off + j * 4 + 2, none⟩ = some (.int .i64 f.k) ∧ w.cell? ⟨g, off + j * 4 + 3, none⟩ = some (.int .i64 f.c) :=
  ⟨h j f 0 _ hj rfl, h j f 1 _ hj rfl, h j f 2 _ hj rfl, h j f 3 _ hj rfl⟩

theorem SeenL.cells {w : World} {g off : Nat} {l : List L} (h : ∀ j x i u, l[j]? = some x → (L.cs x)[i]? = some u → w.cell? ⟨g, off + j * 4 + i, none⟩ = some u) {j : Nat} {f : L} (hj : l[j]? = some f) :
    w.cell? ⟨g, off + j * 4, none⟩ = some (.int .i64 f.f) ∧ w.cell? ⟨g, off + j * 4 + 1, none⟩ = some (.int .i64 f.r) ∧ w.cell? ⟨g, off + j * 4 + 2, none⟩ = some (.int .i64 f.d) ∧ w.cell? ⟨g, off + j * 4 + 3, none⟩ = some (.int .i64 f.k) :=
  ⟨h j f 0 _ hj rfl, h j f 1 _ hj rfl, h j f 2 _ hj rfl, h j f 3 _ hj rfl⟩

theorem SeenI.cell {w : World} {g off : Nat} {l : List Int} (h : ∀ j x i u, l[j]? = some x → (ic x)[i]? = some u → w.cell? ⟨g, off + j * 1 + i, none⟩ = some u) {j : Nat} {f : Int} (hj : l[j]? = some f) :
    w.cell? ⟨g, off + j, none⟩ = some (.int .i64 f) := by simpa using h j f 0 _ hj rfl

/-- A scope in which three pieces of code stand ahead of the label to which it jumps. -/
theorem wp_scope_pre3 {P : Program} {a : Act} {w : World} {Q : Exit → Act → World → Prop} {pre pre2 pre3 rest : Code} (l : Nat) (J : Act → World → Prop) (m : Act → World → Nat) (hf : findLabel (.seq pre (.seq pre2 (.seq pre3 (.seq (.label l) rest)))) l = some (.seq .skip rest))
    (h0 : pre.wp P (Exit.then (fun a w => pre2.wp P (Exit.then (fun a w => pre3.wp P (Exit.then J (fun _ _ _ => False)) a w) (fun _ _ _ => False)) a w) (fun _ _ _ => False)) a w)
    (pass : ∀ a w, J a w → rest.wp P (Exit.jump l (fun a' w' => J a' w' ∧ m a' w' < m a w) Q) a w) : (Code.scope (.seq pre (.seq pre2 (.seq pre3 (.seq (.label l) rest))))).wp P Q a w := by
  refine wp_scope_jumps l J m hf (wp_seq (wp_mono h0 fun e a' w' h => ?_)) fun a' w' h => wp_seq (wp_skip (pass a' w' h))
  cases e with
  | normal =>
    refine wp_seq (wp_mono h fun e a' w' h => ?_)
    cases e with
    | normal =>
      refine wp_seq (wp_mono h fun e a' w' h => ?_)
      cases e with
      | normal =>
        refine wp_seq (wp_label (wp_mono (pass a' w' h) fun e a' w' h => ?_))
        cases e with
        | goto l' => exact ⟨h.1, h.2.1⟩
        | _ => exact h
      | _ => exact h.elim
    | _ => exact h.elim
  | _ => exact h.elim

/-- A row of integers, as values. -/
def iv (l : List Int) : List Value := l.map (.int .i64)
@[simp] theorem iv_length (l : List Int) : (iv l).length = l.length := by simp [iv]

/-- Block g is the row l of integers. -/
def BlkI (w : World) (g : Nat) (l : List Int) : Prop := w.heap[g]? = some (.cells (iv l).toArray 3 (0, 0))

theorem BlkI.cell {w : World} {g : Nat} {l : List Int} (h : BlkI w g l) {j : Nat} {x : Int} (hj : l[j]? = some x) : w.cell? ⟨g, j, none⟩ = some (.int .i64 x) := by
  rw [cell_of_row w g j _ _ _ h]
  simp [iv, hj]

theorem BlkI.frozen {w : World} {g : Nat} {l : List Int} (h : BlkI w g l) (i : Nat) : w.frozen? ⟨g, i, none⟩ = false := by
  unfold BlkI at h
  simp [World.frozen?, h]

theorem BlkI.lt {w : World} {g : Nat} {l : List Int} (h : BlkI w g l) : g < w.heap.size := Go.lt_of_block h

theorem BlkI.set {w : World} {g : Nat} {l : List Int} (h : BlkI w g l) (j : Nat) (x : Int) : BlkI (w.setCell ⟨g, j, none⟩ (.int .i64 x)) g (l.set j x) := by
  unfold BlkI at h ⊢
  simp [World.setCell, Array.getElem?_modify, h, iv, List.map_set]

theorem BlkI.far {w : World} {g : Nat} {l : List Int} (h : BlkI w g l) {p : Addr} (hp : g ≠ p.block) (u : Value) : BlkI (w.setCell p u) g l := (Below.heap_setCell w p u g hp).trans h

theorem BlkI.chg {w w' : World} {S : List Nat} {g : Nat} {l : List Int} (h : BlkI w g l) (hc : Chg S w w') (hg : g ∉ S) : BlkI w' g l := hc.heap h hg

theorem BlkI.seen {w : World} {g : Nat} {l : List Int} (h : BlkI w g l) (hm : l.length ≤ maxLen) : SeenI w (.slice (some ⟨g, 0, none⟩) l.length l.length) l :=
  ⟨_, _, rfl, Nat.le_refl _, hm, fun _ => ⟨g, 0, rfl, fun j x i u hx hu => by
    have hi : i = 0 := by
      cases i with
      | zero => rfl
      | succ i => simp [ic] at hu
    subst hi
    simp [ic] at hu
    subst hu
    simpa using h.cell hx⟩⟩

theorem blkI_of_own {w : World} {B g n cap : Nat} {l : List Int} (h : w.ownsRow B 3 1 (.slice (some ⟨g, 0, none⟩) n cap) n (iv l)) (hc : cap = n) : BlkI w g l := by
  obtain ⟨hl, h1⟩ := h
  rcases h1 with ⟨he, hn⟩ | ⟨g', cap', cur, he, _, hg, hcc, hm, hs, ht⟩
  · cases he
  · injection he with e1 e2 e3
    injection e1 with e1
    injection e1 with e1
    subst e1 e3 hc
    unfold BlkI
    rw [hg]
    have hcur : cur = (iv l).toArray := by
      apply Array.ext'
      rw [← ht]
      simp at hl hs ⊢
      rw [List.take_of_length_le (by simp; omega)]
    rw [hcur]

theorem info_int : ∃ i, Try.prog.info? 3 = some i ∧ i.zero = some (.int .i64 0) ∧ i.size = 1 ∧ i.bytes = 8 :=
  info_parts (show (Try.prog.info? 3).map (fun i => (i.zero, i.size, i.bytes)) = some (some (.int .i64 0), 1, 8) by kernel_rfl)

theorem cells_zeroi (n : Nat) : (madeCells #[Value.int .i64 0] n).toList = iv (List.replicate n 0) := by
  rw [toList_madeCells_one]; simp [iv]

end Go.Proofs.Ytfdmbpfpdijpdaa

namespace Go.Proofs.Ytfdmbpfpdijpdaa
open Go.RowKit
set_option linter.unusedVariables false

/-! ### groups -/

def popS : List (Nat × Int) → List (Nat × Int)
  | [] => []
  | (g, x) :: t => if x < 1 then popS t else (g, x) :: t
def topS : List (Nat × Int) → Int
  | [] => -1
  | (g, _) :: _ => g
def decS : List (Nat × Int) → List (Nat × Int)
  | [] => []
  | (g, x) :: t => (g, x - 1) :: t
def pushS (i : Nat) (f : F) (st : List (Nat × Int)) : List (Nat × Int) := if f.k = 0 then (i, f.c) :: st else st

def par : Nat → List F → List (Nat × Int) → List Int
  | _, [], _ => []
  | i, f :: l, st => topS (popS st) :: par (i + 1) l (pushS i f (decS (popS st)))

def parents (l : List F) : List Int := par 0 l []

@[simp] theorem par_length (i : Nat) (l : List F) (st : List (Nat × Int)) : (par i l st).length = l.length := by
  induction l generalizing i st with
  | nil => rfl
  | cons f l ih => simp [par, ih]
@[simp] theorem parents_length (l : List F) : (parents l).length = l.length := par_length _ _ _

theorem par_pop (i : Nat) (l : List F) (st : List (Nat × Int)) : par i l (popS st) = par i l st := by
  have h : popS (popS st) = popS st := by
    induction st with
    | nil => rfl
    | cons a t ih =>
      obtain ⟨g, x⟩ := a
      by_cases hx : x < 1
      · simp [popS, hx, ih]
      · simp [popS, hx]
  cases l with
  | nil => rfl
  | cons f l => simp [par, h]

/-- The groups that are open stand ahead, the inner ones behind the outer ones. -/
def Desc : Nat → List (Nat × Int) → Prop
  | _, [] => True
  | b, (g, _) :: t => g < b ∧ Desc g t

theorem Desc.mono {b c : Nat} {st : List (Nat × Int)} (h : Desc b st) (hbc : b ≤ c) : Desc c st := by
  cases st with
  | nil => trivial
  | cons a t => exact ⟨Nat.lt_of_lt_of_le h.1 hbc, h.2⟩
theorem Desc.pop {b : Nat} {st : List (Nat × Int)} (h : Desc b st) : Desc b (popS st) := by
  induction st generalizing b with
  | nil => trivial
  | cons a t ih =>
    obtain ⟨g, x⟩ := a
    by_cases hx : x < 1
    · simp only [popS, hx, if_true]
      exact (ih h.2).mono (Nat.le_of_lt h.1)
    · simp only [popS, hx, if_false]
      exact h
theorem Desc.dec {b : Nat} {st : List (Nat × Int)} (h : Desc b st) : Desc b (decS st) := by
  cases st with
  | nil => trivial
  | cons a t => exact h
theorem Desc.push {i : Nat} {st : List (Nat × Int)} (h : Desc i st) (f : F) : Desc (i + 1) (pushS i f st) := by
  unfold pushS
  split
  · exact ⟨Nat.lt_succ_self i, h⟩
  · exact h.mono (Nat.le_succ i)
theorem topS_lt {b : Nat} {st : List (Nat × Int)} (h : Desc b st) : topS st = -1 ∨ 0 ≤ topS st ∧ topS st < b := by
  cases st with
  | nil => exact .inl rfl
  | cons a t => exact .inr ⟨by simp [topS], by have := h.1; simp [topS]; omega⟩

theorem par_lt (l : List F) : ∀ (i : Nat) (st : List (Nat × Int)), Desc i st → ∀ (j : Nat) (x : Int), (par i l st)[j]? = some x → x = -1 ∨ 0 ≤ x ∧ x < i + j := by
  induction l with
  | nil => intro i st _ j x h; simp [par] at h
  | cons f l ih =>
    intro i st hd j x h
    cases j with
    | zero =>
      simp [par] at h
      subst h
      simpa using topS_lt hd.pop
    | succ j =>
      simp [par] at h
      have := ih (i + 1) _ (hd.pop.dec.push f) j x h
      rcases this with h1 | h1
      · exact .inl h1
      · exact .inr (by omega)

theorem parents_lt {l : List F} {j : Nat} {x : Int} (h : (parents l)[j]? = some x) : x = -1 ∨ 0 ≤ x ∧ x < j := by
  simpa using par_lt l 0 [] trivial j x h

/-- The memory of the groups that are open: P the groups, C how many each lacks. -/
def Chain (P C : List Int) : Int → List (Nat × Int) → Prop
  | g, [] => g = -1
  | g, (h, x) :: t => g = h ∧ C[h]? = some x ∧ ∃ p, P[h]? = some p ∧ Chain P C p t

theorem Chain.setP {P C : List Int} {g : Int} {st : List (Nat × Int)} {b : Nat} (h : Chain P C g st) (hd : Desc b st) {i : Nat} (hi : b ≤ i) (v : Int) : Chain (P.set i v) C g st := by
  induction st generalizing g b with
  | nil => exact h
  | cons a t ih =>
    obtain ⟨k, x⟩ := a
    obtain ⟨h1, h2, p, h3, h4⟩ := h
    exact ⟨h1, h2, p, by rw [List.getElem?_set_ne (by have := hd.1; omega)]; exact h3, ih h4 hd.2 (by have := hd.1; omega)⟩

theorem Chain.setC {P C : List Int} {g : Int} {st : List (Nat × Int)} {b : Nat} (h : Chain P C g st) (hd : Desc b st) {i : Nat} (hi : b ≤ i) (v : Int) : Chain P (C.set i v) g st := by
  induction st generalizing g b with
  | nil => exact h
  | cons a t ih =>
    obtain ⟨k, x⟩ := a
    obtain ⟨h1, h2, p, h3, h4⟩ := h
    exact ⟨h1, by rw [List.getElem?_set_ne (by have := hd.1; omega)]; exact h2, p, h3, ih h4 hd.2 (by have := hd.1; omega)⟩

/-! ### how many on the way -/

theorem snoc_ind {α : Type} {p : List α → Prop} (h0 : p []) (h1 : ∀ l a, p l → p (l ++ [a])) (l : List α) : p l := by
  have h : ∀ n (l : List α), l.length = n → p l := by
    intro n
    induction n with
    | zero => intro l hl; rw [List.length_eq_zero_iff.1 hl]; exact h0
    | succ n ih =>
      intro l hl
      have hne : l ≠ [] := fun e => by rw [e] at hl; cases hl
      rw [← List.dropLast_concat_getLast hne]
      exact h1 _ _ (ih _ (by simp [hl]))
  exact h _ l rfl

def cntL (b : Nat → Bool) (ps : List Int) : List Int :=
  ps.foldl (fun acc p => acc ++ [(if p = -1 then 0 else acc.getD p.toNat 0) + (if b acc.length then 1 else 0)]) []

theorem cntL_snoc (b : Nat → Bool) (ps : List Int) (p : Int) : cntL b (ps ++ [p]) = cntL b ps ++ [(if p = -1 then 0 else (cntL b ps).getD p.toNat 0) + (if b (cntL b ps).length then 1 else 0)] := by
  simp [cntL, List.foldl_append]

@[simp] theorem cntL_length (b : Nat → Bool) (ps : List Int) : (cntL b ps).length = ps.length := by
  refine snoc_ind (p := fun ps => (cntL b ps).length = ps.length) rfl (fun ps p ih => ?_) ps
  rw [cntL_snoc]
  simp [ih]

theorem cntL_take (b : Nat → Bool) (ps : List Int) (i : Nat) (x : Int) (h : ps[i]? = some x) : cntL b (ps.take (i + 1)) = cntL b (ps.take i) ++ [(if x = -1 then 0 else (cntL b (ps.take i)).getD x.toNat 0) + (if b i then 1 else 0)] := by
  have hi : i < ps.length := (List.getElem?_eq_some_iff.1 h).1
  rw [List.take_add_one, h]
  simp only [Option.toList]
  rw [cntL_snoc, cntL_length, List.length_take, Nat.min_eq_left (by omega)]

theorem cntL_bound (b : Nat → Bool) (ps : List Int) (hp : ∀ (j : Nat) (x : Int), ps[j]? = some x → x = -1 ∨ 0 ≤ x ∧ x < j) : ∀ (i : Nat), i ≤ ps.length → ∀ (j : Nat) (x : Int), (cntL b (ps.take i))[j]? = some x → 0 ≤ x ∧ x ≤ j + 1 := by
  intro i
  induction i with
  | zero => intro _ j x h; simp [cntL] at h
  | succ i ih =>
    intro hi j x h
    have hx : ps[i]? = some ps[i] := List.getElem?_eq_getElem (by omega)
    rw [cntL_take b ps i _ hx] at h
    have hl : (cntL b (ps.take i)).length = i := by simp; omega
    by_cases hj : j < i
    · rw [List.getElem?_append_left (by omega)] at h
      exact ih (by omega) j x h
    · have hji : j = i := by
        have := (List.getElem?_eq_some_iff.1 h).1
        simp at this
        omega
      subst hji
      rw [List.getElem?_append_right (by omega), hl] at h
      simp at h
      subst h
      have hq : 0 ≤ (if ps[j] = -1 then 0 else (cntL b (ps.take j)).getD ps[j].toNat 0) ∧ (if ps[j] = -1 then 0 else (cntL b (ps.take j)).getD ps[j].toNat 0) ≤ j := by
        split
        · omega
        · rcases hp j _ hx with h1 | h1
          · contradiction
          · have h2 : (cntL b (ps.take j))[ps[j].toNat]? = some ((cntL b (ps.take j))[ps[j].toNat]'(by omega)) := List.getElem?_eq_getElem (by omega)
            have h3 := ih (by omega) _ _ h2
            simp only [List.getD, h2, Option.getD]
            omega
      have hb : (0 : Int) ≤ (if b j = true then 1 else 0) ∧ (if b j = true then (1 : Int) else 0) ≤ 1 := by split <;> omega
      simp only [List.getD] at hq
      omega

end Go.Proofs.Ytfdmbpfpdijpdaa

namespace Go.Proofs.Ytfdmbpfpdijpdaa
open Go.RowKit
set_option linter.unusedVariables false

theorem flat_get {α : Type} {enc : α → List Value} {k : Nat} (hk : ∀ x, (enc x).length = k) (l : List α) : ∀ (j : Nat) (x : α) (i : Nat) (u : Value), l[j]? = some x → (enc x)[i]? = some u → (l.flatMap enc)[j * k + i]? = some u := by
  induction l with
  | nil => intro j x i u h; simp at h
  | cons y l ih =>
    intro j x i u h hu
    cases j with
    | zero =>
      simp at h
      subst h
      have hi : i < (enc y).length := (List.getElem?_eq_some_iff.1 hu).1
      rw [List.flatMap_cons, Nat.zero_mul, Nat.zero_add, List.getElem?_append_left hi]
      exact hu
    | succ j =>
      rw [List.getElem?_cons_succ] at h
      have e : (j + 1) * k + i = k + (j * k + i) := by rw [Nat.succ_mul]; omega
      rw [List.flatMap_cons, List.getElem?_append_right (by rw [hk]; omega), e, hk, Nat.add_sub_cancel_left]
      exact ih j x i u h hu

theorem flat_length {α : Type} {enc : α → List Value} {k : Nat} (hk : ∀ x, (enc x).length = k) (l : List α) : (l.flatMap enc).length = l.length * k := by
  induction l with
  | nil => simp
  | cons y l ih => rw [List.flatMap_cons, List.length_append, hk, ih, List.length_cons, Nat.succ_mul]; omega

theorem F.cs_len (x : F) : (F.cs x).length = 4 := rfl
theorem L.cs_len (x : L) : (L.cs x).length = 4 := rfl

/-- A row of structs laid at once. -/
theorem SeenF.lit (w : World) (g : Nat) (hg : g = w.heap.size) (T : TypeId) (C : Array Value) (l : List F) (n : Nat) (hC : C.toList = l.flatMap F.cs) (hn : l.length = n) (hm : n ≤ maxLen) : SeenF (w.alloc (.cells C T)) (.slice (some ⟨g, 0, none⟩) n n) l := by
  subst hn hg
  refine ⟨_, _, rfl, Nat.le_refl _, hm, fun _ => ⟨w.heap.size, 0, rfl, fun j x i u hx hu => ?_⟩⟩
  rw [World.cell?_alloc_mark, Nat.zero_add]
  have h := flat_get F.cs_len l j x i u hx hu
  rw [← hC] at h
  simpa using h

/-- A row of structs that is a whole block. -/
theorem SeenF.blk {w : World} {g : Nat} {T : TypeId} {C : Array Value} {fr : Nat × Nat} (hb : w.heap[g]? = some (.cells C T fr)) (l : List F) (n : Nat) (hC : C.toList = l.flatMap F.cs) (hn : l.length = n) (hm : n ≤ maxLen) : SeenF w (.slice (some ⟨g, 0, none⟩) n n) l := by
  subst hn
  refine ⟨_, _, rfl, Nat.le_refl _, hm, fun _ => ⟨g, 0, rfl, fun j x i u hx hu => ?_⟩⟩
  rw [Nat.zero_add, cell_of_row w g _ _ _ _ hb]
  have h := flat_get F.cs_len l j x i u hx hu
  rw [← hC] at h
  simpa using h

theorem heap_set {w : World} {g i : Nat} {T : TypeId} {C : Array Value} {fr : Nat × Nat} (hb : w.heap[g]? = some (.cells C T fr)) (v : Value) : (w.setCell ⟨g, i, none⟩ v).heap[g]? = some (.cells (C.setIfInBounds i v) T fr) := by
  simp [World.setCell, Array.getElem?_modify, hb]

/-- A row of structs of the call's own. -/
theorem SeenF.own {w : World} {B T : Nat} {v : Value} {n : Nat} {l : List F} (h : w.ownsRow B T 4 v n (l.flatMap F.cs)) (hn : l.length = n) : SeenF w v l := by
  subst hn
  obtain ⟨hl, h1⟩ := h
  rcases h1 with ⟨rfl, hn⟩ | ⟨g, cap, cur, rfl, _, hg, hc, hm, hs, ht⟩
  · exact ⟨none, 0, by rw [hn], by omega, by decide, fun hp => by omega⟩
  · refine ⟨_, cap, rfl, by omega, by omega, fun _ => ⟨g, 0, rfl, fun j x i u hx hu => ?_⟩⟩
    rw [Nat.zero_add, cell_of_row w g _ _ _ _ hg]
    have h := flat_get F.cs_len l j x i u hx hu
    rw [← ht, List.getElem?_take] at h
    split at h
    · simpa using h
    · cases h

/-- A row of leaves of the call's own. -/
theorem SeenL.own {w : World} {B T : Nat} {v : Value} {n : Nat} {l : List L} (h : w.ownsRow B T 4 v n (l.flatMap L.cs)) (hn : l.length = n) : SeenL w v l := by
  subst hn
  obtain ⟨hl, h1⟩ := h
  rcases h1 with ⟨rfl, hn⟩ | ⟨g, cap, cur, rfl, _, hg, hc, hm, hs, ht⟩
  · exact ⟨none, 0, by rw [hn], by omega, by decide, fun hp => by omega⟩
  · refine ⟨_, cap, rfl, by omega, by omega, fun _ => ⟨g, 0, rfl, fun j x i u hx hu => ?_⟩⟩
    rw [Nat.zero_add, cell_of_row w g _ _ _ _ hg]
    have h := flat_get L.cs_len l j x i u hx hu
    rw [← ht, List.getElem?_take] at h
    split at h
    · simpa using h
    · cases h

theorem own_set {w : World} {B T size g n cap : Nat} {xs : List Value} (h : w.ownsRow B T size (.slice (some ⟨g, 0, none⟩) n cap) n xs) (i : Nat) (hi : i < n * size) (v : Value) :
    (w.setCell ⟨g, i, none⟩ v).ownsRow B T size (.slice (some ⟨g, 0, none⟩) n cap) n (xs.set i v) := by
  obtain ⟨hl, h1⟩ := h
  rcases h1 with ⟨he, hn⟩ | ⟨g', cap', cur, he, hb, hg, hc, hm, hs, ht⟩
  · cases he
  · injection he with e1 e2 e3
    injection e1 with e1
    injection e1 with e1
    subst e1 e3
    refine ⟨by simpa using hl, .inr ⟨g, cap, cur.setIfInBounds i v, rfl, hb, heap_set hg v, hc, hm, by simpa using hs, ?_⟩⟩
    rw [← ht]
    simp [List.take_set]

theorem own_ptr {w : World} {B T size n cap : Nat} {ao : Option Addr} {xs : List Value} (h : w.ownsRow B T size (.slice ao n cap) n xs) (hn : 0 < n) : ∃ g, ao = some ⟨g, 0, none⟩ ∧ B ≤ g ∧ g < w.heap.size ∧ (∀ i, w.frozen? ⟨g, i, none⟩ = false) ∧ ∀ (i : Nat) (u : Value), xs[i]? = some u → w.cell? ⟨g, i, none⟩ = some u := by
  obtain ⟨hl, h1⟩ := h
  rcases h1 with ⟨he, hn'⟩ | ⟨g', cap', cur, he, hb, hg, hc, hm, hs, ht⟩
  · omega
  · injection he with e1 e2 e3
    refine ⟨g', e1, hb, Go.lt_of_block hg, fun i => by simp [World.frozen?, hg], fun i u hu => ?_⟩
    rw [cell_of_row w g' i _ _ _ hg]
    rw [← ht, List.getElem?_take] at hu
    split at hu
    · simpa using hu
    · cases hu

end Go.Proofs.Ytfdmbpfpdijpdaa

namespace Go.Proofs.Ytfdmbpfpdijpdaa
open Go.RowKit
set_option linter.unusedVariables false
set_option linter.unusedSimpArgs false

/-- A row of the call's own reads as a list. -/
theorem SeenK.own {α : Type} {enc : α → List Value} {k : Nat} (hk : ∀ x, (enc x).length = k) {w : World} {B T : Nat} {v : Value} {n : Nat} {l : List α} (h : w.ownsRow B T k v n (l.flatMap enc)) (hn : l.length = n) : SeenK enc k w v l := by
  subst hn
  obtain ⟨hl, h1⟩ := h
  rcases h1 with ⟨rfl, hn⟩ | ⟨g, cap, cur, rfl, _, hg, hc, hm, hs, ht⟩
  · exact ⟨none, 0, by rw [hn], by omega, by decide, fun hp => by omega⟩
  · refine ⟨_, cap, rfl, by omega, by omega, fun _ => ⟨g, 0, rfl, fun j x i u hx hu => ?_⟩⟩
    rw [Nat.zero_add, cell_of_row w g _ _ _ _ hg]
    have h := flat_get hk l j x i u hx hu
    rw [← ht, List.getElem?_take] at h
    split at h
    · simpa using h
    · cases h

/-- A row laid at once. -/
theorem SeenK.lit {α : Type} {enc : α → List Value} {k : Nat} (hk : ∀ x, (enc x).length = k) {w : World} {g : Nat} {T : TypeId} {C : Array Value} {fr : Nat × Nat} (hb : w.heap[g]? = some (.cells C T fr)) (l : List α) (n : Nat) (hC : C.toList = l.flatMap enc) (hn : l.length = n) (hm : n ≤ maxLen) : SeenK enc k w (.slice (some ⟨g, 0, none⟩) n n) l := by
  subst hn
  refine ⟨_, _, rfl, Nat.le_refl _, hm, fun _ => ⟨g, 0, rfl, fun j x i u hx hu => ?_⟩⟩
  rw [Nat.zero_add, cell_of_row w g _ _ _ _ hb]
  have h := flat_get hk l j x i u hx hu
  rw [← hC] at h
  simpa using h

/-- append of cells that lie in memory, as one step of a region that draws its order. -/
theorem step_append_cells {P : Program} {ops : Array Oper} {o : Oper} {a : Act} {w : World} {K : Act → World → Prop} {Q : Exit → Act → World → Prop} {E : Prop}
    (hg : o.guard = none) (s x : Operand) (t : TypeId) (hop : o.op = Op.call { callee := Callee.builtin Builtin.append, args := #[s, x], argTypes := #[t, t] })
    (base : Nat) (e : TypeId) (i : TypeInfo) (z : Value) (size bytes : Nat) (ht : P.underlying t = some (.slice e)) (hi : P.info? e = some i) (hz : i.zero = some z)
    (hsize : i.size = size) (hby : i.bytes = bytes) (hzs : z.cells.size = size) (hsz : 0 < size)
    (v : Value) (n : Nat) (xs : List Value) (hs : a.eval s = v) (hown : w.ownsRow base e size v n xs)
    (ad : Addr) (m c : Nat) (news : List Value) (hx : a.eval x = .slice (some ad) m c) (hl : news.length = m * size) (hnews : ∀ j u, news[j]? = some u → w.cell? (ad.add j) = some u) (h1 : ∀ u ∈ news, u.oneCell' = true)
    (h63 : n + m ≤ maxLen) (hbytes : (n + m) * bytes ≤ 140737488355328) (hbase : base ≤ w.heap.size)
    (hK : ∀ v' w', w'.ownsRow base e size v' (n + m) (xs ++ news) → w.grownBy w' v.ownBlock → K (a.put o.dst v') w') :
    if Region.wanted o (yielded ops a.tmps) = true then Oper.wp P o a w K Q else E := by
  have hw : Region.wanted o (yielded ops a.tmps) = true := by simp [Region.wanted, hg]
  rw [if_pos hw]
  obtain ⟨v', w', hrun, r1, r2, _⟩ := run_append_own (P := P) w base t o.type e i z size bytes ht hi hz hsize hby hzs hsz v n xs hown ad m c news hl hnews h1 h63 hbytes hbase
  unfold Oper.wp
  simp [execOp, hop, resolve, invoke, builtin, hs, hx, hrun, Result.andThen]
  exact hK v' w' r1 r2

theorem new_cells {w : World} {T : TypeId} {C : Array Value} (g : Nat) (hg : g = w.heap.size) : ∀ j u, C.toList[j]? = some u → (w.alloc (.cells C T)).cell? ((⟨g, 0, none⟩ : Addr).add j) = some u := by
  intro j u hu
  subst hg
  rw [addr_add, World.cell?_alloc_mark, Nat.zero_add, ← hu]
  simp

end Go.Proofs.Ytfdmbpfpdijpdaa

namespace Go.Proofs.Ytfdmbpfpdijpdaa
open Go.RowKit
set_option linter.unusedVariables false

theorem own_lit (w : World) (g B : Nat) (hg : g = w.heap.size) (hB : B ≤ g) (T : TypeId) (C : Array Value) (xs : List Value) (n size : Nat) (hC : C.toList = xs) (hn : C.size = n * size) (hm : n ≤ maxLen) : (w.alloc (.cells C T)).ownsRow B T size (.slice (some ⟨g, 0, none⟩) n n) n xs := by
  subst hC hg
  refine ⟨by simpa using hn, .inr ⟨w.heap.size, n, C, rfl, hB, heap_alloc_new w _, Nat.le_refl _, hm, hn, ?_⟩⟩
  rw [← hn]
  exact List.take_of_length_le (by simp)

theorem own_chg {w w' : World} {S : List Nat} {B T size n : Nat} {v : Value} {xs : List Value} (h : w.ownsRow B T size v n xs) (hc : Chg S w w') (hS : ∀ g, v.ownBlock = some g → g ∉ S) : w'.ownsRow B T size v n xs := by
  obtain ⟨hl, h1⟩ := h
  refine ⟨hl, ?_⟩
  rcases h1 with h1 | ⟨g, cap, cur, rfl, hb, hg, h2⟩
  · exact .inl h1
  · exact .inr ⟨g, cap, cur, rfl, hb, hc.heap hg (hS g rfl), h2⟩

theorem own_room {w : World} {B T size n cap : Nat} {ao : Option Addr} {xs : List Value} (h : w.ownsRow B T size (.slice ao n cap) n xs) : n ≤ cap ∧ cap ≤ maxLen := by
  obtain ⟨hl, h1⟩ := h
  rcases h1 with ⟨he, hn⟩ | ⟨g', cap', cur, he, hb, hg, hc, hmx, hs, ht⟩
  · injection he with e1 e2 e3
    subst e3
    rw [hn]
    exact ⟨Nat.le_refl _, by decide⟩
  · injection he with e1 e2 e3
    subst e3
    exact ⟨hc, hmx⟩

theorem IsRow.seenI {w : World} {a : Option Addr} {len cap : Nat} {z : List Int} (h : IsRow .i64 w a len cap z) : ∃ l : List Int, SeenI w (.slice a len cap) l ∧ len = l.length ∧ ∀ x ∈ l, (Lit.int .i64 x).wf = true := by
  refine ⟨z.take len, ?_, ?_, fun x hx => h.wf x (List.mem_of_mem_take hx)⟩
  · rcases h with ⟨rfl, rfl, rfl, rfl⟩ | ⟨x, rfl, h1, h2, h3, h4, h5⟩
    · exact ⟨none, 0, rfl, by simp, by simp, fun h => absurd h (by simp)⟩
    · have hl : (z.take len).length = len := by simp; omega
      refine ⟨some x, cap, by rw [hl], by omega, h2, fun hp => ?_⟩
      have h0 := h4 0 (by omega)
      obtain ⟨g, off, sp⟩ := x
      have hsp : sp = none := by simpa [Addr.add] using World.cell?_spot h0
      subst hsp
      refine ⟨g, off, rfl, fun j x i u hx hu => ?_⟩
      have hj : j < z.length := by
        have := (List.getElem?_eq_some_iff.1 hx).1
        simp at this
        omega
      have hi : i = 0 := by
        cases i with
        | zero => rfl
        | succ i => simp [ic] at hu
      subst hi
      have h5 := h4 j hj
      rw [addr_add] at h5
      simp only [Nat.mul_one, Nat.add_zero]
      rw [h5, ← hu]
      rw [List.getElem?_take] at hx
      split at hx
      · simp [ic, List.getD, hx]
      · cases hx
  · rcases h with ⟨rfl, rfl, rfl, rfl⟩ | ⟨x, rfl, h1, h2, h3, h4, h5⟩
    · simp
    · simp; omega

end Go.Proofs.Ytfdmbpfpdijpdaa

namespace Go.Proofs.Ytfdmbpfpdijpdaa
open Go.RowKit
set_option linter.unusedVariables false

theorem SeenI.get {w : World} {ao : Option Addr} {n cap : Nat} {l : List Int} (h : SeenI w (.slice ao n cap) l) (hn : 0 < n) (hl : l.length = n) : ∃ g off, ao = some ⟨g, off, none⟩ ∧ ∀ j, j < n → w.cell? ⟨g, off + j, none⟩ = some (.int .i64 (l.getD j 0)) := by
  obtain ⟨g, off, e, hc⟩ := h.at hn
  refine ⟨g, off, e, fun j hj => SeenI.cell hc ?_⟩
  rw [List.getD, List.getElem?_eq_getElem (by omega)]
  rfl

end Go.Proofs.Ytfdmbpfpdijpdaa

namespace Go.Proofs.Ytfdmbpfpdijpdaa
open Go.RowKit
set_option linter.unusedVariables false
set_option linter.unusedSimpArgs false

/-- append(v, s...) of a text, in a drawn region. -/
theorem step_append_text {ops : Array Oper} {o : Oper} {a : Act} {w : World} {K : Act → World → Prop} {Q : Exit → Act → World → Prop} {E : Prop}
    (hg : o.guard = none) (s x : Operand) (hop : o.op = Op.call { callee := Callee.builtin Builtin.append, args := #[s, x], argTypes := #[75, 9] })
    (base : Nat) (v : Value) (n : Nat) (xs : List Value) (hs : a.eval s = v) (hown : w.ownsRow base 5 1 v n xs) (b : ByteArray) (hx : a.eval x = .string b) (hb : n + b.size ≤ 140737488355328) (hbase : base ≤ w.heap.size)
    (hK : ∀ v' w', w'.ownsRow base 5 1 v' (n + b.size) (xs ++ nv .u8 (bl b)) → w.grownBy w' v.ownBlock → K (a.put o.dst v') w') :
    if Region.wanted o (yielded ops a.tmps) = true then Oper.wp Try.prog o a w K Q else E := by
  have hw : Region.wanted o (yielded ops a.tmps) = true := by simp [Region.wanted, hg]
  rw [if_pos hw]
  obtain ⟨i0, hi, hz0, hz1, hz2⟩ := info_u8
  obtain ⟨v', w', hrun, r1, r2, -⟩ := Go.Lib.run_append_own_string (P := Try.prog) w base 75 9 o.type 5 i0 Try.underlying75 Try.underlying9 hi hz0 hz1 hz2 v n xs hown b (by unfold maxLen; omega) hb hbase
  have e : Go.Lib.strCells b = nv .u8 (bl b) := by
    simp [Go.Lib.strCells, nv, bl]
  rw [e] at r1
  unfold Oper.wp
  simp [execOp, hop, resolve, invoke, builtin, hs, hx, hrun, Result.andThen]
  exact hK v' w' r1 r2

end Go.Proofs.Ytfdmbpfpdijpdaa

namespace Go.Proofs.Ytfdmbpfpdijpdaa
open Go.RowKit
set_option linter.unusedVariables false

set_option maxHeartbeats 400000 in
theorem within_any (a n : Int) (w : World) (hn : 1 ≤ n) (hn2 : n ≤ 4611686018427387904) (ha : -9223372036854775808 ≤ a) (ha2 : a ≤ 9223372036854775807) :
    Calls Try.prog 39 #[.int .i64 a, .int .i64 n] w fun e w' => e = .returned (.int .i64 (a % n)) ∧ w = w' := by
  have hf := tmod_fix a n hn
  have hl : -n < a.tmod n := Int.lt_tmod_of_pos a (by omega)
  have hh : a.tmod n < n := Int.tmod_lt_of_pos a (by omega)
  have HF := Lib.hid hf; clear hf
  go_enter Try.func39, Try.ntmps39
  go_wp2
  · have hlt : a.tmod n < 0 := by assumption
    have E : a.tmod n + n = a % n := by rw [HF.out, if_pos hlt]
    go_ret
    exact ⟨ret_int E, rfl⟩
  · have hlt : ¬ a.tmod n < 0 := by omega
    have E : a.tmod n = a % n := by rw [HF.out, if_neg hlt]
    go_ret
    exact ⟨ret_int E, rfl⟩

theorem within_nat (a : Int) (n : Nat) (w : World) (hn : 1 ≤ n) (hn2 : n ≤ 4611686018427387904) (h : (Lit.int .i64 a).wf = true) :
    Calls Try.prog 39 #[.int .i64 a, .int .i64 (n : Int)] w fun e w' => e = .returned (.int .i64 (((a % n).toNat : Nat) : Int)) ∧ w = w' := by
  have hb := wf_i64 h
  refine (within_any a n w (by omega) (by omega) hb.1 hb.2).mono ?_
  rintro e w' ⟨rfl, rfl⟩
  have := Int.emod_nonneg a (show (n : Int) ≠ 0 by omega)
  exact ⟨ret_int (by omega), rfl⟩

theorem within_int (a : Int) (n : Int) (m : Nat) (w : World) (hn : n = (m : Int)) (h1 : 1 ≤ m) (h2 : m ≤ 4611686018427387904) (h : (Lit.int .i64 a).wf = true) :
    Calls Try.prog 39 #[.int .i64 a, .int .i64 n] w fun e w' => e = .returned (.int .i64 (((a % m).toNat : Nat) : Int)) ∧ w = w' := by
  rw [hn]; exact within_nat a m w h1 h2 h

end Go.Proofs.Ytfdmbpfpdijpdaa

namespace Go.Proofs.Ytfdmbpfpdijpdaa
open Go.RowKit
set_option linter.unusedVariables false

set_option maxHeartbeats 400000 in
theorem w14_any (a n : Int) (w : World) (hn : 1 ≤ n) (hn2 : n ≤ 4611686018427387904) (ha : -9223372036854775808 ≤ a) (ha2 : a ≤ 9223372036854775807) :
    Calls Try.prog 33 #[.int .i64 a, .int .i64 n] w fun e w' => e = .returned (.int .i64 (a % n)) ∧ w = w' := by
  have hf := tmod_fix a n hn
  have hl : -n < a.tmod n := Int.lt_tmod_of_pos a (by omega)
  have hh : a.tmod n < n := Int.tmod_lt_of_pos a (by omega)
  have HF := Lib.hid hf; clear hf
  go_enter Try.func33, Try.ntmps33
  go_wp2
  · have hlt : a.tmod n < 0 := by assumption
    have E : a.tmod n + n = a % n := by rw [HF.out, if_pos hlt]
    go_ret
    exact ⟨ret_int E, rfl⟩
  · have hlt : ¬ a.tmod n < 0 := by omega
    have E : a.tmod n = a % n := by rw [HF.out, if_neg hlt]
    go_ret
    exact ⟨ret_int E, rfl⟩

theorem w14_nat (a : Int) (n : Nat) (w : World) (hn : 1 ≤ n) (hn2 : n ≤ 4611686018427387904) (h : (Lit.int .i64 a).wf = true) :
    Calls Try.prog 33 #[.int .i64 a, .int .i64 (n : Int)] w fun e w' => e = .returned (.int .i64 (((a % n).toNat : Nat) : Int)) ∧ w = w' := by
  have hb := wf_i64 h
  refine (w14_any a n w (by omega) (by omega) hb.1 hb.2).mono ?_
  rintro e w' ⟨rfl, rfl⟩
  have := Int.emod_nonneg a (show (n : Int) ≠ 0 by omega)
  exact ⟨ret_int (by omega), rfl⟩

theorem w14_int (a : Int) (n : Int) (m : Nat) (w : World) (hn : n = (m : Int)) (h1 : 1 ≤ m) (h2 : m ≤ 4611686018427387904) (h : (Lit.int .i64 a).wf = true) :
    Calls Try.prog 33 #[.int .i64 a, .int .i64 n] w fun e w' => e = .returned (.int .i64 (((a % m).toNat : Nat) : Int)) ∧ w = w' := by
  rw [hn]; exact w14_nat a m w h1 h2 h

end Go.Proofs.Ytfdmbpfpdijpdaa

namespace Go.Proofs.Ytfdmbpfpdijpdaa
open Go.RowKit
set_option linter.unusedVariables false

set_option maxHeartbeats 400000 in
theorem w16_any (a n : Int) (w : World) (hn : 1 ≤ n) (hn2 : n ≤ 4611686018427387904) (ha : -9223372036854775808 ≤ a) (ha2 : a ≤ 9223372036854775807) :
    Calls Try.prog 22 #[.int .i64 a, .int .i64 n] w fun e w' => e = .returned (.int .i64 (a % n)) ∧ w = w' := by
  have hf := tmod_fix a n hn
  have hl : -n < a.tmod n := Int.lt_tmod_of_pos a (by omega)
  have hh : a.tmod n < n := Int.tmod_lt_of_pos a (by omega)
  have HF := Lib.hid hf; clear hf
  go_enter Try.func22, Try.ntmps22
  go_wp2
  · have hlt : a.tmod n < 0 := by assumption
    have E : a.tmod n + n = a % n := by rw [HF.out, if_pos hlt]
    go_ret
    exact ⟨ret_int E, rfl⟩
  · have hlt : ¬ a.tmod n < 0 := by omega
    have E : a.tmod n = a % n := by rw [HF.out, if_neg hlt]
    go_ret
    exact ⟨ret_int E, rfl⟩

theorem w16_nat (a : Int) (n : Nat) (w : World) (hn : 1 ≤ n) (hn2 : n ≤ 4611686018427387904) (h : (Lit.int .i64 a).wf = true) :
    Calls Try.prog 22 #[.int .i64 a, .int .i64 (n : Int)] w fun e w' => e = .returned (.int .i64 (((a % n).toNat : Nat) : Int)) ∧ w = w' := by
  have hb := wf_i64 h
  refine (w16_any a n w (by omega) (by omega) hb.1 hb.2).mono ?_
  rintro e w' ⟨rfl, rfl⟩
  have := Int.emod_nonneg a (show (n : Int) ≠ 0 by omega)
  exact ⟨ret_int (by omega), rfl⟩

theorem w16_int (a : Int) (n : Int) (m : Nat) (w : World) (hn : n = (m : Int)) (h1 : 1 ≤ m) (h2 : m ≤ 4611686018427387904) (h : (Lit.int .i64 a).wf = true) :
    Calls Try.prog 22 #[.int .i64 a, .int .i64 n] w fun e w' => e = .returned (.int .i64 (((a % m).toNat : Nat) : Int)) ∧ w = w' := by
  rw [hn]; exact w16_nat a m w h1 h2 h

end Go.Proofs.Ytfdmbpfpdijpdaa

namespace Go.Proofs.Ytfdmbpfpdijpdaa
open Go.RowKit
set_option linter.unusedVariables false

set_option maxHeartbeats 400000 in
theorem w8_any (a n : Int) (w : World) (hn : 1 ≤ n) (hn2 : n ≤ 4611686018427387904) (ha : -9223372036854775808 ≤ a) (ha2 : a ≤ 9223372036854775807) :
    Calls Try.prog 96 #[.int .i64 a, .int .i64 n] w fun e w' => e = .returned (.int .i64 (a % n)) ∧ w = w' := by
  have hf := tmod_fix a n hn
  have hl : -n < a.tmod n := Int.lt_tmod_of_pos a (by omega)
  have hh : a.tmod n < n := Int.tmod_lt_of_pos a (by omega)
  have HF := Lib.hid hf; clear hf
  go_enter Try.func96, Try.ntmps96
  go_wp2
  · have hlt : a.tmod n < 0 := by assumption
    have E : a.tmod n + n = a % n := by rw [HF.out, if_pos hlt]
    go_ret
    exact ⟨ret_int E, rfl⟩
  · have hlt : ¬ a.tmod n < 0 := by omega
    have E : a.tmod n = a % n := by rw [HF.out, if_neg hlt]
    go_ret
    exact ⟨ret_int E, rfl⟩

theorem w8_nat (a : Int) (n : Nat) (w : World) (hn : 1 ≤ n) (hn2 : n ≤ 4611686018427387904) (h : (Lit.int .i64 a).wf = true) :
    Calls Try.prog 96 #[.int .i64 a, .int .i64 (n : Int)] w fun e w' => e = .returned (.int .i64 (((a % n).toNat : Nat) : Int)) ∧ w = w' := by
  have hb := wf_i64 h
  refine (w8_any a n w (by omega) (by omega) hb.1 hb.2).mono ?_
  rintro e w' ⟨rfl, rfl⟩
  have := Int.emod_nonneg a (show (n : Int) ≠ 0 by omega)
  exact ⟨ret_int (by omega), rfl⟩

theorem w8_int (a : Int) (n : Int) (m : Nat) (w : World) (hn : n = (m : Int)) (h1 : 1 ≤ m) (h2 : m ≤ 4611686018427387904) (h : (Lit.int .i64 a).wf = true) :
    Calls Try.prog 96 #[.int .i64 a, .int .i64 n] w fun e w' => e = .returned (.int .i64 (((a % m).toNat : Nat) : Int)) ∧ w = w' := by
  rw [hn]; exact w8_nat a m w h1 h2 h

end Go.Proofs.Ytfdmbpfpdijpdaa

namespace Go.Proofs.Ytfdmbpfpdijpdaa
open Go.RowKit
set_option linter.unusedVariables false
set_option linter.unusedSimpArgs false

/-- A leaf's value. -/
structure V where
  n : Int
  s : ByteArray
deriving DecidableEq, Inhabited

def V.cs (v : V) : List Value := [.int .i64 v.n, .string v.s]

theorem V.cs_len (v : V) : (V.cs v).length = 2 := rfl

abbrev SeenV := SeenK V.cs 2

/-- The empty text. -/
abbrev e0 : ByteArray := { data := #[] }

end Go.Proofs.Ytfdmbpfpdijpdaa

namespace Go.Proofs.Ytfdmbpfpdijpdaa
open Go.RowKit
set_option linter.unusedVariables false
set_option linter.unusedSimpArgs false

/-- A value, as an argument. -/
abbrev vvV (v : V) : Value := .agg #[.int .i64 v.n, .string v.s]

/-- A value's own block. -/
abbrev vo (v : V) : Obj := .cells #[.int .i64 v.n, .string v.s] 44

theorem SeenK.sliced {α : Type} {enc : α → List Value} {k : Nat} {w : World} {ao : Option Addr} {len cap : Nat} {l : List α} (h : SeenK enc k w (.slice ao len cap) l) (lo hi : Nat) (h1 : lo ≤ hi) (h2 : hi ≤ len) :
    SeenK enc k w (Go.sliced ao lo hi cap k) ((l.take hi).drop lo) := by
  obtain ⟨ao', cap', he, hc, hm, hx⟩ := h
  injection he with e1 e2 e3
  subst e1 e2 e3
  have hlen : ((l.take hi).drop lo).length = hi - lo := by simp; omega
  unfold Go.sliced
  rw [← hlen]
  refine ⟨_, _, rfl, by rw [hlen]; omega, by omega, fun hp => ?_⟩
  rw [hlen] at hp
  obtain ⟨g, off, rfl, hcell⟩ := hx (by omega)
  refine ⟨g, off + lo * k, ?_, fun j x i u hj hu => ?_⟩
  · rw [if_neg (by omega)]
    simp only [Option.map_some, addr_add]
  · rw [List.getElem?_drop, List.getElem?_take] at hj
    split at hj
    · have := hcell (lo + j) x i u hj hu
      rw [Nat.add_mul, ← Nat.add_assoc] at this
      exact this
    · cases hj

theorem elem_values : Try.prog.elem 40 = 44 := by kernel_rfl

theorem info_value : ∃ i, Try.prog.info? 44 = some i ∧ i.zero = some (.agg #[.int .i64 0, .string ByteArray.empty]) ∧ i.size = 2 ∧ i.bytes = 24 :=
  info_parts (show (Try.prog.info? 44).map (fun i => (i.zero, i.size, i.bytes)) = some (some (.agg #[.int .i64 0, .string ByteArray.empty]), 2, 24) by kernel_rfl)

/-- l[lo:], as a run equation, of values. -/
theorem run_back_v {w : World} {ao : Option Addr} {len cap : Nat} {l : List V} (h : SeenV w (.slice ao len cap) l) (hl : l.length = len) (hc : len ≤ cap) (lo : Nat) (h2 : lo ≤ len) :
    ∃ ao' cap', SeenV w (.slice ao' (len - lo) cap') (l.drop lo) ∧ ∀ wx, (Instr.slice 40 (.slice ao len cap) (some (.int .i64 (lo : Int))) none none).run Try.prog wx = .ok (.slice ao' (len - lo) cap') wx := by
  have hs := h.sliced lo len h2 (Nat.le_refl _)
  rw [show l.take len = l by rw [← hl, List.take_length]] at hs
  refine ⟨_, _, hs, fun wx => ?_⟩
  obtain ⟨i0, hi0, _, hz1, _⟩ := info_value
  rw [run_slice_l wx 40 ao len cap (by rw [elem_values]; exact Try.underlying40) .i64 lo (by omega) (by omega), elem_values]
  simp [sizeOf, typeInfo, hi0, hz1, Go.sliced]

/-- l[:hi], as a run equation, of values. -/
theorem run_front_v {w : World} {ao : Option Addr} {len cap : Nat} {l : List V} (h : SeenV w (.slice ao len cap) l) (hc : len ≤ cap) (hi : Nat) (h2 : hi ≤ len) :
    ∃ ao' cap', SeenV w (.slice ao' hi cap') (l.take hi) ∧ ∀ wx, (Instr.slice 40 (.slice ao len cap) none (some (.int .i64 (hi : Int))) none).run Try.prog wx = .ok (.slice ao' hi cap') wx := by
  have hs := h.sliced 0 hi (Nat.zero_le _) h2
  rw [List.drop_zero] at hs
  refine ⟨_, _, hs, fun wx => ?_⟩
  obtain ⟨i0, hi0, _, hz1, _⟩ := info_value
  rw [run_slice_h wx 40 ao len cap (by rw [elem_values]; exact Try.underlying40) .i64 hi (by omega) (by omega), elem_values]
  simp [sizeOf, typeInfo, hi0, hz1]
  rfl

/-- A row of values, the first of them. -/
theorem SeenV.get {w : World} {ao : Option Addr} {n cap : Nat} {l : List V} (h : SeenV w (.slice ao n cap) l) (hn : 0 < n) : ∃ g off, ao = some ⟨g, off, none⟩ ∧ ∀ j v, l[j]? = some v → w.cell? ⟨g, off + j * 2, none⟩ = some (.int .i64 v.n) ∧ w.cell? ⟨g, off + j * 2 + 1, none⟩ = some (.string v.s) := by
  obtain ⟨g, off, rfl, hc⟩ := h.at hn
  exact ⟨g, off, rfl, fun j v hv => ⟨by simpa using hc j v 0 _ hv rfl, hc j v 1 _ hv rfl⟩⟩

theorem ret_value {fn : Func} (hres : fn.results = #[.cell 4 44]) {post : Ending → World → Prop} {a : Act} {W : World} {gr : Nat} {x y : Value} (h4 : a.tmps.getD 4 undef = .pointer (some ⟨gr, 0, none⟩)) (hd : a.defers = []) (hh : W.heap[gr]? = some (.cells #[x, y] 44 (0, 0))) (hp : post (.returned (.agg #[x, y])) W) : bodyPost Try.prog fn post .ret a W :=
  bodyPost_ret (results_cell_row hres a.tmps W gr _ _ _ _ h4 hh Try.underlying44 rfl (by kernel_rfl)) hd hp

theorem new2 (w : World) (o p : Obj) : ((w.alloc o).alloc p).heap[w.heap.size + 1]? = some p := by simpa using heap_alloc2_new w o p

theorem V.one (x : V) : ∀ u ∈ V.cs x, u.oneCell' = true := by
  intro u hu
  simp [V.cs] at hu
  rcases hu with rfl | rfl <;> rfl

end Go.Proofs.Ytfdmbpfpdijpdaa

namespace Go.Proofs.Ytfdmbpfpdijpdaa
open Go.RowKit
set_option linter.unusedVariables false
set_option linter.unusedSimpArgs false

theorem least_of (p : Nat → Prop) : ∀ n, p n → ∃ m, p m ∧ m ≤ n ∧ ∀ k, p k → m ≤ k := by
  intro n
  induction n using Nat.strongRecOn with
  | _ n ih =>
    intro h
    by_cases hx : ∃ k, k < n ∧ p k
    · obtain ⟨k, h1, h2⟩ := hx
      obtain ⟨m, q1, q2, q3⟩ := ih k h1 h2
      exact ⟨m, q1, by omega, q3⟩
    · exact ⟨n, h, Nat.le_refl _, fun k hk => Nat.le_of_not_lt fun hlt => hx ⟨k, hlt, hk⟩⟩

open Classical in
/-- The least number of which p holds. -/
noncomputable def leastN (p : Nat → Prop) : Nat := if h : ∃ n, p n then Classical.choose (least_of p (Classical.choose h) (Classical.choose_spec h)) else 0

theorem leastN_spec {p : Nat → Prop} (h : ∃ n, p n) : p (leastN p) ∧ ∀ k, p k → leastN p ≤ k := by
  unfold leastN
  rw [dif_pos h]
  have := Classical.choose_spec (least_of p (Classical.choose h) (Classical.choose_spec h))
  exact ⟨this.1, this.2.2⟩

/-- wp_scope_pre, the measure told by the invariant. -/
theorem wp_scope_pre_n {P : Program} {a : Act} {w : World} {Q : Exit → Act → World → Prop} {pre rest : Code} (l : Nat) (J : Nat → Act → World → Prop) (hf : findLabel (.seq pre (.seq (.label l) rest)) l = some (.seq .skip rest)) (h0 : pre.wp P (Exit.then (fun a w => ∃ n, J n a w) (fun _ _ _ => False)) a w)
    (pass : ∀ n a w, J n a w → rest.wp P (Exit.jump l (fun a' w' => ∃ n', n' < n ∧ J n' a' w') Q) a w) : (Code.scope (.seq pre (.seq (.label l) rest))).wp P Q a w := by
  refine wp_scope_pre l (fun a w => ∃ n, J n a w) (fun a w => leastN fun n => J n a w) hf h0 fun a w hj => ?_
  refine wp_mono (pass _ a w (leastN_spec hj).1) fun e a' w' h => ?_
  cases e with
  | goto l' =>
    obtain ⟨rfl, n', hlt, hj'⟩ := h
    exact ⟨rfl, ⟨n', hj'⟩, Nat.lt_of_le_of_lt ((leastN_spec (p := fun n => J n a' w') ⟨n', hj'⟩).2 n' hj') hlt⟩
  | _ => exact h

end Go.Proofs.Ytfdmbpfpdijpdaa

namespace Go.Proofs.Ytfdmbpfpdijpdaa
open Go.RowKit
set_option linter.unusedVariables false
set_option linter.unusedSimpArgs false

theorem extract_str (s : ByteArray) (a b : Nat) (hb : b ≤ s.size) : s.extract a b = str (((bl s).take b).drop a) := by
  cases s with
  | mk d =>
    have e : ∀ l : List UInt8, l.map (fun x => UInt8.ofNat x.toNat) = l := fun l => by
      induction l with
      | nil => rfl
      | cons x t ih => simp
    simp only [bl, str, ← List.map_take, ← List.map_drop, List.map_map]
    have e2 : (UInt8.ofNat ∘ fun x : UInt8 => x.toNat) = fun x => UInt8.ofNat x.toNat := rfl
    rw [e2, e]
    apply ByteArray.ext
    apply Array.ext'
    simp [ByteArray.data_extract, Array.toList_extract, List.extract]
    rw [List.drop_take]

end Go.Proofs.Ytfdmbpfpdijpdaa
