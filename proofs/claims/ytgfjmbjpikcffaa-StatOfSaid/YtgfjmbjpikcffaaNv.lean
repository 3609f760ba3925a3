/- Rows of natural numbers in memory: what reads as a list, what is owned; arguments that came in; conversions to strings; small arithmetic. (Of no stage: it fits every seat that has uint8, int, string.) -/
import Derived.Test.YtgfjmbjpikcffaaRows
import Derived.Test.YtgfjmbjpikcffaaMem
import Derived.Deep.QuietTactic
import Derived.BigQuiet
import Derived.BigRegion
import Derived.Deep.RegionLaw
import Derived.Laws.IdiomStrings
import Derived.Outline
import Derived.StillTailTactics
namespace Go.Proofs.Ytgfjmbjpikcffaa
open Go.RowKit
set_option linter.unusedVariables false

/-- A row of numbers as values of a kind. -/
def nv (k : IntKind) (l : List Nat) : List Value := l.map fun (n : Nat) => .int k (n : Int)
@[simp] theorem nv_length (k : IntKind) (l : List Nat) : (nv k l).length = l.length := by simp [nv]
theorem nv_get (k : IntKind) (l : List Nat) (j : Nat) (h : j < l.length) : (nv k l)[j]? = some (.int k ((l.getD j 0 : Nat) : Int)) := by
  simp [nv, h, List.getD]
theorem nv_one (k : IntKind) (l : List Nat) : ∀ u ∈ nv k l, u.oneCell' = true := by
  intro u hu
  simp [nv] at hu
  obtain ⟨y, _, rfl⟩ := hu
  rfl
theorem nv_set (k : IntKind) (l : List Nat) (j v : Nat) : (nv k l).set j (.int k (v : Int)) = nv k (l.set j v) := by simp [nv, List.map_set]

theorem own_cell {w : World} {B T g n cap : Nat} {k : IntKind} {l : List Nat} (h : w.ownsRow B T 1 (.slice (some ⟨g, 0, none⟩) n cap) n (nv k l)) (hl : l.length = n) (j : Nat) (hj : j < n) :
    w.cell? ⟨g, j, none⟩ = some (.int k ((l.getD j 0 : Nat) : Int)) := by
  rw [h.cellAt j (by simpa using hj), nv_get k l j (by omega)]

/-- What Seen says of one place. -/
theorem Seen.at {w : World} {a : Option Addr} {n cap : Nat} {k : IntKind} {l : List Nat} (h : Seen w (.slice a n cap) (nv k l)) (hl : l.length = n) (hn : 0 < n) : ∃ x, a = some x ∧ ∀ j, j < n → w.cell? (x.add j) = some (.int k ((l.getD j 0 : Nat) : Int)) := by
  rcases h with ⟨he, hx⟩ | ⟨x, cap', he, h1, h2, h3⟩
  · injection he with e1 e2 e3; omega
  · injection he with e1 e2 e3
    exact ⟨x, e1, fun j hj => h3 j _ (nv_get k l j (by omega))⟩

theorem wraps64 (n : Int) (h0 : 0 ≤ n) (h1 : n < 2 ^ 64) : IntKind.u64.wrap n = n := by
  have e : IntKind.u64.wrap n = n % 18446744073709551616 := by simp [IntKind.wrap, IntKind.bits, IntKind.signed]
  rw [e]
  exact Int.emod_eq_of_lt h0 (by simpa using h1)

theorem ret_int {k : IntKind} {a b : Int} (h : a = b) : Ending.returned (.int k a) = .returned (.int k b) := by rw [h]

theorem info_u8 : ∃ i, Try.prog.info? 5 = some i ∧ i.zero = some (.int .u8 0) ∧ i.size = 1 ∧ i.bytes = 1 :=
  info_parts (show (Try.prog.info? 5).map (fun i => (i.zero, i.size, i.bytes)) = some (some (.int .u8 0), 1, 1) by kernel_rfl)
/-- A new row was made. -/
def Made (T : TypeId) (k : IntKind) (l : List Nat) (w : World) (v : Value) (w' : World) : Prop :=
  Chg [] w w' ∧ w'.ownsRow w.heap.size T 1 v l.length (nv k l)

theorem cells_zero8 (n : Nat) : (madeCells #[Value.int .u8 0] n).toList = nv .u8 (List.replicate n 0) := by
  rw [toList_madeCells_one]; simp [nv]
theorem tmod_fix (a n : Int) (hn : 1 ≤ n) : a % n = if a.tmod n < 0 then a.tmod n + n else a.tmod n := by
  have h := Int.tmod_eq_emod (a := a) (b := n)
  have h1 := Int.emod_nonneg a (show n ≠ 0 by omega)
  have h2 := Int.emod_lt_of_pos a (show 0 < n by omega)
  have h3 : (n.natAbs : Int) = n := by omega
  rw [h]
  split <;> split <;> simp_all <;> omega

theorem wf_i64 {a : Int} (h : (Lit.int .i64 a).wf = true) : -9223372036854775808 ≤ a ∧ a ≤ 9223372036854775807 := by
  simp [Lit.wf, IntKind.min, IntKind.max, IntKind.signed, IntKind.bits] at h
  omega

theorem within_lt (a : Int) (n : Nat) (hn : 1 ≤ n) : (a % n).toNat < n := by
  have h1 := Int.emod_nonneg a (show (n : Int) ≠ 0 by omega)
  have h2 := Int.emod_lt_of_pos a (show 0 < (n : Int) by omega)
  omega

theorem wf_u64 {a : Int} (h : (Lit.int .u64 a).wf = true) : 0 ≤ a ∧ a ≤ 18446744073709551615 := by
  simp [Lit.wf, IntKind.min, IntKind.max, IntKind.signed, IntKind.bits] at h
  omega
theorem wf_u8 {a : Int} (h : (Lit.int .u8 a).wf = true) : 0 ≤ a ∧ a < 256 := by
  simp [Lit.wf, IntKind.min, IntKind.max, IntKind.signed, IntKind.bits] at h
  omega

/-- A row of numbers without a sign that came in: the natural numbers that it reads as. -/
theorem IsRow.nats {k : IntKind} {w : World} {a : Option Addr} {len cap : Nat} {z : List Int} (h : IsRow k w a len cap z) (m : Nat) (hm : ∀ n : Int, (Lit.int k n).wf = true → 0 ≤ n ∧ n < m) :
    ∃ S : List Nat, Seen w (.slice a len cap) (nv k S) ∧ len = S.length ∧ ∀ x ∈ S, x < m := by
  obtain ⟨h1, h2⟩ := h.seen
  have e : (z.take len).map (Value.int k) = nv k ((z.take len).map Int.toNat) := by
    simp only [nv, List.map_map]
    apply List.map_congr_left
    intro x hx
    have := hm x (h.wf x (List.mem_of_mem_take hx))
    simp; omega
  refine ⟨(z.take len).map Int.toNat, by rw [← e]; exact h1, by simp; simpa using h2.symm, ?_⟩
  intro x hx
  obtain ⟨y, hy, rfl⟩ := List.mem_map.1 hx
  have := hm y (h.wf y (List.mem_of_mem_take hy))
  omega

theorem IsRow.u64s {w : World} {a : Option Addr} {len cap : Nat} {z : List Int} (h : IsRow .u64 w a len cap z) : ∃ S : List Nat, Seen w (.slice a len cap) (nv .u64 S) ∧ len = S.length ∧ ∀ x ∈ S, x < 2 ^ 64 :=
  h.nats (2 ^ 64) fun n hn => by have := wf_u64 hn; omega
theorem IsRow.u8s {w : World} {a : Option Addr} {len cap : Nat} {z : List Int} (h : IsRow .u8 w a len cap z) : ∃ S : List Nat, Seen w (.slice a len cap) (nv .u8 S) ∧ len = S.length ∧ ∀ x ∈ S, x < 2 ^ 8 :=
  h.nats (2 ^ 8) fun n hn => by have := wf_u8 hn; omega

/-- The string of these bytes. -/
def str (l : List Nat) : ByteArray := ⟨(l.map UInt8.ofNat).toArray⟩

theorem conv_seen {P : Program} {w : World} {src dst e : TypeId} {ao : Option Addr} {n cap : Nat} {l : List Nat} (hs : P.underlying src = some (.slice e)) (he : P.underlying e = some (.int .u8)) (hd : P.underlying dst = some .string)
    (h : Seen w (.slice ao n cap) (nv .u8 l)) (hl : l.length = n) (hb : ∀ x ∈ l, x < 2 ^ 8) : (convert src dst (.slice ao n cap)).run P w = .ok (.string (str l)) w := by
  rcases h with ⟨h, h0⟩ | ⟨x, cap', h, h1, h2, h3⟩
  · injection h with e1 e2 e3
    subst e1 e2 e3
    have : l = [] := List.eq_nil_of_length_eq_zero hl
    subst this
    rw [run_convert_bytes_string w src dst e none 0 0 hs he hd]
    simp [Conv.bytesToString, str]
    rfl
  · injection h with e1 e2 e3
    subst e1 e3
    have hlen : (l.map UInt8.ofNat).length = n := by simpa using hl
    rw [← hlen]
    have := run_convert_bytes_back (P := P) w src dst e x cap (l.map UInt8.ofNat) hs he hd (fun j hj => by
      have hj' : j < l.length := by simpa using hj
      rw [h3 j _ (nv_get .u8 l j hj')]
      have hx : l[j] < 2 ^ 8 := hb _ (List.getElem_mem hj')
      have e1 : l.getD j 0 = l[j] := by simp [List.getD, hj']
      rw [e1]
      simp
      omega)
    exact this


theorem IsRow.at {k : IntKind} {w : World} {a : Option Addr} {len cap : Nat} {zs : List Int} (h : IsRow k w a len cap zs) {i : Nat} (hi : i < len) :
    ∃ g off, a = some ⟨g, off, none⟩ ∧ ∀ j, j < len → w.cell? ⟨g, off + j, none⟩ = some (.int k (zs.getD j 0)) := by
  rcases h with ⟨rfl, rfl, rfl, rfl⟩ | ⟨⟨g, off, sp⟩, rfl, h1, h2, h3, h4, h5⟩
  · omega
  · have hc := h4 0 (by omega)
    have hsp : sp = none := by simpa [Addr.add] using World.cell?_spot hc
    subst hsp
    exact ⟨g, off, rfl, fun j hj => by have := h4 j (by omega); rwa [addr_add] at this⟩

theorem wf_getD {k : IntKind} {zs : List Int} (h : ∀ n ∈ zs, (Lit.int k n).wf = true) {i : Nat} (hi : i < zs.length) : (Lit.int k (zs.getD i 0)).wf = true := by
  simp only [List.getD, List.getElem?_eq_getElem hi]
  exact h _ (List.getElem_mem hi)

theorem IsRow.len {k : IntKind} {w : World} {a : Option Addr} {len cap : Nat} {zs : List Int} (h : IsRow k w a len cap zs) : len ≤ zs.length ∧ len ≤ maxLen := by
  rcases h with ⟨rfl, rfl, rfl, rfl⟩ | ⟨x, rfl, h1, h2, h3, h4, h5⟩
  · simp
  · omega

theorem getD_mem {l : List Nat} {j : Nat} (h : j < l.length) : l.getD j 0 ∈ l := by
  simp only [List.getD, List.getElem?_eq_getElem h]; exact List.getElem_mem h

/-- The front of a row that is owned. -/
theorem own_take {w : World} {B T g n cap : Nat} {k : IntKind} {l : List Nat} (h : w.ownsRow B T 1 (.slice (some ⟨g, 0, none⟩) n cap) n (nv k l)) (hl : l.length = n) (m : Nat) (hm : m ≤ n) :
    Seen w (.slice (some ⟨g, 0, none⟩) m cap) (nv k (l.take m)) := by
  have e : (nv k (l.take m)).length = m := by simp; omega
  obtain ⟨ao, cap', he, h1, h2⟩ := (reads_of_own h).shape
  injection he with e1 e2 e3
  subst e1 e3
  refine .inr ⟨_, cap, by rw [e], by rw [e]; rw [nv_length] at h1; omega, h2, fun j u hu => ?_⟩
  have hj : j < m := by rw [← e]; exact (List.getElem?_eq_some_iff.1 hu).1
  rw [addr_add, Nat.zero_add, own_cell h hl j (by omega)]
  rw [nv_get _ _ _ (by simp; omega)] at hu
  rw [← hu]
  simp [List.getD, hj]

theorem tdiv_wf (a : Int) (n : Int) (hn : 1 ≤ n) (h : (Lit.int .i64 a).wf = true) : (Lit.int .i64 (a.tdiv n)).wf = true ∧ -9223372036854775808 ≤ a.tdiv n ∧ a.tdiv n ≤ 9223372036854775807 := by
  have hb := wf_i64 h
  have key : -9223372036854775808 ≤ a.tdiv n ∧ a.tdiv n ≤ 9223372036854775807 := by
    by_cases h0 : 0 ≤ a
    · rw [Int.tdiv_eq_ediv_of_nonneg h0]
      have h1 := Int.ediv_nonneg h0 (show 0 ≤ n by omega)
      have h2 := Int.ediv_le_self n h0
      omega
    · have h3 : 0 ≤ -a := by omega
      have e : a.tdiv n = -((-a).tdiv n) := by rw [Int.neg_tdiv]; omega
      rw [e, Int.tdiv_eq_ediv_of_nonneg h3]
      have h1 := Int.ediv_nonneg h3 (show 0 ≤ n by omega)
      have h2 := Int.ediv_le_self n h3
      omega
  refine ⟨?_, key⟩
  simp [Lit.wf, IntKind.min, IntKind.max, IntKind.signed, IntKind.bits]
  omega

end Go.Proofs.Ytgfjmbjpikcffaa
