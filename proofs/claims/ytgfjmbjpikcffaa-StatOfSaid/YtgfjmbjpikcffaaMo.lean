/- More plain words, of no stage: the front and the back of a row by their own addresses, one element more, bits, a literal of four cells, conversions with a floating world. (It fits every seat that has uint8, string, []uint8.) -/
import Derived.Test.YtgfjmbjpikcffaaNv
import Derived.Laws.Bits64b
namespace Go.Proofs.Ytgfjmbjpikcffaa
open Go.RowKit
set_option linter.unusedVariables false

theorem Seen.at0 {w : World} {a : Option Addr} {n cap : Nat} {k : IntKind} {l : List Nat} (h : Seen w (.slice a n cap) (nv k l)) (hl : l.length = n) (hn : 0 < n) : ∃ g off, a = some ⟨g, off, none⟩ ∧ ∀ j, j < n → w.cell? ⟨g, off + j, none⟩ = some (.int k ((l.getD j 0 : Nat) : Int)) := by
  obtain ⟨⟨g, off, sp⟩, rfl, h4⟩ := h.at hl hn
  have hc := h4 0 (by omega)
  have hsp : sp = none := by simpa [Addr.add] using World.cell?_spot hc
  subst hsp
  exact ⟨g, off, rfl, fun j hj => by have := h4 j (by omega); rwa [addr_add] at this⟩

/-- The front of a slice that reads as a list. -/
theorem Seen.front {w : World} {ao : Option Addr} {n cap : Nat} {k : IntKind} {l : List Nat} (h : Seen w (.slice ao n cap) (nv k l)) (hl : l.length = n) (m : Nat) (hm : m ≤ n) :
    Seen w (.slice ao m cap) (nv k (l.take m)) := by
  rcases h with ⟨he, hx⟩ | ⟨x, cap', he, h1, h2, h3⟩
  · injection he with e1 e2 e3
    subst e1 e2 e3
    obtain rfl : m = 0 := by omega
    exact .inl ⟨rfl, by simp [nv]⟩
  · injection he with e1 e2 e3
    subst e1 e3
    have e : (nv k (l.take m)).length = m := by simp; omega
    refine .inr ⟨x, cap, by rw [e], by rw [e]; rw [nv_length] at h1; omega, h2, fun j u hu => h3 j u ?_⟩
    have hj : j < m := by rw [← e]; exact (List.getElem?_eq_some_iff.1 hu).1
    rw [nv_get _ _ _ (by simp; omega)] at hu
    rw [← hu, nv_get _ _ _ (by omega)]
    simp [List.getD, hj]

theorem and127 (s : Nat) (h : s < 256) : bits BinOp.and IntKind.u8 (s : Int) 127 = ((s % 128 : Nat) : Int) := by
  have e := bits_mask .u8 8 (by decide) (fun n h0 h1 => by
    have e : IntKind.u8.wrap n = n % 256 := by simp [IntKind.wrap, IntKind.bits, IntKind.signed]
    rw [e]; exact Int.emod_eq_of_lt h0 (by simpa using h1)) 7 (by omega) (s : Int) (Int.natCast_nonneg _) (by omega)
  rw [show ((2 : Int) ^ 7 - 1) = 127 by decide, show ((2 : Int) ^ 7) = 128 by decide] at e
  rw [e]; omega

theorem own_nv {w : World} {B T n : Nat} {x : Value} {k : IntKind} {a b : List Nat} {c : Nat} (h : w.ownsRow B T 1 x n (nv k a ++ [.int k (c : Int)])) (hb : b = a ++ [c]) : w.ownsRow B T 1 x n (nv k b) := by
  have e : nv k b = nv k a ++ [.int k (c : Int)] := by rw [hb]; simp [nv]
  rw [e]; exact h

theorem not64 (n : Nat) (h : n < 18446744073709551616) : bits BinOp.xor IntKind.u64 18446744073709551615 (n : Int) = ((18446744073709551615 - n : Nat) : Int) := by
  have := bits_xor_u64_nat 18446744073709551615 n (by decide) h
  rw [show ((18446744073709551615 : Nat) : Int) = 18446744073709551615 from rfl] at this
  rw [this]
  have e : (BitVec.allOnes 64 ^^^ BitVec.ofNat 64 n).toNat = 18446744073709551615 ^^^ n := by
    rw [BitVec.toNat_xor, BitVec.toNat_allOnes, BitVec.toNat_ofNat, Nat.mod_eq_of_lt (by omega)]
  rw [← e, BitVec.allOnes_xor, BitVec.toNat_not, BitVec.toNat_ofNat, Nat.mod_eq_of_lt (by omega)]

theorem noti64 (n : Nat) (h : n < 9223372036854775808) : bits BinOp.xor IntKind.i64 (-1) (n : Int) = -(n : Int) - 1 := by
  have h1 : (BitVec.ofInt 64 (-1)) = BitVec.allOnes 64 := by decide
  have h2 : BitVec.ofInt 64 (n : Int) = BitVec.ofNat 64 n := BitVec.ofInt_natCast _ _
  show IntKind.i64.wrap ((BitVec.ofInt 64 (-1) ^^^ BitVec.ofInt 64 (n : Int)).toNat : Int) = _
  rw [h1, h2, BitVec.allOnes_xor, BitVec.toNat_not, BitVec.toNat_ofNat, Nat.mod_eq_of_lt (by omega)]
  simp only [IntKind.wrap, IntKind.bits, IntKind.signed]
  simp
  omega

theorem xor0_64 (n : Nat) (h : n < 18446744073709551616) : bits BinOp.xor IntKind.u64 (n : Int) 0 = (n : Int) := by
  have := bits_xor_u64_nat n 0 h (by decide)
  simpa using this

theorem xor0_i64 (n : Nat) (h : n < 9223372036854775808) : bits BinOp.xor IntKind.i64 (n : Int) 0 = (n : Int) := by
  have h2 : BitVec.ofInt 64 (n : Int) = BitVec.ofNat 64 n := BitVec.ofInt_natCast _ _
  show IntKind.i64.wrap ((BitVec.ofInt 64 (n : Int) ^^^ BitVec.ofInt 64 0).toNat : Int) = _
  rw [h2, show BitVec.ofInt 64 0 = 0#64 by decide, BitVec.xor_zero, BitVec.toNat_ofNat, Nat.mod_eq_of_lt (by omega)]
  simp only [IntKind.wrap, IntKind.bits, IntKind.signed]
  simp
  omega

theorem xor_comm64 (a b : Int) : bits BinOp.xor IntKind.u64 a b = bits BinOp.xor IntKind.u64 b a := by
  show IntKind.u64.wrap ((BitVec.ofInt 64 a ^^^ BitVec.ofInt 64 b).toNat : Int) = IntKind.u64.wrap ((BitVec.ofInt 64 b ^^^ BitVec.ofInt 64 a).toNat : Int)
  rw [BitVec.xor_comm]

theorem xor_commi64 (a b : Int) : bits BinOp.xor IntKind.i64 a b = bits BinOp.xor IntKind.i64 b a := by
  show IntKind.i64.wrap ((BitVec.ofInt 64 a ^^^ BitVec.ofInt 64 b).toNat : Int) = IntKind.i64.wrap ((BitVec.ofInt 64 b ^^^ BitVec.ofInt 64 a).toNat : Int)
  rw [BitVec.xor_comm]

theorem and1_64 (n : Nat) (h : n < 18446744073709551616) : bits BinOp.and IntKind.u64 (n : Int) 1 = ((n % 2 : Nat) : Int) := by
  have := bits_and_u64_nat n 1 h (by decide)
  rw [Nat.and_one_is_mod] at this
  exact this

theorem wf64_of (x : Int) (h : -9223372036854775808 ≤ x ∧ x ≤ 9223372036854775807) : (Lit.int .i64 x).wf = true := by
  simp [Lit.wf, IntKind.min, IntKind.max, IntKind.signed, IntKind.bits]; omega

theorem own_some {w : World} {B T n cap : Nat} {ao : Option Addr} {xs : List Value} (h : w.ownsRow B T 1 (.slice ao n cap) n xs) (hn : 0 < n) : ∃ g, ao = some ⟨g, 0, none⟩ := by
  obtain ⟨hl, h1⟩ := h
  rcases h1 with ⟨e, rfl⟩ | ⟨g', cap', cur, e, _⟩
  · omega
  · injection e with e1 e2 e3
    exact ⟨g', e1⟩

theorem getD_left (X : List Nat) (c i : Nat) (h : i < X.length) : (X ++ [c]).getD i 0 = X.getD i 0 := by simp [List.getD, List.getElem?_append_left h]

theorem getD_last (X : List Nat) (c : Nat) : (X ++ [c]).getD X.length 0 = c := by simp [List.getD]

/-- The length of a slice value. -/
def slen : Value → Nat | .slice _ n _ => n | _ => 0

theorem getD_lt {l : List Nat} {m : Nat} (h : ∀ x ∈ l, x < m) (hm : 0 < m) (j : Nat) : l.getD j 0 < m := by
  by_cases hj : j < l.length
  · exact h _ (getD_mem hj)
  · rw [show l.getD j 0 = 0 by simp [List.getD, show l.length ≤ j by omega]]; exact hm

theorem set_lt {l : List Nat} {m c : Nat} (h : ∀ x ∈ l, x < m) (hc : c < m) (j : Nat) : ∀ x ∈ l.set j c, x < m := by
  intro x hx
  rcases List.mem_or_eq_of_mem_set hx with h1 | h1
  · exact h x h1
  · omega

theorem cells4 {w : World} {r : Nat} {a b c d : Value} {T : TypeId} (h : w.heap[r]? = some (.cells #[a, b, c, d] T (0, 0))) : w.cell? ⟨r, 0, none⟩ = some a ∧ w.cell? ⟨r, 1, none⟩ = some b ∧ w.cell? ⟨r, 2, none⟩ = some c ∧ w.cell? ⟨r, 3, none⟩ = some d := by
  simp [World.cell?, h]

theorem Reads.ptr {w : World} {ao : Option Addr} {n cap : Nat} {xs : List Value} (h : Reads w (.slice ao n cap) xs) (hn : 0 < n) : ∃ g off, ao = some ⟨g, off, none⟩ := by
  rcases h with ⟨e, _⟩ | ⟨g, off, cap', e, _⟩
  · injection e with e1 e2 e3; omega
  · injection e with e1 e2 e3
    exact ⟨g, off, e1⟩

/-- The back part of a row, by its own address. -/
theorem Reads.back {w : World} {g off n cap : Nat} {k : IntKind} {l r : List Nat} (h : Reads w (.slice (some ⟨g, off, none⟩) n cap) (nv k (l ++ r))) :
    (r ≠ [] → Reads w (.slice (some ⟨g, off + l.length, none⟩) r.length (cap - l.length)) (nv k r) ∧ l.length < cap) ∧ cap ≤ maxLen := by
  rcases h with ⟨e, _⟩ | ⟨g', off', cap', e, h1, h2, h3⟩
  · injection e with e1 e2 e3; cases e1
  · injection e with e1 e2 e3
    injection e1 with e1
    injection e1 with e11 e12 e13
    subst e11 e12 e3
    rw [nv_length, List.length_append] at h1
    refine ⟨fun hr => ?_, h2⟩
    have hr0 : 0 < r.length := List.length_pos_iff.2 hr
    refine ⟨.inr ⟨g, off + l.length, cap - l.length, by rw [nv_length], by rw [nv_length]; omega, by omega, fun j u hu => ?_⟩, by omega⟩
    have hj : j < r.length := by
      have := (List.getElem?_eq_some_iff.1 hu).1
      simpa using this
    have := h3 (l.length + j) u (by
      rw [← hu]
      simp [nv, List.getElem?_append_right])
    rwa [← Nat.add_assoc] at this

theorem cvp {l : List Nat} {n : Nat} {s : ByteArray} {w : World} {ao : Option Addr} {cap : Nat} (h : Seen w (.slice ao n cap) (nv .u8 l)) (hn : n = l.length) (hs : s = str l) (hb : ∀ x ∈ l, x < 2 ^ 8) :
    ∀ w', Hid (Chg [] w w') → (convert 55 9 (.slice ao n cap)).run Try.prog w' = .ok (.string s) w' := fun w' hc => by
  rw [hs]
  exact conv_seen Try.underlying55 Try.underlying5 Try.underlying9 (h.keep hc.out) hn.symm hb

end Go.Proofs.Ytgfjmbjpikcffaa
