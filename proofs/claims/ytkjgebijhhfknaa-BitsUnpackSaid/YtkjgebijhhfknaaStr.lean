/- Bytes as strings: conversions of a slice that reads as a list. -/
import Derived.Test.YtkjgebijhhfknaaLw
import Derived.Deep.RegionLaw
import Derived.Laws.IdiomStrings
namespace Go.Proofs.Ytkjgebijhhfknaa
open Go.RowKit
set_option linter.unusedVariables false

/-- The string of these bytes. -/
def str (l : List Nat) : ByteArray := ⟨(l.map UInt8.ofNat).toArray⟩

theorem conv_seen {P : Program} {w : World} {src dst e : TypeId} {ao : Option Addr} {n cap : Nat} {l : List Nat} (hs : P.underlying src = some (.slice e)) (he : P.underlying e = some (.int .u8)) (hd : P.underlying dst = some .string)
    (h : Seen w (.slice ao n cap) (nv .u8 l)) (hl : l.length = n) (hb : ∀ x ∈ l, x < 2 ^ 8) : (convert src dst (.slice ao n cap)).run P w = .ok (.string (str l)) w := by
  rcases h with ⟨h, h0⟩ | ⟨x, cap', h, h1, h2, h3⟩
  · injection h with e1 e2 e3
    subst e1 e2 e3
    have : l = [] := List.eq_nil_of_length_eq_zero hl
    subst this
    rw [run_convert_bytes_string w src dst e none 0 0 hs he hd]
    simp [Conv.bytesToString, str]
    rfl
  · injection h with e1 e2 e3
    subst e1 e3
    have hlen : (l.map UInt8.ofNat).length = n := by simpa using hl
    rw [← hlen]
    have := run_convert_bytes_back (P := P) w src dst e x cap (l.map UInt8.ofNat) hs he hd (fun j hj => by
      have hj' : j < l.length := by simpa using hj
      rw [h3 j _ (nv_get .u8 l j hj')]
      have hx : l[j] < 2 ^ 8 := hb _ (List.getElem_mem hj')
      have e1 : l.getD j 0 = l[j] := by simp [List.getD, hj']
      rw [e1]
      simp
      omega)
    exact this


theorem IsRow.at {k : IntKind} {w : World} {a : Option Addr} {len cap : Nat} {zs : List Int} (h : IsRow k w a len cap zs) {i : Nat} (hi : i < len) :
    ∃ g off, a = some ⟨g, off, none⟩ ∧ ∀ j, j < len → w.cell? ⟨g, off + j, none⟩ = some (.int k (zs.getD j 0)) := by
  rcases h with ⟨rfl, rfl, rfl, rfl⟩ | ⟨⟨g, off, sp⟩, rfl, h1, h2, h3, h4, h5⟩
  · omega
  · have hc := h4 0 (by omega)
    have hsp : sp = none := by simpa [Addr.add] using World.cell?_spot hc
    subst hsp
    exact ⟨g, off, rfl, fun j hj => by have := h4 j (by omega); rwa [addr_add] at this⟩

theorem wf_getD {k : IntKind} {zs : List Int} (h : ∀ n ∈ zs, (Lit.int k n).wf = true) {i : Nat} (hi : i < zs.length) : (Lit.int k (zs.getD i 0)).wf = true := by
  simp only [List.getD, List.getElem?_eq_getElem hi]
  exact h _ (List.getElem_mem hi)

theorem IsRow.len {k : IntKind} {w : World} {a : Option Addr} {len cap : Nat} {zs : List Int} (h : IsRow k w a len cap zs) : len ≤ zs.length ∧ len ≤ maxLen := by
  rcases h with ⟨rfl, rfl, rfl, rfl⟩ | ⟨x, rfl, h1, h2, h3, h4, h5⟩
  · simp
  · omega

theorem getD_mem {l : List Nat} {j : Nat} (h : j < l.length) : l.getD j 0 ∈ l := by
  simp only [List.getD, List.getElem?_eq_getElem h]; exact List.getElem_mem h

/-- The front of a row that is owned. -/
theorem own_take {w : World} {B T g n cap : Nat} {k : IntKind} {l : List Nat} (h : w.ownsRow B T 1 (.slice (some ⟨g, 0, none⟩) n cap) n (nv k l)) (hl : l.length = n) (m : Nat) (hm : m ≤ n) :
    Seen w (.slice (some ⟨g, 0, none⟩) m cap) (nv k (l.take m)) := by
  have e : (nv k (l.take m)).length = m := by simp; omega
  obtain ⟨ao, cap', he, h1, h2⟩ := (reads_of_own h).shape
  injection he with e1 e2 e3
  subst e1 e3
  refine .inr ⟨_, cap, by rw [e], by rw [e]; rw [nv_length] at h1; omega, h2, fun j u hu => ?_⟩
  have hj : j < m := by rw [← e]; exact (List.getElem?_eq_some_iff.1 hu).1
  rw [addr_add, Nat.zero_add, own_cell h hl j (by omega)]
  rw [nv_get _ _ _ (by simp; omega)] at hu
  rw [← hu]
  simp [List.getD, hj]

theorem tdiv_wf (a : Int) (n : Int) (hn : 1 ≤ n) (h : (Lit.int .i64 a).wf = true) : (Lit.int .i64 (a.tdiv n)).wf = true ∧ -9223372036854775808 ≤ a.tdiv n ∧ a.tdiv n ≤ 9223372036854775807 := by
  have hb := wf_i64 h
  have key : -9223372036854775808 ≤ a.tdiv n ∧ a.tdiv n ≤ 9223372036854775807 := by
    by_cases h0 : 0 ≤ a
    · rw [Int.tdiv_eq_ediv_of_nonneg h0]
      have h1 := Int.ediv_nonneg h0 (show 0 ≤ n by omega)
      have h2 := Int.ediv_le_self n h0
      omega
    · have h3 : 0 ≤ -a := by omega
      have e : a.tdiv n = -((-a).tdiv n) := by rw [Int.neg_tdiv]; omega
      rw [e, Int.tdiv_eq_ediv_of_nonneg h3]
      have h1 := Int.ediv_nonneg h3 (show 0 ≤ n by omega)
      have h2 := Int.ediv_le_self n h3
      omega
  refine ⟨?_, key⟩
  simp [Lit.wf, IntKind.min, IntKind.max, IntKind.signed, IntKind.bits]
  omega

end Go.Proofs.Ytkjgebijhhfknaa
