/- The walk of the statement ProjectOrder. -/
import Derived.Test.YthhcnlmjcpkbnaaQa
import Derived.Test.YthhcnlmjcpkbnaaRs
import Derived.StillTailTactics
namespace Go.Proofs.Ythhcnlmjcpkbnaa
open Go.RowKit
set_option linter.unusedVariables false

theorem partTo_congr {l : List F} {κ κ2 : Nat → Bool} (h : ∀ j, j < l.length → κ j = κ2 j) : partTo l κ l.length = partTo l κ2 l.length := by
  unfold partTo
  have e1 : (List.range l.length).filter κ = (List.range l.length).filter κ2 := List.filter_congr fun j hj => h j (List.mem_range.1 hj)
  rw [e1]
  refine List.map_congr_left fun j hj => ?_
  unfold pfK cntK
  have e2 : (kidsOf l (j : Int)).filter (fun x => κ x.toNat) = (kidsOf l (j : Int)).filter (fun x => κ2 x.toNat) := List.filter_congr fun x hx => by
    obtain ⟨h0, h1⟩ := kidsOf_mem hx
    exact h x.toNat (by omega)
  rw [e2]

theorem kept_same {l : List F} {ps qs : List ByteArray} {κ κ2 : Nat → Bool} (h1 : KeptK l ps κ) (h2 : KeptK l qs κ2) (hp : ps ≠ []) (hq : qs ≠ []) (hm : ∀ p, p ∈ ps ↔ p ∈ qs) : ∀ j, j < l.length → κ j = κ2 j := by
  intro j hj
  have e : κ j = true ↔ κ2 j = true := by
    rw [h1 j hj, h2 j hj]
    constructor
    · rintro ⟨f, h3 | ⟨p, hp3, h3⟩, h4⟩
      · exact absurd h3.1 hp
      · exact ⟨f, .inr ⟨p, (hm p).1 hp3, h3⟩, h4⟩
    · rintro ⟨f, h3 | ⟨p, hp3, h3⟩, h4⟩
      · exact absurd h3.1 hq
      · exact ⟨f, .inr ⟨p, (hm p).2 hp3, h3⟩, h4⟩
  cases hx : κ j <;> cases hy : κ2 j <;> simp_all

theorem paths_ok {l : List F} (h : Good l) (h2 : 2 ≤ l.length) (ns : List Int) : ∀ p ∈ pathsL l ns, findI l p ≠ -1 := by
  intro p hp
  unfold pathsL at hp
  obtain ⟨x, -, rfl⟩ := List.mem_map.1 hp
  have h0 := Int.emod_nonneg x (show ((l.length - 1 : Nat) : Int) ≠ 0 by omega)
  have h1 := Int.emod_lt_of_pos x (show (0 : Int) < ((l.length - 1 : Nat) : Int) by omega)
  obtain ⟨k, hk⟩ : ∃ k : Nat, 1 + x % ((l.length - 1 : Nat) : Int) = (k : Int) := ⟨(1 + x % ((l.length - 1 : Nat) : Int)).toNat, by omega⟩
  rw [hk, find_path h (by omega) (by omega)]
  omega

theorem paths_small {l : List F} (hn : ∀ f ∈ l, f.n.size ≤ 1000) (hl : l.length ≤ 1000) (h2 : 2 ≤ l.length) (ns : List Int) : ∀ p ∈ pathsL l ns, p.size ≤ 9223372036854775806 := by
  intro p hp
  unfold pathsL at hp
  obtain ⟨x, -, rfl⟩ := List.mem_map.1 hp
  have h0 := Int.emod_nonneg x (show ((l.length - 1 : Nat) : Int) ≠ 0 by omega)
  have h1 := Int.emod_lt_of_pos x (show (0 : Int) < ((l.length - 1 : Nat) : Int) by omega)
  obtain ⟨k, hk⟩ : ∃ k : Nat, 1 + x % ((l.length - 1 : Nat) : Int) = (k : Int) := ⟨(1 + x % ((l.length - 1 : Nat) : Int)).toNat, by omega⟩
  rw [hk]
  unfold pathB
  rw [if_neg (by omega)]
  have h3 := join_len [46] ((namesUp l (k : Int)).reverse.map (·.data.toList)) 1000 (fun y hy => by
    obtain ⟨z, hz, rfl⟩ := List.mem_map.1 hy
    exact names_size l hn (by omega) (List.mem_reverse.1 hz))
  have h4 := namesUp_len l l.length (k : Int) (by omega) (by omega)
  rw [List.length_map, List.length_reverse] at h3
  have h5 : (namesUp l (k : Int)).length * (([46] : List UInt8).length + 1000) ≤ l.length * 1001 := Nat.mul_le_mul h4 (by simp)
  show (Lib.join _ [46]).toArray.size ≤ _
  rw [List.size_toArray]
  omega

theorem mk_two (ns : List Int) : 2 ≤ (mk ns).length := by
  have h := mk_ok ns
  have hp := h.pos
  obtain ⟨f, hf, hk⟩ := h.leaf
  obtain ⟨j, hj⟩ := List.mem_iff_getElem?.1 hf
  have hjl := (List.getElem?_eq_some_iff.1 hj).1
  by_cases h0 : j = 0
  · subst h0
    have hr := (mk_root ns).2
    rw [List.getD, hj] at hr
    simp at hr
    omega
  · omega

end Go.Proofs.Ythhcnlmjcpkbnaa
