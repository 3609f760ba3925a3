/- Moved together from several texts. -/
import Derived.Test.YtohgnbgijleoaaaRefg
import Derived.Test.YtohgnbgijleoaaaZi
import Derived.Test.YtohgnbgijleoaaaLo
namespace Go.Proofs.Ytohgnbgijleoaaa
open Go.RowKit
set_option linter.unusedVariables false
set_option linter.unusedSimpArgs false

/-- The reference's reader stands. -/
structure XS (w : World) (x M : Nat) (b : List Nat) (a : Nat) (e : Int) : Prop where
  xr : XR w x (zi b) a e M
  by' : ∀ y ∈ b, y < 256
  bl : b.length ≤ 1000000000
  xM : x < M
  aL : a ≤ b.length

/-- What is left. -/
def leftX (b : List Nat) (a : Nat) (e : Int) : List Nat := if e = 0 then b.drop a else []

theorem leftX_ok (b : List Nat) (a : Nat) : leftX b a 0 = b.drop a := rfl

theorem leftX_err (b : List Nat) (a : Nat) (e : Int) (h : e ≠ 0) : leftX b a e = [] := by unfold leftX; rw [if_neg h]

theorem XS.keep {w w' : World} {x M : Nat} {b : List Nat} {a : Nat} {e : Int} (h : XS w x M b a e) (hc : Chg [] w w') : XS w' x M b a e :=
  ⟨h.xr.keep0 hc, h.by', h.bl, h.xM, h.aL⟩

/-- Another block, behind the reader's, was changed. -/
theorem XS.high {w w' : World} {x M k : Nat} {b : List Nat} {a : Nat} {e : Int} (h : XS w x M b a e) (hc : Chg [k] w w') (hk : M ≤ k) : XS w' x M b a e := by
  obtain ⟨v, h1, h2, h3, h4, h5⟩ := h.xr
  have hx := h.xM
  have hg : ∀ g, v.ownBlock = some g → g ∉ [k] := fun g hg hm => by have := h4 g hg; simp at hm; omega
  exact ⟨⟨v, hc.heap h1 (by simp; omega), h2.keep hc hg, h3.keep hc hg, h4, h5⟩, h.by', h.bl, h.xM, h.aL⟩

theorem XS.err {w : World} {x M : Nat} {b : List Nat} {a : Nat} {e : Int} (h : XS w x M b a e) : w.cell? ⟨x, 2, none⟩ = some (.int .i64 e) := by
  obtain ⟨v, h1, -⟩ := h.xr
  exact (cells3 h1).2.2.1

theorem xsGet {w : World} {x M : Nat} {b : List Nat} {a : Nat} (h : XS w x M b a 0) (n : Nat) (h1 : 1 ≤ n) (h8 : n ≤ 8) :
    Calls Try.prog 25 #[.pointer (some ⟨x, 0, none⟩), .int .i64 (n : Int)] w fun y w' =>
      if (b.drop a).length < n then y = .returned (.int .u64 0) ∧ Chg [x] w w' ∧ XS w' x M b a 8
      else y = .returned (.int .u64 ((nm ((b.drop a).take n) : Nat) : Int)) ∧ Chg [x] w w' ∧ XS w' x M b (a + n) 0 := by
  have hb := h.bl
  have ha := h.aL
  by_cases hn : (b.drop a).length < n
  · simp only [if_pos hn]
    rw [List.length_drop] at hn
    refine (xget_cut x n w (zi b) a (by rw [zi_length]; omega) h.xr (by omega) h8 (by rw [zi_length]; omega)).mono ?_
    rintro y w' ⟨rfl, hc, hr⟩
    exact ⟨rfl, hc, ⟨hr, h.by', h.bl, h.xM, h.aL⟩⟩
  · simp only [if_neg hn]
    rw [List.length_drop] at hn
    refine (xget_yes x n w (zi b) a (by rw [zi_length]; omega) (zi_wf h.by') h.xr (by omega) h8 (by rw [zi_length]; omega)).mono ?_
    rintro y w' ⟨rfl, hc, hr⟩
    rw [zi_drop, zi_take, num_zi]
    exact ⟨rfl, hc, ⟨hr, h.by', h.bl, h.xM, by omega⟩⟩

theorem xsTake_err {w : World} {x M : Nat} {b : List Nat} {a : Nat} {e : Int} (h : XS w x M b a e) (he : e ≠ 0) (n : Int) :
    Calls Try.prog 27 #[.pointer (some ⟨x, 0, none⟩), .int .i64 n] w fun y w' => y = .returned (.slice none 0 0) ∧ Chg [x] w w' ∧ XS w' x M b a e := by
  refine (xtake_none x n e w (zi b) a h.xr (.inl he)).mono ?_
  rintro y w' ⟨rfl, rfl⟩
  exact ⟨rfl, Chg.refl _ _, h⟩

theorem xsTake {w : World} {x M : Nat} {b : List Nat} {a : Nat} (h : XS w x M b a 0) (n : Nat) :
    Calls Try.prog 27 #[.pointer (some ⟨x, 0, none⟩), .int .i64 (n : Int)] w fun y w' => ∃ v, y = .returned v ∧ Chg [x] w w' ∧
      (if (b.drop a).length < n then v = .slice none 0 0 ∧ XS w' x M b a 8 else Seen w' v (nv .u8 ((b.drop a).take n)) ∧ XS w' x M b (a + n) 0) := by
  have hb := h.bl
  have ha := h.aL
  by_cases hn : (b.drop a).length < n
  · simp only [if_pos hn]
    rw [List.length_drop] at hn
    refine (xtake_cut x n w (zi b) a (by rw [zi_length]; omega) h.xr (by omega) (by rw [zi_length]; omega)).mono ?_
    rintro y w' ⟨rfl, hc, hr⟩
    exact ⟨_, rfl, hc, rfl, ⟨hr, h.by', h.bl, h.xM, h.aL⟩⟩
  · simp only [if_neg hn]
    rw [List.length_drop] at hn
    by_cases h0 : n = 0
    · subst h0
      refine (xtake_none x 0 0 w (zi b) a h.xr (.inr (by decide))).mono ?_
      rintro y w' ⟨rfl, rfl⟩
      exact ⟨_, rfl, Chg.refl _ _, by simpa [nv] using Seen.nil w, h⟩
    · refine (xtake_yes x n w (zi b) a (by rw [zi_length]; omega) h.xr (by omega) (by rw [zi_length]; omega)).mono ?_
      rintro y w' ⟨v, rfl, hc, hr, ho⟩
      rw [zi_drop, zi_take, bys_zi] at ho
      exact ⟨v, rfl, hc, (reads_of_own ho).seen, ⟨hr, h.by', h.bl, h.xM, by omega⟩⟩

/-- Blocks behind the reader's were changed. -/
theorem XS.above {w w' : World} {S : List Nat} {x M : Nat} {b : List Nat} {a : Nat} {e : Int} (h : XS w x M b a e) (hc : Chg S w w') (hS : ∀ k ∈ S, M ≤ k) : XS w' x M b a e := by
  obtain ⟨v, h1, h2, h3, h4, h5⟩ := h.xr
  have hx := h.xM
  have hg : ∀ g, v.ownBlock = some g → g ∉ S := fun g hg hm => by have := h4 g hg; have := hS g hm; omega
  exact ⟨⟨v, hc.heap h1 (fun hm => by have := hS x hm; omega), h2.keep hc hg, h3.keep hc hg, h4, h5⟩, h.by', h.bl, h.xM, h.aL⟩

/-- The reader of some bytes. -/
theorem xsNew (bv : Value) (b : List Nat) (w : World) (hS : Seen w bv (nv .u8 b)) (hb : ∀ x ∈ b, x < 256) (hbl : b.length ≤ 1000000000) :
    Calls Try.prog 22 #[bv] w fun e w' => ∃ x, e = .returned (.pointer (some ⟨x, 0, none⟩)) ∧ Chg [] w w' ∧ w.heap.size ≤ x ∧ XS w' x w'.heap.size b 0 0 := by
  refine (xnew_any bv (zi b) w (by rw [zi_length]; omega) (by rw [bys_zi]; exact hS)).mono ?_
  rintro e w' ⟨x, rfl, hc, hx, hr⟩
  exact ⟨x, rfl, hc, hx, ⟨hr, hb, hbl, hr.lt, Nat.zero_le _⟩⟩

end Go.Proofs.Ytohgnbgijleoaaa
