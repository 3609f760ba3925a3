/- project's find: the field that has a path. -/
import Derived.Test.YtkbfbiklnjldgaaQn
import Derived.Test.YtkbfbiklnjldgaaA6
import Derived.StillTailTactics
namespace Go.Proofs.Ytkbfbiklnjldgaa
open Go.RowKit
set_option linter.unusedVariables false

theorem decode_skip (s : ByteArray) (pos j : Nat) (h : pos < s.size) (h1 : pos < j) (h2 : j < pos + (Utf8.decode s pos).2) : j < s.size ∧ ∃ c, (bl s)[j]? = some c ∧ 128 ≤ c := by
  have key : ∀ k, 1 ≤ k → k < (Utf8.decode s pos).2 → pos + k < s.size ∧ (s.get! (pos + k)).toNat / 64 = 2 := by
    intro k hk hk2
    have hb : ∀ k, (s.get! (pos + k)).toNat < 256 := fun k => (s.get! (pos + k)).toNat_lt
    simp only [Utf8.decode] at hk2
    split at hk2
    · simp at hk2; omega
    · split at hk2
      · rename_i hh
        simp at hh
        split at hk2
        · simp at hk2
          obtain rfl : k = 1 := by omega
          exact hh.2
        · simp at hk2; omega
      · split at hk2
        · rename_i hh
          simp at hh
          split at hk2
          · simp at hk2
            have hw : k = 1 ∨ k = 2 := by omega
            rcases hw with rfl | rfl
            · exact hh.1.2
            · exact hh.2
          · simp at hk2; omega
        · split at hk2
          · rename_i hh
            simp at hh
            split at hk2
            · simp at hk2
              have hw : k = 1 ∨ k = 2 ∨ k = 3 := by omega
              rcases hw with rfl | rfl | rfl
              · exact hh.1.1.2
              · exact hh.1.2
              · exact hh.2
            · simp at hk2; omega
          · simp at hk2; omega
  obtain ⟨k, rfl⟩ : ∃ k, j = pos + k := ⟨j - pos, by omega⟩
  obtain ⟨h3, h4⟩ := key k (by omega) (by omega)
  refine ⟨h3, _, bl_get s (pos + k) h3, ?_⟩
  have e : s.get! (pos + k) = s[pos + k]'h3 := by
    have := get_at s (pos + k) h3
    simpa using this
  rw [e] at h4
  omega

/-- What is in a field. -/
def kidsOf (l : List F) (at' : Int) : List Int := kidsU (parents l) l.length at'.toNat

theorem kidsOf_mem {l : List F} {a x : Int} (h : x ∈ kidsOf l a) : 0 ≤ x ∧ x < l.length := by
  unfold kidsOf kidsU at h
  rw [List.mem_map] at h
  obtain ⟨i, hi, rfl⟩ := h
  have := List.mem_range.1 (List.mem_filter.1 hi).1
  omega

theorem namedI_mem (l : List F) (ks : List Int) (nm : ByteArray) : namedI l ks nm = -1 ∨ namedI l ks nm ∈ ks := by
  unfold namedI
  cases h : ks.find? fun i => decide ((l.getD i.toNat default).n = nm) with
  | none => exact .inl rfl
  | some x => exact .inr (List.mem_of_find?_eq_some h)

theorem namedI_rng (l : List F) (a : Int) (nm : ByteArray) : namedI l (kidsOf l a) nm = -1 ∨ 0 ≤ namedI l (kidsOf l a) nm ∧ namedI l (kidsOf l a) nm < l.length := by
  rcases namedI_mem l (kidsOf l a) nm with h | h
  · exact .inl h
  · exact .inr (kidsOf_mem h)

/-- The field that a path leads to, from a group on, or -1. -/
def fdM (l : List F) (at' : Int) (cur : List Nat) : List Nat → Int
  | [] => namedI l (kidsOf l at') (str cur)
  | c :: r => if c = 46 then (if namedI l (kidsOf l at') (str cur) = -1 then -1 else fdM l (namedI l (kidsOf l at') (str cur)) [] r) else fdM l at' (cur ++ [c]) r

def findI (l : List F) (p : ByteArray) : Int := fdM l 0 [] (bl p)

theorem fdM_skip (l : List F) (a : Int) (xs : List Nat) (hx : ∀ c ∈ xs, c ≠ 46) : ∀ (cur r : List Nat), fdM l a cur (xs ++ r) = fdM l a (cur ++ xs) r := by
  induction xs with
  | nil => intro cur r; simp
  | cons c t ih =>
    intro cur r
    rw [List.cons_append, fdM, if_neg (hx c (by simp)), ih (fun d hd => hx d (by simp [hd]))]
    simp

/-- How find stands at byte pos, the name's begin at fr. -/
structure FJ (l : List F) (p : ByteArray) (w w' : World) (pos fr : Nat) (a : Nat) : Prop where
  le : pos ≤ p.size
  fl : fr ≤ pos
  al : a < l.length
  eq : findI l p = fdM l (a : Int) (((bl p).take pos).drop fr) ((bl p).drop pos)
  it : w'.heap[w.heap.size]? = some (.stringIter p pos)
  cg : Chg [] w w'

theorem FJ.skip {l : List F} {p : ByteArray} {w wi w' : World} {pos fr a q : Nat} (h : FJ l p w wi pos fr a) (hq : pos < q) (hqs : q ≤ p.size) (hx : ∀ j, pos ≤ j → j < q → ∃ c, (bl p)[j]? = some c ∧ c ≠ 46)
    (it : w'.heap[w.heap.size]? = some (.stringIter p q)) (cg : Chg [] w w') : FJ l p w w' q fr a := by
  have hfl := h.fl
  refine ⟨hqs, by omega, h.al, ?_, it, cg⟩
  rw [h.eq]
  have e1 : (bl p).drop pos = ((bl p).take q).drop pos ++ (bl p).drop q := by
    rw [← List.drop_append_of_le_length (by rw [List.length_take, bl_length]; omega), List.take_append_drop]
  rw [e1, fdM_skip]
  · congr 1
    have e2 : ((bl p).take q).drop fr = ((bl p).take pos).drop fr ++ ((bl p).take q).drop pos := by
      have e3 : (bl p).take q = (bl p).take pos ++ ((bl p).take q).drop pos := by
        have := List.take_append_drop pos ((bl p).take q)
        rw [List.take_take, Nat.min_eq_left (by omega)] at this
        exact this.symm
      conv => lhs; rw [e3]
      rw [List.drop_append_of_le_length (by rw [List.length_take, bl_length]; omega)]
    exact e2.symm
  · intro c hc
    obtain ⟨j, hj⟩ := List.mem_iff_getElem?.1 hc
    rw [List.getElem?_drop, List.getElem?_take] at hj
    split at hj
    · obtain ⟨c', h1, h2⟩ := hx (pos + j) (by omega) (by omega)
      rw [h1] at hj
      injection hj with hj
      rw [← hj]; exact h2
    · cases hj

theorem FJ.dot {l : List F} {p : ByteArray} {w wi : World} {pos fr a : Nat} (h : FJ l p w wi pos fr a) (hb : (bl p)[pos]? = some 46) (x : Int) (hx : x = namedI l (kidsOf l a) (str (((bl p).take pos).drop fr))) :
    findI l p = if x = -1 then -1 else fdM l x [] ((bl p).drop (pos + 1)) := by
  rw [h.eq, (take_one hb).2, fdM, if_pos rfl, hx]

theorem KidsM.at {w : World} {g : Nat} {l : List F} (h : KidsM w g l) {j : Nat} (hj : j < l.length) : ∃ kv, w.cell? ⟨g, j, none⟩ = some kv ∧ SeenI w kv (kidsOf l (j : Int)) := by
  obtain ⟨R, h1, h2, h3⟩ := h
  refine ⟨R.getD j nilS, ?_, h3 j hj⟩
  rw [cell_of_row w g j _ _ _ h2, List.getD]
  have : j < R.length := by omega
  simp [List.getElem?_eq_getElem this]

end Go.Proofs.Ytkbfbiklnjldgaa
