/- Ts, Tn: texts of one group, one behind the other. -/
import Derived.Test.YtkbfbiklnjldgaaA2
import Derived.Test.YtkbfbiklnjldgaaA5
import Derived.Test.YtkbfbiklnjldgaaAS
import Derived.Lib.OthersKept
namespace Go.Proofs.Ytkbfbiklnjldgaa
open Go.RowKit
set_option linter.unusedVariables false

/-- The words of what is left, the word so far being cur. -/
def wdM (cur : List Nat) : List Nat → Option (List (List Nat))
  | [] => some []
  | c :: t => if sgnB c = true then wdM (cur ++ [c]) t
    else if stnB c = false ∧ blkB c = false then none
    else (wdM [] t).map fun r => (if cur = [] then [] else [cur]) ++ ((if stnB c = true then [[c]] else []) ++ r)

def wordsL (l : List Nat) : Option (List (List Nat)) := wdM [] (l ++ [10])

theorem wdM_sgn {cur t : List Nat} {c : Nat} (h : sgnB c = true) : wdM cur (c :: t) = wdM (cur ++ [c]) t := by rw [wdM, if_pos h]
theorem wdM_bad {cur t : List Nat} {c : Nat} (h : sgnB c = false) (h1 : stnB c = false) (h2 : blkB c = false) : wdM cur (c :: t) = none := by
  rw [wdM, if_neg (by rw [h]; simp), if_pos ⟨h1, h2⟩]
theorem wdM_stn {cur t : List Nat} {c : Nat} (h : sgnB c = false) (h1 : stnB c = true) : wdM cur (c :: t) = (wdM [] t).map fun r => (if cur = [] then [] else [cur]) ++ ([[c]] ++ r) := by
  rw [wdM, if_neg (by rw [h]; simp), if_neg (by rw [h1]; simp), if_pos h1]
theorem wdM_blk {cur t : List Nat} {c : Nat} (h : sgnB c = false) (h1 : stnB c = false) (h2 : blkB c = true) : wdM cur (c :: t) = (wdM [] t).map fun r => (if cur = [] then [] else [cur]) ++ r := by
  rw [wdM, if_neg (by rw [h]; simp), if_neg (by rw [h2]; simp)]
  simp only [h1, Bool.false_eq_true, if_false, List.nil_append]

theorem map_app {ws X : List (List Nat)} {o : Option (List (List Nat))} : (o.map fun r => X ++ r).map (ws ++ ·) = o.map ((ws ++ X) ++ ·) := by
  cases o <;> simp

theorem extract_str (s : ByteArray) (a b : Nat) (hb : b ≤ s.size) : s.extract a b = str (((bl s).take b).drop a) := by
  cases s with
  | mk d =>
    have e : ∀ l : List UInt8, l.map (fun x => UInt8.ofNat x.toNat) = l := fun l => by
      induction l with
      | nil => rfl
      | cons x t ih => simp
    simp only [bl, str, ← List.map_take, ← List.map_drop, List.map_map]
    have e2 : (UInt8.ofNat ∘ fun x : UInt8 => x.toNat) = fun x => UInt8.ofNat x.toNat := rfl
    rw [e2, e]
    apply ByteArray.ext
    apply Array.ext'
    simp [ByteArray.data_extract, Array.toList_extract, List.extract]
    rw [List.drop_take]

theorem own_iter {w : World} {B T size n k : Nat} {v : Value} {xs : List Value} {s : ByteArray} {pos q : Nat} (h : w.ownsRow B T size v n xs) (hk : w.heap[k]? = some (.stringIter s pos)) : (w.iterAt k s q).ownsRow B T size v n xs := by
  obtain ⟨hl, h1⟩ := h
  refine ⟨hl, ?_⟩
  rcases h1 with h1 | ⟨g, cap, cur, rfl, hb, hg, h2⟩
  · exact .inl h1
  · refine .inr ⟨g, cap, cur, rfl, hb, ?_, h2⟩
    have hne : k ≠ g := by rintro rfl; rw [hk] at hg; cases hg
    show (w.heap.setIfInBounds k _)[g]? = _
    rw [Array.getElem?_setIfInBounds_ne hne]
    exact hg

theorem Chg.iterAt {S : List Nat} {a w : World} (h : Chg S a w) {k : Nat} (hk : k ∈ S ∨ a.heap.size ≤ k) (s : ByteArray) (q : Nat) : Chg S a (w.iterAt k s q) :=
  h.trans (T := [k]) ⟨rfl, rfl, rfl, by show _ ≤ (w.heap.setIfInBounds k _).size; simp, fun j _ hj => by
    show (w.heap.setIfInBounds k _)[j]? = _
    rw [Array.getElem?_setIfInBounds_ne (by simpa [eq_comm] using hj)]⟩ (by simpa using hk)

theorem iter_kept {w w' : World} {B T size n k : Nat} {v : Value} {xs : List Value} {s : ByteArray} {pos : Nat} (h : w.ownsRow B T size v n xs) (hk : w.heap[k]? = some (.stringIter s pos)) (hg : w.grownBy w' v.ownBlock) : w'.heap[k]? = some (.stringIter s pos) := by
  refine (hg.block k (Go.lt_of_block hk) fun e => ?_).trans hk
  obtain ⟨hl, h1⟩ := h
  rcases h1 with ⟨rfl, hn⟩ | ⟨g, cap, cur, rfl, hb, hgg, h2⟩
  · simp [Value.ownBlock] at e
  · simp [Value.ownBlock] at e
    subst e
    rw [hk] at hgg
    cases hgg

theorem bl_lf (s : ByteArray) : bl (s ++ ({ data := #[10] } : ByteArray)) = bl s ++ [10] := by
  simp [bl, ByteArray.data_append]

/-- How split stands ahead of sign pos. -/
structure SJ (s : ByteArray) (w w' : World) (pos fr : Nat) (ws : List (List Nat)) (v : Value) : Prop where
  le : pos ≤ s.size + 1
  fl : fr ≤ pos
  eq : (wdM (((bl s ++ [10]).take pos).drop fr) ((bl s ++ [10]).drop pos)).map (ws ++ ·) = wordsL (bl s)
  it : w'.heap[w.heap.size]? = some (.stringIter (s ++ ({ data := #[10] } : ByteArray)) pos)
  cg : Chg [] w w'
  ow : w'.ownsRow w.heap.size 9 1 v ws.length (sv (ws.map str))
  ln : ws.length ≤ 2 * pos

theorem take_one {l : List Nat} {pos c : Nat} (h : l[pos]? = some c) : l.take (pos + 1) = l.take pos ++ [c] ∧ l.drop pos = c :: l.drop (pos + 1) := by
  have hl := (List.getElem?_eq_some_iff.1 h).1
  rw [List.getElem?_eq_getElem hl] at h
  injection h with h
  refine ⟨?_, by rw [List.drop_eq_getElem_cons hl, h]⟩
  rw [List.take_add_one, List.getElem?_eq_getElem hl, h]
  rfl

theorem sgn_lf : sgnB 10 = false := by decide

/-- What split answers. -/
def SplitOut (l : List Nat) (w : World) (e : Ending) (w' : World) : Prop :=
  match wordsL l with
  | some ws => ∃ v, e = .returned (.tuple #[v, .int .i64 0]) ∧ w'.ownsRow w.heap.size 9 1 v ws.length (sv (ws.map str)) ∧ ws.length ≤ 8002
  | none => e = .returned (.tuple #[.slice none 0 0, .int .i64 6])
theorem SplitOut.some {l : List Nat} {w w' : World} {e : Ending} {ws : List (List Nat)} (h : wordsL l = some ws) (h2 : ∃ v, e = .returned (.tuple #[v, .int .i64 0]) ∧ w'.ownsRow w.heap.size 9 1 v ws.length (sv (ws.map str)) ∧ ws.length ≤ 8002) : SplitOut l w e w' := by
  unfold SplitOut; rw [h]; exact h2
theorem SplitOut.none {l : List Nat} {w w' : World} {e : Ending} (h : wordsL l = none) (h2 : e = .returned (.tuple #[.slice none 0 0, .int .i64 6])) : SplitOut l w e w' := by
  unfold SplitOut; rw [h]; exact h2

/-- Where an iterator stands. -/
def itp (w : World) (g : Nat) : Nat := match w.heap[g]? with | some (.stringIter _ p) => p | _ => 0
theorem itp_of {w : World} {g p : Nat} {s : ByteArray} (h : w.heap[g]? = some (.stringIter s p)) : itp w g = p := by unfold itp; rw [h]

theorem app_str {w : World} {B n : Nat} {v : Value} {ws : List (List Nat)} {x : List Nat} (h : w.ownsRow B 9 1 v n (sv (ws.map str) ++ [.string (str x)])) : w.ownsRow B 9 1 v n (sv ((ws ++ [x]).map str)) := by
  have e : sv ((ws ++ [x]).map str) = sv (ws.map str) ++ [.string (str x)] := by simp [sv]
  rw [e]; exact h

theorem one_s {x : ByteArray} : ∀ u ∈ [Value.string x], u.oneCell' = true := by intro u hu; simp at hu; subst hu; rfl

end Go.Proofs.Ytkbfbiklnjldgaa

namespace Go.Proofs.Ytkbfbiklnjldgaa
open Go.RowKit
set_option linter.unusedVariables false

def sc (s : ByteArray) : List Value := [.string s]
abbrev SeenS := SeenK sc 1

theorem SeenS.cell {w : World} {g off : Nat} {l : List ByteArray} (h : ∀ j x i u, l[j]? = some x → (sc x)[i]? = some u → w.cell? ⟨g, off + j * 1 + i, none⟩ = some u) {j : Nat} {x : ByteArray} (hj : l[j]? = some x) : w.cell? ⟨g, off + j, none⟩ = some (.string x) := by
  simpa using h j x 0 _ hj rfl

theorem own_seenS {w : World} {B n : Nat} {v : Value} {l : List ByteArray} (h : w.ownsRow B 9 1 v n (sv l)) (hn : l.length = n) : SeenS w v l := by
  subst hn
  obtain ⟨hl, h1⟩ := h
  rcases h1 with ⟨rfl, hn⟩ | ⟨g, cap, cur, rfl, _, hg, hc, hm, hs, ht⟩
  · exact ⟨none, 0, by rw [hn], by omega, by decide, fun hp => by omega⟩
  · refine ⟨_, cap, rfl, by omega, by omega, fun _ => ⟨g, 0, rfl, fun j x i u hx hu => ?_⟩⟩
    have hi : i = 0 := by
      cases i with
      | zero => rfl
      | succ i => simp [sc] at hu
    subst hi
    simp [sc] at hu
    subst hu
    rw [Nat.zero_add, cell_of_row w g _ _ _ _ hg]
    have h : (sv l)[j]? = some (.string x) := by simp [sv, hx]
    rw [← ht, List.getElem?_take] at h
    split at h
    · simpa using h
    · cases h

/-- The words behind the first one, as the model slices. -/
theorem SeenS.tail {w : World} {g off n cap : Nat} {x : ByteArray} {l : List ByteArray} (h : SeenS w (.slice (some ⟨g, off, none⟩) (n + 1) cap) (x :: l)) : SeenS w (.slice (if cap = 1 then some ⟨g, off, none⟩ else some ⟨g, off + 1, none⟩) n (cap - 1)) l := by
  obtain ⟨ao', cap', h1, h2, h3, h4⟩ := h
  injection h1 with e1 e2 e3
  have hn : n = l.length := by rw [List.length_cons] at e2; omega
  subst e3 hn
  rw [List.length_cons] at h2 h4
  obtain ⟨g', off', e, hc⟩ := h4 (by omega)
  rw [← e1] at e
  injection e with e; injection e with e5 e6
  subst e5 e6
  refine ⟨_, cap - 1, rfl, by omega, by omega, fun hp => ?_⟩
  rw [if_neg (by omega)]
  refine ⟨g, off + 1, rfl, fun j y i u hy hu => ?_⟩
  have := hc (j + 1) y i u (by simpa using hy) hu
  rwa [show off + (j + 1) * 1 + i = off + 1 + j * 1 + i by omega] at this

end Go.Proofs.Ytkbfbiklnjldgaa
