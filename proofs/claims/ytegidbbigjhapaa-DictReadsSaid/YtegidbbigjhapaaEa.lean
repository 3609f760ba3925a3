/- A dictionary as lists: the words of values in the order in which they come first, and which one each is. -/
import Derived.Test.YtegidbbigjhapaaUa
namespace Go.Proofs.Ytegidbbigjhapaa
set_option linter.unusedVariables false
set_option linter.unusedSimpArgs false

/-- One value more. -/
def addW (ws : List V) (v : V) : List V := if v ∈ ws then ws else ws ++ [v]
/-- The words of values. -/
def wdsL (l : List V) : List V := l.foldl addW []
/-- A value's place among words. -/
def plcV (ws : List V) (v : V) : Nat := ws.findIdx (· == v)
/-- Which word each value is. -/
def atsL (l : List V) : List Nat := l.map (plcV (wdsL l))

theorem addW_in {ws : List V} {v : V} (h : v ∈ ws) : addW ws v = ws := if_pos h
theorem addW_new {ws : List V} {v : V} (h : v ∉ ws) : addW ws v = ws ++ [v] := if_neg h
theorem mem_addW {ws : List V} {v u : V} : u ∈ addW ws v ↔ u ∈ ws ∨ u = v := by
  unfold addW
  split
  · rename_i h
    constructor
    · exact Or.inl
    · rintro (h' | rfl)
      · exact h'
      · exact h
  · simp

theorem wdsL_snoc (l : List V) (v : V) : wdsL (l ++ [v]) = addW (wdsL l) v := by unfold wdsL; rw [List.foldl_append]; rfl
theorem wdsL_take {l : List V} {k : Nat} {v : V} (h : l[k]? = some v) : wdsL (l.take (k + 1)) = addW (wdsL (l.take k)) v := by
  rw [List.take_add_one, h]; exact wdsL_snoc _ _

theorem snoc_ind {p : List V → Prop} (h0 : p []) (h1 : ∀ l v, p l → p (l ++ [v])) (l : List V) : p l := by
  have : ∀ n, p (l.take n) := by
    intro n
    induction n with
    | zero => simpa using h0
    | succ n ih =>
      by_cases hn : n < l.length
      · rw [List.take_add_one, List.getElem?_eq_getElem hn]
        exact h1 _ _ ih
      · rw [List.take_of_length_le (by omega)]
        rwa [List.take_of_length_le (by omega)] at ih
  simpa using this l.length

theorem mem_wdsL (l : List V) (v : V) : v ∈ wdsL l ↔ v ∈ l := by
  refine snoc_ind (p := fun l => v ∈ wdsL l ↔ v ∈ l) ?_ ?_ l
  · simp [wdsL]
  · intro l u ih; rw [wdsL_snoc, mem_addW, ih]; simp

theorem wdsL_nodup (l : List V) : (wdsL l).Nodup := by
  refine snoc_ind (p := fun l => (wdsL l).Nodup) ?_ ?_ l
  · simp [wdsL]
  · intro l u ih;
    rw [wdsL_snoc]
    unfold addW
    split
    · exact ih
    · rename_i h
      rw [List.nodup_append]
      refine ⟨ih, by simp, fun a ha b hb => ?_⟩
      simp at hb
      subst hb
      intro e
      subst e
      exact h ha

theorem wdsL_len (l : List V) : (wdsL l).length ≤ l.length := by
  refine snoc_ind (p := fun l => (wdsL l).length ≤ l.length) ?_ ?_ l
  · simp [wdsL]
  · intro l u ih;
    rw [wdsL_snoc]; unfold addW
    split
    · simp; omega
    · simp; omega

theorem addW_pre (ws : List V) (v : V) : ws <+: addW ws v := by
  unfold addW
  split
  · exact List.prefix_refl _
  · exact List.prefix_append _ _

theorem foldl_pre : ∀ (m : List V) (ws : List V), ws <+: m.foldl addW ws
  | [], ws => List.prefix_refl _
  | v :: m, ws => (addW_pre ws v).trans (foldl_pre m (addW ws v))

theorem wdsL_app (l m : List V) : wdsL (l ++ m) = m.foldl addW (wdsL l) := by unfold wdsL; rw [List.foldl_append]
theorem wdsL_pre (l m : List V) : wdsL l <+: wdsL (l ++ m) := by rw [wdsL_app]; exact foldl_pre _ _
theorem wdsL_take_pre (l : List V) (k : Nat) : wdsL (l.take k) <+: wdsL l := by
  have := wdsL_pre (l.take k) (l.drop k)
  rwa [List.take_append_drop] at this

theorem plcV_pre {ws us : List V} (h : ws <+: us) {v : V} (hv : v ∈ ws) : plcV us v = plcV ws v := by
  obtain ⟨r, rfl⟩ := h
  unfold plcV
  rw [List.findIdx_append, if_pos]
  exact List.findIdx_lt_length_of_exists ⟨v, hv, by simp⟩

theorem plcV_lt {ws : List V} {v : V} (h : v ∈ ws) : plcV ws v < ws.length := List.findIdx_lt_length_of_exists ⟨v, h, by simp⟩
theorem plcV_get {ws : List V} {v : V} (h : v ∈ ws) : ws[plcV ws v]? = some v := by
  have hl := plcV_lt h
  rw [List.getElem?_eq_getElem hl]
  have := List.findIdx_getElem (xs := ws) (p := (· == v)) (w := hl)
  simp at this
  exact congrArg some this
theorem plcV_new {ws : List V} {v : V} (h : v ∉ ws) : plcV (ws ++ [v]) v = ws.length := by
  unfold plcV
  rw [List.findIdx_append, if_neg]
  · simp [List.findIdx_cons]
  · intro hl
    have := List.findIdx_getElem (xs := ws) (p := (· == v)) (w := hl)
    simp at this
    exact h (this ▸ List.getElem_mem hl)

theorem atsL_len (l : List V) : (atsL l).length = l.length := by simp [atsL]
theorem atsL_app (l m : List V) : atsL (l ++ m) = atsL l ++ m.map (plcV (wdsL (l ++ m))) := by
  unfold atsL
  rw [List.map_append]
  congr 1
  apply List.map_congr_left
  intro v hv
  exact plcV_pre (wdsL_pre l m) ((mem_wdsL l v).2 hv)
theorem atsL_take {l : List V} {k : Nat} {v : V} (h : l[k]? = some v) : atsL (l.take (k + 1)) = atsL (l.take k) ++ [plcV (addW (wdsL (l.take k)) v) v] := by
  rw [List.take_add_one, h]
  show atsL (l.take k ++ [v]) = _
  rw [atsL_app, wdsL_snoc]
  rfl
theorem atsL_lt (l : List V) : ∀ x ∈ atsL l, x < (wdsL l).length := by
  intro x hx
  obtain ⟨v, hv, rfl⟩ := List.mem_map.1 hx
  exact plcV_lt ((mem_wdsL l v).2 hv)
theorem atsL_get {l : List V} {i : Nat} {v : V} (h : l[i]? = some v) : ∃ k, (atsL l)[i]? = some k ∧ (wdsL l)[k]? = some v ∧ k = plcV (wdsL l) v := by
  refine ⟨plcV (wdsL l) v, by simp [atsL, h], plcV_get ((mem_wdsL l v).2 (List.mem_of_getElem? h)), rfl⟩

/-- What Build answers: words, which one each is, and whether they are few enough. -/
def bldL (l : List V) (most : Int) : List V × List Nat × Bool :=
  if 0 ≤ most ∧ most ≤ 256 ∧ ((wdsL l).length : Int) ≤ most then (wdsL l, atsL l, true) else ([], [], false)

end Go.Proofs.Ytegidbbigjhapaa
