/- The reference's Columns of made records; how the automaton reads them. -/
import Derived.Test.YtfdmbpfpdijpdaaLA
import Derived.Test.YtfdmbpfpdijpdaaVl
import Derived.Test.YtfdmbpfpdijpdaaGg
namespace Go.Proofs.Ytfdmbpfpdijpdaa
open Go.RowKit
set_option linter.unusedVariables false
set_option linter.unusedSimpArgs false

theorem nef_of : ∀ (fo : Fo), fo.wf → (∀ f ∈ fo.flat, f.k = 0 → 1 ≤ f.c) → NEF fo
  | .nil, _, _ => trivial
  | .leaf f g, ⟨_, _, h3⟩, h => nef_of g h3 (fun y hy => h y (by simp [Fo.flat, hy]))
  | .group f k g, ⟨h1, h2, h3, h4⟩, h => by
    refine ⟨fun e => ?_, nef_of k h3 (fun y hy => h y (by simp [Fo.flat, hy])), nef_of g h4 (fun y hy => h y (by simp [Fo.flat, hy]))⟩
    have hc := h f (by simp [Fo.flat]) h1
    rw [h2, e] at hc
    simp [Fo.num] at hc

theorem chk_have {l : List F} (h : chk l = 0) : ∀ f ∈ l, f.k = 0 → 1 ≤ f.c := by
  intro f hf hk
  obtain ⟨i, hi⟩ := List.mem_iff_getElem?.1 hf
  have hil := (List.getElem?_eq_some_iff.1 hi).1
  have h1 := chk_good h i hil
  have hg : l.getD i default = f := by rw [List.getD, hi]; rfl
  unfold faultN at h1
  split at h1
  · cases h1
  · split at h1
    · cases h1
    · split at h1
      · cases h1
      · split at h1
        · cases h1
        · split at h1
          · cases h1
          · rename_i h3
            have h2 : haveB (l.getD i default) = true := by cases hx : haveB (l.getD i default) <;> simp_all
            rw [hg] at h2
            unfold haveB at h2
            rw [if_pos hk, decide_eq_true_iff] at h2
            exact h2

/-- What a made schema's forest is good for. -/
structure MF (l : List F) (r0 : F) (fo : Fo) : Prop where
  eq : l = r0 :: fo.flat
  k : r0.k = 0
  r : r0.r = 0
  c : r0.c = fo.num
  wf : fo.wf
  ne : fo ≠ .nil
  nef : NEF fo
  fr : ∀ f ∈ fo.flat, 0 ≤ f.r ∧ f.r ≤ 2
  pos : 0 < (leavesL l).length
  lw : (lwF [] fo 0).length = (leavesL l).length

theorem mk_mf (ns : List Int) : ∃ r0 fo, MF (mk ns) r0 fo := by
  obtain ⟨r0, fo, m1, m2, m3, m4, m5⟩ := mk_wf ns
  have hh := chk_have (mk_chk ns)
  have hne : fo ≠ .nil := fun e => by
    have := hh r0 (by rw [m1]; simp) m2
    rw [m3, e] at this
    simp [Fo.num] at this
  have hnef := nef_of fo m4 (fun f hf => hh f (by rw [m1]; simp [hf]))
  have hlw : (lwF [] fo 0).length = (leavesL (mk ns)).length := by rw [← lways_root m1 m2 m3 m4, lways_len]
  exact ⟨r0, fo, m1, m2, m5, m3, m4, hne, hnef, fun f hf => by
    obtain ⟨j, hj⟩ := List.mem_iff_getElem?.1 (show f ∈ mk ns by rw [m1]; simp [hf])
    have := (mk_fields ns j f hj).1
    omega, by have := NEF.pos hne hnef; omega, hlw⟩

theorem made_fit {ns : List Int} {r0 : F} {fo : Fo} (h : MF (mk ns) r0 fo) {t : Tr} (ht : ∃ rs, t = mk8 (mk ns) rs) : fitF fo t.k := by
  obtain ⟨rs, rfl⟩ := ht
  obtain ⟨hv, -⟩ := mk8_fits rs (mk_chk ns)
  obtain ⟨-, hk0, hHK⟩ := hasK_root h.eq h.k h.c h.wf
  have hg0 : ((mk ns).getD 0 default).k = 0 := by rw [h.eq]; exact h.k
  rw [fitV_group hg0, hk0] at hv
  split at hv
  · contradiction
  rename_i h7
  rw [tops_len] at h7
  have h8 : (mk8 (mk ns) rs).k.length = fo.num := Decidable.byContradiction fun e => h7 (.inr (.inr e))
  exact fitF_of (mk ns) fo 1 (mk8 (mk ns) rs).k hHK h.wf hv h8

theorem made_at (ns : List Int) {t : Tr} (ht : ∃ rs, t = mk8 (mk ns) rs) (p : Nat) : (atC (lways (mk ns)) 0 0 0 0 t p).length ≤ 243 := by
  obtain ⟨rs, rfl⟩ := ht
  unfold atC
  rw [if_pos (Nat.zero_le _), Nat.sub_zero]
  cases hW : (lways (mk ns))[p]? with
  | none => simp
  | some W =>
    have hs := lways_short ns W (List.mem_of_getElem? hW)
    exact Nat.le_trans (cells_ok3 W W.length 0 0 0 _ (Nat.le_refl _) (mk8_ok3 (mk ns) rs W.length)).1 (Nat.le_trans (Nat.pow_le_pow_right (by decide) hs) (by decide))

/-- The reference's Columns of such records. -/
theorem rcolumns_made (sv lv : Value) (ns : List Int) (L0 : List Tr) (d : Nat) (w : World) (hS : SeenF w sv (mk ns)) (hL : ListAt w d L0 lv) (hLm : ∀ t ∈ L0, ∃ rs, t = mk8 (mk ns) rs) (hm : L0.length ≤ 16) :
    Calls Try.prog 18 #[sv, lv] w fun e w' => ∃ cb cc w1, e = .returned (.tuple #[.slice (some ⟨cb, 0, none⟩) (leavesL (mk ns)).length cc, .int .i64 0]) ∧ Chg [] w w' ∧ (leavesL (mk ns)).length ≤ cc ∧ cc ≤ maxLen ∧ w.heap.size ≤ cb ∧ CS w1 cb (leavesL (mk ns)).length (leavesL (mk ns)) (colA (mk ns) L0) w' ∧ w.heap.size ≤ w1.heap.size := by
  obtain ⟨r0, fo, h⟩ := mk_mf ns
  obtain ⟨q1, q2⟩ := made_cols ns L0 hLm hm
  have hmk := mk_ok ns
  refine (rcolumns14_any sv lv (mk ns) L0 d w hS hL (mk_chk ns) h.eq h.k h.r h.c h.wf (fun f hf => by have := hmk.c f hf; omega) h.pos (fun t ht _ p => Nat.le_trans (made_at ns (hLm t ht) p) (by decide))).mono ?_
  rintro e w' ⟨hk, hh⟩
  have hfl : fitL (mk ns) 0 L0 = 0 := by
    have := q1
    unfold faultT orE at this
    rw [mk_chk] at this
    simpa using this
  rw [if_neg (by omega), if_neg (by rw [hfl]; simp), if_pos (fun p hp => by
    obtain ⟨W, hW⟩ : ∃ W, (lways (mk ns))[p]? = some W := ⟨_, List.getElem?_eq_getElem (by rw [lways_len]; exact hp)⟩
    rw [colA_col hW]
    exact (q2 W (List.mem_of_getElem? hW)).2.2)] at hh
  obtain ⟨cb, cc, w1, rfl, h1, h2, h3, h4, h5⟩ := hh
  exact ⟨cb, cc, w1, rfl, hk, h1, h2, h3, h4, h5⟩

/-! ### a record, read -/

def ordR (fo : Fo) (t : Tr) : List NC2 := ordF fo 0 0 0 0 0 t

theorem rd_rec {ns : List Int} {r0 : F} {fo : Fo} (h : MF (mk ns) r0 fo) {t : Tr} (ht : ∃ rs, t = mk8 (mk ns) rs) : Rd (aft (trs (mk ns))) (fun _ => 0) 0 (ordR fo t) (leavesL (mk ns)).length := by
  have hT := trs_root h.eq h.k h.r h.c h.wf
  have hf := made_fit h ht
  have hlw := h.lw
  have hp := h.pos
  have hr := rd_fo fo 1 0 0 0 0 0 [] [] [] (trs (mk ns)) t 0 (fun _ => 0) h.ne h.nef (by rw [hT]; simp) rfl rfl (by simp) (by rw [List.drop_zero]; exact hf) h.fr (Nat.le_refl _) (fun _ _ _ => rfl)
  rw [aft_zero, hlw, Nat.zero_add, show (leavesL (mk ns)).length - 1 + 1 = (leavesL (mk ns)).length by omega] at hr
  exact hr

theorem ord_cells {ns : List Int} {r0 : F} {fo : Fo} (h : MF (mk ns) r0 fo) {t : Tr} (ht : ∃ rs, t = mk8 (mk ns) rs) (j : Nat) : ((ordR fo t).filter fun x => x.1 == j).map (·.2) = atC (lways (mk ns)) 0 0 0 0 t j := by
  rw [lways_root h.eq h.k h.c h.wf]
  exact ordF_cells fo 0 0 0 0 0 t j (by rw [List.drop_zero]; exact made_fit h ht) h.fr

theorem ord_lt {ns : List Int} {r0 : F} {fo : Fo} (h : MF (mk ns) r0 fo) {t : Tr} : ∀ x ∈ ordR fo t, x.1 < (leavesL (mk ns)).length := fun x hx => by
  have := ordF_leaf fo 0 0 0 0 0 t x hx
  rw [h.lw] at this
  omega

theorem len_split (p : NC2 → Bool) : ∀ O : List NC2, O.length = (O.filter p).length + (O.filter fun x => !p x).length
  | [] => rfl
  | x :: O => by
    have ih := len_split p O
    cases h : p x
    · rw [List.filter_cons_of_neg (by simp [h]), List.filter_cons_of_pos (by simp [h]), List.length_cons, List.length_cons]; omega
    · rw [List.filter_cons_of_pos (by simp [h]), List.filter_cons_of_neg (by simp [h]), List.length_cons, List.length_cons]; omega

theorem len_filters {c : Nat} : ∀ (N : Nat) (O : List NC2), (∀ x ∈ O, x.1 < N) → (∀ j, (O.filter fun x => x.1 == j).length ≤ c) → O.length ≤ N * c
  | 0, O, h, _ => by
    cases O with
    | nil => simp
    | cons x O => have := h x (by simp); omega
  | N + 1, O, h, hc => by
    have h1 := len_split (fun x => x.1 == N) O
    have h2 := hc N
    have h3 := len_filters N (O.filter fun x => !(x.1 == N)) (fun x hx => by
      obtain ⟨a, b⟩ := List.mem_filter.1 hx
      have := h x a
      simp at b
      omega) (fun j => Nat.le_trans (List.Sublist.filter (fun x : NC2 => x.1 == j) List.filter_sublist).length_le (hc j))
    rw [Nat.succ_mul]
    omega

theorem ord_len {ns : List Int} {r0 : F} {fo : Fo} (h : MF (mk ns) r0 fo) {t : Tr} (ht : ∃ rs, t = mk8 (mk ns) rs) : (ordR fo t).length ≤ 4000 := by
  have h1 := len_filters (c := 243) (leavesL (mk ns)).length (ordR fo t) (ord_lt h) (fun j => by
    have := congrArg List.length (ord_cells h ht j)
    rw [List.length_map] at this
    rw [this]
    exact made_at ns ht j)
  have h2 := leavesTo_le (mk ns) (mk ns).length
  have h3 := (mk_ok ns).le
  have h4 : (leavesL (mk ns)).length ≤ 14 := by unfold leavesL; omega
  have h5 : (leavesL (mk ns)).length * 243 ≤ 14 * 243 := Nat.mul_le_mul_right _ h4
  omega

theorem nextR_head (j : Nat) (O : List NC2) : nextR j O (fun _ => 0) = match ((O.filter fun x => x.1 == j).map (·.2)) with | [] => 0 | c :: _ => c.r := by
  induction O with
  | nil => rfl
  | cons x O ih =>
    by_cases h : x.1 = j
    · rw [nextR_cons_eq h, List.filter_cons_of_pos (by simpa using h)]; rfl
    · rw [nextR_cons_ne h, List.filter_cons_of_neg (by simpa using h)]; exact ih

/-- The column, where one reads in it. -/
theorem col_split {ns : List Int} {r0 : F} {fo : Fo} (h : MF (mk ns) r0 fo) {TS : List Tr} (hTS : ∀ t ∈ TS, ∃ rs, t = mk8 (mk ns) rs) {i j : Nat} {t : Tr} (ht : TS[i]? = some t) {Pre Rest : List NC2} {c : Cl} (hO : ordR fo t = Pre ++ (j, c) :: Rest) (hj : j < (leavesL (mk ns)).length) :
    ∃ R, colA (mk ns) TS j = colA (mk ns) (TS.take i) j ++ ((Pre.filter fun x => x.1 == j).map (·.2)) ++ c :: R ∧ (match R with | [] => 0 | c :: _ => c.r) = nextR j Rest (fun _ => 0) := by
  have hc := ord_cells h (hTS t (List.mem_of_getElem? ht)) j
  rw [hO, List.filter_append, List.map_append, List.filter_cons_of_pos (by simp), List.map_cons] at hc
  obtain ⟨hlt, he⟩ := List.getElem?_eq_some_iff.1 ht
  have hd : TS = TS.take i ++ t :: TS.drop (i + 1) := by
    conv => lhs; rw [← List.take_append_drop i TS, List.drop_eq_getElem_cons hlt, he]
  have hcol : colA (mk ns) TS j = colA (mk ns) (TS.take i) j ++ (atC (lways (mk ns)) 0 0 0 0 t j ++ colA (mk ns) (TS.drop (i + 1)) j) := by
    conv => lhs; rw [hd]
    unfold colA
    rw [List.flatMap_append, List.flatMap_cons]
  refine ⟨((Rest.filter fun x => x.1 == j).map (·.2)) ++ colA (mk ns) (TS.drop (i + 1)) j, ?_, ?_⟩
  · rw [hcol, ← hc]; simp
  · rw [nextR_head]
    cases hq : (Rest.filter fun x => x.1 == j).map (·.2) with
    | cons x X => rfl
    | nil =>
      rw [List.nil_append]
      cases hr : TS.drop (i + 1) with
      | nil => rfl
      | cons u U =>
        obtain ⟨W, hW⟩ : ∃ W, (lways (mk ns))[j]? = some W := ⟨_, List.getElem?_eq_getElem (by rw [lways_len]; exact hj)⟩
        rw [colA_col hW]
        obtain ⟨a, b, h1, h2⟩ := col_first W u U
        rw [h1]
        exact h2

/-- No cell is further repeated than its leaf. -/
theorem col_trs (ns : List Int) {TS : List Tr} {j : Nat} (hj : j < (leavesL (mk ns)).length) : ∀ x ∈ colA (mk ns) TS j, x.r ≤ ((trs (mk ns)).getD j []).length := by
  intro x hx
  obtain ⟨W, hW⟩ : ∃ W, (lways (mk ns))[j]? = some W := ⟨_, List.getElem?_eq_getElem (by rw [lways_len]; exact hj)⟩
  obtain ⟨lf, hlf⟩ : ∃ lf, (leavesL (mk ns))[j]? = some lf := ⟨_, List.getElem?_eq_getElem hj⟩
  rw [colA_col hW] at hx
  unfold colC at hx
  obtain ⟨t, -, hx⟩ := List.mem_flatMap.1 hx
  have h1 := (cells_levels W 0 0 0 t (Nat.le_refl _) x hx).1
  have h2 := (leaf_levels ns hlf hW).1
  have h3 := (leaf_trs hlf).1
  omega

end Go.Proofs.Ytfdmbpfpdijpdaa
