/- What shred.Columns gives of records that law 8 makes: pure. -/
import Derived.Test.YtfdmbpfpdijpdaaShk
import Derived.Test.YtfdmbpfpdijpdaaYC
import Derived.Test.YtfdmbpfpdijpdaaYV
namespace Go.Proofs.Ytfdmbpfpdijpdaa
open Go.RowKit
set_option linter.unusedVariables false
set_option linter.unusedSimpArgs false

/-- Texts are short, lists have three values at most, so deep. -/
def Ok3 : Nat → Tr → Prop
  | 0, t => t.s.size ≤ 12
  | n + 1, t => t.s.size ≤ 12 ∧ ∀ X ∈ t.k, X.length ≤ 3 ∧ ∀ y ∈ X, Ok3 n y

theorem Ok3.size {n : Nat} {t : Tr} (h : Ok3 n t) : t.s.size ≤ 12 := by
  cases n with
  | zero => exact h
  | succ n => exact h.1

theorem len_bind {α β : Type} (f : α → List β) (c : Nat) : ∀ X : List α, (∀ x ∈ X, (f x).length ≤ c) → (X.flatMap f).length ≤ X.length * c
  | [], _ => by simp
  | x :: X, h => by
    rw [List.flatMap_cons, List.length_append, List.length_cons, Nat.succ_mul]
    have h1 := h x (by simp)
    have h2 := len_bind f c X (fun y hy => h y (by simp [hy]))
    omega

theorem cells_ok3 : ∀ (W : List Stp) (n rr d r : Nat) (t : Tr), W.length ≤ n → Ok3 n t → (cellsV W rr d r t).length ≤ 3 ^ W.length ∧ ∀ x ∈ cellsV W rr d r t, x.t.s.size ≤ 12
  | [], n, rr, d, r, t, _, h => by
    rw [cellsV_nil]
    exact ⟨by simp, fun x hx => by rw [List.mem_singleton] at hx; subst hx; exact h.size⟩
  | (p, k) :: W, 0, rr, d, r, t, hl, h => by simp at hl
  | (p, k) :: W, n + 1, rr, d, r, t, hl, h => by
    have hl2 : W.length ≤ n := by simpa using hl
    have hpow : 3 ^ ((p, k) :: W).length = 3 * 3 ^ W.length := by rw [List.length_cons, Nat.pow_succ, Nat.mul_comm]
    have hp1 : 1 ≤ 3 ^ W.length := Nat.one_le_pow _ _ (by decide)
    cases hg : t.k.getD p [] with
    | nil =>
      rw [cellsV_none hg]
      exact ⟨by rw [hpow]; simp; omega, fun x hx => by rw [List.mem_singleton] at hx; subst hx; exact h.size⟩
    | cons x X =>
      rw [cellsV_some hg]
      have hm : (x :: X) ∈ t.k := by
        rw [← hg, List.getD]
        cases hq : t.k[p]? with
        | none => rw [List.getD, hq] at hg; cases hg
        | some y => exact List.mem_of_getElem? hq
      obtain ⟨h3, h4⟩ := h.2 _ hm
      obtain ⟨a1, a2⟩ := cells_ok3 W n (if k = 2 then rr + 1 else rr) (if k = 0 then d else d + 1) r x hl2 (h4 x (by simp))
      have hX : X.length ≤ 2 := by rw [List.length_cons] at h3; omega
      by_cases hk : k = 2
      · subst hk
        simp only [if_true] at a1 a2 ⊢
        have b1 := len_bind (fun y => cellsV W (rr + 1) (d + 1) (rr + 1) y) (3 ^ W.length) X (fun y hy => (cells_ok3 W n _ _ _ y hl2 (h4 y (by simp [hy]))).1)
        have b2 : X.length * 3 ^ W.length ≤ 2 * 3 ^ W.length := Nat.mul_le_mul_right _ hX
        refine ⟨by rw [List.length_append, hpow]; omega, fun z hz => ?_⟩
        rw [List.mem_append] at hz
        rcases hz with hz | hz
        · exact a2 z hz
        · obtain ⟨y, hy, hz⟩ := List.mem_flatMap.1 hz
          exact (cells_ok3 W n _ _ _ y hl2 (h4 y (by simp [hy]))).2 z hz
      · simp only [if_neg hk, List.append_nil] at a1 a2 ⊢
        exact ⟨by rw [hpow]; omega, a2⟩

theorem mkLs_all {f : Nat → Tr × Nat} {Q : Tr → Prop} (h : ∀ p, Q (f p).1) : ∀ j p, ∀ y ∈ (mkLs f j p).1, Q y
  | 0, p, y, hy => by simp [mkLs] at hy
  | j + 1, p, y, hy => by
    rw [mkLs, List.mem_append] at hy
    rcases hy with hy | hy
    · exact mkLs_all h j p y hy
    · rw [List.mem_singleton] at hy; subst hy; exact h _

theorem cntF_le (l : List F) (ns : List Int) (i p : Nat) : (cntF l ns i p).1 ≤ 3 := by
  unfold cntF
  split
  · simp only; omega
  · split
    · simp only; omega
    · simp

theorem fold_ok3 (l : List F) (ns : List Int) (f : Nat → Nat → Tr × Nat) (n : Nat) (hf : ∀ i p, Ok3 n (f i p).1) : ∀ (is : List Int) (s : List (List Tr) × Nat), (∀ X ∈ s.1, X.length ≤ 3 ∧ ∀ y ∈ X, Ok3 n y) → ∀ X ∈ (is.foldl (stepK l ns f) s).1, X.length ≤ 3 ∧ ∀ y ∈ X, Ok3 n y
  | [], s, h => h
  | i :: is, s, h => by
    rw [List.foldl_cons]
    refine fold_ok3 l ns f n hf is _ fun X hX => ?_
    unfold stepK at hX
    rw [List.mem_append] at hX
    rcases hX with hX | hX
    · exact h X hX
    · rw [List.mem_singleton] at hX
      subst hX
      exact ⟨by rw [mkLs_len]; exact cntF_le l ns _ _, mkLs_all (fun p => hf _ p) _ _⟩

theorem mkT_ok3 (l : List F) (ns : List Int) : ∀ n d f p, Ok3 n (mkT l ns d f p).1
  | n, 0, f, p => by
    rw [mkT]
    cases n with
    | zero => show (0 : Nat) ≤ 12; omega
    | succ n => exact ⟨by show (0 : Nat) ≤ 12; omega, fun X hX => by cases hX⟩
  | n, d + 1, f, p => by
    have leaf : ∀ (m : Int) (s : ByteArray), s.size ≤ 12 → Ok3 n (.mk m s []) := fun m s hs => by
      cases n with
      | zero => exact hs
      | succ n => exact ⟨hs, fun X hX => by cases hX⟩
    rw [mkT]
    split
    · exact leaf _ _ (by decide)
    · split
      · exact leaf _ _ (by decide)
      · split
        · exact leaf _ _ (by decide)
        · split
          · refine leaf _ _ ?_
            rw [ByteArray.size_extract]
            have : abc.size = 12 := by decide
            omega
          · cases n with
            | zero => show (0 : Nat) ≤ 12; omega
            | succ n =>
              refine ⟨by show (0 : Nat) ≤ 12; omega, ?_⟩
              exact fold_ok3 l ns (mkT l ns d) n (fun i p => mkT_ok3 l ns n d i p) _ _ (fun X hX => by cases hX)

theorem mk8_ok3 (l : List F) (ns : List Int) (n : Nat) : Ok3 n (mk8 l ns) := mkT_ok3 l ns n _ _ _

/-- A way is no longer than its field lies deep. -/
theorem way_depth (l : List F) : ∀ n, n ≤ l.length → ∀ j, j < n → ((((wayTo l n).getD j []).length : Nat) : Int) ≤ (depths l).getD j 0
  | 0, _, j, hj => by omega
  | n + 1, hn, j, hj => by
    by_cases e : j < n
    · have h := way_depth l n (by omega) j e
      rw [wayTo, List.getD, List.getElem?_append_left (by rw [wayTo_len]; exact e), ← List.getD]
      exact h
    · have ej : j = n := by omega
      subst ej
      have hd := dep_at l j (by omega)
      rw [wayTo, List.getD, List.getElem?_append_right (by rw [wayTo_len]; exact Nat.le_refl _), wayTo_len, Nat.sub_self]
      simp only [List.getElem?_cons_zero, Option.getD_some]
      obtain ⟨x, hx⟩ : ∃ x, (parents l)[j]? = some x := ⟨_, List.getElem?_eq_getElem (by rw [parents_length]; omega)⟩
      have hxd : (parents l).getD j 0 = x := by rw [List.getD, hx]; rfl
      rw [hxd] at hd ⊢
      rcases parents_lt hx with rfl | ⟨h0, hlt⟩
      · rw [if_pos rfl, hd]
        unfold cat
        rw [if_pos rfl]
        split <;> simp
      · rw [if_neg (by omega), hd]
        unfold cat
        rw [if_neg (by omega), if_pos (by omega)]
        have h := way_depth l j (by omega) x.toNat (by omega)
        rw [List.length_append, List.length_singleton]
        omega

theorem lways_short (ns : List Int) : ∀ W ∈ lways (mk ns), W.length ≤ 5 := by
  intro W hW
  unfold lways at hW
  obtain ⟨x, hx, rfl⟩ := List.mem_map.1 hW
  obtain ⟨k, hk, hxk⟩ := leaf_field hx
  have h1 := way_depth (mk ns) (mk ns).length (Nat.le_refl _) k hk
  have h2 := mk_depth ns k hk
  rw [hxk, Int.toNat_natCast]
  omega

/-- Records that law 8 makes have ways, short texts, few cells. -/
theorem made_cols (ns : List Int) (L0 : List Tr) (hL : ∀ t ∈ L0, ∃ rs, t = mk8 (mk ns) rs) (hm : L0.length ≤ 16) :
    faultT (mk ns) L0 = 0 ∧ ∀ W ∈ lways (mk ns), (∀ t ∈ L0, WayOk W t) ∧ (∀ x ∈ colC W L0, x.t.s.size ≤ 12) ∧ (colC W L0).length ≤ 4000 := by
  refine ⟨?_, fun W hW => ?_⟩
  · unfold faultT
    rw [mk_chk, fitL_zero fun t ht => by obtain ⟨rs, rfl⟩ := hL t ht; exact (mk8_fits rs (mk_chk ns)).1]
    rfl
  · have hs := lways_short ns W hW
    have hc : ∀ t ∈ L0, (cellsV W 0 0 0 t).length ≤ 243 ∧ ∀ x ∈ cellsV W 0 0 0 t, x.t.s.size ≤ 12 := fun t ht => by
      obtain ⟨rs, rfl⟩ := hL t ht
      obtain ⟨h1, h2⟩ := cells_ok3 W W.length 0 0 0 _ (Nat.le_refl _) (mk8_ok3 (mk ns) rs W.length)
      exact ⟨Nat.le_trans h1 (Nat.le_trans (Nat.pow_le_pow_right (by decide) hs) (by decide)), h2⟩
    refine ⟨fun t ht => ?_, fun x hx => ?_, ?_⟩
    · obtain ⟨rs, rfl⟩ := hL t ht
      obtain ⟨r0, fo, m1, m2, m3, m4, m5⟩ := mk_wf ns
      have hr : ∀ f ∈ fo.flat, 0 ≤ f.r ∧ f.r ≤ 2 := fun f hf => by
        obtain ⟨j, hj⟩ := List.mem_iff_getElem?.1 (show f ∈ mk ns by rw [m1]; simp [hf])
        have := (mk_fields ns j f hj).1
        omega
      obtain ⟨hv, ht⟩ := mk8_fits rs (mk_chk ns)
      obtain ⟨-, hk0, hHK⟩ := hasK_root m1 m2 m3 m4
      have hg0 : ((mk ns).getD 0 default).k = 0 := by rw [m1]; exact m2
      rw [fitV_group hg0, hk0] at hv
      split at hv
      · contradiction
      rename_i h7
      rw [tops_len] at h7
      have h8 : (mk8 (mk ns) rs).k.length = fo.num := Decidable.byContradiction fun e => h7 (.inr (.inr e))
      have hF := fitF_of (mk ns) fo 1 (mk8 (mk ns) rs).k hHK m4 hv h8
      rw [lways_root m1 m2 m3 m4] at hW
      exact lwF_ok fo 0 (mk8 (mk ns) rs) _ m4 hr (List.drop_zero) hF W hW
    · unfold colC at hx
      obtain ⟨t, ht, hx⟩ := List.mem_flatMap.1 hx
      exact (hc t ht).2 x hx
    · have := len_bind (fun t => cellsV W 0 0 0 t) 243 L0 (fun t ht => (hc t ht).1)
      unfold colC
      have h2 : L0.length * 243 ≤ 16 * 243 := Nat.mul_le_mul_right _ hm
      omega

/-- shred.Columns of such records. -/
theorem columns_made (sv lv : Value) (ns : List Int) (L0 : List Tr) (d : Nat) (w : World) (hS : SeenF w sv (mk ns)) (hL : ListAt w d L0 lv) (hLm : ∀ t ∈ L0, ∃ rs, t = mk8 (mk ns) rs) (hm : L0.length ≤ 16) :
    Calls Try.prog 31 #[sv, lv] w fun e w' => ∃ gc R, e = .returned (.tuple #[.slice (some ⟨gc, 0, none⟩) (leavesL (mk ns)).length (leavesL (mk ns)).length, .int .i64 0]) ∧ Chg [] w w' ∧ CJ (leavesL (mk ns)) (lways (mk ns)) L0 w w' gc (leavesL (mk ns)).length (leavesL (mk ns)).length R := by
  obtain ⟨h1, h2⟩ := made_cols ns L0 hLm hm
  have hmk := mk_ok ns
  have hr : ∀ f ∈ mk ns, f.r = 0 ∨ f.r = 1 ∨ f.r = 2 := fun f hf => by
    obtain ⟨j, hj⟩ := List.mem_iff_getElem?.1 hf
    have := (mk_fields ns j f hj).1
    omega
  exact columns_ok sv lv (mk ns) L0 d w hS hL hmk.pos (by have := hmk.le; omega) (fun f hf => by have := hmk.c f hf; omega) (fun f hf => by have := hmk.n f hf; omega) hr h1 (by omega) _ _ rfl rfl (fun W hW => ⟨(h2 W hW).1, fun x hx => Nat.le_trans ((h2 W hW).2.1 x hx) (by decide)⟩) (fun W hW => (h2 W hW).2.2)

end Go.Proofs.Ytfdmbpfpdijpdaa
