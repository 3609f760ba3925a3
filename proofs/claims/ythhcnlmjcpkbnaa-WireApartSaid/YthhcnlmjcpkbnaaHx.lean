/- Made records fit, told by the forest: what is written of them, and how long that is. -/
import Derived.Test.YthhcnlmjcpkbnaaHw
import Derived.Test.YthhcnlmjcpkbnaaYy
import Derived.Test.YthhcnlmjcpkbnaaYq
namespace Go.Proofs.Ythhcnlmjcpkbnaa
open Go.RowKit
set_option linter.unusedVariables false
set_option linter.unusedSimpArgs false

/-- Numbers of a tree are numbers, down to a depth. -/
def NId : Nat → Tr → Prop
  | 0, _ => True
  | D + 1, t => (-9223372036854775808 ≤ t.n ∧ t.n ≤ 9223372036854775807) ∧ ∀ x ∈ t.k, ∀ u ∈ x, NId D u

theorem mkLs_mem (f : Nat → Tr × Nat) : ∀ (j p : Nat), ∀ u ∈ (mkLs f j p).1, ∃ q, u = (f q).1
  | 0, p, u, hu => by simp [mkLs] at hu
  | j + 1, p, u, hu => by
    rw [mkLs] at hu
    rcases List.mem_append.1 hu with hu | hu
    · exact mkLs_mem f j p u hu
    · simp at hu; exact ⟨_, hu⟩

theorem stepK_mem (l : List F) (ns : List Int) (f : Nat → Nat → Tr × Nat) : ∀ (is : List Int) (s : List (List Tr) × Nat), (∀ x ∈ s.1, ∀ u ∈ x, ∃ i q, u = (f i q).1) → ∀ x ∈ (is.foldl (stepK l ns f) s).1, ∀ u ∈ x, ∃ i q, u = (f i q).1
  | [], s, h => h
  | i :: is, s, h => by
    rw [List.foldl_cons]
    refine stepK_mem l ns f is _ fun x hx u hu => ?_
    rcases List.mem_append.1 hx with hx | hx
    · exact h x hx u hu
    · simp at hx
      subst hx
      obtain ⟨q, hq⟩ := mkLs_mem _ _ _ u hu
      exact ⟨_, q, hq⟩

theorem nx_range {ns : List Int} (h : ∀ x ∈ ns, (Lit.int .i64 x).wf = true) (p : Nat) : -9223372036854775808 ≤ (nx ns p).1 ∧ (nx ns p).1 ≤ 9223372036854775807 := by
  unfold nx
  split
  · rename_i hp
    show -9223372036854775808 ≤ ns.getD p 0 ∧ ns.getD p 0 ≤ 9223372036854775807
    rw [List.getD, List.getElem?_eq_getElem hp]
    exact wf_i64 (h _ (List.getElem_mem hp))
  · show (-9223372036854775808 : Int) ≤ 0 ∧ (0 : Int) ≤ 9223372036854775807
    omega

theorem mkT_nid (l : List F) (ns : List Int) (h : ∀ x ∈ ns, (Lit.int .i64 x).wf = true) : ∀ (d f p D : Nat), NId D (mkT l ns d f p).1
  | d, f, p, 0 => trivial
  | 0, f, p, D + 1 => by
    rw [mkT]
    show ((-9223372036854775808 : Int) ≤ 0 ∧ (0 : Int) ≤ 9223372036854775807) ∧ ∀ x ∈ ([] : List (List Tr)), ∀ u ∈ x, NId D u
    exact ⟨by omega, by simp⟩
  | d + 1, f, p, D + 1 => by
    have hr := nx_range h p
    rw [mkT]
    split
    · exact ⟨by simp only [Tr.n_mk]; omega, by simp⟩
    · split
      · exact ⟨by simp only [Tr.n_mk]; omega, by simp⟩
      · split
        · exact ⟨by simp only [Tr.n_mk]; omega, by simp⟩
        · split
          · exact ⟨by simp only [Tr.n_mk]; omega, by simp⟩
          · refine ⟨by simp only [Tr.n_mk]; omega, fun x hx u hu => ?_⟩
            simp only [Tr.k_mk] at hx
            obtain ⟨i, q, rfl⟩ := stepK_mem l ns (mkT l ns d) _ _ (by simp) x hx u hu
            exact mkT_nid l ns h d i q D

theorem okF_of : ∀ (fo : Fo) (ks : List (List Tr)), fitF fo ks → (∀ x ∈ ks, ∀ u ∈ x, ∀ D, NId D u) → okF fo ks
  | .nil, ks, hf, _ => hf
  | .leaf f t, ks, hf, hn => by
    cases ks with
    | nil => exact hf.elim
    | cons l r =>
      obtain ⟨f1, f2, f3⟩ := hf
      refine ⟨fun x hx => ⟨(hn l (by simp) x hx 1).1, ?_⟩, okF_of t r f3 fun x hx => hn x (by simp [hx])⟩
      have h := f2 x hx
      unfold leafE at h
      split at h
      · contradiction
      · split at h
        · contradiction
        · split at h
          · contradiction
          · omega
  | .group f k t, ks, hf, hn => by
    cases ks with
    | nil => exact hf.elim
    | cons l r =>
      obtain ⟨f1, f2, f3⟩ := hf
      exact ⟨fun x hx => okF_of k x.k (f2 x hx).2.2 fun y hy u hu D => (hn l (by simp) x hx (D + 1)).2 y hy u hu, okF_of t r f3 fun x hx => hn x (by simp [hx])⟩

/-- How long what is written is. -/
theorem wLeaf_len (k : Int) (t : Tr) (h : leafE k t = 0) : (wLeaf k t).length ≤ 110 := by
  have hs : t.s.size ≤ 100 := by
    unfold leafE at h
    split at h
    · contradiction
    · split at h
      · contradiction
      · split at h
        · contradiction
        · omega
  unfold wLeaf
  split
  · rw [lw_len]; omega
  · split
    · rw [lw_len]; omega
    · split
      · rw [lw_len]; omega
      · rw [List.length_append, bl_length]
        have := (vb_len64 (v := t.s.size) (by omega)).2
        omega

theorem flat_len (w : Tr → List Nat) : ∀ (l : List Tr), (∀ x ∈ l, (w x).length ≤ 600 * szT x) → (l.flatMap w).length ≤ 600 * szL l
  | [], _ => by simp [szL]
  | x :: l, h => by
    have h1 := h x (by simp)
    have h2 := flat_len w l fun y hy => h y (by simp [hy])
    rw [List.flatMap_cons, List.length_append, szL]
    omega

theorem wField_len (r : Int) (w : Tr → List Nat) (l : List Tr) (hl : l.length < 18446744073709551616) (h : ∀ x ∈ l, (w x).length ≤ 600 * szT x) : (wField r w l).length ≤ 10 + 600 * szL l := by
  have h1 := flat_len w l h
  unfold wField
  rw [List.length_append]
  split
  · rw [lw_len]; omega
  · split
    · have := (vb_len64 (v := l.length) hl).2
      omega
    · rw [List.length_nil]; omega

theorem times_le {r : Int} {m : Nat} (hr : 0 ≤ r ∧ r ≤ 2) (h : timesE r m = 0) : m ≤ 50 := by
  have hc : r = 0 ∨ r = 1 ∨ r = 2 := by omega
  unfold timesE at h
  rcases hc with rfl | rfl | rfl
  · rw [if_pos rfl] at h
    exact Decidable.byContradiction fun e => by rw [if_neg (by omega)] at h; cases h
  · rw [if_neg (by decide), if_pos rfl] at h
    exact Decidable.byContradiction fun e => by rw [if_neg (by omega)] at h; cases h
  · rw [if_neg (by decide), if_neg (by decide), if_pos rfl] at h
    exact Decidable.byContradiction fun e => by rw [if_neg (by omega)] at h; cases h

theorem wF_len : ∀ (fo : Fo) (ks : List (List Tr)), fo.wf → fitF fo ks → fo.flat.length ≤ 40 → (∀ f ∈ fo.flat, 0 ≤ f.r ∧ f.r ≤ 2) → (wF fo ks).length ≤ 10 * fo.num + 600 * szK ks
  | .nil, ks, _, _, _, _ => by simp [wF]
  | .leaf f t, ks, ⟨w1, w2, w3⟩, hf, hn, hr => by
    cases ks with
    | nil => exact hf.elim
    | cons l r =>
      obtain ⟨f1, f2, f3⟩ := hf
      have hl := times_le (hr f (by simp [Fo.flat])) f1
      have h1 := wField_len f.r (wLeaf f.k) l (by omega) fun x hx => by have := wLeaf_len f.k x (f2 x hx); rw [szT_eq]; omega
      have h2 := wF_len t r w3 f3 (by simp [Fo.flat] at hn; omega) fun g hg => hr g (by simp [Fo.flat, hg])
      rw [show wF (.leaf f t) (l :: r) = wField f.r (wLeaf f.k) l ++ wF t r from rfl, List.length_append, szK, Fo.num]
      omega
  | .group f k t, ks, ⟨w1, w2, w3, w4⟩, hf, hn, hr => by
    cases ks with
    | nil => exact hf.elim
    | cons l r =>
      obtain ⟨f1, f2, f3⟩ := hf
      simp only [Fo.flat, List.length_cons, List.length_append] at hn
      have hl := times_le (hr f (by simp [Fo.flat])) f1
      have hk := k.num_le
      have h1 := wField_len f.r (fun x => wF k x.k) l (by omega) fun x hx => by
        have := wF_len k x.k w3 (f2 x hx).2.2 (by omega) fun g hg => hr g (by simp [Fo.flat, hg])
        rw [szT_eq]
        show (wF k x.k).length ≤ _
        omega
      have h2 := wF_len t r w4 f3 (by omega) fun g hg => hr g (by simp [Fo.flat, hg])
      rw [show wF (.group f k t) (l :: r) = wField f.r (fun x => wF k x.k) l ++ wF t r from rfl, List.length_append, szK, Fo.num]
      omega

/-- All that bytes_any and parse_any9 want of a made record. -/
theorem made_fits (ns rs : List Int) (h : ∀ x ∈ rs, (Lit.int .i64 x).wf = true) (r0 : F) (fo : Fo) (m1 : mk ns = r0 :: fo.flat) (m2 : r0.k = 0) (m3 : r0.c = fo.num) (m4 : fo.wf) : (∀ f ∈ fo.flat, 0 ≤ f.r ∧ f.r ≤ 2) ∧
    (mk8 (mk ns) rs).n = 0 ∧ (mk8 (mk ns) rs).s = ByteArray.empty ∧ fitF fo (mk8 (mk ns) rs).k ∧ okF fo (mk8 (mk ns) rs).k ∧ fitsT (mk ns) (mk8 (mk ns) rs) = 0 ∧ (wF fo (mk8 (mk ns) rs).k).length ≤ 60000000 := by
  have hr : ∀ f ∈ fo.flat, 0 ≤ f.r ∧ f.r ≤ 2 := fun f hf => by
    obtain ⟨j, hj⟩ := List.mem_iff_getElem?.1 (show f ∈ mk ns by rw [m1]; simp [hf])
    have := (mk_fields ns j f hj).1
    omega
  obtain ⟨hv, ht⟩ := mk8_fits rs (mk_chk ns)
  obtain ⟨-, hk0, hHK⟩ := hasK_root m1 m2 m3 m4
  have hg0 : ((mk ns).getD 0 default).k = 0 := by rw [m1]; exact m2
  have hln := (mk_ok ns).le
  have hlp := (mk_ok ns).pos
  have hsz := mk8_sz rs (chk_good (mk_chk ns)) hlp hln
  have hnid : ∀ D, NId D (mk8 (mk ns) rs) := fun D => mkT_nid (mk ns) rs h _ _ _ D
  have hfl : fo.flat.length ≤ 40 := by rw [m1] at hln; simp at hln; omega
  obtain ⟨T, hT⟩ : ∃ T, T = mk8 (mk ns) rs := ⟨_, rfl⟩
  rw [← hT] at hv ht hsz hnid ⊢
  rw [fitV_group hg0, hk0] at hv
  split at hv
  · contradiction
  rename_i h7
  rw [tops_len] at h7
  have h8 : T.n = 0 ∧ T.s = ByteArray.empty ∧ T.k.length = fo.num := by
    refine ⟨?_, ?_, ?_⟩
    · exact Decidable.byContradiction fun e => h7 (.inl e)
    · exact Classical.byContradiction fun e => h7 (.inr (.inl e))
    · exact Decidable.byContradiction fun e => h7 (.inr (.inr e))
  have hF := fitF_of (mk ns) fo 1 T.k hHK m4 hv h8.2.2
  have hO := okF_of fo T.k hF fun x hx u hu D => (hnid (D + 1)).2 x hx u hu
  have hL := wF_len fo T.k m4 hF hfl hr
  have hnum := fo.num_le
  rw [szT_eq] at hsz
  exact ⟨hr, h8.1, h8.2.1, hF, hO, ht, by omega⟩

end Go.Proofs.Ythhcnlmjcpkbnaa
