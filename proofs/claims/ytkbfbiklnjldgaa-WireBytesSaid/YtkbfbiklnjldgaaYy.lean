/- A record of raw numbers is one of its schema. -/
import Derived.Test.YtkbfbiklnjldgaaYx
import Derived.Test.YtkbfbiklnjldgaaYC
namespace Go.Proofs.Ytkbfbiklnjldgaa
open Go.RowKit
set_option linter.unusedVariables false

theorem orE_both {a b : Int} (h : orE a b = 0) : a = 0 ∧ b = 0 := by
  unfold orE at h
  split at h
  · rename_i hne; exact absurd h hne
  · rename_i hne; exact ⟨Classical.not_not.1 hne, h⟩

theorem fitL_app (l : List F) (f : Nat) (a b : List Tr) : fitL l f (a ++ b) = orE (fitL l f a) (fitL l f b) := by
  induction a with
  | nil => rw [List.nil_append, fitL]; rfl
  | cons t a ih =>
    rw [List.cons_append, fitL, fitL, ih]
    unfold orE
    split <;> rfl

theorem mkLs_fit (l : List F) (i : Nat) {f : Nat → Tr × Nat} (h : ∀ p, fitV l i (f p).1 = 0) : ∀ j p, fitL l i (mkLs f j p).1 = 0
  | 0, _ => by rw [mkLs, fitL]
  | j + 1, p => by
    rw [mkLs, fitL_app, mkLs_fit l i h j p, fitL, fitL, h]
    rfl

theorem fitG_snoc (l : List F) (i : Int) (y : List Tr) : ∀ (a : List Int) (x : List (List Tr)), a.length = x.length → fitG l a x = 0 → fitG l (a ++ [i]) (x ++ [y]) = listE l i.toNat y
  | [], [], _, _ => by
    rw [List.nil_append, List.nil_append, fitG, fitG]
    show orE (orE (timesE (l.getD i.toNat default).r y.length) (fitL l i.toNat y)) 0 = listE l i.toNat y
    unfold listE orE
    split <;> simp_all
  | [], _ :: _, h, _ => by simp at h
  | _ :: _, [], h, _ => by simp at h
  | j :: a, x :: xs, h, h0 => by
    rw [fitG] at h0
    rw [List.cons_append, List.cons_append, fitG]
    have h1 : orE (timesE (l.getD j.toNat default).r x.length) (fitL l j.toNat x) = 0 ∧ fitG l a xs = 0 := by
      have e : orE (orE (timesE (l.getD j.toNat default).r x.length) (fitL l j.toNat x)) (fitG l a xs) = 0 := h0
      exact orE_both e
    have ih := fitG_snoc l i y a xs (by simpa using h) h1.2
    show orE (orE (timesE (l.getD j.toNat default).r x.length) (fitL l j.toNat x)) (fitG l (a ++ [i]) (xs ++ [y])) = _
    rw [h1.1, ih]
    rfl

theorem cntF_fit {l : List F} (ns : List Int) {i : Nat} (p : Nat) (hr : (l.getD i default).r = 0 ∨ (l.getD i default).r = 1 ∨ (l.getD i default).r = 2) : timesE (l.getD i default).r (cntF l ns i p).1 = 0 := by
  rcases hr with h | h | h
  · have e : (cntF l ns i p).1 = 1 := by unfold cntF; rw [h, if_neg (by omega), if_neg (by omega)]
    rw [h, e]; rfl
  · have e : (cntF l ns i p).1 = ((nx ns p).1 % 2).toNat := by unfold cntF; rw [h, if_pos rfl]
    rw [h, e]
    unfold timesE
    rw [if_neg (by omega), if_pos rfl, if_pos (by omega)]
  · have e : (cntF l ns i p).1 = ((nx ns p).1 % 4).toNat := by unfold cntF; rw [h, if_neg (by omega), if_pos rfl]
    rw [h, e]
    unfold timesE
    rw [if_neg (by omega), if_neg (by omega), if_pos rfl, if_pos (by omega)]

theorem fold_fit (l : List F) (ns : List Int) (f : Nat → Nat → Tr × Nat) : ∀ (is pre : List Int) (s : List (List Tr) × Nat), pre.length = s.1.length → fitG l pre s.1 = 0 → (∀ i ∈ is, ((l.getD i.toNat default).r = 0 ∨ (l.getD i.toNat default).r = 1 ∨ (l.getD i.toNat default).r = 2) ∧ ∀ p, fitV l i.toNat (f i.toNat p).1 = 0) → fitG l (pre ++ is) (is.foldl (stepK l ns f) s).1 = 0
  | [], pre, s, _, h0, _ => by rw [List.append_nil]; exact h0
  | i :: is, pre, s, hl, h0, h => by
    rw [List.foldl_cons, show pre ++ i :: is = (pre ++ [i]) ++ is by simp]
    refine fold_fit l ns f is (pre ++ [i]) (stepK l ns f s i) (by simp [stepK, hl]) ?_ fun k hk => h k (by simp [hk])
    have h1 := h i (by simp)
    show fitG l (pre ++ [i]) (s.1 ++ [(mkLs (f i.toNat) (cntF l ns i.toNat s.2).1 (cntF l ns i.toNat s.2).2).1]) = 0
    rw [fitG_snoc l i _ pre s.1 hl h0]
    unfold listE
    rw [mkLs_len, cntF_fit ns s.2 h1.1, mkLs_fit l i.toNat h1.2]
    rfl

theorem mkT_fit (l : List F) (ns : List Int) (hok : FitOk l) (hkn : ∀ f, f < l.length → 0 ≤ (l.getD f default).k ∧ (l.getD f default).k ≤ 4) : ∀ d f p, f < l.length → l.length ≤ d + f → fitV l f (mkT l ns d f p).1 = 0
  | 0, f, p, h1, h2 => absurd h1 (by omega)
  | d + 1, f, p, h1, h2 => by
    have hk := hkn f h1
    rw [mkT]
    by_cases k1 : (l.getD f default).k = 1
    · rw [if_pos k1, fitV_leaf (by omega), k1]
      show leafE 1 (.mk ((nx ns p).1 % 2) ByteArray.empty []) = 0
      unfold leafE
      have ho : overB 1 ((nx ns p).1 % 2) = false := by unfold overB; rw [decide_eq_false_iff_not]; omega
      simp [ho]
    rw [if_neg k1]
    by_cases k2 : (l.getD f default).k = 2
    · rw [if_pos k2, fitV_leaf (by omega), k2]
      show leafE 2 (.mk ((nx ns p).1 % 300 - 100) ByteArray.empty []) = 0
      unfold leafE
      have ho : overB 2 ((nx ns p).1 % 300 - 100) = false := by unfold overB; rw [decide_eq_false_iff_not]; omega
      simp [ho]
    rw [if_neg k2]
    by_cases k3 : (l.getD f default).k = 3
    · rw [if_pos k3, fitV_leaf (by omega), k3]
      show leafE 3 (.mk (nx ns p).1 ByteArray.empty []) = 0
      unfold leafE
      have ho : overB 3 (nx ns p).1 = false := by unfold overB; rw [decide_eq_false_iff_not]; omega
      simp [ho]
    rw [if_neg k3]
    by_cases k4 : (l.getD f default).k = 4
    · rw [if_pos k4, fitV_leaf (by omega), k4]
      show leafE 4 (.mk 0 (abc.extract 0 ((nx ns p).1 % 9).toNat) []) = 0
      unfold leafE
      have ho : overB 4 0 = false := by decide
      have hz : ¬ 100 < (abc.extract 0 ((nx ns p).1 % 9).toNat).size := by
        have h3 : (abc.extract 0 ((nx ns p).1 % 9).toNat).size ≤ abc.size := by rw [ByteArray.size_extract]; omega
        have h4 : abc.size = 12 := by decide
        omega
      rw [if_neg (by simp), if_neg (by show ¬ overB 4 0 = true; rw [ho]; decide), if_neg (by show ¬ 100 < (abc.extract 0 ((nx ns p).1 % 9).toNat).size; exact hz)]
    rw [if_neg k4]
    have k0 : (l.getD f default).k = 0 := by omega
    rw [fitV_group k0]
    show (if (0 : Int) ≠ 0 ∨ ByteArray.empty ≠ ByteArray.empty ∨ (kidsTo l ns (mkT l ns d) f l.length (nx ns p).2).1.length ≠ (kidsU (parents l) l.length f).length then 13 else fitG l (kidsU (parents l) l.length f) (kidsTo l ns (mkT l ns d) f l.length (nx ns p).2).1) = 0
    have hlen : (kidsTo l ns (mkT l ns d) f l.length (nx ns p).2).1.length = (kidsU (parents l) l.length f).length := by
      unfold kidsTo
      rw [stepK_len]
      simp
    rw [if_neg (by
      rintro (h | h | h)
      · exact h rfl
      · exact h rfl
      · exact h hlen)]
    unfold kidsTo
    have h := fold_fit l ns (mkT l ns d) (kidsU (parents l) l.length f) [] ([], (nx ns p).2) rfl (by rw [fitG]) fun i hi => by
      obtain ⟨j, rfl, q1, q2⟩ := kidsU_mem.1 hi
      rw [Int.toNat_natCast]
      have hx : (parents l)[j]? = some (f : Int) := by rw [← q2, List.getD, List.getElem?_eq_getElem (by rw [parents_length]; exact q1)]; rfl
      have := parents_lt hx
      exact ⟨hok.r j q1, fun p => mkT_fit l ns hok hkn d j p q1 (by omega)⟩
    rw [List.nil_append] at h
    exact h

/-- A record of raw numbers is one of its schema. -/
theorem mk8_fits {l : List F} (ns : List Int) (h : chk l = 0) : fitV l 0 (mk8 l ns) = 0 ∧ fitsT l (mk8 l ns) = 0 := by
  have hl := chk_len h
  have hg := chk_good h
  have hkn : ∀ f, f < l.length → 0 ≤ (l.getD f default).k ∧ (l.getD f default).k ≤ 4 := by
    intro f hf
    have h1 := hg f hf
    unfold faultN at h1
    split at h1
    · cases h1
    · split at h1
      · cases h1
      · split at h1
        · cases h1
        · split at h1
          · cases h1
          · rename_i h2
            have hx : knownB (l.getD f default) = true := by cases hx : knownB (l.getD f default) <;> simp_all
            unfold knownB at hx
            simp only [Bool.and_eq_true, decide_eq_true_iff] at hx
            omega
  have h1 : fitV l 0 (mk8 l ns) = 0 := mkT_fit l ns (chk_fit h) hkn l.length 0 0 (by omega) (by omega)
  refine ⟨h1, ?_⟩
  unfold fitsT
  rw [h, h1]
  rfl

end Go.Proofs.Ytkbfbiklnjldgaa
