/- The reference's Fits. -/
import Derived.Test.YtkbfbiklnjldgaaYw
import Derived.Test.YtkbfbiklnjldgaaQs
import Derived.Test.YtkbfbiklnjldgaaA5
import Derived.Test.YtkbfbiklnjldgaaA7
import Derived.Test.YtkbfbiklnjldgaaA2
namespace Go.Proofs.Ytkbfbiklnjldgaa
open Go.RowKit
set_option linter.unusedVariables false

theorem kidsU_count (ps : List Int) (g : Nat) : ∀ m, m ≤ ps.length → (kidsU ps m g).length = (ps.take m).count (g : Int)
  | 0, _ => rfl
  | m + 1, h => by
    have hx : ps[m]? = some (ps.getD m 0) := by rw [List.getD, List.getElem?_eq_getElem (by omega)]; rfl
    rw [kidsU_succ, List.take_add_one, List.count_append, hx, Option.toList_some]
    split
    · rename_i he
      rw [List.length_append, kidsU_count ps g m (by omega), he]
      simp
    · rename_i he
      have hb : (ps.getD m 0 == (g : Int)) = false := beq_false_of_ne he
      rw [kidsU_count ps g m (by omega), List.count_singleton, hb]
      rfl

theorem chk_fit {l : List F} (h : chk l = 0) : FitOk l := by
  have hl := chk_len h
  have hg := chk_good h
  have hk : ∀ f, f < l.length → knownB (l.getD f default) = true ∧ haveB (l.getD f default) = true := by
    intro f hf
    have h1 := hg f hf
    unfold faultN at h1
    split at h1
    · cases h1
    · split at h1
      · cases h1
      · split at h1
        · cases h1
        · split at h1
          · cases h1
          · rename_i h2
            split at h1
            · cases h1
            · rename_i h3
              exact ⟨by cases hx : knownB (l.getD f default) <;> simp_all, by cases hx : haveB (l.getD f default) <;> simp_all⟩
  have hla : lacksB l (parents l) = false := by
    unfold chk at h
    rw [if_neg (by omega)] at h
    split at h
    · rename_i h1; exact absurd h h1
    · split at h
      · cases h
      · rename_i h2; cases hx : lacksB l (parents l) <;> simp_all
  refine ⟨fun f hf hk0 => ?_, fun f hf => ?_, by omega⟩
  · have h1 := (hk f hf).2
    unfold haveB at h1
    rw [if_pos hk0, decide_eq_true_iff] at h1
    have h2 := parents_count l f
    have h3 : ¬ fewB l (parents l) f = true := by
      unfold lacksB at hla
      rw [List.any_eq_false] at hla
      exact hla f (by simpa using hf)
    unfold fewB at h3
    rw [decide_eq_true_iff] at h3
    have h4 : ((parents l).drop 1).count (f : Int) ≤ (parents l).count (f : Int) := (List.drop_sublist 1 _).count_le _
    have h5 := kidsU_count (parents l) f l.length (by rw [parents_length]; exact Nat.le_refl _)
    rw [List.take_of_length_le (by rw [parents_length]; exact Nat.le_refl _)] at h5
    omega
  · have h1 := (hk f hf).1
    unfold knownB at h1
    simp only [Bool.and_eq_true, decide_eq_true_iff] at h1
    omega

set_option maxRecDepth 100000 in
set_option maxHeartbeats 1000000 in
theorem rfitsTop_any (sv kv : Value) (l : List F) (t : Tr) (d : Nat) (w : World) (hS : SeenF w sv l) (hT : KidsAt w d t.k kv) (hl0 : 0 < l.length) (hok : FitOk l) (hw : ∀ f ∈ l, f.c ≤ 9223372036854775807) :
    Calls Try.prog 14 #[sv, tv t.n t.s kv] w fun e w' => e = .returned (.int .i64 (fitV l 0 t)) ∧ Chg [] w w' := by
  obtain ⟨ao, cap, rfl, hc1, hc2⟩ := hS.shape
  obtain ⟨ko, kcap, rfl, -, -⟩ := hT.shape
  have hn := hok.n
  obtain ⟨W0, hW0⟩ : ∃ W0, W0 = w.alloc (.cells #[.int .i64 t.n, .string t.s, .slice ko t.k.length kcap] 44) := ⟨_, rfl⟩
  obtain ⟨b, hb⟩ : ∃ b, b = w.heap.size := ⟨_, rfl⟩
  have hC0 : Chg [] w W0 := by rw [hW0]; exact (Chg.refl [] w).alloc _
  have HPR := Lib.hid (show W0.cell? ⟨b, 0, none⟩ = some (.int .i64 t.n) ∧ W0.cell? ⟨b, 1, none⟩ = some (.string t.s) ∧ W0.cell? ⟨b, 2, none⟩ = some (.slice ko t.k.length kcap) by rw [hW0, hb]; simp)
  have HRP := Lib.hid (fun W (hk : Chg [] w W) => rparents_any _ l W (hS.keep hk) (by omega) hw)
  have HRF := Lib.hid (fun (pv : Value) W (hk : Chg [] w W) (hp : SeenI W pv (parents l)) => rfits8_any l _ pv hok d 0 t _ W hl0 (hS.keep hk) hp (hT.keep hk))
  simp only [show ((0 : Nat) : Int) = 0 from rfl] at HRF
  have HC0 := Lib.hid hC0; have HW0 := Lib.hid hW0; have HB := Lib.hid hb
  obtain ⟨tn, htn⟩ : ∃ n, n = t.n := ⟨_, rfl⟩
  obtain ⟨ts, hts⟩ : ∃ s, s = t.s := ⟨_, rfl⟩
  obtain ⟨m, hm⟩ : ∃ m, m = t.k.length := ⟨_, rfl⟩
  obtain ⟨n, hnn⟩ : ∃ n, n = l.length := ⟨_, rfl⟩
  rw [← htn, ← hts, ← hm] at HRF HPR HW0 ⊢
  rw [← hnn] at HRF HRP ⊢
  clear hS hT hC0 hW0 hb htn hts hm hnn hn hc1
  go_enter Try.func14, Try.ntmps14
  go_upto_region 1 with fail
  rw [← HB.out, ← HW0.out]
  go_region_held3 (fun w' => w'.cell? ⟨b, 0, none⟩ = some (.int .i64 tn) ∧ w'.cell? ⟨b, 1, none⟩ = some (.string ts) ∧ w'.cell? ⟨b, 2, none⟩ = some (.slice ko m kcap)) (first | (exact HPR.out) | (exact HPR2.out) | (exact HPR3.out)) (first
    | (go_at_call 26; (with_reducible refine (HRP.out _ (by first | exact HC0.out | exact HC0.out.drew | exact HC0.out.drewN _)).mono ?_); rintro e wa ⟨pv, rfl, hpv, hka⟩; have HPV := Lib.hid hpv; have HCA := Lib.hid (show Chg [] w wa from by first | exact HC0.out.trans hka (by simp) | exact HC0.out.drew.trans hka (by simp) | exact (HC0.out.drewN _).trans hka (by simp)); have HPR2 := Lib.hid (show wa.cell? ⟨b, 0, none⟩ = some (.int .i64 tn) ∧ wa.cell? ⟨b, 1, none⟩ = some (.string ts) ∧ wa.cell? ⟨b, 2, none⟩ = some (.slice ko m kcap) from ⟨hka.cell HPR.out.1 (by simp), hka.cell HPR.out.2.1 (by simp), hka.cell HPR.out.2.2 (by simp)⟩); clear hpv hka)
    | (go_at_call 34; (with_reducible refine (HRF.out _ _ (by first | exact HCA.out | exact HCA.out.drew | exact HCA.out.drewN _) (by first | exact HPV.out | exact HPV.out.keep (Chg.refl [] _).drew | exact HPV.out.keep ((Chg.refl [] _).drewN _))).mono ?_); rintro e wb ⟨rfl, hkb⟩; have HCB := Lib.hid (show Chg [] w wb from by first | exact HCA.out.trans hkb (by simp) | exact HCA.out.drew.trans hkb (by simp) | exact (HCA.out.drewN _).trans hkb (by simp)); have HPR3 := Lib.hid (show wb.cell? ⟨b, 0, none⟩ = some (.int .i64 tn) ∧ wb.cell? ⟨b, 1, none⟩ = some (.string ts) ∧ wb.cell? ⟨b, 2, none⟩ = some (.slice ko m kcap) from ⟨hkb.cell HPR2.out.1 (by simp), hkb.cell HPR2.out.2.1 (by simp), hkb.cell HPR2.out.2.2 (by simp)⟩); clear hkb))
  go_wp2
  go_ret
  exact ⟨rfl, HCB.out⟩

end Go.Proofs.Ytkbfbiklnjldgaa
