/- A region that draws its order and writes what it has read: what is held of the world depends on which of two operations have come up. -/
import Derived.Test.YtfdmbpfpdijpdaaRgr
namespace Go.Proofs.Ytfdmbpfpdijpdaa
open Go.RowKit
set_option linter.unusedVariables false
set_option linter.unusedSimpArgs false

variable {P : Program} {md : Region.Mode} {ops : Array Oper} {Q : Exit → Act → World → Prop} {S : Bool → Bool → World → Prop} {f1 f2 : Nat}

/-- S, as it stands. -/
def SL (S : Bool → Bool → World → Prop) (f1 f2 : Nat) (listed : Array Bool) (w : World) : Prop := S (listed.getD f1 true) (listed.getD f2 true) w

def wpAnyL (P : Program) (md : Region.Mode) (ops : Array Oper) (Q : Exit → Act → World → Prop) (S : Bool → Bool → World → Prop) (f1 f2 : Nat) : Nat → Array Bool → Act → World → Prop
  | 0, listed, a, w => Region.ready md ops listed = [] ∧ Q .normal a w
  | fuel + 1, listed, a, w =>
    (Region.ready md ops listed = [] → Q .normal a w) ∧
    ∀ i ∈ Region.ready md ops listed, wpOp P ops Q i (fun a' w' => SL S f1 f2 (listed.setIfInBounds i true) w' ∧ wpAnyL P md ops Q S f1 f2 fuel (listed.setIfInBounds i true) a' w') a w

theorem wpAny_of_L : ∀ (fuel : Nat) (listed : Array Bool) (a : Act) (w : World), wpAnyL P md ops Q S f1 f2 fuel listed a w → wpAny P md ops Q fuel listed a w
  | 0, _, _, _, h => h
  | fuel + 1, _, _, _, h => ⟨h.1, fun i hi => wpOp_mono (fun a' w' h' => wpAny_of_L fuel _ a' w' h'.2) (h.2 i hi)⟩

/-- Which flags may stand while i has not come up: 'wait' says that both wait for i. -/
def okF2 (wait b1 b2 : Bool) : Prop := wait = true → b1 = false ∧ b2 = false

def waits (md : Region.Mode) (ops : Array Oper) (f i : Nat) : Bool := match ops[f]? with | some o => o.after.any fun e => Region.binds md e && e.on == i | none => false

theorem waits_spec {f i : Nat} {o : Oper} (h : waits md ops f i = true) (ho : ops[f]? = some o) : ∃ e ∈ o.after, Region.binds md e = true ∧ e.on = i := by
  unfold waits at h
  rw [ho] at h
  simp only [Array.any_eq_true] at h
  obtain ⟨k, hk, he⟩ := h
  simp at he
  exact ⟨_, Array.getElem_mem hk, he.1, he.2⟩

theorem wpAnyL_first {i : Nat} {oi : Oper} {v : Value} (wait : Bool) (hi : ops[i]? = some oi) (hsel : ∀ (j : Nat) (o : Oper) cs b, ops[j]? = some o → o.op ≠ .select cs b)
    (hQ : ∀ c a w, Q (.panic c) (a.put oi.dst v) w → Q (.panic c) a w) (hn1 : f1 ≠ i) (hn2 : f2 ≠ i) (hw : wait = true → waits md ops f1 i = true ∧ waits md ops f2 i = true) :
    ∀ (fuel : Nat) (listed : Array Bool) (a : Act) (w : World),
      (∀ j oj, ops[j]? = some oj → j ≠ i → listed.getD j true = false → (∀ e ∈ oj.after, Region.binds md e = true → e.on ≠ i) → oi.apart ops oj = true) →
      i ∈ Region.ready md ops listed → okF2 wait (listed.getD f1 true) (listed.getD f2 true) → YieldsIf P ops (fun w => ∃ b1 b2, okF2 wait b1 b2 ∧ S b1 b2 w) oi v a → SL S f1 f2 listed w →
      wpAnyL P md ops Q S f1 f2 fuel (listed.setIfInBounds i true) (a.put oi.dst v) w → wpAnyL P md ops Q S f1 f2 (fuel + 1) listed a w := by
  have hset : ∀ (listed : Array Bool) (w : World), SL S f1 f2 (listed.setIfInBounds i true) w ↔ SL S f1 f2 listed w := fun listed w => by
    unfold SL
    rw [getD_set_ne true (Ne.symm hn1), getD_set_ne true (Ne.symm hn2)]
  intro fuel
  induction fuel with
  | zero =>
    intro listed a w _ hr hok hy hS H
    refine ⟨fun h => (by rw [h] at hr; cases hr), fun j hj => ?_⟩
    by_cases hji : j = i
    · subst hji; exact hy.wpOp hi ⟨_, _, hok, hS⟩ ⟨(hset _ _).2 hS, H⟩
    · have := ready_mono hj hji
      rw [H.1] at this
      cases this
  | succ fuel ih =>
    intro listed a w hfree hr hok hy hS H
    refine ⟨fun h => (by rw [h] at hr; cases hr), fun j hj => ?_⟩
    by_cases hji : j = i
    · subst hji; exact hy.wpOp hi ⟨_, _, hok, hS⟩ ⟨(hset _ _).2 hS, H⟩
    · have h1 := H.2 j (ready_mono hj hji)
      obtain ⟨hjun, oj, hoj, hall⟩ := mem_ready.1 hj
      have hnot : ∀ e ∈ oj.after, Region.binds md e = true → e.on ≠ i := fun e he hb heq => by
        have h1 := hall e he hb
        have h0 := (mem_ready.1 hr).1
        rw [heq] at h1
        rcases Nat.lt_or_ge i listed.size with h' | h'
        · simp [h'] at h0 h1; rw [h0] at h1; cases h1
        · simp [Array.getElem?_eq_none h'] at h1
      have h2 := wpOp_putIf hoj (hfree j oj hoj hji hjun hnot) (fun cs b => hsel i oi cs b hi) (fun cs b => hsel j oj cs b hoj) hQ hy h1
      have hfree' : ∀ k ok, ops[k]? = some ok → k ≠ i → (listed.setIfInBounds j true).getD k true = false →
          (∀ e ∈ ok.after, Region.binds md e = true → e.on ≠ i) → oi.apart ops ok = true := fun k ok hk hki hun hno => by
        refine hfree k ok hk hki ?_ hno
        by_cases hjk : j = k
        · subst hjk; exact hjun
        · rw [getD_set_ne true hjk] at hun; exact hun
      have hok' : okF2 wait ((listed.setIfInBounds j true).getD f1 true) ((listed.setIfInBounds j true).getD f2 true) := fun hwt => by
        obtain ⟨w1, w2⟩ := hw hwt
        obtain ⟨o1, o2⟩ := hok hwt
        have n1 : j ≠ f1 := fun e => by
          subst e
          obtain ⟨x, hx1, hx2, hx3⟩ := waits_spec w1 hoj
          exact hnot x hx1 hx2 hx3
        have n2 : j ≠ f2 := fun e => by
          subst e
          obtain ⟨x, hx1, hx2, hx3⟩ := waits_spec w2 hoj
          exact hnot x hx1 hx2 hx3
        rw [getD_set_ne true n1, getD_set_ne true n2]
        exact ⟨o1, o2⟩
      refine wpOp_mono (fun a' w' h3 => ?_) h2
      have hS' : SL S f1 f2 (listed.setIfInBounds j true) w' := by
        have h4 := h3.2.1
        rw [Array.setIfInBounds_comm _ _ (Ne.symm hji)] at h4
        exact (hset _ _).1 h4
      refine ⟨hS', ih (listed.setIfInBounds j true) a' w' hfree' (ready_mono hr (Ne.symm hji)) hok' h3.1 hS' ?_⟩
      rw [Array.setIfInBounds_comm _ _ hji]
      exact h3.2.2

theorem wpAnyL_take {i : Nat} {oi : Oper} {v : Value} {fuel : Nat} {listed : Array Bool} {a : Act} {w : World} (wait : Bool) (hi : ops[i]? = some oi)
    (hc : (Region.noSelect ops && Region.free md ops listed i && (Region.ready md ops listed).contains i && (f1 != i) && (f2 != i) && (!wait || (waits md ops f1 i && waits md ops f2 i && !(listed.getD f1 true) && !(listed.getD f2 true)))) = true)
    (hQ : ∀ c a w, Q (.panic c) (a.put oi.dst v) w → Q (.panic c) a w) (hy : YieldsIf P ops (fun w => ∃ b1 b2, okF2 wait b1 b2 ∧ S b1 b2 w) oi v a) (hS : SL S f1 f2 listed w)
    (h : SL S f1 f2 (listed.setIfInBounds i true) w → wpAnyL P md ops Q S f1 f2 fuel (listed.setIfInBounds i true) (a.put oi.dst v) w) : wpAnyL P md ops Q S f1 f2 (fuel + 1) listed a w := by
  simp only [Bool.and_eq_true, Bool.or_eq_true, Bool.not_eq_true', bne_iff_ne] at hc
  obtain ⟨⟨⟨⟨⟨c1, c2⟩, c3⟩, c4⟩, c5⟩, c6⟩ := hc
  have hset : SL S f1 f2 (listed.setIfInBounds i true) w := by
    unfold SL
    rw [getD_set_ne true (Ne.symm c4), getD_set_ne true (Ne.symm c5)]
    exact hS
  refine wpAnyL_first wait hi (Region.noSelect_spec c1) hQ c4 c5 (fun hw => ?_) fuel listed a w (Region.free_spec hi c2) (by simpa using c3) (fun hw => ?_) hy hS (h hset)
  · rcases c6 with c6 | c6
    · rw [hw] at c6; cases c6
    · exact ⟨c6.1.1.1, c6.1.1.2⟩
  · rcases c6 with c6 | c6
    · rw [hw] at c6; cases c6
    · exact ⟨c6.1.2, c6.2⟩

/-- All that may come up now, one by one. -/
def AllReadyL (P : Program) (md : Region.Mode) (ops : Array Oper) (Q : Exit → Act → World → Prop) (S : Bool → Bool → World → Prop) (f1 f2 : Nat) (fuel : Nat) (listed : Array Bool) (a : Act) (w : World) (rs : List Nat) : Prop :=
  ∀ i ∈ rs, wpOp P ops Q i (fun a' w' => SL S f1 f2 (listed.setIfInBounds i true) w' ∧ wpAnyL P md ops Q S f1 f2 fuel (listed.setIfInBounds i true) a' w') a w

theorem AllReadyL.nil {fuel : Nat} {listed : Array Bool} {a : Act} {w : World} : AllReadyL P md ops Q S f1 f2 fuel listed a w [] := fun _ h => by cases h

theorem AllReadyL.cons {fuel : Nat} {listed : Array Bool} {a : Act} {w : World} {i : Nat} {o : Oper} {rs : List Nat} (ho : ops[i]? = some o)
    (h : ∀ K' : Act → World → Prop, Shut (∀ a w, SL S f1 f2 (listed.setIfInBounds i true) w → (SL S f1 f2 (listed.setIfInBounds i true) w → wpAnyL P md ops Q S f1 f2 fuel (listed.setIfInBounds i true) a w) → K' a w) → if Region.wanted o (yielded ops a.tmps) = true then Oper.wp P o a w K' Q else K' (a.put o.dst undef) w)
    (hs : AllReadyL P md ops Q S f1 f2 fuel listed a w rs) : AllReadyL P md ops Q S f1 f2 fuel listed a w (i :: rs) := fun j hj => by
  rcases List.mem_cons.1 hj with rfl | hj
  · exact wpOp_step ho (fun K' hK => h K' (fun a w hS hW => hK a w ⟨hS, hW hS⟩))
  · exact hs j hj

theorem wpAnyL_ready {rs : List Nat} {fuel : Nat} {listed : Array Bool} {a : Act} {w : World} (hr : Region.ready md ops listed = rs) (hne : rs ≠ [])
    (h : AllReadyL P md ops Q S f1 f2 fuel listed a w rs) : wpAnyL P md ops Q S f1 f2 (fuel + 1) listed a w := ⟨fun h0 => absurd (hr ▸ h0) hne, hr ▸ h⟩

theorem wpAnyL_done {listed : Array Bool} {a : Act} {w : World} (hr : Region.ready md ops listed = []) (h : Q .normal a w) :
    ∀ fuel, wpAnyL P md ops Q S f1 f2 fuel listed a w
  | 0 => ⟨hr, h⟩
  | _ + 1 => ⟨fun _ => h, by rw [hr]; simp⟩

theorem region_roundL {id n l : Nat} {a : Act} {w : World} (S : Bool → Bool → World → Prop) (f1 f2 : Nat) (hm : P.follows .mixedOrders = true) (hd : noDefer ops = true) (hQ : ¬ LetsOut Q)
    (h : wpAnyL P .any ops Q S f1 f2 ops.size (Array.replicate ops.size false) a w.drew) : (Code.region id ops true).wpIn (Fence.wide.inRound l) n P Q a w :=
  wpIn_region_any hm (anyIn_round hd hQ _ _ _ _ (wpAny_of_L _ _ _ _ h))

theorem region_L {id : Nat} {a : Act} {w : World} (S : Bool → Bool → World → Prop) (f1 f2 : Nat) (hm : P.follows .mixedOrders = true)
    (h : wpAnyL P .any ops Q S f1 f2 ops.size (Array.replicate ops.size false) a w.drew) : (Code.region id ops true).wp P Q a w :=
  wp_region_any hm (wpAny_of_L _ _ _ _ h)

end Go.Proofs.Ytfdmbpfpdijpdaa
