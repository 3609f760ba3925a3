/- A range over a function, by the blocks that its rounds write: the law of the statement. -/
import Derived.Test.YtfdmbpfpdijpdaaA1
import Derived.RangeFuncNested
import Derived.RangeFuncBound
import Derived.RangeFuncCalls
import Derived.OwnWalkIn
import Derived.TacticsInMore
import Derived.LoopNIn
import Derived.LoopIn
namespace Go.Proofs.Ytfdmbpfpdijpdaa
open Go.RowKit
set_option linter.unusedVariables false
set_option linter.unusedSimpArgs false

/-- How a round may end. -/
def RoundQ {β : Type} (I : List β → List Nat → World → Prop) (Ix : List Nat → World → Prop) (pre : List β) (x : β) (S : List Nat) (lo : Nat) (A : World) : Exit → Act → World → Prop
  | .normal, _, B => ∃ S', I (pre ++ [x]) S' B ∧ Chg S A B ∧ ∀ k ∈ S', k ∈ S ∨ lo ≤ k
  | .ret, _, B => ∃ S', Ix S' B ∧ Chg S A B ∧ ∀ k ∈ S', k ∈ S ∨ lo ≤ k
  | _, _, _ => False

/-- What an iterator asks of its rounds: J speaks of the blocks S. -/
structure RoundsG {β : Type} (P : Program) (l : Nat) (Rd : List β → Array Value → β → World → Prop) (J : List β → List Nat → World → Prop) (Jx : World → Prop) : Prop where
  keep : ∀ pre S A B T, J pre S A → Chg T A B → (∀ t ∈ T, t ∉ S) → J pre S B
  at' : ∀ pre S A, J pre S A → ∀ k ∈ S, k < A.heap.size
  yield : ∀ pre S args x A, J pre S A → Rd pre args x A → YieldAt Fence.wide 0 P l args A fun e B =>
      (e = .returned (.bool true) ∧ ∃ S', J (pre ++ [x]) S' B ∧ Chg S A B ∧ ∀ k ∈ S', k ∈ S ∨ A.heap.size ≤ k) ∨ (e = .returned (.bool false) ∧ Jx B ∧ Chg S A B)

theorem Chg.putObj {S : List Nat} {a w : World} (h : Chg S a w) {l : Nat} (hl : l ∈ S ∨ a.heap.size ≤ l) (o : Obj) : Chg S a (w.putObj l o) :=
  h.trans (T := [l]) ⟨rfl, rfl, rfl, by simp, fun k _ hk => World.putObj_heap_other (by simpa using hk)⟩ (by simpa using hl)

theorem wp_rangeS {P : Program} {β : Type} {g : Operand} {ps : Array Tmp} {assign body : Code} {Q : Exit → Act → World → Prop} {a : Act} {w : World} {gf : Nat} {lb : Array Value}
    (w00 : World) (h00 : w00.heap.size ≤ w.heap.size) (hg : a.eval g = .func (.func gf) #[] lb) (eg : ∀ args w, (callFunc gf args).run P w = .ok (.enter gf args) w)
    (Rd : List β → Array Value → β → World → Prop) (I : List β → List Nat → World → Prop) (Ix : List Nat → World → Prop) (TOT : List β) (S0 : List Nat)
    (hIk : ∀ pre S A B T, I pre S A → Chg T A B → (∀ t ∈ T, t ∉ S) → I pre S B) (hXk : ∀ S A B T, Ix S A → Chg T A B → (∀ t ∈ T, t ∉ S) → Ix S B)
    (hIa : ∀ pre S A, I pre S A → ∀ k ∈ S, k < A.heap.size) (h0 : I [] S0 w) (hps : ∀ pre args x A, Rd pre args x A → args.size = ps.size)
    (hit : ∀ (l : Nat) (W : World) (J : List β → List Nat → World → Prop) (Jx : World → Prop) (S : List Nat), Chg [] w W → RoundsG P l Rd J Jx → J [] S W → (∀ k ∈ S, k ∈ S0 ∨ w.heap.size ≤ k) →
      Calls P gf (#[.func (.yield l) #[] #[]] ++ lb) W fun e B => (∃ v, e = .returned v) ∧ Chg [] w00 B ∧ ((∃ S, J TOT S B) ∨ Jx B))
    (hround : ∀ (l : Nat) (pre : List β) (S : List Nat) (args : Array Value) (x : β) (A : World), I pre S A → Rd pre args x A → l ∉ S → l < A.heap.size →
      assign.wpIn (Fence.wide.inRound l) 0 P (Exit.then (fun a1 A1 => Chg [] A A1 ∧ ∀ A2, Chg [l] A1 A2 → A2.heap.size = A1.heap.size → body.wpIn (Fence.wide.inRound l) 0 P (RoundQ I Ix pre x S A.heap.size A2) a1 A2) (fun _ _ _ => False))
        { tmps := (ps.zip args).foldl (fun t (p, v) => t.setIfInBounds p v) a.tmps, defers := [] } A)
    (hdone : ∀ (D : Nat) (S : List Nat) (A : World), I TOT S A → Chg [] w00 A → A.heap[D]? = some (.deferred (some [])) → D ∉ S → w.heap.size ≤ D → Q .normal { a with defers := { target := .collected D, args := #[] } :: a.defers } A)
    (hstop : ∀ (D : Nat) (S : List Nat) (A : World), Ix S A → Chg [] w00 A → A.heap[D]? = some (.deferred (some [])) → D ∉ S → w.heap.size ≤ D → Q .ret { a with defers := { target := .collected D, args := #[] } :: a.defers } A) :
    (Code.rangeFunc g ps assign body).wp P Q a w := by
  refine (wpIn_wide (n := 1)).1 (wpIn_rangeFunc ?_)
  intro fn hfn
  obtain ⟨rec, hrec⟩ : ∃ rec : LoopState → Option Code → Loop, rec = fun st pe => { state := st, pending := pe, fn, tmps := a.tmps, params := ps, assign, body, defers := w.heap.size } := ⟨_, rfl⟩
  obtain ⟨W1, hW1⟩ : ∃ W1, (w.alloc (.deferred (some []))).alloc (.loop (rec .ready none)) = W1 := ⟨_, rfl⟩
  have hL1 : W1.heap[w.heap.size + 1]? = some (.loop (rec .ready none)) := by
    rw [← hW1]; have := World.alloc_heap_new (w.alloc (.deferred (some []))) (.loop (rec .ready none)); rwa [World.size_alloc] at this
  have hK1 : W1.heap[w.heap.size]? = some (.deferred (some [])) := by
    rw [← hW1]; exact (Below.heap_alloc _ _ _ (by simp)).trans (World.alloc_heap_new w _)
  have hc1 : Chg [] w W1 := by rw [← hW1]; exact ((Chg.refl [] w).alloc _).alloc _
  have hS0 : ∀ k ∈ S0, k < w.heap.size := hIa _ _ _ h0
  refine ⟨w.heap.size + 1, [{ target := .collected w.heap.size, args := #[] }], W1, { target := .fn (.func gf) lb, args := #[.func (.yield (w.heap.size + 1)) #[] #[]] }, W1, gf,
    #[.func (.yield (w.heap.size + 1)) #[] #[]] ++ lb, W1, ?_, ?_, fun _ _ => trivial, ?_, fun _ => Nat.le_refl _, ?_⟩
  · rw [← hW1, hrec]; exact run_enterLoop_outer _ _ _ _ _
  · simp only [resolve, hg]
    simp [go_sem]
  · simp [invoke, go_sem, eg]
  · refine callsIn_wide.2 ((hit (w.heap.size + 1) W1
      (fun pre S A => ∃ S1, S = (w.heap.size + 1) :: w.heap.size :: S1 ∧ I pre S1 A ∧ A.heap[w.heap.size + 1]? = some (.loop (rec .ready none)) ∧ A.heap[w.heap.size]? = some (.deferred (some [])) ∧ w.heap.size + 1 ∉ S1 ∧ w.heap.size ∉ S1)
      (fun A => ∃ S1, Ix S1 A ∧ A.heap[w.heap.size + 1]? = some (.loop (rec .done (some .ret))) ∧ A.heap[w.heap.size]? = some (.deferred (some [])) ∧ w.heap.size + 1 ∉ S1 ∧ w.heap.size ∉ S1)
      ((w.heap.size + 1) :: w.heap.size :: S0) hc1 ⟨?_, ?_, ?_⟩ ⟨S0, rfl, hIk _ _ _ _ _ h0 hc1 (by simp), hL1, hK1, fun h => by have := hS0 _ h; omega, fun h => by have := hS0 _ h; omega⟩ ?_).mono ?_)
    · rintro pre S A B T ⟨S1, rfl, h1, h2, h3, h4, h5⟩ hc hT
      have hl : w.heap.size + 1 ∉ T := fun h => hT _ h (by simp)
      have hd : w.heap.size ∉ T := fun h => hT _ h (by simp)
      exact ⟨S1, rfl, hIk _ _ _ _ _ h1 hc (fun t ht hs => hT t ht (by simp [hs])), hc.heap h2 hl, hc.heap h3 hd, h4, h5⟩
    · rintro pre S A ⟨S1, rfl, h1, h2, h3, h4, h5⟩ k hk
      rcases List.mem_cons.1 hk with rfl | hk
      · exact Go.lt_of_block h2
      · rcases List.mem_cons.1 hk with rfl | hk
        · exact Go.lt_of_block h3
        · exact hIa _ _ _ h1 k hk
    · rintro pre S args x A ⟨S1, rfl, h1, h2, h3, h4, h5⟩ hR
      have hlt : w.heap.size + 1 < A.heap.size := Go.lt_of_block h2
      have hy := run_yield (P := P) (args := args) h2 (by rw [hrec]; exact hps _ _ _ _ hR)
      rw [hrec] at hy
      refine ⟨fn, _, assign, body, hy, roundIn_of_wpIn trivial (wpIn_mono (hround (w.heap.size + 1) pre S1 args x A h1 hR h4 hlt) ?_)⟩
      rintro e a1 A1 hp
      cases e with
      | normal =>
        obtain ⟨hA1, hb⟩ := hp
        have g2 := hA1.heap h2 (by simp)
        have g3 := hA1.heap h3 (by simp)
        refine ⟨_, run_beginRound g2 (by rw [hrec]), ?_⟩
        have hA2 : Chg [w.heap.size + 1] A1 (A1.putObj (w.heap.size + 1) (.loop { rec .ready none with state := .busy })) := (Chg.refl _ A1).putObj (.inl (by simp)) _
        have q2 : (A1.putObj (w.heap.size + 1) (.loop { rec .ready none with state := .busy })).heap[w.heap.size + 1]? = some (.loop { rec .ready none with state := .busy }) := World.putObj_heap_same (Go.lt_of_block g2)
        have q3 := hA2.heap g3 (by simp)
        refine wpIn_mono (hb _ hA2 (by simp)) ?_
        rintro e a3 A3 hq
        have hcA : Chg ((w.heap.size + 1) :: w.heap.size :: S1) A (A1.putObj (w.heap.size + 1) (.loop { rec .ready none with state := .busy })) := (hA1.mono (by simp)).trans hA2 (by simp)
        have fin : ∀ (jump : Option Code) (S' : List Nat), Chg S1 (A1.putObj (w.heap.size + 1) (.loop { rec .ready none with state := .busy })) A3 → (∀ k ∈ S', k ∈ S1 ∨ A.heap.size ≤ k) →
            (Instr.endRound (w.heap.size + 1) jump).run P A3 = .ok (.bool jump.isNone) (A3.putObj (w.heap.size + 1) (.loop (rec (if jump.isNone then .ready else .done) jump))) ∧
            (A3.putObj (w.heap.size + 1) (.loop (rec (if jump.isNone then .ready else .done) jump))).heap[w.heap.size + 1]? = some (.loop (rec (if jump.isNone then .ready else .done) jump)) ∧
            (A3.putObj (w.heap.size + 1) (.loop (rec (if jump.isNone then .ready else .done) jump))).heap[w.heap.size]? = some (.deferred (some [])) ∧ w.heap.size + 1 ∉ S' ∧ w.heap.size ∉ S' ∧
            Chg ((w.heap.size + 1) :: w.heap.size :: S1) A (A3.putObj (w.heap.size + 1) (.loop (rec (if jump.isNone then .ready else .done) jump))) := fun jump S' hc3 hS' => by
          have hl3 := hc3.heap q2 h4
          have := run_endRound (P := P) jump hl3
          refine ⟨?_, World.putObj_heap_same (Go.lt_of_block hl3), (World.putObj_heap_other (by omega)).trans (hc3.heap q3 h5), fun h => ?_, fun h => ?_, (hcA.trans hc3 (fun t ht => .inl (by simp [ht]))).putObj (.inl (by simp)) _⟩
          · rw [hrec] at this ⊢
            exact this
          · rcases hS' _ h with h6 | h6
            · exact h4 h6
            · omega
          · rcases hS' _ h with h6 | h6
            · exact h5 h6
            · omega
        cases e with
        | normal =>
          obtain ⟨S', hi, hc3, hS'⟩ := hq
          obtain ⟨r1, r2, r3, r4, r5, r6⟩ := fin none S' hc3 hS'
          refine ⟨_, _, r1, .inl ⟨rfl, (w.heap.size + 1) :: w.heap.size :: S', ⟨S', rfl, hIk _ _ _ _ _ hi ((Chg.refl [w.heap.size + 1] A3).putObj (.inl (by simp)) _) (by simpa using r4), r2, r3, r4, r5⟩, r6, fun k hk => ?_⟩⟩
          rcases List.mem_cons.1 hk with rfl | hk
          · exact .inl (by simp)
          · rcases List.mem_cons.1 hk with rfl | hk
            · exact .inl (by simp)
            · rcases hS' k hk with h6 | h6
              · exact .inl (by simp [h6])
              · exact .inr h6
        | ret =>
          obtain ⟨S', hi, hc3, hS'⟩ := hq
          obtain ⟨r1, r2, r3, r4, r5, r6⟩ := fin (some .ret) S' hc3 hS'
          exact ⟨_, _, r1, .inr ⟨rfl, ⟨S', hXk _ _ _ _ hi ((Chg.refl [w.heap.size + 1] A3).putObj (.inl (by simp)) _) (by simpa using r4), r2, r3, r4, r5⟩, r6⟩⟩
        | exit id => exact hq.elim
        | goto t => exact hq.elim
        | panic ch => exact hq.elim
        | outgrown => exact hq.elim
      | ret => exact hp.elim
      | exit id => exact hp.elim
      | goto t => exact hp.elim
      | panic ch => exact hp.elim
      | outgrown => exact hp.elim
    · intro k hk
      rcases List.mem_cons.1 hk with rfl | hk
      · exact .inr (by omega)
      · rcases List.mem_cons.1 hk with rfl | hk
        · exact .inr (Nat.le_refl _)
        · exact .inl hk
    · rintro e B ⟨⟨v, rfl⟩, hcB, (⟨S, S1, rfl, hi, hl, hk, n1, n2⟩ | ⟨S1, hi, hl, hk, n1, n2⟩)⟩
      · refine ⟨none, _, by have := run_endLoop (P := P) hl (by rw [hrec]; simp); rw [hrec] at this; exact this, hdone _ S1 _ (hIk _ _ _ _ _ hi ((Chg.refl [w.heap.size + 1] B).putObj (.inl (by simp)) _) (by simpa using n1)) (hcB.putObj (.inr (by omega)) _) ((World.putObj_heap_other (by omega)).trans hk) n2 (Nat.le_refl _)⟩
      · refine ⟨some .ret, _, by have := run_endLoop (P := P) hl (by rw [hrec]; simp); rw [hrec] at this; exact this, wpIn_ret (hstop _ S1 _ (hXk _ _ _ _ hi ((Chg.refl [w.heap.size + 1] B).putObj (.inl (by simp)) _) (by simpa using n1)) (hcB.putObj (.inr (by omega)) _) ((World.putObj_heap_other (by omega)).trans hk) n2 (Nat.le_refl _))⟩

end Go.Proofs.Ytfdmbpfpdijpdaa
