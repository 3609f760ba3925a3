/- Rows of integers and of values that grow side by side, each in a block of its own; append of a whole row that somebody owns. -/
import Derived.Test.YtfdmbpfpdijpdaaA1
import Derived.Test.YtfdmbpfpdijpdaaA5
namespace Go.Proofs.Ytfdmbpfpdijpdaa
open Go.RowKit
set_option linter.unusedVariables false
set_option linter.unusedSimpArgs false

/-- What a row holds. -/
inductive Rw where
  | i (l : List Int)
  | v (l : List V)

def OwnR (w : World) (B : Nat) (x : Value) : Rw → Prop
  | .i l => w.ownsRow B 3 1 x l.length (iv l)
  | .v l => w.ownsRow B 44 2 x l.length (l.flatMap V.cs)

abbrev nil0 : Value := .slice none 0 0

theorem OwnR.nil (w : World) (B : Nat) (r : Rw) (h : r = .i [] ∨ r = .v []) : OwnR w B nil0 r := by
  rcases h with rfl | rfl
  · exact ⟨rfl, .inl ⟨rfl, rfl⟩⟩
  · exact ⟨rfl, .inl ⟨rfl, rfl⟩⟩

theorem OwnR.lt {w : World} {B : Nat} {x : Value} {r : Rw} (h : OwnR w B x r) : ∀ g, x.ownBlock = some g → B ≤ g ∧ g < w.heap.size := by
  cases r with
  | i l => exact fun g hg => ⟨own_ge h g hg, own_lt h g hg⟩
  | v l => exact fun g hg => ⟨own_ge h g hg, own_lt h g hg⟩

theorem OwnR.chg {w w' : World} {S : List Nat} {B : Nat} {x : Value} {r : Rw} (h : OwnR w B x r) (hc : Chg S w w') (hS : ∀ g, x.ownBlock = some g → g ∉ S) : OwnR w' B x r := by
  cases r with
  | i l => exact own_chg h hc hS
  | v l => exact own_chg h hc hS

/-- M rows: F the slices, X what they hold. -/
structure GR (w : World) (B M : Nat) (F : Nat → Value) (X : Nat → Rw) : Prop where
  own : ∀ p, p < M → OwnR w B (F p) (X p)
  sep : ∀ p q, p < M → q < M → p ≠ q → Sep (F p) (F q)

theorem GR.nils (w : World) (B M : Nat) (X : Nat → Rw) (h : ∀ p, X p = .i [] ∨ X p = .v []) : GR w B M (fun _ => nil0) X :=
  ⟨fun p hp => OwnR.nil w B _ (h p), fun p q hp hq hne => Sep.nil _⟩

theorem GR.chg {w w' : World} {S : List Nat} {B M : Nat} {F : Nat → Value} {X : Nat → Rw} (h : GR w B M F X) (hc : Chg S w w') (hS : ∀ p, p < M → ∀ g, (F p).ownBlock = some g → g ∉ S) : GR w' B M F X :=
  ⟨fun p hp => (h.own p hp).chg hc (hS p hp), h.sep⟩

theorem GR.keep {w w' : World} {B M : Nat} {F : Nat → Value} {X : Nat → Rw} (h : GR w B M F X) (hc : Chg [] w w') : GR w' B M F X := h.chg hc (by simp)

/-- Rows do not lie below B. -/
theorem GR.low {w w' : World} {S : List Nat} {B M : Nat} {F : Nat → Value} {X : Nat → Rw} (h : GR w B M F X) (hc : Chg S w w') (hS : ∀ k ∈ S, k < B) : GR w' B M F X :=
  h.chg hc fun p hp g hg hm => by have h1 := ((h.own p hp).lt g hg).1; have h2 := hS g hm; omega

/-- One row has grown. -/
theorem GR.step {w w' : World} {B M p : Nat} {F F' : Nat → Value} {X X' : Nat → Rw} {v' : Value} {x' : Rw} (h : GR w B M F X) (hp : p < M) (hg : w.grownBy w' (F p).ownBlock) (ho : OwnR w' B v' x')
    (hat : v'.ownBlock = (F p).ownBlock ∨ v'.ownBlock = some w.heap.size) (hF : ∀ q, F' q = if q = p then v' else F q) (hX : ∀ q, X' q = if q = p then x' else X q) : GR w' B M F' X' := by
  have hc : Chg (F p).ownBlock.toList w w' := (Chg.refl _ w).grown hg (fun k hk => .inl (by simp [← hk]))
  refine ⟨fun q hq => ?_, fun a b ha hb hne => ?_⟩
  · rw [hF, hX]
    by_cases e : q = p
    · rw [if_pos e, if_pos e]; exact ho
    · rw [if_neg e, if_neg e]
      exact (h.own q hq).chg hc (fun g hg hm => h.sep q p hq hp e g hg (by simpa using hm))
  · rw [hF, hF]
    by_cases e1 : a = p
    · rw [if_pos e1, if_neg (fun e2 => hne (e1.trans e2.symm))]
      refine Sep.grow (h.sep p b hp hb (fun e => hne (e1.trans e))) hat (fun g hg => ((h.own b hb).lt g hg).2)
    · rw [if_neg e1]
      by_cases e2 : b = p
      · rw [if_pos e2]
        exact (Sep.grow (h.sep p a hp ha (fun e => e1 e.symm)) hat (fun g hg => ((h.own a ha).lt g hg).2)).symm
      · rw [if_neg e2]; exact h.sep a b ha hb hne

/-- A block of another element type is none of these. -/
theorem GR.ne {w : World} {B M : Nat} {F : Nat → Value} {X : Nat → Rw} (h : GR w B M F X) {g : Nat} {C : Array Value} {T : TypeId} (hg : w.heap[g]? = some (.cells C T (0, 0))) (h1 : T ≠ 3) (h2 : T ≠ 44) : ∀ p, p < M → ∀ k, (F p).ownBlock = some k → k ∉ [g] := by
  intro p hp k hk hm
  simp at hm
  subst hm
  have ho := h.own p hp
  cases hX : X p with
  | i l => rw [hX] at ho; exact (tagged_of_own ho).ne hg (fun e => h1 e.symm) k hk rfl
  | v l => rw [hX] at ho; exact (tagged_of_own ho).ne hg (fun e => h2 e.symm) k hk rfl

/-! ### append of a whole row -/

theorem run_append_row {P : Program} (w : World) (base base2 : Nat) (t ty e : TypeId) (i : TypeInfo) (z : Value) (size bytes : Nat) (ht : P.underlying t = some (.slice e)) (hi : P.info? e = some i) (hz : i.zero = some z)
    (hsize : i.size = size) (hby : i.bytes = bytes) (hzs : z.cells.size = size) (hsz : 0 < size)
    (v : Value) (n : Nat) (xs : List Value) (hown : w.ownsRow base e size v n xs) (u : Value) (m : Nat) (news : List Value) (hu : w.ownsRow base2 e size u m news) (h1 : ∀ u ∈ news, u.oneCell' = true)
    (h63 : n + m ≤ maxLen) (hbytes : (n + m) * bytes ≤ 140737488355328) (hbase : base ≤ w.heap.size) :
    ∃ v' w', (Builtin.append_ #[t, t] ty #[v, u]).run P w = .ok v' w' ∧ w'.ownsRow base e size v' (n + m) (xs ++ news) ∧ w.grownBy w' v.ownBlock ∧ (v'.ownBlock = v.ownBlock ∨ v'.ownBlock = some w.heap.size) := by
  have hu0 := hu
  obtain ⟨hl, h2⟩ := hu
  rcases h2 with ⟨rfl, rfl⟩ | ⟨g, cap, cur, rfl, hb, hg, hc, hm, hs, hx⟩
  · have hn : news = [] := List.eq_nil_of_length_eq_zero (by omega)
    subst hn
    exact ⟨v, w, run_append_owned_none (P := P) (w := w) base t ty e i size ht hi v n xs hown, by simpa using hown, World.grownBy.refl _ _, .inl rfl⟩
  · obtain ⟨v', w', q1, q2, q3, -, q5⟩ := run_append_own_at (P := P) (w := w) base t ty e i z size bytes ht hi hz hsize hby hzs hsz v n xs hown ⟨g, 0, none⟩ m cap news hl (fun j x hj => by
      rw [addr_add, Nat.zero_add, cell_of_row w g _ _ _ _ hg]
      rw [← hx, List.getElem?_take] at hj
      split at hj
      · simpa using hj
      · cases hj) h1 h63 hbytes hbase
    exact ⟨v', w', q1, q2, q3, q5⟩

theorem wp_append_row {P : Program} (w : World) {o : Oper} {a : Act} {K : Act → World → Prop} {Q : Exit → Act → World → Prop} (s x : Operand) (t : TypeId)
    (ho : o.op = .call { callee := .builtin .append, args := #[s, x], argTypes := #[t, t] })
    (base base2 : Nat) (e : TypeId) (i : TypeInfo) (z : Value) (size bytes : Nat) (ht : P.underlying t = some (.slice e)) (hi : P.info? e = some i) (hz : i.zero = some z)
    (hsize : i.size = size) (hby : i.bytes = bytes) (hzs : z.cells.size = size) (hsz : 0 < size)
    (v : Value) (n : Nat) (xs : List Value) (hs : a.eval s = v) (hown : w.ownsRow base e size v n xs) (u : Value) (m : Nat) (news : List Value) (hx : a.eval x = u) (hu : w.ownsRow base2 e size u m news) (h1 : ∀ u ∈ news, u.oneCell' = true)
    (h63 : n + m ≤ maxLen) (hbytes : (n + m) * bytes ≤ 140737488355328) (hbase : base ≤ w.heap.size)
    (h : ∀ v' w', w'.ownsRow base e size v' (n + m) (xs ++ news) → w.grownBy w' v.ownBlock → (v'.ownBlock = v.ownBlock ∨ v'.ownBlock = some w.heap.size) → K (a.put o.dst v') w') : o.wp P a w K Q := by
  obtain ⟨v', w', hrun, h2, h3, h4⟩ := run_append_row (P := P) w base base2 t o.type e i z size bytes ht hi hz hsize hby hzs hsz v n xs hown u m news hu h1 h63 hbytes hbase
  unfold Oper.wp execOp
  simp only [ho, resolve, invoke, builtin, Sem.run_bind, Sem.run_pure, Result.andThen_ok, List.map_toArray, List.map_cons, List.map_nil, hs, hx, hrun]
  exact h v' w' h2 h3 h4

end Go.Proofs.Ytfdmbpfpdijpdaa
