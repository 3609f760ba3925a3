/- The statements' helpers of stage 8: known; trees laid at once. -/
import Derived.Test.YtkbfbiklnjldgaaYB
import Derived.Test.YtkbfbiklnjldgaaW8
namespace Go.Proofs.Ytkbfbiklnjldgaa
open Go.RowKit
set_option linter.unusedVariables false

theorem fits_mk (sv kv : Value) (l : List F) (n : Int) (s : ByteArray) (K : List (List Tr)) (d : Nat) (w : World) (hS : SeenF w sv l) (hT : KidsAt w d K kv) (hw : ∀ f ∈ l, f.c ≤ 9223372036854775807) (hn : ∀ f ∈ l, f.n.size ≤ 1000) :
    Calls Try.prog 17 #[sv, tv n s kv] w fun e w' => e = .returned (.int .i64 (fitsT l (.mk n s K))) ∧ Chg [] w w' := fits_any sv kv l (.mk n s K) d w hS hT hw hn

/-- A row of lists in a block. -/
theorem kidsAt_lit {w : World} {g d n : Nat} {T : TypeId} {C : Array Value} {fr : Nat × Nat} (hb : w.heap[g]? = some (.cells C T fr)) (R : List (List Tr × Value)) (hC : C.toList = R.map (·.2)) (hn : R.length = n) (hm : n ≤ maxLen) (h : ∀ p ∈ R, ListAt w d p.1 p.2) : KidsAt w (d + 1) (R.map (·.1)) (.slice (some ⟨g, 0, none⟩) n n) :=
  kidsAt_succ.2 ⟨R, rfl, SeenK.lit encR_len hb R n (by rw [hC]; clear h hn hC; induction R with | nil => rfl | cons p r ih => simp [encR, ih]) hn hm, h⟩

/-- A row of trees in a block. -/
theorem listAt_lit {w : World} {g d n : Nat} {T : TypeId} {C : Array Value} {fr : Nat × Nat} (hb : w.heap[g]? = some (.cells C T fr)) (E : List (Tr × Value)) (hC : C.toList = E.flatMap encT) (hn : E.length = n) (hm : n ≤ maxLen) (h : ∀ p ∈ E, KidsAt w d p.1.k p.2) : ListAt w d (E.map (·.1)) (.slice (some ⟨g, 0, none⟩) n n) :=
  ⟨E, rfl, SeenK.lit encT_len hb E n hC hn hm, h⟩

theorem kids_nil {w : World} {d : Nat} : KidsAt w (d + 1) [] nilS := kidsAt_nil ⟨none, 0, rfl, by decide⟩
theorem list_nil {w : World} {d : Nat} : ListAt w d [] nilS := listAt_nil ⟨none, 0, rfl, by decide⟩

/-- The empty text, as the walk writes it. -/
abbrev eS : ByteArray := { data := #[] }
theorem eS_eq : ByteArray.empty = eS := rfl

def bm8 : ByteArray := { data := #[109] }
def ba8 : ByteArray := { data := #[97] }
def bb8 : ByteArray := { data := #[98] }

def kl8 : List F := [⟨bm8, 0, 0, 1⟩, ⟨ba8, 1, 1, 0⟩]
set_option maxRecDepth 100000 in
theorem kl8_fits : fitsT kl8 (.mk 0 ByteArray.empty [[]]) = 0 ∧ fitsT kl8 (.mk 0 ByteArray.empty []) = 13 := by decide +kernel

theorem orE_zero (a : Int) : orE a 0 = a := by unfold orE; split <;> simp_all

theorem fitL_zero {l : List F} {f : Nat} : ∀ {x : List Tr}, (∀ t ∈ x, fitV l f t = 0) → fitL l f x = 0
  | [], _ => by rw [fitL]
  | t :: r, h => by
    rw [fitL, h t (by simp), fitL_zero fun u hu => h u (by simp [hu])]
    rfl

theorem fit_one {l : List F} (h0 : (l.getD 0 default).k = 0) (hk : kidsU (parents l) l.length 0 = [1]) (x : List Tr) : fitV l 0 (.mk 0 ByteArray.empty [x]) = listE l 1 x := by
  rw [fitV_group h0, hk]
  have e : ¬ ((Tr.mk 0 ByteArray.empty [x]).n ≠ 0 ∨ (Tr.mk 0 ByteArray.empty [x]).s ≠ ByteArray.empty ∨ (Tr.mk 0 ByteArray.empty [x]).k.length ≠ [(1 : Int)].length) := by simp
  rw [if_neg e, Tr.k_mk, fitG, fitG]
  simp [listE, orE_zero]

theorem fit_two {l : List F} (h0 : (l.getD 0 default).k = 0) (hk : kidsU (parents l) l.length 0 = [1, 2]) (x y : List Tr) : fitV l 0 (.mk 0 ByteArray.empty [x, y]) = orE (listE l 1 x) (listE l 2 y) := by
  rw [fitV_group h0, hk]
  have e : ¬ ((Tr.mk 0 ByteArray.empty [x, y]).n ≠ 0 ∨ (Tr.mk 0 ByteArray.empty [x, y]).s ≠ ByteArray.empty ∨ (Tr.mk 0 ByteArray.empty [x, y]).k.length ≠ [(1 : Int), 2].length) := by simp
  rw [if_neg e, Tr.k_mk, fitG, fitG, fitG]
  simp [listE, orE_zero]

end Go.Proofs.Ytkbfbiklnjldgaa
