/- Facts of trees that are turned: how many values there are. -/
import Derived.Test.YthhcnlmjcpkbnaaYl
import Derived.Test.YthhcnlmjcpkbnaaYg
import Derived.Test.YthhcnlmjcpkbnaaA4
namespace Go.Proofs.Ythhcnlmjcpkbnaa
open Go.RowKit
set_option linter.unusedVariables false

theorem szL_app : ∀ (a b : List Tr), szL (a ++ b) = szL a + szL b
  | [], b => by rw [List.nil_append, szL, Nat.zero_add]
  | t :: a, b => by rw [List.cons_append, szL, szL, szL_app a b, Nat.add_assoc]

theorem szK_app : ∀ (a b : List (List Tr)), szK (a ++ b) = szK a + szK b
  | [], b => by rw [List.nil_append, szK, Nat.zero_add]
  | t :: a, b => by rw [List.cons_append, szK, szK, szK_app a b, Nat.add_assoc]

theorem szL_set : ∀ {l : List Tr} {j : Nat} {t : Tr} (u : Tr), l[j]? = some t → szL (l.set j u) + szT t = szL l + szT u
  | [], j, t, u, h => by simp at h
  | x :: l, 0, t, u, h => by simp at h; subst h; rw [List.set_cons_zero, szL, szL]; omega
  | x :: l, j + 1, t, u, h => by rw [List.getElem?_cons_succ] at h; have := szL_set u h; rw [List.set_cons_succ, szL, szL]; omega

theorem szK_set : ∀ {k : List (List Tr)} {j : Nat} {t : List Tr} (u : List Tr), k[j]? = some t → szK (k.set j u) + szL t = szK k + szL u
  | [], j, t, u, h => by simp at h
  | x :: l, 0, t, u, h => by simp at h; subst h; rw [List.set_cons_zero, szK, szK]; omega
  | x :: l, j + 1, t, u, h => by rw [List.getElem?_cons_succ] at h; have := szK_set u h; rw [List.set_cons_succ, szK, szK]; omega

/-- The tree that is nothing. -/
def tz0 : Tr := .mk 0 ByteArray.empty []
theorem szT_tz0 : szT tz0 = 1 := by rw [szT_eq]; rfl
theorem szL_rep : ∀ n, szL (List.replicate n tz0) = n
  | 0 => by rw [List.replicate_zero, szL]
  | n + 1 => by rw [List.replicate_succ, szL, szL_rep n, szT_tz0]; omega

theorem encR_flat (R : List (List Tr × Value)) : R.flatMap encR = R.map (·.2) := by
  induction R with
  | nil => rfl
  | cons p r ih => simp [encR, ih]

theorem encR_set (R : List (List Tr × Value)) (i : Nat) (x : List Tr × Value) : (R.set i x).flatMap encR = (R.flatMap encR).set i x.2 := by
  rw [encR_flat, encR_flat, List.map_set]

/-- A list of lists in the call's own memory: its pieces apart. -/
def Own (P : Nat → Prop) (w : World) (B D n : Nat) (v : Value) (k : List (List Tr)) : Prop :=
  ∃ R : List (List Tr × Value), R.map (·.1) = k ∧ R.length = n ∧ w.ownsRow B 55 1 v n (R.flatMap encR) ∧ ∀ p ∈ R, ListIn P w D p.1 p.2

theorem Own.kids {P : Nat → Prop} {w : World} {B D n : Nat} {v : Value} {k : List (List Tr)} (h : Own P w B D n v k) (hB : ∀ g, B ≤ g → P g) : KidsIn P w (D + 1) k v := by
  obtain ⟨R, rfl, h2, h3, h4⟩ := h
  exact kidsIn_own h3 h2 hB h4

theorem encT_set : ∀ (E : List (Tr × Value)) (j : Nat) (x : Tr × Value), (E.set j x).flatMap encT = (((E.flatMap encT).set (j * 3) (.int .i64 x.1.n)).set (j * 3 + 1) (.string x.1.s)).set (j * 3 + 2) x.2
  | [], j, x => by simp
  | y :: E, 0, x => by simp [encT]
  | y :: E, j + 1, x => by
    rw [List.set_cons_succ, List.flatMap_cons, List.flatMap_cons, encT_set E j x, Nat.succ_mul]
    simp [encT]

/-- No more lists than a thousand, down to a depth. -/
def Slim : Nat → Tr → Prop
  | 0, _ => True
  | d + 1, t => t.k.length ≤ 1000 ∧ ∀ x ∈ t.k, ∀ u ∈ x, Slim d u

theorem szL_len : ∀ (l : List Tr), l.length ≤ szL l
  | [] => Nat.zero_le _
  | t :: l => by have := szL_len l; rw [szL, szT_eq]; simp; omega
theorem szL_mem : ∀ {l : List Tr} {t : Tr}, t ∈ l → szT t ≤ szL l
  | [], _, h => by simp at h
  | x :: l, t, h => by
    rw [szL]
    rcases List.mem_cons.1 h with rfl | h
    · omega
    · have := szL_mem h; omega
theorem szK_mem : ∀ {k : List (List Tr)} {x : List Tr}, x ∈ k → szL x ≤ szK k
  | [], _, h => by simp at h
  | y :: l, t, h => by
    rw [szK]
    rcases List.mem_cons.1 h with rfl | h
    · omega
    · have := szK_mem h; omega

/-- What turn answers: a tree, not much greater. -/
def TnO (X : List Nat) (d : Nat) (t : Tr) (e : Ending) (w' : World) : Prop := ∃ U kv, e = .returned (tv U.n U.s kv) ∧ KidsIn (fun g => g ∉ X) w' (d + 1) U.k kv ∧ szT U ≤ szT t + 51

/-- The law's turn. -/
def TurnAt (d : Nat) : Prop := ∀ (X : List Nat) (t : Tr) (kv av : Value) (ats : List Int) (i wh n : Int) (s : ByteArray) (w : World), KidsIn (fun g => g ∉ X) w d t.k kv → Slim d t → szT t ≤ 1000000 → (∀ g ∈ X, g < w.heap.size) → SeenI w av ats → (∀ x ∈ ats, (Lit.int .i64 x).wf = true) → 0 ≤ i → i ≤ 6 → (wh % ((6 : Nat) : Int)).toNat < 3 → (Lit.int .i64 wh).wf = true → (Lit.int .i64 n).wf = true →
  Calls Try.prog 38 #[tv t.n t.s kv, av, .int .i64 i, .int .i64 wh, .int .i64 n, .string s] w fun e w' => TnO X d t e w' ∧ Chg [] w w'

theorem info_list2 : ∃ i, Try.prog.info? 55 = some i ∧ i.zero = some (.slice none 0 0) ∧ i.size = 1 ∧ i.bytes = 24 :=
  info_parts (show (Try.prog.info? 55).map (fun i => (i.zero, i.size, i.bytes)) = some (some (.slice none 0 0), 1, 24) by kernel_rfl)

end Go.Proofs.Ythhcnlmjcpkbnaa
