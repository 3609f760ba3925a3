/- Contracts of the small functions of schema: isKnown, isRoot, mayHave, isName, isTaken, the closures. -/
import Derived.Test.YtofnpcfclcfgfaaSc
namespace Go.Proofs.Ytofnpcfclcfgfaa
open Go.RowKit
set_option linter.unusedVariables false

def knownB (f : F) : Bool := decide (0 ≤ f.r) && (decide (f.r ≤ 2) && (decide (0 ≤ f.k) && decide (f.k ≤ 4)))
def rootB (f : F) : Bool := decide (f.r = 0) && decide (f.k = 0)
def haveB (f : F) : Bool := if f.k = 0 then decide (1 ≤ f.c) else decide (f.c = 0)

def fv (f : F) : Value := .agg #[.string f.n, .int .i64 f.r, .int .i64 f.k, .int .i64 f.c]

theorem ret_bool {a b : Bool} (h : a = b) : Ending.returned (.bool a) = .returned (.bool b) := by rw [h]

set_option maxHeartbeats 400000 in
theorem known_f (f : F) (w : World) :
    Calls Try.prog 96 #[.agg #[.string f.n, .int .i64 f.r, .int .i64 f.k, .int .i64 f.c]] w fun e w' => e = .returned (.bool (knownB f)) ∧ Chg [] w w' := by
  obtain ⟨n, r, k, c⟩ := f
  unfold knownB
  simp only
  by_cases h1 : 0 ≤ r
  · by_cases h2 : r ≤ 2
    · by_cases h3 : 0 ≤ k
      · by_cases h4 : k ≤ 4
        all_goals
          go_enter Try.func96, Try.ntmps96
          go_wp2
          go_ret
          exact ⟨ret_bool (by simp [h1, h2, h3, h4]), (Chg.refl [] w).alloc _⟩
      · go_enter Try.func96, Try.ntmps96
        go_wp2
        go_ret
        exact ⟨ret_bool (by simp; omega), (Chg.refl [] w).alloc _⟩
    · go_enter Try.func96, Try.ntmps96
      go_wp2
      go_ret
      exact ⟨ret_bool (by simp; omega), (Chg.refl [] w).alloc _⟩
  · go_enter Try.func96, Try.ntmps96
    go_wp2
    go_ret
    exact ⟨ret_bool (by simp; omega), (Chg.refl [] w).alloc _⟩

set_option maxHeartbeats 400000 in
theorem root_f (f : F) (w : World) :
    Calls Try.prog 97 #[.agg #[.string f.n, .int .i64 f.r, .int .i64 f.k, .int .i64 f.c]] w fun e w' => e = .returned (.bool (rootB f)) ∧ Chg [] w w' := by
  obtain ⟨n, r, k, c⟩ := f
  unfold rootB
  simp only
  by_cases h1 : r = 0
  · have b1 : (r == 0) = true := by simp [h1]
    by_cases h2 : k = 0
    · have b2 : (k == 0) = true := by simp [h2]
      clear h1 h2
      go_enter Try.func97, Try.ntmps97
      go_wp2
      go_ret
      exact ⟨ret_bool (by simp_all), (Chg.refl [] w).alloc _⟩
    · have b2 : (k == 0) = false := by simp [h2]
      clear h1 h2
      go_enter Try.func97, Try.ntmps97
      go_wp2
      go_ret
      exact ⟨ret_bool (by simp_all), (Chg.refl [] w).alloc _⟩
  · have b1 : (r == 0) = false := by simp [h1]
    clear h1
    go_enter Try.func97, Try.ntmps97
    go_wp2
    go_ret
    exact ⟨ret_bool (by simp_all), (Chg.refl [] w).alloc _⟩

set_option maxHeartbeats 400000 in
theorem have_f (f : F) (w : World) :
    Calls Try.prog 98 #[.agg #[.string f.n, .int .i64 f.r, .int .i64 f.k, .int .i64 f.c]] w fun e w' => e = .returned (.bool (haveB f)) ∧ Chg [] w w' := by
  obtain ⟨n, r, k, c⟩ := f
  unfold haveB
  simp only
  by_cases h1 : k = 0
  · subst h1
    rw [if_pos rfl]
    go_enter Try.func98, Try.ntmps98
    go_wp2
    go_ret
    exact ⟨rfl, (Chg.refl [] w).alloc _⟩
  · rw [if_neg h1]
    have b1 : (k == 0) = false := by simp [h1]
    have e : (c == 0) = decide (c = 0) := rfl
    clear h1
    have HE := Lib.hid e
    clear e
    go_enter Try.func98, Try.ntmps98
    go_wp2
    go_ret
    exact ⟨ret_bool (by rw [HE.out]), (Chg.refl [] w).alloc _⟩

/-! ### names -/

/-- The bytes of a string. -/
def bl (s : ByteArray) : List Nat := s.data.toList.map (·.toNat)
@[simp] theorem bl_length (s : ByteArray) : (bl s).length = s.size := by simp only [bl, List.length_map, Array.length_toList]; rfl

def letB (c : Nat) : Bool := decide (97 ≤ c) && decide (c ≤ 122)
def sgnB (c : Nat) : Bool := letB c || (decide (48 ≤ c) && decide (c ≤ 57)) || decide (c = 95)
def nameB (l : List Nat) : Bool := decide (1 ≤ l.length) && (decide (l.length ≤ 12) && (letB (l.getD 0 0) && l.all sgnB))

theorem bl_get (s : ByteArray) (i : Nat) (h : i < s.size) : (bl s)[i]? = some (s[i]'h).toNat := by
  have h1 : i < s.data.size := h
  simp only [bl, List.getElem?_map, Array.getElem?_toList, Array.getElem?_eq_getElem h1]
  rfl

/-- The bytes ahead of pos may be a name's. -/
def NameTo (s : ByteArray) (pos : Nat) : Prop := ∀ j c, (bl s)[j]? = some c → j < pos → sgnB c = true ∧ (j = 0 → letB c = true)
theorem NameTo.zero (s : ByteArray) : NameTo s 0 := fun j c _ h => absurd h (Nat.not_lt_zero j)

theorem NameTo.step {s : ByteArray} {pos b : Nat} (h : NameTo s pos) (hb : (bl s)[pos]? = some b) (h1 : sgnB b = true) (h2 : pos = 0 → letB b = true) : NameTo s (pos + 1) := by
  intro j c hc hj
  by_cases e : j = pos
  · subst e
    rw [hb] at hc
    injection hc with hc
    subst hc
    exact ⟨h1, h2⟩
  · exact h j c hc (by omega)
theorem nameB_no {l : List Nat} {pos b : Nat} (hb : l[pos]? = some b) (h : sgnB b = false ∨ pos = 0 ∧ letB b = false) : nameB l = false := by
  unfold nameB
  rcases h with h | ⟨rfl, h⟩
  · have h2 : l.all sgnB = false := by
      rw [Bool.eq_false_iff]
      intro h3
      rw [List.all_eq_true] at h3
      rw [h3 b (List.mem_of_getElem? hb)] at h
      cases h
    simp [h2]
  · have h2 : l.getD 0 0 = b := by simp [List.getD, hb]
    rw [h2]
    simp [h]
theorem nameB_yes {s : ByteArray} (h : NameTo s s.size) (h1 : 1 ≤ s.size) (h2 : s.size ≤ 12) : nameB (bl s) = true := by
  unfold nameB
  have h0 : (bl s)[0]? = some ((bl s).getD 0 0) := by
    rw [List.getD, List.getElem?_eq_getElem (by simp; omega)]; rfl
  have h3 : (bl s).all sgnB = true := by
    rw [List.all_eq_true]
    intro x hx
    obtain ⟨j, hj⟩ := List.mem_iff_getElem?.1 hx
    exact (h j x hj (by have := (List.getElem?_eq_some_iff.1 hj).1; simpa using this)).1
  have h4 := (h 0 _ h0 (by omega)).2 rfl
  simp only [h3, h4, bl_length]
  simp
  omega

theorem dec_pos (s : ByteArray) (pos : Nat) (h : pos < s.size) : ∃ b r q, (bl s)[pos]? = some b ∧ (Utf8.decode s pos).1 = r ∧ pos + (Utf8.decode s pos).2 = q ∧ r ≤ 2147483647 ∧ (b < 128 ∧ r = b ∧ q = pos + 1 ∨ 128 ≤ b ∧ 128 ≤ r ∧ pos < q) := by
  refine ⟨_, _, _, bl_get s pos h, rfl, rfl, decode_le s pos, ?_⟩
  by_cases hb : (s[pos]'h).toNat < 128
  · rw [decode_ascii s pos h hb]
    exact .inl ⟨hb, rfl, rfl⟩
  · have := decode_high s pos h (by omega)
    exact .inr ⟨by omega, this.1, by omega⟩

theorem Chg.iter {S : List Nat} {a w : World} (h : Chg S a w) (s : ByteArray) (pos : Nat) : Chg S a (w.iter s pos) := h.alloc (.stringIter s pos)

/-- Which way a sign goes. -/
theorem sgn_ways (r pos : Nat) : (97 ≤ r ∧ r ≤ 122) ∨ (r < 97 ∨ 122 < r) ∧ (pos = 0 ∨ 0 < pos ∧ (r = 95 ∨ r ≠ 95 ∧ (r < 48 ∨ 48 ≤ r ∧ (r ≤ 57 ∨ 57 < r)))) := by omega

set_option maxRecDepth 100000 in
set_option maxHeartbeats 1000000 in
theorem isName_any (s : ByteArray) (w : World) (hs : s.size ≤ 1000000) :
    Calls Try.prog 94 #[.string s] w fun e w' => e = .returned (.bool (nameB (bl s))) ∧ Chg [] w w' := by
  by_cases h1 : s.size < 1
  · have E := Lib.hid (show nameB (bl s) = false by simp [nameB]; omega)
    go_enter Try.func94, Try.ntmps94
    go_wp2
    go_ret
    exact ⟨ret_bool E.out.symm, Chg.refl [] w⟩
  by_cases h2 : 12 < s.size
  · have E := Lib.hid (show nameB (bl s) = false by simp [nameB]; omega)
    have d1 : decide ((s.size : Int) < 1) = false := by simp; omega
    have d2 : decide ((12 : Int) < (s.size : Int)) = true := by simp; omega
    clear h1 h2
    go_enter Try.func94, Try.ntmps94
    go_wp2
    go_ret
    exact ⟨ret_bool E.out.symm, Chg.refl [] w⟩
  have d1 : decide ((s.size : Int) < 1) = false := by simp; omega
  have d2 : decide ((12 : Int) < (s.size : Int)) = false := by simp; omega
  go_enter Try.func94, Try.ntmps94
  go_wp2
  go_loopw [3] (fun x w' => ∃ pos : Nat, w' = w.iter s pos ∧ pos ≤ s.size ∧ NameTo s pos) (fun _ w' => s.size - w'.iterPos w.heap.size)
  case atStart => exact ⟨0, rfl, Nat.zero_le _, NameTo.zero s⟩
  case round =>
    obtain ⟨pos, rfl, hps, hto⟩ := hrel
    have HT := Lib.hid hto
    clear hto
    by_cases hp : pos < s.size
    · have hnx : ∀ ty, (Instr.next (.pointer (some ⟨w.heap.size, 0, none⟩)) true ty).run Try.prog (w.iter s pos) = _ := fun ty => run_next_any w s pos ty hp
      obtain ⟨b, r, q, hb, hr, hq, hr2, hbr⟩ := dec_pos s pos hp
      rw [hr, hq] at hnx
      have HB := Lib.hid hb; have HBR := Lib.hid hbr
      clear hb hr hq hbr hps
      rcases sgn_ways r pos with ⟨k1, k2⟩ | ⟨k1, k2⟩
      · have e1 : decide ((97 : Int) ≤ (r : Int)) = true := by simp; omega
        have e2 : decide ((r : Int) ≤ 122) = true := by simp; omega
        go_wp2
        go_roundw
        case rel =>
          have hx := HBR.out
          have hb2 : b = r ∧ q = pos + 1 := by omega
          obtain ⟨rfl, rfl⟩ := hb2
          exact ⟨pos + 1, rfl, by omega, HT.out.step HB.out (by simp [sgnB, letB, k1, k2]) (by simp [letB, k1, k2])⟩
        case measure =>
          have hx := HBR.out
          simp
          omega
      · have E97 : decide ((97 : Int) ≤ (r : Int)) = false ∨ decide ((97 : Int) ≤ (r : Int)) = true ∧ decide ((r : Int) ≤ 122) = false := by
          rcases k1 with h | h
          · left; simp; omega
          · right; simp; omega
        have hlet : letB r = false := by simp [letB]; omega
        have HL := Lib.hid hlet
        clear hlet
        rcases k2 with rfl | ⟨k2, k3⟩
        · have EF := Lib.hid (show nameB (bl s) = false from nameB_no HB.out (.inr ⟨rfl, by
            rcases HBR.out with ⟨_, h, _⟩ | ⟨h, _⟩
            · rw [← h]; exact HL.out
            · simp [letB]; omega⟩))
          rcases E97 with e1 | ⟨e1, e2⟩
          all_goals
            go_wp2
            go_ret
            exact ⟨ret_bool EF.out.symm, (Chg.iter (Chg.refl [] w) s q)⟩
        · have ep : ((pos : Int) == 0) = false := by simp; omega
          rcases k3 with rfl | ⟨k3, k4⟩
          · rcases E97 with e1 | ⟨e1, e2⟩
            all_goals
              go_wp2
              go_roundw
              case rel =>
                have hx := HBR.out
                have hb2 : b = 95 ∧ q = pos + 1 := by omega
                obtain ⟨rfl, rfl⟩ := hb2
                exact ⟨pos + 1, rfl, by omega, HT.out.step HB.out (by decide) (by omega)⟩
              case measure =>
                have hx := HBR.out
                simp
                omega
          · have e95 : ((r : Int) != 95) = true := by simp; omega
            rcases k4 with k4 | ⟨k4, k5 | k5⟩
            · have e48 : decide ((r : Int) < 48) = true := by simp; omega
              have EF := Lib.hid (show nameB (bl s) = false from nameB_no HB.out (.inl (by
                rcases HBR.out with ⟨_, h, _⟩ | ⟨h, _⟩
                · rw [← h]; simp [sgnB, HL.out]; omega
                · omega)))
              rcases E97 with e1 | ⟨e1, e2⟩
              all_goals
                go_wp2
                go_ret
                exact ⟨ret_bool EF.out.symm, (Chg.iter (Chg.refl [] w) s q)⟩
            · have e48 : decide ((r : Int) < 48) = false := by simp; omega
              have e57 : decide ((57 : Int) < (r : Int)) = false := by simp; omega
              rcases E97 with e1 | ⟨e1, e2⟩
              all_goals
                go_wp2
                go_roundw
                case rel =>
                  have hx := HBR.out
                  have hb2 : b = r ∧ q = pos + 1 := by omega
                  obtain ⟨rfl, rfl⟩ := hb2
                  exact ⟨pos + 1, rfl, by omega, HT.out.step HB.out (by simp [sgnB, k4, k5]) (by omega)⟩
                case measure =>
                  have hx := HBR.out
                  simp
                  omega
            · have e48 : decide ((r : Int) < 48) = false := by simp; omega
              have e57 : decide ((57 : Int) < (r : Int)) = true := by simp; omega
              have EF := Lib.hid (show nameB (bl s) = false from nameB_no HB.out (.inl (by
                rcases HBR.out with ⟨_, h, _⟩ | ⟨h, _⟩
                · rw [← h]; simp [sgnB, HL.out]; omega
                · simp [sgnB, letB]; omega)))
              rcases E97 with e1 | ⟨e1, e2⟩
              all_goals
                go_wp2
                go_ret
                exact ⟨ret_bool EF.out.symm, (Chg.iter (Chg.refl [] w) s q)⟩
    · have e : pos = s.size := by omega
      have hnx : ∀ ty, (Instr.next (.pointer (some ⟨w.heap.size, 0, none⟩)) true ty).run Try.prog (w.iter s pos) = _ := fun ty => run_next_end w s pos ty hp
      have EF := Lib.hid (show nameB (bl s) = true from nameB_yes (by rw [← e]; exact HT.out) (by omega) (by omega))
      clear e
      go_wp2
      go_ret
      exact ⟨ret_bool EF.out.symm, (Chg.iter (Chg.refl [] w) s pos)⟩

end Go.Proofs.Ytofnpcfclcfgfaa
