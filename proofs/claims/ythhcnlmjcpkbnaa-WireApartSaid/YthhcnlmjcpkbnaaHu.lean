/- WireThree. -/
import Derived.Test.YthhcnlmjcpkbnaaHF
import Derived.Test.YthhcnlmjcpkbnaaHn
import Derived.Test.YthhcnlmjcpkbnaaYD
namespace Go.Proofs.Ythhcnlmjcpkbnaa
open Go.RowKit
set_option linter.unusedVariables false
set_option linter.unusedSimpArgs false

def bg9 : ByteArray := { data := #[103] }
def bt9 : ByteArray := { data := #[116] }
def fT9 : Fo := .group ⟨bg9, 1, 0, 1⟩ (.leaf ⟨bt9, 1, 4, 0⟩ .nil) .nil
def l39 : List F := [⟨bm8, 0, 0, 1⟩, ⟨bg9, 1, 0, 1⟩, ⟨bt9, 1, 4, 0⟩]
def t90 : Tr := .mk 0 { data := #[] } [[]]
def t91 : Tr := .mk 0 { data := #[] } [[.mk 0 { data := #[] } [[]]]]
def t92 : Tr := .mk 0 { data := #[] } [[.mk 0 { data := #[] } [[.mk 0 { data := #[] } []]]]]

set_option maxRecDepth 100000 in
theorem chk_l39 : chk l39 = 0 ∧ fitsT l39 t90 = 0 ∧ fitsT l39 t91 = 0 ∧ fitsT l39 t92 = 0 := by decide +kernel

theorem listAt_one {W : World} {d gb o c : Nat} {t : Tr} {kv : Value} (c0 : W.cell? ⟨gb, o, none⟩ = some (.int .i64 t.n)) (c1 : W.cell? ⟨gb, o + 1, none⟩ = some (.string t.s)) (c2 : W.cell? ⟨gb, o + 2, none⟩ = some kv) (hk : KidsAt W d t.k kv) (h1 : 1 ≤ c) (h2 : c ≤ maxLen) : ListAt W d [t] (.slice (some ⟨gb, o, none⟩) 1 c) := by
  refine ⟨[(t, kv)], rfl, ⟨_, c, rfl, h1, h2, fun _ => ⟨gb, o, rfl, fun j x i u hx hu => ?_⟩⟩, by simpa using hk⟩
  cases j with
  | succ j => simp at hx
  | zero =>
    simp at hx
    subst hx
    rcases i with _ | _ | _ | i
    · simp [encT] at hu; subst hu; simpa using c0
    · simp [encT] at hu; subst hu; simpa using c1
    · simp [encT] at hu; subst hu; simpa using c2
    · simp [encT] at hu

theorem str_nil : str [] = { data := #[] } := rfl

theorem ok_three : okF fT9 t90.k ∧ okF fT9 t91.k ∧ okF fT9 t92.k := by
  refine ⟨⟨by simp, rfl⟩, ⟨?_, rfl⟩, ⟨?_, rfl⟩⟩
  · intro x hx; simp at hx; subst hx; exact ⟨by simp, rfl⟩
  · intro x hx; simp at hx; subst hx; exact ⟨by intro y hy; simp at hy; subst hy; exact ⟨⟨by decide, by decide⟩, by decide⟩, rfl⟩

theorem lw_one (n : Nat) (h : n < 256) : lw 1 (n : Int) = [n] := by
  simp [lw, low]; omega

theorem wall_three : wAll fT9 [t90] = [1, 0] ∧ wAll fT9 [t91] = [1, 1, 0] ∧ wAll fT9 [t92] = [1, 1, 1, 0] := by
  have e0 : lw 1 ((0 : Nat) : Int) = [0] := lw_one 0 (by decide)
  have e1 : lw 1 ((1 : Nat) : Int) = [1] := lw_one 1 (by decide)
  have v0 : vb 0 = [0] := vb_lt (by decide)
  have v1 : vb 1 = [1] := vb_lt (by decide)
  have hb : bl { data := #[] } = [] := rfl
  have hs : (ByteArray.mk #[]).size = 0 := rfl
  refine ⟨?_, ?_, ?_⟩
  · simp [wAll, t90, fT9, wF, wField, v1, e0, e1] <;> first | rfl | exact e0
  · simp [wAll, t91, fT9, wF, wField, v1, e0, e1] <;> first | rfl | exact e0
  · simp [wAll, t92, fT9, wF, wField, wLeaf, v0, v1, e0, e1, hb, hs] <;> first | rfl | exact e0

theorem pall_three : pAll fT9 [1, 0] = ([t90], 0) ∧ pAll fT9 [1, 1, 0] = ([t91], 0) ∧ pAll fT9 [1, 1, 1, 0] = ([t92], 0) := ⟨rfl, rfl, rfl⟩

end Go.Proofs.Ythhcnlmjcpkbnaa
