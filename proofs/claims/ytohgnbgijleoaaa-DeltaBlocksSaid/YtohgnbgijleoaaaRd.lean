/- Contracts of cursor's Reader: what a Reader holds, and what each method makes of it. -/
import Derived.Test.YtohgnbgijleoaaaCur
namespace Go.Proofs.Ytohgnbgijleoaaa
open Go.RowKit
set_option linter.unusedVariables false

/-- Bytes as cells. -/
def bys (zs : List Int) : List Value := zs.map (Value.int .u8)
@[simp] theorem bys_length (zs : List Int) : (bys zs).length = zs.length := by simp [bys]
theorem bys_get {zs : List Int} {j : Nat} {z : Int} (h : zs[j]? = some z) : (bys zs)[j]? = some (.int .u8 z) := by simp [bys, h]

theorem run_slice_seen {w : World} {ao : Option Addr} {len cap : Nat} {xs : List Value} (h : Seen w (.slice ao len cap) xs) (hc : len ≤ cap) (lo hi : Nat) (h1 : lo ≤ hi) (h2 : hi ≤ len) :
    ∃ sv, Seen w sv ((xs.take hi).drop lo) ∧ ∀ wx, (Instr.slice 23 (.slice ao len cap) (some (.int .i64 (lo : Int))) (some (.int .i64 (hi : Int))) none).run Try.prog wx = .ok sv wx := by
  refine ⟨_, h.sliced lo hi h1 h2, fun wx => ?_⟩
  obtain ⟨i0, hi0, _, hz1, _⟩ := info_u8
  rw [run_slice_lh wx 23 ao len cap (by rw [elem_bytes]; exact Try.underlying23) .i64 .i64 lo hi (by omega) (by omega) (by omega), elem_bytes]
  simp [sizeOf, typeInfo, hi0, hz1]

theorem run_convert_seen {P : Program} {w : World} {v : Value} {zs : List Int} (h : Seen w v (bys zs)) (src dst e : TypeId) (hs : P.underlying src = some (.slice e)) (he : P.underlying e = some (.int .u8)) (hd : P.underlying dst = some .string) :
    (convert src dst v).run P w = .ok (.string (strOfNums zs)) w := by
  rcases h with ⟨rfl, h0⟩ | ⟨a, cap, rfl, _, _, hc⟩
  · have : zs = [] := by simpa [bys] using h0
    subst this
    exact run_convert_bytes_nil w src e hs he 0 0 dst hd
  · have hl : (loadCells a (bys zs).length).run P w = .ok (zs.map (Value.int .u8)).toArray w := run_loadCells_list (P := P) w a (bys zs) (fun j v hj => hc j v hj)
    rw [run_convert_bytes_string w src dst e _ _ cap hs he hd, run_bytesToString w _ _ cap zs hl, foldl_push_bytes]
    simp [strOfNums, ByteArray.empty, ByteArray.emptyWithCapacity]
    rfl

section
variable {M M' : Nat}

theorem Tagged.sub {w : World} {T : TypeId} {v v' : Value} (h : Tagged w T v) (hs : ∀ g, v'.ownBlock = some g → v.ownBlock = some g) : Tagged w T v' := fun g hg => h g (hs g hg)

/-! ### Fail, has -/

/-! ### New -/

theorem bys_one (zs : List Int) : ∀ u ∈ bys zs, u.oneCell' = true := by
  intro u hu
  simp [bys] at hu
  obtain ⟨z, _, rfl⟩ := hu
  rfl

end
end Go.Proofs.Ytohgnbgijleoaaa
