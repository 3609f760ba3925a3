/- Values as bytes, as lists: written, read; what is written is read back; fronts, more behind. -/
import Derived.Test.YtegidbbigjhapaaLo
import Derived.Test.YtegidbbigjhapaaA1
import Derived.Test.YtegidbbigjhapaaA3
namespace Go.Proofs.Ytegidbbigjhapaa
open Go.RowKit
set_option linter.unusedVariables false
set_option linter.unusedSimpArgs false

/-- A leaf's value. -/
structure V where
  n : Int
  s : ByteArray
deriving DecidableEq, Inhabited

def V.cs (v : V) : List Value := [.int .i64 v.n, .string v.s]
theorem V.cs_len (v : V) : (V.cs v).length = 2 := rfl
abbrev SeenV := SeenK V.cs 2

/-- The empty text. -/
abbrev e0 : ByteArray := { data := #[] }

/-- A number with a sign as one without. -/
def un (n : Int) : Nat := (n % 18446744073709551616).toNat
theorem un_lt (n : Int) : un n < 18446744073709551616 := by unfold un; omega
theorem un_wrap (n : Int) : IntKind.u64.wrap n = (un n : Int) := by
  have e : IntKind.u64.wrap n = n % 18446744073709551616 := by simp [IntKind.wrap, IntKind.bits, IntKind.signed]
  rw [e]; unfold un; omega
theorem un_nat (n : Nat) (h : n < 18446744073709551616) : un (n : Int) = n := by unfold un; omega

/-- A number of four bytes, of eight, with its sign. -/
def s32 (x : Nat) : Int := ((x : Int) + 2147483648) % 4294967296 - 2147483648
def s64 (x : Nat) : Int := ((x : Int) + 9223372036854775808) % 18446744073709551616 - 9223372036854775808

/-- One value's bytes, of a kind other than Bool. -/
def enc1 (k : Nat) (v : V) : List Nat := if k = 2 then lo 4 (un v.n) else if k = 3 then lo 8 (un v.n) else lo 4 v.s.size ++ bl v.s

/-- Values' bytes. -/
def encP (k : Nat) (l : List V) : List Nat := if k = 1 then packed 1 (l.map fun v => un v.n) else l.flatMap (enc1 k)

/-- One value read: the value, what is left, the error. -/
def rd1 (k : Nat) (b : List Nat) : V × List Nat × Int :=
  if k = 2 then (if b.length < 4 then (⟨0, e0⟩, [], 8) else (⟨s32 (nm (b.take 4)), e0⟩, b.drop 4, 0))
  else if k = 3 then (if b.length < 8 then (⟨0, e0⟩, [], 8) else (⟨s64 (nm (b.take 8)), e0⟩, b.drop 8, 0))
  else if b.length < 4 then (⟨0, e0⟩, [], 8) else if 100 < nm (b.take 4) then (⟨0, e0⟩, [], 5) else if (b.drop 4).length < nm (b.take 4) then (⟨0, e0⟩, [], 8)
  else (⟨0, str ((b.drop 4).take (nm (b.take 4)))⟩, (b.drop 4).drop (nm (b.take 4)), 0)

theorem enc1_2 (v : V) : enc1 2 v = lo 4 (un v.n) := rfl
theorem enc1_3 (v : V) : enc1 3 v = lo 8 (un v.n) := rfl
theorem enc1_4 (v : V) : enc1 4 v = lo 4 v.s.size ++ bl v.s := rfl
theorem rd1_2 (b : List Nat) : rd1 2 b = if b.length < 4 then (⟨0, e0⟩, [], 8) else (⟨s32 (nm (b.take 4)), e0⟩, b.drop 4, 0) := by unfold rd1; rw [if_pos (show (2 : Nat) = 2 from rfl)]
theorem rd1_3 (b : List Nat) : rd1 3 b = if b.length < 8 then (⟨0, e0⟩, [], 8) else (⟨s64 (nm (b.take 8)), e0⟩, b.drop 8, 0) := by unfold rd1; rw [if_neg (show ¬ (3 : Nat) = 2 by decide), if_pos (show (3 : Nat) = 3 from rfl)]
theorem rd1_4 (b : List Nat) : rd1 4 b = if b.length < 4 then (⟨0, e0⟩, [], 8) else if 100 < nm (b.take 4) then (⟨0, e0⟩, [], 5) else if (b.drop 4).length < nm (b.take 4) then (⟨0, e0⟩, [], 8)
  else (⟨0, str ((b.drop 4).take (nm (b.take 4)))⟩, (b.drop 4).drop (nm (b.take 4)), 0) := by unfold rd1; rw [if_neg (show ¬ (4 : Nat) = 2 by decide), if_neg (show ¬ (4 : Nat) = 3 by decide)]

/-- n values read. -/
def rdN (k : Nat) : Nat → List Nat → List V × List Nat × Int
  | 0, b => ([], b, 0)
  | n + 1, b => if (rd1 k b).2.2 = 0 then ((rd1 k b).1 :: (rdN k n (rd1 k b).2.1).1, (rdN k n (rd1 k b).2.1).2.1, (rdN k n (rd1 k b).2.1).2.2) else ([], [], (rd1 k b).2.2)

/-- What Decode answers. -/
def decP (k : Int) (b : List Nat) (n : Int) : List V × Int :=
  if k < 1 ∨ 4 < k ∨ n < 0 ∨ 4000 < n then ([], 1)
  else if k = 1 then ((outU b n.toNat 1).map fun x : Nat => ⟨(x : Int), e0⟩, faultOf b (1 * n.toNat))
  else if (rdN k.toNat n.toNat b).2.2 ≠ 0 then ([], (rdN k.toNat n.toNat b).2.2) else if (rdN k.toNat n.toNat b).2.1 ≠ [] then ([], 9) else ((rdN k.toNat n.toNat b).1, 0)

/-- A value that a leaf of the kind may have. -/
def okV (k : Nat) (v : V) : Prop :=
  (k = 1 → (v.n = 0 ∨ v.n = 1) ∧ v.s = e0) ∧ (k = 2 → (-2147483648 ≤ v.n ∧ v.n < 2147483648) ∧ v.s = e0) ∧ (k = 3 → (-9223372036854775808 ≤ v.n ∧ v.n < 9223372036854775808) ∧ v.s = e0) ∧ (k = 4 → v.n = 0 ∧ v.s.size ≤ 100)

/-- A value of a kind, of a raw one. -/
def gdV (k : Nat) (v : V) : V := if k = 1 then ⟨v.n % 2, e0⟩ else if k = 2 then ⟨IntKind.i32.wrap v.n, e0⟩ else if k = 3 then ⟨v.n, e0⟩ else ⟨0, v.s.extract 0 (min v.s.size 100)⟩

theorem w32 (n : Int) : IntKind.i32.wrap n = (n + 2147483648) % 4294967296 - 2147483648 := by
  simp [IntKind.wrap, IntKind.bits, IntKind.signed]; omega

theorem gd_ok (k : Nat) (v : V) (hv : -9223372036854775808 ≤ v.n ∧ v.n ≤ 9223372036854775807) : okV k (gdV k v) := by
  unfold okV gdV
  refine ⟨fun h => ?_, fun h => ?_, fun h => ?_, fun h => ?_⟩ <;> subst h
  · refine ⟨?_, rfl⟩
    show v.n % 2 = 0 ∨ v.n % 2 = 1
    omega
  · refine ⟨?_, rfl⟩
    show -2147483648 ≤ IntKind.i32.wrap v.n ∧ IntKind.i32.wrap v.n < 2147483648
    rw [w32]; omega
  · refine ⟨?_, rfl⟩
    show -9223372036854775808 ≤ v.n ∧ v.n < 9223372036854775808
    omega
  · refine ⟨rfl, ?_⟩
    show (v.s.extract 0 (min v.s.size 100)).size ≤ 100
    rw [ByteArray.size_extract]; omega

theorem nm_lo_mod : ∀ n v, nm (lo n v) = v % 256 ^ n
  | 0, v => by simp [lo, nm, Nat.mod_one]
  | n + 1, v => by rw [lo, nm, nm_lo_mod n (v / 256), Nat.pow_succ, Nat.mul_comm (256 ^ n), Nat.mod_mul]

theorem str_bl' (s : ByteArray) : str (bl s) = s := by
  cases s with
  | mk d =>
    unfold str bl
    congr 1
    apply Array.ext'
    simp only [List.map_map, List.toList_toArray]
    have : ((UInt8.ofNat ∘ fun x : UInt8 => x.toNat) : UInt8 → UInt8) = id := by
      funext x; simp
    rw [this, List.map_id]

theorem bl_lt (s : ByteArray) : ∀ x ∈ bl s, x < 256 := by
  intro x hx
  unfold bl at hx
  obtain ⟨c, -, rfl⟩ := List.mem_map.1 hx
  exact c.toNat_lt

theorem enc1_bytes (k : Nat) (v : V) : ∀ x ∈ enc1 k v, x < 2 ^ 8 := by
  intro x hx
  unfold enc1 at hx
  split at hx
  · exact lo_bytes _ _ x hx
  · split at hx
    · exact lo_bytes _ _ x hx
    · rcases List.mem_append.1 hx with h | h
      · exact lo_bytes _ _ x h
      · exact bl_lt _ x h

theorem encP_bytes (k : Nat) (l : List V) : ∀ x ∈ encP k l, x < 2 ^ 8 := by
  unfold encP
  split
  · exact packed_bytes _ _
  · intro x hx
    obtain ⟨v, -, hv⟩ := List.mem_flatMap.1 hx
    exact enc1_bytes k v x hv

theorem take_app {l r : List Nat} {n : Nat} (h : l.length = n) : (l ++ r).take n = l := by rw [List.take_append_of_le_length (by omega), List.take_of_length_le (by omega)]
theorem drop_app {l r : List Nat} {n : Nat} (h : l.length = n) : (l ++ r).drop n = r := by rw [List.drop_append_of_le_length (by omega), List.drop_of_length_le (by omega), List.nil_append]

theorem rd1_enc (k : Nat) (hk : k = 2 ∨ k = 3 ∨ k = 4) (v : V) (hv : okV k v) (r : List Nat) : rd1 k (enc1 k v ++ r) = (v, r, 0) := by
  obtain ⟨-, h2, h3, h4⟩ := hv
  obtain ⟨n, s⟩ := v
  rcases hk with rfl | rfl | rfl
  · obtain ⟨hn, rfl⟩ := h2 rfl
    have hn : -2147483648 ≤ n ∧ n < 2147483648 := hn
    rw [rd1_2, enc1_2, if_neg (by simp), take_app (lo_length _ _), drop_app (lo_length _ _), nm_lo_mod]
    have : s32 (un n % 256 ^ 4) = n := by unfold s32 un; omega
    simp only [this]
  · obtain ⟨hn, rfl⟩ := h3 rfl
    have hn : -9223372036854775808 ≤ n ∧ n < 9223372036854775808 := hn
    rw [rd1_3, enc1_3, if_neg (by simp), take_app (lo_length _ _), drop_app (lo_length _ _), nm_lo_mod]
    have : s64 (un n % 256 ^ 8) = n := by unfold s64 un; omega
    simp only [this]
  · obtain ⟨hn, hs⟩ := h4 rfl
    have hn : n = 0 := hn
    have hs : s.size ≤ 100 := hs
    subst hn
    rw [rd1_4, enc1_4, if_neg (by simp), List.append_assoc, take_app (lo_length _ _), drop_app (lo_length _ _), nm_lo _ _ (by show s.size < 256 ^ 4; omega), if_neg (by show ¬ 100 < s.size; omega), if_neg (by show ¬ (bl s ++ r).length < s.size; simp)]
    show ((⟨0, str ((bl s ++ r).take s.size)⟩ : V), (bl s ++ r).drop s.size, (0 : Int)) = _
    rw [take_app (bl_length s), drop_app (bl_length s), str_bl']

theorem rdN_enc (k : Nat) (hk : k = 2 ∨ k = 3 ∨ k = 4) : ∀ (l : List V), (∀ v ∈ l, okV k v) → ∀ r, rdN k l.length (l.flatMap (enc1 k) ++ r) = (l, r, 0)
  | [], _, r => rfl
  | v :: l, h, r => by
    rw [List.flatMap_cons, List.length_cons, rdN, List.append_assoc, rd1_enc k hk v (h v (by simp)), if_pos rfl]
    simp only [rdN_enc k hk l (fun x hx => h x (by simp [hx])) r]

theorem rd1_cut (k : Nat) (hk : k = 2 ∨ k = 3 ∨ k = 4) (v : V) (hv : okV k v) (m : Nat) (hm : m < (enc1 k v).length) : (rd1 k ((enc1 k v).take m)).2.2 = 8 := by
  obtain ⟨-, h2, h3, h4⟩ := hv
  rcases hk with rfl | rfl | rfl
  · rw [enc1_2] at hm ⊢
    rw [lo_length] at hm
    rw [rd1_2, if_pos (by simp; omega)]
  · rw [enc1_3] at hm ⊢
    rw [lo_length] at hm
    rw [rd1_3, if_pos (by simp; omega)]
  · obtain ⟨hn, hs⟩ := h4 rfl
    rw [enc1_4] at hm ⊢
    rw [List.length_append, lo_length, bl_length] at hm
    rw [rd1_4]
    by_cases h : m < 4
    · rw [if_pos (by simp; omega)]
    · have e1 : ((lo 4 v.s.size ++ bl v.s).take m).take 4 = lo 4 v.s.size := by rw [List.take_take, Nat.min_eq_left (by omega), take_app (lo_length _ _)]
      rw [if_neg (by simp; omega), e1, nm_lo _ _ (by omega), if_neg (by omega), if_pos (by simp; omega)]

theorem rdN_cut (k : Nat) (hk : k = 2 ∨ k = 3 ∨ k = 4) : ∀ (l : List V), (∀ v ∈ l, okV k v) → ∀ m, m < (l.flatMap (enc1 k)).length → (rdN k l.length ((l.flatMap (enc1 k)).take m)).2.2 = 8
  | [], _, m, h => by simp at h
  | v :: l, h, m, hm => by
    have hv := h v (by simp)
    have ih := rdN_cut k hk l fun x hx => h x (by simp [hx])
    rw [List.flatMap_cons] at hm ⊢
    rw [List.length_append] at hm
    rw [List.length_cons, rdN]
    by_cases hml : m < (enc1 k v).length
    · rw [List.take_append_of_le_length (by omega)]
      have e := rd1_cut k hk v hv m hml
      rw [if_neg (by rw [e]; decide)]
      exact e
    · rw [List.take_append, List.take_of_length_le (by omega), rd1_enc k hk v hv, if_pos rfl]
      exact ih _ (by omega)

theorem rdN_len (k : Nat) : ∀ (n : Nat) (b : List Nat), (rdN k n b).2.2 = 0 → (rdN k n b).1.length = n
  | 0, b, _ => rfl
  | n + 1, b, h => by
    rw [rdN] at h ⊢
    split
    · rename_i h0
      rw [if_pos h0] at h
      simp only [List.length_cons, rdN_len k n _ h]
    · rename_i h0
      rw [if_neg h0] at h
      exact absurd h h0

theorem un01 (v : V) (h : v.n = 0 ∨ v.n = 1) : un v.n % 2 ^ 1 = un v.n ∧ ((un v.n : Nat) : Int) = v.n := by
  unfold un; omega

theorem dec_encP (k : Nat) (hk : 1 ≤ k ∧ k ≤ 4) (l : List V) (hl : l.length ≤ 4000) (h : ∀ v ∈ l, okV k v) : decP (k : Int) (encP k l) (l.length : Int) = (l, 0) := by
  unfold decP
  rw [if_neg (by omega), Int.toNat_natCast, Int.toNat_natCast]
  by_cases h1 : k = 1
  · subst h1
    have hf := fault_packed 1 (l.map fun v => un v.n)
    have hu := unpacked_packed 1 (l.map fun v => un v.n)
    rw [List.length_map] at hf hu
    rw [if_pos (show ((1 : Nat) : Int) = 1 from rfl)]
    unfold encP outU
    rw [if_pos rfl, hf, if_pos rfl, hu, List.map_map, List.map_map]
    congr 1
    have : ∀ l : List V, (∀ v ∈ l, okV 1 v) → l.map ((fun x : Nat => (⟨(x : Int), e0⟩ : V)) ∘ (fun x => x % 2 ^ 1) ∘ fun v => un v.n) = l := by
      intro l h
      induction l with
      | nil => rfl
      | cons v l ih =>
        have hv := (h v (by simp)).1 rfl
        obtain ⟨a, b⟩ := un01 v hv.1
        rw [List.map_cons, ih fun x hx => h x (by simp [hx])]
        congr 1
        obtain ⟨n, s⟩ := v
        simp only [Function.comp, a, b]
        rw [show s = e0 from hv.2]
    exact this l h
  · have hk' : k = 2 ∨ k = 3 ∨ k = 4 := by omega
    rw [if_neg (by omega)]
    have e := rdN_enc k hk' l h []
    rw [List.append_nil] at e
    unfold encP
    rw [if_neg h1, e]
    simp

theorem dec_more (k : Nat) (hk : 1 ≤ k ∧ k ≤ 4) (l : List V) (hl : l.length ≤ 4000) (h : ∀ v ∈ l, okV k v) (m : List Nat) (hm : m ≠ []) : decP (k : Int) (encP k l ++ m) (l.length : Int) = ([], 9) := by
  have hm1 : 0 < m.length := List.length_pos_iff.2 hm
  unfold decP
  rw [if_neg (by omega), Int.toNat_natCast, Int.toNat_natCast]
  by_cases h1 : k = 1
  · subst h1
    have hf : faultOf (encP 1 l ++ m) (1 * l.length) = 9 := by
      have e : (encP 1 l).length = (1 * l.length + 7) / 8 := by unfold encP; rw [if_pos rfl, packed_length, List.length_map]
      unfold faultOf
      rw [if_neg (by simp only [List.length_append, e]; omega), if_pos (by simp only [List.length_append, e]; omega)]
    rw [if_pos (show ((1 : Nat) : Int) = 1 from rfl)]
    unfold outU
    rw [hf, if_neg (by decide)]
    rfl
  · have hk' : k = 2 ∨ k = 3 ∨ k = 4 := by omega
    rw [if_neg (by omega)]
    have e := rdN_enc k hk' l h m
    unfold encP
    rw [if_neg h1, e]
    simp [hm]

theorem dec_cut (k : Nat) (hk : 1 ≤ k ∧ k ≤ 4) (l : List V) (hl : l.length ≤ 4000) (h : ∀ v ∈ l, okV k v) (m : Nat) (hm : m < (encP k l).length) : decP (k : Int) ((encP k l).take m) (l.length : Int) = ([], 8) := by
  unfold decP
  rw [if_neg (by omega), Int.toNat_natCast, Int.toNat_natCast]
  by_cases h1 : k = 1
  · subst h1
    have hf : faultOf ((encP 1 l).take m) (1 * l.length) = 8 := by
      have e : (encP 1 l).length = (1 * l.length + 7) / 8 := by unfold encP; rw [if_pos rfl, packed_length, List.length_map]
      unfold faultOf
      rw [if_pos (by rw [List.length_take]; omega)]
    rw [if_pos (show ((1 : Nat) : Int) = 1 from rfl)]
    unfold outU
    rw [hf, if_neg (by decide)]
    rfl
  · have hk' : k = 2 ∨ k = 3 ∨ k = 4 := by omega
    rw [if_neg (by omega)]
    unfold encP at hm ⊢
    rw [if_neg h1] at hm ⊢
    have e := rdN_cut k hk' l h m hm
    rw [if_pos (by rw [e]; decide), e]

theorem enc_app (k : Nat) (hk : k ≠ 1) (a b : List V) : encP k (a ++ b) = encP k a ++ encP k b := by
  unfold encP
  rw [if_neg hk, if_neg hk, if_neg hk, List.flatMap_append]

theorem enc1_len (k : Nat) (v : V) (h : v.s.size ≤ 100) : (enc1 k v).length ≤ 104 := by
  unfold enc1
  split
  · simp
  · split
    · simp
    · simp; omega

theorem okV_size {k : Nat} (hk : 1 ≤ k ∧ k ≤ 4) {v : V} (h : okV k v) : v.s.size ≤ 100 := by
  obtain ⟨h1, h2, h3, h4⟩ := h
  have : k = 1 ∨ k = 2 ∨ k = 3 ∨ k = 4 := by omega
  rcases this with rfl | rfl | rfl | rfl
  · rw [(h1 rfl).2]; decide
  · rw [(h2 rfl).2]; decide
  · rw [(h3 rfl).2]; decide
  · exact (h4 rfl).2

theorem encP_len {k : Nat} (hk : 1 ≤ k ∧ k ≤ 4) : ∀ {l : List V}, (∀ v ∈ l, okV k v) → (encP k l).length ≤ 104 * l.length := by
  intro l h
  unfold encP
  split
  · rw [packed_length, List.length_map]; omega
  · induction l with
    | nil => simp
    | cons v l ih =>
      have h1 := enc1_len k v (okV_size hk (h v (by simp)))
      have h2 := ih fun x hx => h x (by simp [hx])
      rw [List.flatMap_cons, List.length_append, List.length_cons]
      omega

end Go.Proofs.Ytegidbbigjhapaa
