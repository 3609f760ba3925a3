/- Numbers by their differences, as lists: written, read; what is written is read back. -/
import Derived.Test.YtohgnbgijleoaaaDoorLo
import Derived.Test.YtohgnbgijleoaaaDoorGt
import Derived.Test.YtohgnbgijleoaaaDoorPg
import Derived.Test.YtohgnbgijleoaaaDoorSz
import Derived.Test.YtohgnbgijleoaaaDoorOc
namespace Go.Proofs.YtohgnbgijleoaaaDoor
open Go.RowKit
set_option linter.unusedVariables false
set_option linter.unusedSimpArgs false

/-- A number of 64 bits with a sign. -/
def wrp (x : Int) : Int := (x + 9223372036854775808) % 18446744073709551616 - 9223372036854775808
theorem wr_wrap (x : Int) : IntKind.i64.wrap x = wrp x := by simp [IntKind.wrap, IntKind.bits, IntKind.signed, wrp]; try omega
theorem wr64 (x : Int) : Go.RowKit.wrap64 x = wrp x := by unfold Go.RowKit.wrap64 wrp; omega
theorem wr_in (x : Int) : -9223372036854775808 ≤ wrp x ∧ wrp x ≤ 9223372036854775807 := by unfold wrp; omega
theorem wr_id {x : Int} (h : -9223372036854775808 ≤ x ∧ x ≤ 9223372036854775807) : wrp x = x := by unfold wrp; omega

/-- A number of 64 bits. -/
def In64 (x : Int) : Prop := -9223372036854775808 ≤ x ∧ x ≤ 9223372036854775807

/-- Differences. -/
def difs : List Int → List Int
  | x :: y :: r => wrp (y - x) :: difs (y :: r)
  | _ => []

theorem difs_nil : difs [] = [] := rfl
theorem difs_one (x : Int) : difs [x] = [] := rfl
theorem difs_cons (x y : Int) (r : List Int) : difs (x :: y :: r) = wrp (y - x) :: difs (y :: r) := rfl
@[simp] theorem difs_length : ∀ l : List Int, (difs l).length = l.length - 1
  | [] => rfl
  | [_] => rfl
  | x :: y :: r => by rw [difs_cons, List.length_cons, difs_length (y :: r)]; simp

theorem difs_in : ∀ (l : List Int), ∀ d ∈ difs l, In64 d
  | [], d, h => by simp [difs_nil] at h
  | [x], d, h => by simp [difs_one] at h
  | x :: y :: r, d, h => by
    rw [difs_cons] at h
    rcases List.mem_cons.1 h with rfl | h
    · exact wr_in _
    · exact difs_in (y :: r) d h

theorem difs_drop : ∀ (n : Nat) (l : List Int), difs (l.drop n) = (difs l).drop n
  | 0, l => rfl
  | n + 1, [] => by simp [difs_nil]
  | n + 1, [x] => by simp [difs_nil, difs_one]
  | n + 1, x :: y :: r => by rw [List.drop_succ_cons, difs_drop n (y :: r), difs_cons, List.drop_succ_cons]

theorem difs_take : ∀ (n : Nat) (l : List Int), difs (l.take (n + 1)) = (difs l).take n
  | 0, [] => rfl
  | 0, [_] => rfl
  | 0, x :: y :: r => by simp [difs_one]
  | n + 1, [] => by simp [difs_nil]
  | n + 1, [x] => by simp [difs_one]
  | n + 1, x :: y :: r => by
    show difs (x :: y :: r.take n) = _
    rw [difs_cons, difs_cons, List.take_succ_cons, ← difs_take n (y :: r)]
    rfl

theorem difs_get : ∀ (l : List Int) (j : Nat), j + 1 < l.length → (difs l).getD j 0 = wrp (l.getD (j + 1) 0 - l.getD j 0)
  | [], j, h => by simp at h
  | [x], j, h => by simp at h
  | x :: y :: r, 0, h => by rw [difs_cons]; rfl
  | x :: y :: r, j + 1, h => by
    have := difs_get (y :: r) j (by simpa using h)
    rw [difs_cons]
    simpa [List.getD] using this

/-- The least. -/
def mn : List Int → Int
  | [] => 0
  | x :: r => r.foldl min x

theorem foldl_min_le : ∀ (r : List Int) (x : Int), r.foldl min x ≤ x ∧ ∀ y ∈ r, r.foldl min x ≤ y
  | [], x => ⟨Int.le_refl _, by simp⟩
  | z :: r, x => by
    obtain ⟨h1, h2⟩ := foldl_min_le r (min x z)
    rw [List.foldl_cons]
    refine ⟨by omega, fun y hy => ?_⟩
    rcases List.mem_cons.1 hy with rfl | hy
    · omega
    · exact h2 y hy

theorem foldl_min_mem : ∀ (r : List Int) (x : Int), r.foldl min x = x ∨ r.foldl min x ∈ r
  | [], x => .inl rfl
  | z :: r, x => by
    rw [List.foldl_cons]
    rcases foldl_min_mem r (min x z) with h | h
    · rw [h]
      by_cases hx : x ≤ z
      · left; omega
      · right; rw [show min x z = z by omega]; exact List.mem_cons_self
    · exact .inr (List.mem_cons_of_mem _ h)

theorem mn_le {l : List Int} : ∀ y ∈ l, mn l ≤ y := by
  cases l with
  | nil => simp
  | cons x r =>
    intro y hy
    obtain ⟨h1, h2⟩ := foldl_min_le r x
    rcases List.mem_cons.1 hy with rfl | hy
    · exact h1
    · exact h2 y hy

theorem mn_mem {l : List Int} (h : l ≠ []) : mn l ∈ l := by
  cases l with
  | nil => exact absurd rfl h
  | cons x r =>
    rcases foldl_min_mem r x with h | h
    · show r.foldl min x ∈ _; rw [h]; exact List.mem_cons_self
    · exact List.mem_cons_of_mem _ h

theorem mn_in {l : List Int} (h : ∀ d ∈ l, In64 d) : In64 (mn l) := by
  by_cases hl : l = []
  · subst hl; show In64 0; unfold In64; omega
  · exact h _ (mn_mem hl)

theorem mn_snoc (l : List Int) (h : l ≠ []) (x : Int) : mn (l ++ [x]) = min (mn l) x := by
  cases l with
  | nil => exact absurd rfl h
  | cons y r => show (r ++ [x]).foldl min y = _; rw [List.foldl_append]; rfl

/-- The greatest. -/
def mx (l : List Nat) : Nat := l.foldl max 0

theorem foldl_max_ge : ∀ (r : List Nat) (x : Nat), x ≤ r.foldl max x ∧ ∀ y ∈ r, y ≤ r.foldl max x
  | [], x => ⟨Nat.le_refl _, by simp⟩
  | z :: r, x => by
    obtain ⟨h1, h2⟩ := foldl_max_ge r (max x z)
    rw [List.foldl_cons]
    refine ⟨by omega, fun y hy => ?_⟩
    rcases List.mem_cons.1 hy with rfl | hy
    · omega
    · exact h2 y hy

theorem mx_ge {l : List Nat} : ∀ y ∈ l, y ≤ mx l := (foldl_max_ge l 0).2

theorem foldl_max_lt {m : Nat} : ∀ (r : List Nat) (x : Nat), x < m → (∀ y ∈ r, y < m) → r.foldl max x < m
  | [], x, h, _ => h
  | z :: r, x, h, h2 => by
    rw [List.foldl_cons]
    exact foldl_max_lt r _ (by have := h2 z (by simp); omega) fun y hy => h2 y (by simp [hy])

theorem mx_lt {l : List Nat} {m : Nat} (hm : 0 < m) (h : ∀ y ∈ l, y < m) : mx l < m := foldl_max_lt l 0 hm h

theorem mx_snoc (l : List Nat) (x : Nat) : mx (l ++ [x]) = max (mx l) x := by unfold mx; rw [List.foldl_append]; rfl

/-- How far above the least. -/
def abv (d : List Int) : List Nat := d.map fun v => (v - mn d).toNat
@[simp] theorem abv_length (d : List Int) : (abv d).length = d.length := by simp [abv]

theorem abv_lt {d : List Int} (h : ∀ v ∈ d, In64 v) : ∀ x ∈ abv d, x < 18446744073709551616 := by
  intro x hx
  obtain ⟨v, hv, rfl⟩ := List.mem_map.1 hx
  have h1 := h v hv
  have h2 := mn_in h
  unfold In64 at h1 h2
  omega

/-- A block's width. -/
def wdB (d : List Int) : Nat := blen (mx (abv d))

theorem wdB_le {d : List Int} (h : ∀ v ∈ d, In64 v) : wdB d ≤ 64 := (blen_spec _ (mx_lt (by decide) (abv_lt h))).1

/-- A block's bytes. -/
def blkE (d : List Int) : List Nat := vb (zigOf (mn d)) ++ (wdB d :: packed (wdB d) (abv d))

/-- The blocks of differences. -/
def blksE (d : List Int) : List Nat := if h : d = [] then [] else blkE (d.take 32) ++ blksE (d.drop 32)
termination_by d.length
decreasing_by
  have := List.length_pos_iff.2 h
  simp; omega

theorem blksE_nil : blksE [] = [] := by rw [blksE, dif_pos rfl]
theorem blksE_cons {d : List Int} (h : d ≠ []) : blksE d = blkE (d.take 32) ++ blksE (d.drop 32) := by rw [blksE, dif_neg h]

/-- Numbers' bytes. -/
def intsE : List Int → List Nat
  | [] => []
  | x :: r => vb (zigOf x) ++ blksE (difs (x :: r))

/-- Sums from v on: of differences, of differences above a least one. -/
def runI : Int → List Int → List Int
  | _, [] => []
  | v, d :: r => wrp (v + d) :: runI (wrp (v + d)) r

def runS (v least : Int) (A : List Nat) : List Int := runI v (A.map fun (a : Nat) => least + (a : Int))

@[simp] theorem runI_length : ∀ (v : Int) (d : List Int), (runI v d).length = d.length
  | v, [] => rfl
  | v, d :: r => by rw [runI, List.length_cons, runI_length, List.length_cons]

@[simp] theorem runS_length (v least : Int) (A : List Nat) : (runS v least A).length = A.length := by simp [runS]

theorem runI_in : ∀ (v : Int) (d : List Int), ∀ x ∈ runI v d, In64 x
  | v, [], x, h => by simp [runI] at h
  | v, d :: r, x, h => by
    rw [runI] at h
    rcases List.mem_cons.1 h with rfl | h
    · exact wr_in _
    · exact runI_in _ r x h

/-- The last one of v and what behind it is. -/
def lastI : Int → List Int → Int
  | v, [] => v
  | _, x :: r => lastI x r

theorem lastI_snoc : ∀ (v : Int) (l : List Int) (x : Int), lastI v (l ++ [x]) = x
  | v, [], x => rfl
  | v, y :: r, x => lastI_snoc y r x

theorem lastI_app : ∀ (v : Int) (l r : List Int), lastI v (l ++ r) = lastI (lastI v l) r
  | v, [], r => rfl
  | v, y :: l, r => lastI_app y l r

theorem lastI_get : ∀ (v : Int) (l : List Int) (h : l ≠ []), lastI v l = l.getD (l.length - 1) 0
  | v, [x], _ => rfl
  | v, x :: y :: r, _ => by
    show lastI x (y :: r) = _
    rw [lastI_get x (y :: r) (by simp)]
    simp [List.getD]

theorem runI_app : ∀ (v : Int) (a b : List Int), runI v (a ++ b) = runI v a ++ runI (lastI v (runI v a)) b
  | v, [], b => rfl
  | v, x :: a, b => by
    show wrp (v + x) :: runI (wrp (v + x)) (a ++ b) = _
    rw [runI_app (wrp (v + x)) a b]
    rfl

theorem runI_difs : ∀ (x : Int) (r : List Int), (∀ y ∈ r, In64 y) → runI x (difs (x :: r)) = r
  | x, [], _ => rfl
  | x, y :: r, h => by
    rw [difs_cons, runI]
    have e : wrp (x + wrp (y - x)) = y := by
      have := h y (by simp)
      unfold In64 at this
      unfold wrp
      omega
    rw [e, runI_difs y r fun z hz => h z (by simp [hz])]

theorem runS_abv {d : List Int} (v : Int) : runS v (mn d) (abv d) = runI v d := by
  unfold runS abv
  rw [List.map_map]
  congr 1
  refine (List.map_congr_left fun x hx => ?_).trans (List.map_id d)
  have := mn_le x hx
  simp only [Function.comp]
  show mn d + (((x - mn d).toNat : Nat) : Int) = x
  omega

/-- The first number or a block at the front of bytes, where l was read and k are left to be read: the error, the numbers, the bytes behind. -/
def partD (k : Nat) (l : List Int) (b : List Nat) : Int × List Int × List Nat :=
  if (gl 0 b).2 ≠ 0 then (((gl 0 b).2 : Nat), [], [])
  else if l = [] then (0, [zagOf (gv b)], b.drop (gl 0 b).1)
  else if b.drop (gl 0 b).1 = [] then (8, [], [])
  else if 64 < (b.drop (gl 0 b).1).getD 0 0 then (10, [], [])
  else if faultOf (((b.drop (gl 0 b).1).drop 1).take ((min 32 k * (b.drop (gl 0 b).1).getD 0 0 + 7) / 8)) ((b.drop (gl 0 b).1).getD 0 0 * min 32 k) ≠ 0 then
    (faultOf (((b.drop (gl 0 b).1).drop 1).take ((min 32 k * (b.drop (gl 0 b).1).getD 0 0 + 7) / 8)) ((b.drop (gl 0 b).1).getD 0 0 * min 32 k), [], [])
  else (0, runS (lastI 0 l) (zagOf (gv b)) (unpacked (((b.drop (gl 0 b).1).drop 1).take ((min 32 k * (b.drop (gl 0 b).1).getD 0 0 + 7) / 8)) (min 32 k) ((b.drop (gl 0 b).1).getD 0 0)),
    ((b.drop (gl 0 b).1).drop 1).drop ((min 32 k * (b.drop (gl 0 b).1).getD 0 0 + 7) / 8))

theorem partD_len {k : Nat} {l : List Int} {b : List Nat} (hk : 0 < k) (h : (partD k l b).1 = 0) : 1 ≤ (partD k l b).2.1.length ∧ (partD k l b).2.1.length ≤ k := by
  revert h
  unfold partD
  split
  · intro h; rename_i h2; exact absurd (by simpa using h) h2
  split
  · intro _; simp; omega
  split
  · intro h; simp at h
  split
  · intro h; simp at h
  split
  · intro h; rename_i h2; exact absurd h h2
  · intro _; simp; omega

/-- What is read where l was read and k are left to be read: the error, all numbers, what is behind. -/
def decD (k : Nat) (l : List Int) (b : List Nat) : Int × List Int × List Nat :=
  if hk : k = 0 then (0, l, b)
  else if h : (partD k l b).1 = 0 then decD (k - (partD k l b).2.1.length) (l ++ (partD k l b).2.1) (partD k l b).2.2
  else ((partD k l b).1, [], [])
termination_by k
decreasing_by
  have := partD_len (by omega) h
  omega

theorem decD_zero (l : List Int) (b : List Nat) : decD 0 l b = (0, l, b) := by rw [decD, dif_pos rfl]
theorem decD_ok {k : Nat} {l : List Int} {b : List Nat} (hk : k ≠ 0) (h : (partD k l b).1 = 0) : decD k l b = decD (k - (partD k l b).2.1.length) (l ++ (partD k l b).2.1) (partD k l b).2.2 := by rw [decD, dif_neg hk, dif_pos h]
theorem decD_bad {k : Nat} {l : List Int} {b : List Nat} (hk : k ≠ 0) (h : (partD k l b).1 ≠ 0) : decD k l b = ((partD k l b).1, [], []) := by rw [decD, dif_neg hk, dif_neg h]

/-- What Read answers: numbers, how many bytes, the error. -/
def readD (b : List Nat) (n : Int) : List Int × Nat × Int :=
  if n < 0 ∨ 4000 < n then ([], 0, 1)
  else if (decD n.toNat [] b).1 ≠ 0 then ([], 0, (decD n.toNat [] b).1)
  else ((decD n.toNat [] b).2.1, b.length - (decD n.toNat [] b).2.2.length, 0)

theorem getD0_app (v : List Nat) (x : Nat) (r : List Nat) : ((v ++ x :: r).drop v.length).getD 0 0 = x := by simp

theorem part_first (k : Nat) (x : Int) (hx : In64 x) (r : List Nat) : partD k [] (vb (zigOf x) ++ r) = (0, [x], r) := by
  obtain ⟨h1, h2⟩ := gv_vb (zigOf x) r (zig_lt hx)
  unfold partD
  rw [h1, h2, if_neg (by simp), if_pos rfl, zag_zig]
  simp

theorem part_blk (k : Nat) (l : List Int) (hl : l ≠ []) (d : List Int) (hd : d ≠ []) (hin : ∀ v ∈ d, In64 v) (hk : d.length = min 32 k) (r : List Nat) : partD k l (blkE d ++ r) = (0, runI (lastI 0 l) d, r) := by
  have hz : zigOf (mn d) < 18446744073709551616 := zig_lt (mn_in hin)
  have e : blkE d ++ r = vb (zigOf (mn d)) ++ (wdB d :: (packed (wdB d) (abv d) ++ r)) := by unfold blkE; simp
  obtain ⟨h1, h2⟩ := gv_vb (zigOf (mn d)) (wdB d :: (packed (wdB d) (abv d) ++ r)) hz
  have hw := wdB_le hin
  have e2 : (vb (zigOf (mn d)) ++ (wdB d :: (packed (wdB d) (abv d) ++ r))).drop (vb (zigOf (mn d))).length = wdB d :: (packed (wdB d) (abv d) ++ r) := by simp
  have hpl : (packed (wdB d) (abv d)).length = (min 32 k * wdB d + 7) / 8 := by rw [packed_length, abv_length, hk, Nat.mul_comm]
  have e3 : (packed (wdB d) (abv d) ++ r).take ((min 32 k * wdB d + 7) / 8) = packed (wdB d) (abv d) := by rw [← hpl]; simp
  have e4 : (packed (wdB d) (abv d) ++ r).drop ((min 32 k * wdB d + 7) / 8) = r := by rw [← hpl]; simp
  have hf : faultOf (packed (wdB d) (abv d)) (wdB d * min 32 k) = 0 := by rw [← hk, ← abv_length d]; exact fault_packed _ _
  have hu : unpacked (packed (wdB d) (abv d)) (min 32 k) (wdB d) = abv d := by
    rw [← hk, ← abv_length d, unpacked_packed]
    refine (List.map_congr_left fun x hx => ?_).trans (List.map_id _)
    have hs := blen_spec (mx (abv d)) (mx_lt (by decide) (abv_lt hin))
    exact Nat.mod_eq_of_lt (Nat.lt_of_le_of_lt (mx_ge x hx) hs.2.1)
  have g0 : (wdB d :: (packed (wdB d) (abv d) ++ r)).getD 0 0 = wdB d := rfl
  have d1 : (wdB d :: (packed (wdB d) (abv d) ++ r)).drop 1 = packed (wdB d) (abv d) ++ r := rfl
  rw [e]
  unfold partD
  rw [h1, h2]
  simp only [e2, g0, d1, e3, e4, hf, hu, zag_zig, runS_abv]
  rw [if_neg (by simp), if_neg hl, if_neg (by simp), if_neg (by omega), if_neg (by simp)]

theorem dec_blks (d : List Int) : ∀ (l : List Int), l ≠ [] → (∀ v ∈ d, In64 v) → ∀ r, decD d.length l (blksE d ++ r) = (0, l ++ runI (lastI 0 l) d, r) := by
  induction d using blksE.induct with
  | case1 => intro l hl _ r; rw [blksE_nil]; show decD 0 l r = _; rw [decD_zero]; simp [runI]
  | case2 d hd ih =>
    intro l hl hin r
    have hp : 0 < d.length := List.length_pos_iff.2 hd
    have hlen : (d.take 32).length = min 32 d.length := by simp
    have hne : d.take 32 ≠ [] := fun h => by rw [h] at hlen; simp at hlen; omega
    have hpart := part_blk d.length l hl (d.take 32) hne (fun v hv => hin v (List.mem_of_mem_take hv)) hlen (blksE (d.drop 32) ++ r)
    have e : blksE d ++ r = blkE (d.take 32) ++ (blksE (d.drop 32) ++ r) := by rw [blksE_cons hd, List.append_assoc]
    rw [e, decD_ok (by omega) (by rw [hpart]), hpart]
    simp only [runI_length]
    rw [show d.length - (d.take 32).length = (d.drop 32).length by simp; omega, ih _ (by simp [hl]) (fun v hv => hin v (List.mem_of_mem_drop hv)) r, lastI_app, List.append_assoc, ← runI_app, List.take_append_drop]

/-- What is written is read back, whatever stands behind. -/
theorem dec_ints (l : List Int) (h : ∀ x ∈ l, In64 x) (r : List Nat) : decD l.length [] (intsE l ++ r) = (0, l, r) := by
  cases l with
  | nil => show decD 0 [] r = _; rw [decD_zero]
  | cons x t =>
    have hp := part_first (t.length + 1) x (h x (by simp)) (blksE (difs (x :: t)) ++ r)
    have e : intsE (x :: t) ++ r = vb (zigOf x) ++ (blksE (difs (x :: t)) ++ r) := by show (vb (zigOf x) ++ blksE (difs (x :: t))) ++ r = _; rw [List.append_assoc]
    rw [List.length_cons, e, decD_ok (by omega) (by rw [hp]), hp]
    have hb := dec_blks (difs (x :: t)) [x] (by simp) (difs_in _) r
    rw [difs_length] at hb
    simp only [List.length_cons, List.length_nil, List.nil_append] at hb ⊢
    rw [show t.length + 1 - (0 + 1) = t.length + 1 - 1 by omega, hb]
    show ((0 : Int), [x] ++ runI x (difs (x :: t)), r) = _
    rw [runI_difs x t fun y hy => h y (by simp [hy])]
    rfl

theorem read_ints (l : List Int) (h : ∀ x ∈ l, In64 x) (hl : l.length ≤ 4000) (r : List Nat) : readD (intsE l ++ r) (l.length : Int) = (l, (intsE l).length, 0) := by
  unfold readD
  rw [if_neg (by omega), Int.toNat_natCast, dec_ints l h r, if_neg (by simp)]
  simp

theorem blksE_bytes (d : List Int) (hin : ∀ v ∈ d, In64 v) : ∀ x ∈ blksE d, x < 2 ^ 8 := by
  induction d using blksE.induct with
  | case1 => rw [blksE_nil]; simp
  | case2 d hd ih =>
    rw [blksE_cons hd]
    intro x hx
    rcases List.mem_append.1 hx with hx | hx
    · unfold blkE at hx
      rcases List.mem_append.1 hx with hx | hx
      · exact vb_bytes _ x hx
      · rcases List.mem_cons.1 hx with rfl | hx
        · have := wdB_le (d := d.take 32) fun v hv => hin v (List.mem_of_mem_take hv)
          omega
        · exact packed_bytes _ _ x hx
    · exact ih (fun v hv => hin v (List.mem_of_mem_drop hv)) x hx

theorem intsE_bytes (l : List Int) : ∀ x ∈ intsE l, x < 2 ^ 8 := by
  cases l with
  | nil => intro x hx; simp [intsE] at hx
  | cons y t =>
    intro x hx
    rcases List.mem_append.1 hx with hx | hx
    · exact vb_bytes _ x hx
    · exact blksE_bytes _ (difs_in _) x hx

theorem blkE_len (d : List Int) (hin : ∀ v ∈ d, In64 v) : (blkE d).length ≤ 11 + 8 * d.length := by
  have h1 := (vb_len64 (zig_lt (mn_in hin))).2
  have h2 := wdB_le hin
  unfold blkE
  rw [List.length_append, List.length_cons, packed_length, abv_length]
  have : wdB d * d.length ≤ 64 * d.length := Nat.mul_le_mul_right _ h2
  omega

theorem blksE_len (d : List Int) (hin : ∀ v ∈ d, In64 v) : (blksE d).length ≤ 19 * d.length := by
  induction d using blksE.induct with
  | case1 => rw [blksE_nil]; simp
  | case2 d hd ih =>
    have hp : 0 < d.length := List.length_pos_iff.2 hd
    have h1 := blkE_len (d.take 32) fun v hv => hin v (List.mem_of_mem_take hv)
    have h2 := ih fun v hv => hin v (List.mem_of_mem_drop hv)
    rw [blksE_cons hd, List.length_append]
    simp at h1 h2
    omega

theorem intsE_len (l : List Int) (hin : ∀ v ∈ l, In64 v) : (intsE l).length ≤ 19 * l.length := by
  cases l with
  | nil => simp [intsE]
  | cons x t =>
    have h1 := (vb_len64 (zig_lt (hin x (by simp)))).2
    have h2 := blksE_len _ (difs_in (x :: t))
    rw [difs_length] at h2
    unfold intsE
    rw [List.length_append]
    simp at h2 ⊢
    omega

end Go.Proofs.YtohgnbgijleoaaaDoor
