/- For every list of parts whose bulk is at most 1048576 the Go law CrcSums of shredderlaw4 returns true, and its argument reads behind the call as it read before. Conditions: none beyond the row's own (the bound; the listed table). -/
import Derived.Test.YthmdebnmjlminaaDoorRows
import Derived.Test.YthmdebnmjlminaaDoorCards
import Derived.Test.YthmdebnmjlminaaDoorTie
import Derived.Test.YthmdebnmjlminaaDoorLay
import Derived.Test.YthmdebnmjlminaaDoorWCrcSums
import Derived.SevenTiedAt
import Derived.WalkKit
import Derived.ProofKit
import Derived.OpenShut
import Derived.ChangeOld
import Derived.Below
import Derived.Deep.DeepHandedRow
import Derived.Deep.Matrix
namespace Go.Proofs.YthmdebnmjlminaaDoor.crcSums
open Go.ChangeShapes Go.WideShapes Go.ChangeAt Go.RowKit
set_option linter.unusedVariables false

theorem own : ownKnob Tryd.prog.godebug = none := by kernel_rfl
theorem laidOut : laidOutB Tryd.prog = true := by kernel_rfl

theorem one_le {H : Type} (d : DataW H) : 1 ≤ Rows.uptoBulk d := by
  cases d with
  | lit l => cases l <;> simp [Rows.uptoBulk]
  | _ => simp [Rows.uptoBulk]

theorem length_le {H : Type} (l : List (DataW H)) : l.length ≤ Rows.uptoBulkAll l := by
  induction l with
  | nil => simp [Rows.uptoBulkAll]
  | cons x r ih => have := one_le x; simp only [Rows.uptoBulkAll, List.length_cons]; omega

theorem row_bulk {H : Type} (k : IntKind) (A : Option Addr) (L : Nat) (zs : List Int) (h : L ≤ zs.length) (h0 : A = none → L = 0) : L + 1 ≤ Rows.uptoBulk (Deep.intRow (H := H) k A L zs) := by
  cases A with
  | none => rw [h0 rfl]; simp [Deep.intRow, Rows.uptoBulk]
  | some a =>
    have h1 := length_le (lits (H := H) k (zs.take L))
    have h2 : (lits (H := H) k (zs.take L)).length = L := by simp [lits]; omega
    rw [h2] at h1
    simp only [Deep.intRow, Rows.uptoBulk]
    omega

theorem rows_bulk {H : Type} (F : Nat → DataW H) (S : Nat → List Nat) : ∀ l : List Nat, (∀ r ∈ l, (S r).length + 1 ≤ Rows.uptoBulk (F r)) → (l.map S).flatten.length + l.length ≤ Rows.uptoBulkAll (l.map F)
  | [], _ => by simp [Rows.uptoBulkAll]
  | x :: l, h => by
    have ih := rows_bulk F S l (fun r hr => h r (by simp [hr]))
    have hx := h x (by simp)
    simp only [List.map_cons, List.flatten_cons, List.length_append, List.length_cons, Rows.uptoBulkAll]
    omega

/-- What the reading of a list of rows of bytes gives: parts, of no more bytes than its bulk. -/
theorem parts_of {H : Type} {enc : TypeId × Value → H} {W : World} {base : Nat} {held : Bool} {fuel : Nat} {a0 : Option Addr} {len0 cap0 : Nat} {d : DataW H} {p : List MemPlace}
    (h : DataW.trod enc Tryd.prog W base (fun _ => true) held fuel 22 [.slice a0 len0 cap0] = some (d, p)) :
    ∃ ps ls, Parts W (.slice a0 len0 cap0) ps ls ∧ len0 = ps.length ∧ ls.flatten.length + ps.length ≤ Rows.uptoBulk d := by
  rcases Deep.open_int_rows Tryd.underlying22 Tryd.underlying24 Tryd.underlying5 (by kernel_rfl) (by kernel_rfl) h with ⟨hcs, hx⟩ | ⟨a, len, cap, A, L, C, Z, hcs, hb, hl, hm, hx, hr⟩
  · simp at hcs
    obtain ⟨rfl, rfl, rfl⟩ := hcs
    exact ⟨[], [], Parts.nil W, rfl, by simp⟩
  · simp at hcs
    obtain ⟨rfl, rfl, rfl⟩ := hcs
    have hrow : ∀ r, r < len0 → ∃ S : List Nat, Seen W (.slice (A r) (L r) (C r)) (nv .u8 S) ∧ L r = S.length ∧ ∀ x ∈ S, x < 2 ^ 8 := by
      intro r hr0
      obtain ⟨q1, q2, q3, q4, q5, q6, q7⟩ := hr r (by omega)
      have : IsRow .u8 W (A r) (L r) (C r) (Z r) := by
        rcases hA : A r with _ | a'
        · have hC := q6 hA
          exact .inl ⟨rfl, by omega, hC, List.eq_nil_of_length_eq_zero (by omega)⟩
        · exact .inr ⟨a', rfl, q2, q3, q4, fun i hi => (q7 a' hA).2 i (by omega), q5⟩
      exact this.u8s
    obtain ⟨S, hS⟩ := Deep.choose_lt hrow
    have hlen : ((List.range len0).map fun r => Value.slice (A r) (L r) (C r)).length = len0 := by simp
    refine ⟨(List.range len0).map fun r => .slice (A r) (L r) (C r), (List.range len0).map S, ⟨.inr ⟨a, cap0, by rw [hlen], by rw [hlen]; exact hl, hm, fun j u hu => ?_⟩, by simp, fun i hi => ?_, fun l hl2 x hx2 => ?_⟩, by simp, ?_⟩
    · have hj : j < len0 := by have := (List.getElem?_eq_some_iff.1 hu).1; simpa using this
      rw [(hr j (by omega)).1, ← hu]
      simp [hj]
    · have hi' : i < len0 := by simpa using hi
      have := (hS i hi').1
      simpa [List.getD, hi'] using this
    · obtain ⟨r, hr2, rfl⟩ := List.mem_map.1 hl2
      exact (hS r (List.mem_range.1 hr2)).2.2 x hx2
    · have hd : d = .slice ((List.range len0).map fun r => Deep.intRow .u8 (A r) (L r) (Z r)) ((List.range (cap0 - len0)).map fun j => Deep.intRow .u8 (A (len0 + j)) (L (len0 + j)) (Z (len0 + j))) := congrArg Prod.fst hx
      have hk := rows_bulk (H := H) (fun r => Deep.intRow .u8 (A r) (L r) (Z r)) S (List.range len0) (fun r hr2 => by
        have hr3 := List.mem_range.1 hr2
        obtain ⟨q1, q2, q3, q4, q5, q6, q7⟩ := hr r (by omega)
        rw [← (hS r hr3).2.1]
        exact row_bulk .u8 (A r) (L r) (Z r) (by omega) (fun e => by have := q6 e; omega))
      rw [hd, Rows.uptoBulk]
      simp only [List.length_range] at hk
      simp only [List.length_map, List.length_range]
      omega

theorem reads (os : Os) {H : Type} (enc : TypeId × Value → H) : ∃ places, DataW.whole enc Tryd.prog ((World.doorLaid Tryd.prog 400 os).forCall (fun _ _ => 0) ⟨#[], #[.slice none 0 0], []⟩).memory Tryd.f3.params.toList Rows.crcSumsSpec.vars false #[Value.slice none 0 0].toList 8 = some ([.nil], [], places) :=
  ⟨[], by kernel_rfl⟩

set_option maxRecDepth 100000 in
theorem lifted (os : Os) (started : os.Started) (H : Type) (enc : TypeId × Value → H) (F : Stop.Interp) :
    ReturnsInHanded {} Tryd.checked os 3 .any ((Rows.OpenSpec.upto Rows.crcSumsSpec).preRow enc Tryd.prog Tryd.f3 Rows.crcSumsUptoRow.domain false Rows.crcSumsUptoRow.laid) (((Rows.OpenSpec.upto Rows.crcSumsSpec).at F).post enc Tryd.prog Tryd.f3 false true false false) := by
  obtain ⟨places, hx⟩ := reads os enc
  refine returnsInHanded_of_row (C := Tryd.checked) (s := Rows.OpenSpec.upto Rows.crcSumsSpec) own started (by kernel_rfl) Tryd.func3
    (witness_row_at (enc := enc) (C := Tryd.checked) false (World.doorLaid Tryd.prog 400 os) #[.slice none 0 0] rfl (by kernel_rfl) (by kernel_rfl) (by kernel_rfl)
      (OpenSpec.preRow_of_cond 8 hx (by kernel_rfl) (fun k hk => by cases hk; kernel_rfl) (by kernel_rfl) (laidMet_of_run' 8 (by kernel_rfl) (by kernel_rfl)))) ?_
  intro W base args ds gs before hval0 hW _ hcond _ hL _ _
  have hLd := laid_of hL
  have hbound := hcond _ rfl
  have hval : ∀ (j : Nat) t v, Tryd.f3.params[j]? = some t → args[j]? = some v → Value.okWide Tryd.prog W .any base t v := hval0
  have hW' := hW
  obtain ⟨p, q, hA0, hV, rfl, hfz, hnd⟩ := hW
  have hA : DataW.TrodAll enc Tryd.prog W 0 (fun _ => true) true Tryd.f3.params.toList args.toList ds p := hA0
  rw [Tryd.params3] at hA hval
  obtain ⟨v0, vs0, d0, ds0, p0, q0, hargs, rfl, rfl, h0, r0⟩ := trodAll_cons hA
  obtain ⟨rfl, rfl, rfl⟩ := trodAll_nil r0
  obtain rfl : args = #[v0] := by cases args; simp_all
  obtain ⟨rfl, rfl⟩ := trodVars_none hV
  obtain ⟨a0, len0, cap0, rfl⟩ := okWide_slice Tryd.underlying22 (hval 0 22 v0 rfl rfl)
  have k0 := h0
  have lt0 : ∀ x ∈ p0, x.block < W.heap.size := by obtain ⟨m, hm⟩ := k0; exact DataW.trod_lt m _ _ _ hm
  obtain ⟨ps, ls, hP, hn, hB⟩ : ∃ ps ls, Parts W (.slice a0 len0 cap0) ps ls ∧ len0 = ps.length ∧ ls.flatten.length + ps.length ≤ Rows.uptoBulk d0 := by
    obtain ⟨fuel, hf⟩ := h0
    exact parts_of hf
  have hB2 : Rows.uptoBulk d0 ≤ 1048576 := by
    have h := of_decide_eq_true hbound
    simp only [List.append_nil, Rows.uptoBulkAll] at h
    omega
  clear hA0 hval0
  refine (walk_Sums a0 len0 cap0 ps ls W hLd hP hn (by omega)).mono fun e W' ⟨he, bel⟩ => ?_
  subst he
  exact ⟨_, rfl, _, _, _, [], _, [], hW', trodAll_mk1 (shut_bool Tryd.underlying4 _), (trodAll_cons_mk (Below.trod laidOut (by kernel_rfl) (of_decide_eq_true (by kernel_rfl)) k0 bel lt0) trodAll_mk0), rfl, bel.frame _, fun h => by cases h⟩

theorem over : Rows.CrcSumsUptoSaid :=
  OpenClaim.holds_of_cond 3 Tryd.f3 rfl rfl rfl rfl rfl rfl rfl ⟨rfl, rfl, rfl, rfl, rfl⟩ rfl rfl rfl rfl rfl (by kernel_rfl) Tryd.func3 (by kernel_rfl)
    (of_decide_eq_true (by kernel_rfl)) (by unfold Func.isWrapper; first | (rw [if_pos (by decide +kernel)]; kernel_rfl) | (rw [if_neg (by decide +kernel)]; exact ⟨rfl, rfl⟩))
    (fun os started H enc _ F => by rw [OpenClaim.pre_eq_preRow]; exact lifted os started H enc F)

/-- THE STATEMENT: the second form's card, its tie the given one. -/
theorem proved : Rows.CrcSumsUptoCardSaid :=
  Claim7.holds_tied_plain_at .later [] _ _ _ _
    over (fun _ h => by cases h) (by kernel_rfl) (fun _ h => by cases h) crcSumsUpto_row_tie rfl ⟨rfl, rfl⟩ (by kernel_rfl) rfl
    (fun f fn hf hfn => by
      obtain rfl : f = 3 := Option.some.inj ((show Tryd.prog.funcNamed "shredder/shredderlaw4.CrcSums" = some 3 by kernel_rfl).symm.trans hf) |>.symm
      obtain rfl : fn = Tryd.f3 := (Option.some.inj (Tryd.func3.symm.trans hfn)).symm
      exact ⟨by kernel_rfl, fun j t ht => by
        rw [Tryd.params3] at ht
        have hm := Array.mem_of_getElem? ht
        have hall : (Tryd.f3.params.toList.all fun u => !Tryd.prog.wantsStandIn u) = true := by kernel_rfl
        rw [Tryd.params3] at hall
        exact (show Tryd.prog.wantsStandIn t = false by simpa using List.all_eq_true.1 hall t (by simpa using hm))⟩)
    (by kernel_rfl)
#print axioms proved
end Go.Proofs.YthmdebnmjlminaaDoor.crcSums
