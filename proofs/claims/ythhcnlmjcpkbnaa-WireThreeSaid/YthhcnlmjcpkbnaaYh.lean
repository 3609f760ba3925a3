/- Records of raw numbers: as lists, and the maker's next number. -/
import Derived.Test.YthhcnlmjcpkbnaaYg
import Derived.Test.YthhcnlmjcpkbnaaW8
import Derived.Test.YthhcnlmjcpkbnaaQk
import Derived.Test.YthhcnlmjcpkbnaaA3
import Derived.BigQuiet
namespace Go.Proofs.Ythhcnlmjcpkbnaa
open Go.RowKit
set_option linter.unusedVariables false

/-- The next number, and where one stands behind it. -/
def nx (ns : List Int) (p : Nat) : Int × Nat := if p < ns.length then (ns.getD p 0, p + 1) else (0, p)

/-- So many values, one behind the other. -/
def mkLs (f : Nat → Tr × Nat) : Nat → Nat → List Tr × Nat
  | 0, p => ([], p)
  | j + 1, p => ((mkLs f j p).1 ++ [(f (mkLs f j p).2).1], (f (mkLs f j p).2).2)

/-- How often a field is there, and where one stands behind that. -/
def cntF (l : List F) (ns : List Int) (i p : Nat) : Nat × Nat :=
  if (l.getD i default).r = 1 then (((nx ns p).1 % 2).toNat, (nx ns p).2) else if (l.getD i default).r = 2 then (((nx ns p).1 % 4).toNat, (nx ns p).2) else (1, p)

/-- One field more. -/
def stepK (l : List F) (ns : List Int) (f : Nat → Nat → Tr × Nat) (s : List (List Tr) × Nat) (i : Int) : List (List Tr) × Nat :=
  (s.1 ++ [(mkLs (f i.toNat) (cntF l ns i.toNat s.2).1 (cntF l ns i.toNat s.2).2).1], (mkLs (f i.toNat) (cntF l ns i.toNat s.2).1 (cntF l ns i.toNat s.2).2).2)

def abc : ByteArray := { data := #[97, 98, 99, 97, 98, 99, 97, 98, 99, 97, 98, 99] }

/-- The fields of a group, up to a place. -/
def kidsTo (l : List F) (ns : List Int) (f : Nat → Nat → Tr × Nat) (at' m p : Nat) : List (List Tr) × Nat := (kidsU (parents l) m at').foldl (stepK l ns f) ([], p)

/-- A value of a field, of raw numbers from a place on. -/
def mkT (l : List F) (ns : List Int) : Nat → Nat → Nat → Tr × Nat
  | 0, _, p => (default, p)
  | d + 1, f, p =>
    if (l.getD f default).k = 1 then (.mk ((nx ns p).1 % 2) ByteArray.empty [], (nx ns p).2)
    else if (l.getD f default).k = 2 then (.mk ((nx ns p).1 % 300 - 100) ByteArray.empty [], (nx ns p).2)
    else if (l.getD f default).k = 3 then (.mk (nx ns p).1 ByteArray.empty [], (nx ns p).2)
    else if (l.getD f default).k = 4 then (.mk 0 (abc.extract 0 ((nx ns p).1 % 9).toNat) [], (nx ns p).2)
    else (.mk 0 ByteArray.empty (kidsTo l ns (mkT l ns d) f l.length (nx ns p).2).1, (kidsTo l ns (mkT l ns d) f l.length (nx ns p).2).2)

theorem mkLs_len (f : Nat → Tr × Nat) : ∀ j p, (mkLs f j p).1.length = j
  | 0, _ => rfl
  | j + 1, p => by rw [mkLs, List.length_append, mkLs_len f j p]; rfl

theorem nx_le {ns : List Int} {p : Nat} (h : p ≤ ns.length) : (nx ns p).2 ≤ ns.length := by
  unfold nx
  split
  · show p + 1 ≤ _; omega
  · exact h

theorem kidsTo_skip {l : List F} {ns : List Int} {f : Nat → Nat → Tr × Nat} {at' m p : Nat} (h : (parents l).getD m 0 ≠ (at' : Int)) : kidsTo l ns f at' (m + 1) p = kidsTo l ns f at' m p := by
  unfold kidsTo
  rw [kidsU_succ, if_neg h]

theorem kidsTo_step {l : List F} {ns : List Int} {f : Nat → Nat → Tr × Nat} {at' m p : Nat} (h : (parents l).getD m 0 = (at' : Int)) : kidsTo l ns f at' (m + 1) p = stepK l ns f (kidsTo l ns f at' m p) (m : Int) := by
  unfold kidsTo
  rw [kidsU_succ, if_pos h, List.foldl_append]
  rfl

theorem kidsU_low (l : List F) (at' : Nat) : ∀ m, m ≤ at' + 1 → m ≤ l.length → kidsU (parents l) m at' = []
  | 0, _, _ => rfl
  | m + 1, h, hl => by
    have hx : (parents l)[m]? = some ((parents l).getD m 0) := by rw [List.getD, List.getElem?_eq_getElem (by rw [parents_length]; omega)]; rfl
    have := parents_lt hx
    rw [kidsU_succ, if_neg (by omega)]
    exact kidsU_low l at' m (by omega) (by omega)

theorem kidsTo_low (l : List F) (ns : List Int) (f : Nat → Nat → Tr × Nat) (at' p : Nat) (h : at' < l.length) : kidsTo l ns f at' (at' + 1) p = ([], p) := by
  unfold kidsTo
  rw [kidsU_low l at' (at' + 1) (Nat.le_refl _) h]
  rfl

theorem stepK_len (l : List F) (ns : List Int) (f : Nat → Nat → Tr × Nat) : ∀ (is : List Int) (s : List (List Tr) × Nat), (is.foldl (stepK l ns f) s).1.length = s.1.length + is.length
  | [], s => rfl
  | i :: is, s => by
    rw [List.foldl_cons, stepK_len l ns f is]
    simp [stepK]
    omega

theorem kidsTo_len (l : List F) (ns : List Int) (f : Nat → Nat → Tr × Nat) (at' m p : Nat) : (kidsTo l ns f at' m p).1.length ≤ m := by
  unfold kidsTo
  rw [stepK_len]
  simpa using kidsU_len (parents l) m at'

/-- How the maker stands. -/
structure MkM (w0 w : World) (gm : Nat) (l : List F) (ns : List Int) (sv pv nv : Value) (p : Nat) : Prop where
  hs : SeenF w0 sv l
  hp : SeenI w0 pv (parents l)
  hn : SeenI w0 nv ns
  g0 : w0.heap.size ≤ gm
  c0 : Chg [] w0 w
  bl : w.heap[gm]? = some (.cells #[sv, pv, nv, .int .i64 (p : Int)] 85 (0, 0))
  pl : p ≤ ns.length

theorem MkM.cells {w0 w : World} {gm : Nat} {l : List F} {ns : List Int} {sv pv nv : Value} {p : Nat} (h : MkM w0 w gm l ns sv pv nv p) : w.cell? ⟨gm, 0, none⟩ = some sv ∧ w.cell? ⟨gm, 1, none⟩ = some pv ∧ w.cell? ⟨gm, 2, none⟩ = some nv ∧ w.cell? ⟨gm, 3, none⟩ = some (.int .i64 (p : Int)) ∧ ∀ i, w.frozen? ⟨gm, i, none⟩ = false := by
  have hb := h.bl
  exact ⟨by rw [cell_of_row w gm 0 _ _ _ hb]; rfl, by rw [cell_of_row w gm 1 _ _ _ hb]; rfl, by rw [cell_of_row w gm 2 _ _ _ hb]; rfl, by rw [cell_of_row w gm 3 _ _ _ hb]; rfl, fun i => by simp [World.frozen?, hb]⟩

theorem MkM.keep {w0 w w' : World} {gm : Nat} {l : List F} {ns : List Int} {sv pv nv : Value} {p : Nat} (h : MkM w0 w gm l ns sv pv nv p) (hc : Chg [] w w') : MkM w0 w' gm l ns sv pv nv p :=
  ⟨h.hs, h.hp, h.hn, h.g0, h.c0.trans hc (by simp), hc.heap h.bl (by simp), h.pl⟩

theorem MkM.keepS {w0 w w' : World} {gm : Nat} {S : List Nat} {l : List F} {ns : List Int} {sv pv nv : Value} {p : Nat} (h : MkM w0 w gm l ns sv pv nv p) (hc : Chg S w w') (hS : ∀ g ∈ S, gm < g) : MkM w0 w' gm l ns sv pv nv p :=
  ⟨h.hs, h.hp, h.hn, h.g0, h.c0.trans hc fun t ht => .inr (by have := hS t ht; have := h.g0; omega), hc.heap h.bl fun hm => by have := hS gm hm; omega, h.pl⟩

theorem MkM.bump {w0 w : World} {gm : Nat} {l : List F} {ns : List Int} {sv pv nv : Value} {p : Nat} (h : MkM w0 w gm l ns sv pv nv p) (hp : p < ns.length) : MkM w0 (w.setCell ⟨gm, 3, none⟩ (.int .i64 ((p : Int) + 1))) gm l ns sv pv nv (p + 1) := by
  have hc : Chg [gm] w (w.setCell ⟨gm, 3, none⟩ (.int .i64 ((p : Int) + 1))) := (Chg.refl [gm] w).setCell (by simp) _
  refine ⟨h.hs, h.hp, h.hn, h.g0, h.c0.trans hc (by have := h.g0; simpa using this), ?_, hp⟩
  rw [heap_set h.bl]
  simp

set_option maxRecDepth 100000 in
set_option maxHeartbeats 1000000 in
theorem next8_any (w0 w : World) (gm : Nat) (l : List F) (ns : List Int) (sv pv nv : Value) (p : Nat) (h : MkM w0 w gm l ns sv pv nv p) :
    Calls Try.prog 89 #[.pointer (some ⟨gm, 0, none⟩)] w fun e w' => e = .returned (.int .i64 (nx ns p).1) ∧ MkM w0 w' gm l ns sv pv nv (nx ns p).2 ∧ Chg [gm] w w' := by
  obtain ⟨c0, c1, c2, c3, hfz⟩ := h.cells
  obtain ⟨no, ncap, rfl, hn1, hn2⟩ := h.hn.shape
  have hpl := h.pl
  have H := Lib.hid h
  obtain ⟨n, hn⟩ : ∃ n, n = ns.length := ⟨_, rfl⟩
  rw [← hn] at c2 hn1 hpl H ⊢
  have HN := Lib.hid hn
  have hnx : n ≤ 9223372036854775807 := by unfold maxLen at hn2; omega
  by_cases hlt : p < n
  · obtain ⟨g, off, rfl, hcs⟩ := SeenI.get (h.hn.keep h.c0) (by rw [← hn]; omega) rfl
    have hx := hcs p (by rw [← hn]; exact hlt)
    obtain ⟨x, hxx⟩ : ∃ x, x = ns.getD p 0 := ⟨_, rfl⟩
    rw [← hxx] at hx
    have E := Lib.hid (show nx ns p = (x, p + 1) by unfold nx; rw [if_pos (by rw [← hn]; exact hlt), hxx])
    have d1 : decide ((n : Int) ≤ (p : Int)) = false := by simp; omega
    have d1' : ¬ n ≤ p := by omega
    have hz1 : IntKind.i64.wrap ((p : Int) + 1) = (p : Int) + 1 := IntWalk.i64_in _ (by omega)
    have hz2 : IntKind.i64.wrap ((p : Int) + 1 - 1) = (p : Int) := by rw [Int.add_sub_cancel]; exact IntWalk.i64_in _ (by omega)
    have hgs : g ≠ gm := by
      have h0 := h.g0
      obtain ⟨_, _, e, h5⟩ := h.hn.at (by rw [← hn]; omega)
      injection e with e; injection e with e1 e2 e3
      subst e1
      have : g < w0.heap.size := World.block_lt_of_cell? w0 _ (h5 p x 0 _ (by rw [hxx, List.getD, List.getElem?_eq_getElem (by rw [← hn]; exact hlt)]; rfl) rfl)
      omega
    clear h hcs hxx hn
    go_enter Try.func89, Try.ntmps89
    go_wp2_with fail
    go_quiet (fail)
    go_wp2_with fail
    have hP := (H.out.keep ((Chg.refl [] w).drewN nq)).bump (by rw [← HN.out]; exact hlt)
    have hcx : ((w.drewN nq).setCell ⟨gm, 3, none⟩ (.int .i64 ((p : Int) + 1))).cell? ⟨g, off + p, none⟩ = some (.int .i64 x) := (((Chg.refl [gm] w).drewN nq).setCell (by simp) _).cell hx (by simpa using hgs)
    have HCW := Lib.hid (show Chg [gm] w ((w.drewN nq).setCell ⟨gm, 3, none⟩ (.int .i64 ((p : Int) + 1))) from ((Chg.refl [gm] w).drewN nq).setCell (by simp) _)
    generalize (w.drewN nq).setCell ⟨gm, 3, none⟩ (.int .i64 ((p : Int) + 1)) = W1 at hP hcx HCW ⊢
    obtain ⟨b0, b1, b2, b3, -⟩ := hP.cells
    rw [show (((p + 1 : Nat)) : Int) = (p : Int) + 1 by omega] at b3
    have HP := Lib.hid hP
    clear hP c0 c1 c2 c3 hfz hx d1 d1'
    go_quiet (fail)
    go_wp2
    go_ret
    rw [E.out]
    exact ⟨rfl, HP.out.keep ((Chg.refl [] W1).drewN _), HCW.out.drewN _⟩
  · have E := Lib.hid (show nx ns p = (0, p) by unfold nx; rw [if_neg (by rw [← hn]; exact hlt)])
    have d1 : decide ((n : Int) ≤ (p : Int)) = true := by simp; omega
    have d1' : n ≤ p := by omega
    clear h hn
    go_enter Try.func89, Try.ntmps89
    go_wp2_with fail
    go_quiet (fail)
    go_wp2
    go_ret
    rw [E.out]
    exact ⟨rfl, H.out.keep ((Chg.refl [] w).drewN _), (Chg.refl _ w).drewN _⟩

end Go.Proofs.Ythhcnlmjcpkbnaa
