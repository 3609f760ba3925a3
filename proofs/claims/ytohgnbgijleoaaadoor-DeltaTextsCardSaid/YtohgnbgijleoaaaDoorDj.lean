/- delta: the forms of kinds; the parts of values: joined, number, part. -/
import Derived.Test.YtohgnbgijleoaaaDoorUe
import Derived.Test.YtohgnbgijleoaaaDoorDc
import Derived.Test.YtohgnbgijleoaaaDoorLay
import Derived.Test.YtohgnbgijleoaaaDoorSa
import Derived.BigQuiet
namespace Go.Proofs.YtohgnbgijleoaaaDoor
open Go.RowKit
set_option linter.unusedVariables false
set_option linter.unusedSimpArgs false

/-- A kind's form. -/
def frmB (k : Int) : ByteArray := if k < 0 ∨ 4 < k then e0 else str (frmS.getD k.toNat [])

set_option maxRecDepth 100000 in
set_option maxHeartbeats 1000000 in
theorem formOf_any12 (k : Int) (w : World) (hk : -9223372036854775808 ≤ k ∧ k ≤ 9223372036854775807) (hL : Laid w) :
    Calls Tryd.prog 17 #[.int .i64 k] w fun e w' => e = .returned (.string (frmB k)) ∧ w = w' := by
  by_cases h1 : k < 0
  · have E := Lib.hid (show frmB k = e0 by unfold frmB; rw [if_pos (by omega)])
    rw [E.out]
    go_enter Tryd.func17, Tryd.ntmps17
    go_wp2
    go_ret
    exact ⟨rfl, rfl⟩
  · by_cases h2 : 5 ≤ k
    · have E := Lib.hid (show frmB k = e0 by unfold frmB; rw [if_pos (by omega)])
      rw [E.out]
      go_enter Tryd.func17, Tryd.ntmps17
      go_wp2
      go_ret
      exact ⟨rfl, rfl⟩
    · obtain ⟨q, hq⟩ : ∃ q : Nat, k = (q : Int) := ⟨k.toNat, by omega⟩
      have hq5 : q < 5 := by omega
      have E := Lib.hid (show frmB k = str (frmS.getD q []) by unfold frmB; rw [if_neg (by omega), hq]; rfl)
      have x0 := hL.frm q hq5
      rw [E.out]
      obtain ⟨s, hs⟩ : ∃ s, s = str (frmS.getD q []) := ⟨_, rfl⟩
      rw [← hs] at x0 ⊢
      have b1 : decide ((q : Int) < 0) = false := by simp
      have b2 : decide ((5 : Int) ≤ (q : Int)) = false := by simp; omega
      have b3 : (q : Int) < 5 := by omega
      have b4 : ¬ (5 : Int) ≤ (q : Int) := by omega
      subst hq
      clear hL hs h1 h2
      go_enter Tryd.func17, Tryd.ntmps17
      go_wp2
      go_ret
      exact ⟨rfl, rfl⟩

theorem number_len12 (v : V) (w : World) (hs : v.s.size ≤ 100) :
    Calls Tryd.prog 34 #[.int .i32 108, vvV v] w fun e w' => e = .returned (.int .i64 (v.s.size : Int)) ∧ Chg [] w w' := by
  unfold vvV
  go_enter Tryd.func34, Tryd.ntmps34
  go_wp2
  go_ret
  exact ⟨rfl, (Chg.refl [] w).alloc _⟩

theorem number_n12 (sg : Int) (v : V) (w : World) (hs : (sg == 108) = false) :
    Calls Tryd.prog 34 #[.int .i32 sg, vvV v] w fun e w' => e = .returned (.int .i64 v.n) ∧ Chg [] w w' := by
  unfold vvV
  go_enter Tryd.func34, Tryd.ntmps34
  go_wp2
  go_ret
  exact ⟨rfl, (Chg.refl [] w).alloc _⟩

set_option maxRecDepth 100000 in
set_option maxHeartbeats 4000000 in
theorem part_num12 (sg : Int) (f : V → Int) (lv : Value) (l : List V) (w : World) (hS : SeenV w lv l) (hl : l.length ≤ 100000) (hsg : (sg == 116) = false) (hf : ∀ v ∈ l, In64 (f v))
    (hnum : ∀ v ∈ l, ∀ wx, Calls Tryd.prog 34 #[.int .i32 sg, vvV v] wx fun e w' => e = .returned (.int .i64 (f v)) ∧ Chg [] wx w') :
    Calls Tryd.prog 19 #[.int .i32 sg, lv] w fun e w' => ∃ x, e = .returned x ∧ Made 5 .u8 (intsE (l.map f)) w x w' := by
  obtain ⟨i0, hi, hz0, hz1, hz2⟩ := info_int
  obtain ⟨ao, cap, rfl, hc1, hc2⟩ := hS.shape
  obtain ⟨n, hn⟩ : ∃ n, n = l.length := ⟨_, rfl⟩
  rw [← hn] at hS hc1 hl ⊢
  have HN := Lib.hid hn; have HS := Lib.hid hS; have HNUM := Lib.hid hnum
  obtain ⟨d, hd⟩ : ∃ d, d = l.map f := ⟨_, rfl⟩
  have HDL := Lib.hid (show d.length = n by rw [hd, List.length_map, hn])
  have HDG := Lib.hid (show ∀ j v, l[j]? = some v → d.getD j 0 = f v from fun j v h => by rw [hd]; simp [List.getD, h])
  have HIN := Lib.hid (show ∀ x ∈ d, In64 x from fun x hx => by
    rw [hd] at hx
    obtain ⟨v, hv, rfl⟩ := List.mem_map.1 hx
    exact hf v hv)
  rw [← hd]
  clear hS hn hnum hd hf hc2
  go_enter Tryd.func19, Tryd.ntmps19
  go_wp2_with (first
    | (at_make; refine wpList_make_full _ rfl _ _ 33 rfl w.heap.size 3 i0 (.int .i64 0) 1 Tryd.underlying33 hi hz0 hz1 .i64 .i64 _ _ n rfl rfl rfl rfl ?c1 ?c2 (Nat.le_refl _) ?_)
    | fail)
  case c1 => rw [hz2]; omega
  case c2 => unfold maxLen; omega
  intro w2 hown hg
  rw [show (madeCells #[Value.int .i64 0] n).toList = iv (fillI d 0) by rw [cells_zeroI]; unfold fillI; rw [HDL.out]; simp] at hown
  have HC2 := Lib.hid ((Chg.refl [] w).grown hg (by simp))
  have HO2 := Lib.hid hown
  obtain ⟨gl, hgl⟩ : ∃ g, g = w.heap.size := ⟨_, rfl⟩
  have HGL := Lib.hid hgl
  rw [← hgl] at HO2 ⊢
  clear hown hg hgl
  go_wp2
  go_loopw [17] (fun i w' => ∃ j : Nat, j ≤ n ∧ i = .int .i64 (j : Int) ∧ Chg [] w w' ∧ w'.ownsRow gl 3 1 (.slice (some ⟨gl, 0, none⟩) n n) n (iv (fillI d j))) (fun i _ => n - (intOf i).toNat)
  case atStart => exact ⟨0, Nat.zero_le _, rfl, HC2.out, HO2.out⟩
  case round =>
    obtain ⟨j, hj, rfl, hc, ho⟩ := hrel
    have HC := Lib.hid hc; have HO := Lib.hid ho
    clear hc ho
    by_cases hlt : j < n
    · have d1 : decide ((j : Int) < (n : Int)) = true := by simp; omega
      obtain ⟨v, hv⟩ : ∃ v, l[j]? = some v := ⟨_, List.getElem?_eq_getElem (by rw [← HN.out]; exact hlt)⟩
      obtain ⟨g, off, rfl, hcell⟩ := SeenV.get (HS.out.keep HC.out) (by omega)
      obtain ⟨x0, x1⟩ := hcell j v hv
      have HF := Lib.hid (HNUM.out v (List.mem_of_getElem? hv))
      have HD := Lib.hid (HDG.out j v hv)
      obtain ⟨z, hz⟩ : ∃ z, z = f v := ⟨_, rfl⟩
      rw [← hz] at HF HD
      unfold vvV at HF
      have HFS := Lib.hid (fillI_set d j (by rw [HDL.out]; exact hlt))
      rw [HD.out] at HFS
      have HFA := Lib.hid (fillI_at d j (by rw [HDL.out]; exact hlt))
      have b1 : (j : Int) < (n : Int) := by omega
      clear hcell hv hz
      go_wp2_with (first
        | (go_at_call 34; (with_reducible refine (HF.out _).mono ?_); rintro e w4 ⟨rfl, hc4⟩; have HC4 := Lib.hid (((Chg.refl [] wr).alloc (.cells #[.int .i64 v.n, .string v.s] 39)).trans hc4 (by simp)); clear hc4; obtain ⟨g', hg', hge, hlt', hfz, hcl⟩ := own_ptr (own_chg HO.out HC4.out (by simp)) (by omega); injection hg' with hg'; injection hg' with hg'; subst hg'; have f0 := hfz j; have y0 := hcl j (.int .i64 0) HFA.out; clear hfz hcl)
        | fail)
      go_roundw
      case rel => exact ⟨j + 1, hlt, by go_num, (HC.out.trans HC4.out (by simp)).setCell (p := ⟨gl, j, none⟩) (.inr (by rw [← HGL.out]; exact Nat.le_refl _)) _, by
        have h := own_set (own_chg HO.out HC4.out (by simp)) j (by omega) (.int .i64 z)
        rw [HFS.out] at h
        exact h⟩
      case measure => simp [intOf]; omega
    · have d1 : decide ((j : Int) < (n : Int)) = false := by simp; omega
      obtain rfl : j = n := by omega
      have HSD := Lib.hid (show SeenI wr (.slice (some ⟨gl, 0, none⟩) j j) d by
        have h := HO.out
        rw [show fillI d j = d by rw [← HDL.out]; exact fillI_all _] at h
        exact ownI_seen h HDL.out)
      have HI := Lib.hid (dints_any _ d wr HSD.out (by rw [HDL.out]; omega) HIN.out)
      unfold Made at HI
      go_wp2_with (first
        | (go_at_call 15; (with_reducible refine HI.out.mono ?_); rintro e w5 ⟨x, rfl, hc5, ho5⟩; have HC5 := Lib.hid hc5; have HO5 := Lib.hid ho5; clear hc5 ho5)
        | fail)
      go_ret
      exact ⟨_, rfl, HC.out.trans HC5.out (by simp), own_mono HO5.out HC.out.size⟩

theorem wpList_append_txt {ops : Array Oper} {rest : List Oper} {o : Oper} {a : Act} {w : World} {Q : Exit → Act → World → Prop} (hgd : o.guard = none) (s x : Operand) (hop : o.op = Op.call { callee := Callee.builtin Builtin.append, args := #[s, x], argTypes := #[26, 9] })
    (base : Nat) (v : Value) (n : Nat) (xs : List Value) (hs : a.eval s = v) (hown : w.ownsRow base 5 1 v n xs) (b : ByteArray) (hx : a.eval x = .string b) (hb : n + b.size ≤ 140737488355328) (hbase : base ≤ w.heap.size)
    (h : ∀ v' w', w'.ownsRow base 5 1 v' (n + b.size) (xs ++ nv .u8 (bl b)) → w.grownBy w' v.ownBlock → wpList Tryd.prog ops Q rest (a.put o.dst v') w') : wpList Tryd.prog ops Q (o :: rest) a w := by
  obtain ⟨i0, hi, hz0, hz1, hz2⟩ := info_u8
  obtain ⟨v', w', hrun, r1, r2, -⟩ := Go.Lib.run_append_own_string (P := Tryd.prog) w base 26 9 o.type 5 i0 Tryd.underlying26 Tryd.underlying9 hi hz0 hz1 hz2 v n xs hown b (by unfold maxLen; omega) hb hbase
  have e : Go.Lib.strCells b = nv .u8 (bl b) := by
    simp [Go.Lib.strCells, nv, bl]
  rw [e] at r1
  refine wpList_plain hgd fun K hK => ?_
  unfold Oper.wp execOp
  simp only [hop, resolve, invoke, builtin, Sem.run_bind, Sem.run_pure, Result.andThen_ok, List.map_toArray, List.map_cons, List.map_nil, hs, hx, hrun]
  exact hK _ _ (h v' w' r1 r2)

/-- All texts, one behind the other. -/
def txt12 (l : List V) : List Nat := l.flatMap fun v => bl v.s
theorem txt12_len (l : List V) (h : ∀ v ∈ l, v.s.size ≤ 100) : (txt12 l).length ≤ 100 * l.length := by
  induction l with
  | nil => simp [txt12]
  | cons v l ih =>
    have h1 := h v (by simp)
    have h2 := ih fun x hx => h x (by simp [hx])
    unfold txt12 at h2 ⊢
    rw [List.flatMap_cons, List.length_append, bl_length, List.length_cons]
    omega
theorem txt12_snoc (l : List V) (j : Nat) (v : V) (h : l[j]? = some v) : txt12 (l.take (j + 1)) = txt12 (l.take j) ++ bl v.s := by
  rw [List.take_add_one, h]
  simp [txt12]

set_option maxRecDepth 100000 in
set_option maxHeartbeats 4000000 in
theorem joined12_any (lv : Value) (l : List V) (w : World) (hS : SeenV w lv l) (hl : l.length ≤ 100000) (hs : ∀ v ∈ l, v.s.size ≤ 100) :
    Calls Tryd.prog 33 #[lv] w fun e w' => ∃ x, e = .returned x ∧ Made 5 .u8 (txt12 l) w x w' := by
  obtain ⟨ao, cap, rfl, hc1, hc2⟩ := hS.shape
  obtain ⟨n, hn⟩ : ∃ n, n = l.length := ⟨_, rfl⟩
  rw [← hn] at hS hc1 hl ⊢
  have HN := Lib.hid hn; have HS := Lib.hid hS; have HSZ := Lib.hid hs
  clear hS hn hs hc2
  go_enter Tryd.func33, Tryd.ntmps33
  go_wp2
  go_loopw [3, 8] (fun bv i w' => ∃ j : Nat, j ≤ n ∧ i = .int .i64 (j : Int) ∧ Chg [] w w' ∧ w'.ownsRow w.heap.size 5 1 bv (txt12 (l.take j)).length (nv .u8 (txt12 (l.take j)))) (fun _ i _ => n - (intOf i).toNat)
  case atStart => exact ⟨0, Nat.zero_le _, rfl, Chg.refl _ _, World.ownsRow_nil _ _ _ _⟩
  case round =>
    obtain ⟨j, hj, rfl, hc, ho⟩ := hrel
    obtain ⟨bo, bc, rfl⟩ := own_shape ho
    have hB := hc.size
    have hlen := txt12_len (l.take j) (fun v hv => HSZ.out v (List.mem_of_mem_take hv))
    rw [List.length_take] at hlen
    obtain ⟨X, hX⟩ : ∃ X, X = txt12 (l.take j) := ⟨_, rfl⟩
    rw [← hX] at ho hlen ⊢
    obtain ⟨m, hm⟩ : ∃ m, m = X.length := ⟨_, rfl⟩
    rw [← hm] at ho hlen ⊢
    have HC := Lib.hid hc; have HO := Lib.hid ho; have HX := Lib.hid hX; have HM := Lib.hid hm
    clear hc ho hX hm
    by_cases hlt : j < n
    · have d1 : decide ((j : Int) < (n : Int)) = true := by simp; omega
      obtain ⟨v, hv⟩ : ∃ v, l[j]? = some v := ⟨_, List.getElem?_eq_getElem (by rw [← HN.out]; exact hlt)⟩
      obtain ⟨g, off, rfl, hcell⟩ := SeenV.get (HS.out.keep HC.out) (by omega)
      obtain ⟨x0, x1⟩ := hcell j v hv
      have HT := Lib.hid (txt12_snoc l j v hv)
      rw [← HX.out] at HT
      have hvs := HSZ.out v (List.mem_of_getElem? hv)
      have b1 : (j : Int) < (n : Int) := by omega
      have hnl : j ≤ n := hj
      clear hcell hv
      go_wp2_with (first
        | (at_builtin; refine wpList_append_txt rfl _ _ rfl w.heap.size _ _ _ rfl (HO.out.alloc _) v.s rfl ?c1 ?c2 ?_)
        | fail)
      case c1 => omega
      case c2 => simp; omega
      intro v6 w6 hown6 hgrow6
      have HC6 := Lib.hid ((HC.out.alloc _).grown hgrow6 (fun k hk => .inr (own_ge HO.out k hk)))
      rw [show nv .u8 X ++ nv .u8 (bl v.s) = nv .u8 (X ++ bl v.s) by simp [nv], ← HT.out] at hown6
      have HO6 := Lib.hid hown6
      have HTL := Lib.hid (show (txt12 (l.take (j + 1))).length = m + v.s.size by rw [HT.out, List.length_append, bl_length, HM.out])
      clear hown6 hgrow6
      go_wp2
      go_roundw
      case rel => exact ⟨j + 1, hlt, by go_num, HC6.out, by rw [HTL.out]; exact HO6.out⟩
      case measure => simp [intOf]; omega
    · have d1 : decide ((j : Int) < (n : Int)) = false := by simp; omega
      obtain rfl : j = n := by omega
      go_wp2
      go_ret
      have h := HO.out
      rw [HM.out, HX.out, show l.take j = l by rw [HN.out, List.take_length]] at h
      refine ⟨_, rfl, HC.out, ?_⟩
      rw [HM.out, HX.out, show l.take j = l by rw [HN.out, List.take_length]]
      exact h

end Go.Proofs.YtohgnbgijleoaaaDoor
