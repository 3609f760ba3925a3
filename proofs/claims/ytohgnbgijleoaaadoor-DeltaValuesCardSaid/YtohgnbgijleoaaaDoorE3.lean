/- Dj, Dk: texts of one group, one behind the other. -/
import Derived.Test.YtohgnbgijleoaaaDoorU4
import Derived.Test.YtohgnbgijleoaaaDoorE1
import Derived.Test.YtohgnbgijleoaaaDoorLay
import Derived.Test.YtohgnbgijleoaaaDoorSa
import Derived.BigQuiet
import Derived.Lib.OthersKept
namespace Go.Proofs.YtohgnbgijleoaaaDoor
open Go.RowKit
set_option linter.unusedVariables false
set_option linter.unusedSimpArgs false

/-- A kind's form. -/
def frmB (k : Int) : ByteArray := if k < 0 ∨ 4 < k then e0 else str (frmS.getD k.toNat [])

set_option maxRecDepth 100000 in
set_option maxHeartbeats 1000000 in
theorem formOf_any12 (k : Int) (w : World) (hk : -9223372036854775808 ≤ k ∧ k ≤ 9223372036854775807) (hL : Laid w) :
    Calls Tryd.prog 17 #[.int .i64 k] w fun e w' => e = .returned (.string (frmB k)) ∧ w = w' := by
  by_cases h1 : k < 0
  · have E := Lib.hid (show frmB k = e0 by unfold frmB; rw [if_pos (by omega)])
    rw [E.out]
    go_enter Tryd.func17, Tryd.ntmps17
    go_wp2
    go_ret
    exact ⟨rfl, rfl⟩
  · by_cases h2 : 5 ≤ k
    · have E := Lib.hid (show frmB k = e0 by unfold frmB; rw [if_pos (by omega)])
      rw [E.out]
      go_enter Tryd.func17, Tryd.ntmps17
      go_wp2
      go_ret
      exact ⟨rfl, rfl⟩
    · obtain ⟨q, hq⟩ : ∃ q : Nat, k = (q : Int) := ⟨k.toNat, by omega⟩
      have hq5 : q < 5 := by omega
      have E := Lib.hid (show frmB k = str (frmS.getD q []) by unfold frmB; rw [if_neg (by omega), hq]; rfl)
      have x0 := hL.frm q hq5
      rw [E.out]
      obtain ⟨s, hs⟩ : ∃ s, s = str (frmS.getD q []) := ⟨_, rfl⟩
      rw [← hs] at x0 ⊢
      have b1 : decide ((q : Int) < 0) = false := by simp
      have b2 : decide ((5 : Int) ≤ (q : Int)) = false := by simp; omega
      have b3 : (q : Int) < 5 := by omega
      have b4 : ¬ (5 : Int) ≤ (q : Int) := by omega
      subst hq
      clear hL hs h1 h2
      go_enter Tryd.func17, Tryd.ntmps17
      go_wp2
      go_ret
      exact ⟨rfl, rfl⟩

theorem number_len12 (v : V) (w : World) (hs : v.s.size ≤ 100) :
    Calls Tryd.prog 34 #[.int .i32 108, vvV v] w fun e w' => e = .returned (.int .i64 (v.s.size : Int)) ∧ Chg [] w w' := by
  unfold vvV
  go_enter Tryd.func34, Tryd.ntmps34
  go_wp2
  go_ret
  exact ⟨rfl, (Chg.refl [] w).alloc _⟩

theorem number_n12 (sg : Int) (v : V) (w : World) (hs : (sg == 108) = false) :
    Calls Tryd.prog 34 #[.int .i32 sg, vvV v] w fun e w' => e = .returned (.int .i64 v.n) ∧ Chg [] w w' := by
  unfold vvV
  go_enter Tryd.func34, Tryd.ntmps34
  go_wp2
  go_ret
  exact ⟨rfl, (Chg.refl [] w).alloc _⟩

set_option maxRecDepth 100000 in
set_option maxHeartbeats 4000000 in
theorem part_num12 (sg : Int) (f : V → Int) (lv : Value) (l : List V) (w : World) (hS : SeenV w lv l) (hl : l.length ≤ 100000) (hsg : (sg == 116) = false) (hf : ∀ v ∈ l, In64 (f v))
    (hnum : ∀ v ∈ l, ∀ wx, Calls Tryd.prog 34 #[.int .i32 sg, vvV v] wx fun e w' => e = .returned (.int .i64 (f v)) ∧ Chg [] wx w') :
    Calls Tryd.prog 19 #[.int .i32 sg, lv] w fun e w' => ∃ x, e = .returned x ∧ Made 5 .u8 (intsE (l.map f)) w x w' := by
  obtain ⟨i0, hi, hz0, hz1, hz2⟩ := info_int
  obtain ⟨ao, cap, rfl, hc1, hc2⟩ := hS.shape
  obtain ⟨n, hn⟩ : ∃ n, n = l.length := ⟨_, rfl⟩
  rw [← hn] at hS hc1 hl ⊢
  have HN := Lib.hid hn; have HS := Lib.hid hS; have HNUM := Lib.hid hnum
  obtain ⟨d, hd⟩ : ∃ d, d = l.map f := ⟨_, rfl⟩
  have HDL := Lib.hid (show d.length = n by rw [hd, List.length_map, hn])
  have HDG := Lib.hid (show ∀ j v, l[j]? = some v → d.getD j 0 = f v from fun j v h => by rw [hd]; simp [List.getD, h])
  have HIN := Lib.hid (show ∀ x ∈ d, In64 x from fun x hx => by
    rw [hd] at hx
    obtain ⟨v, hv, rfl⟩ := List.mem_map.1 hx
    exact hf v hv)
  rw [← hd]
  clear hS hn hnum hd hf hc2
  go_enter Tryd.func19, Tryd.ntmps19
  go_wp2_with (first
    | (at_make; refine wpList_make_full _ rfl _ _ 33 rfl w.heap.size 3 i0 (.int .i64 0) 1 Tryd.underlying33 hi hz0 hz1 .i64 .i64 _ _ n rfl rfl rfl rfl ?c1 ?c2 (Nat.le_refl _) ?_)
    | fail)
  case c1 => rw [hz2]; omega
  case c2 => unfold maxLen; omega
  intro w2 hown hg
  rw [show (madeCells #[Value.int .i64 0] n).toList = iv (fillI d 0) by rw [cells_zeroI]; unfold fillI; rw [HDL.out]; simp] at hown
  have HC2 := Lib.hid ((Chg.refl [] w).grown hg (by simp))
  have HO2 := Lib.hid hown
  obtain ⟨gl, hgl⟩ : ∃ g, g = w.heap.size := ⟨_, rfl⟩
  have HGL := Lib.hid hgl
  rw [← hgl] at HO2 ⊢
  clear hown hg hgl
  go_wp2
  go_loopw [17] (fun i w' => ∃ j : Nat, j ≤ n ∧ i = .int .i64 (j : Int) ∧ Chg [] w w' ∧ w'.ownsRow gl 3 1 (.slice (some ⟨gl, 0, none⟩) n n) n (iv (fillI d j))) (fun i _ => n - (intOf i).toNat)
  case atStart => exact ⟨0, Nat.zero_le _, rfl, HC2.out, HO2.out⟩
  case round =>
    obtain ⟨j, hj, rfl, hc, ho⟩ := hrel
    have HC := Lib.hid hc; have HO := Lib.hid ho
    clear hc ho
    by_cases hlt : j < n
    · have d1 : decide ((j : Int) < (n : Int)) = true := by simp; omega
      obtain ⟨v, hv⟩ : ∃ v, l[j]? = some v := ⟨_, List.getElem?_eq_getElem (by rw [← HN.out]; exact hlt)⟩
      obtain ⟨g, off, rfl, hcell⟩ := SeenV.get (HS.out.keep HC.out) (by omega)
      obtain ⟨x0, x1⟩ := hcell j v hv
      have HF := Lib.hid (HNUM.out v (List.mem_of_getElem? hv))
      have HD := Lib.hid (HDG.out j v hv)
      obtain ⟨z, hz⟩ : ∃ z, z = f v := ⟨_, rfl⟩
      rw [← hz] at HF HD
      unfold vvV at HF
      have HFS := Lib.hid (fillI_set d j (by rw [HDL.out]; exact hlt))
      rw [HD.out] at HFS
      have HFA := Lib.hid (fillI_at d j (by rw [HDL.out]; exact hlt))
      have b1 : (j : Int) < (n : Int) := by omega
      clear hcell hv hz
      go_wp2_with (first
        | (go_at_call 34; (with_reducible refine (HF.out _).mono ?_); rintro e w4 ⟨rfl, hc4⟩; have HC4 := Lib.hid (((Chg.refl [] wr).alloc (.cells #[.int .i64 v.n, .string v.s] 39)).trans hc4 (by simp)); clear hc4; obtain ⟨g', hg', hge, hlt', hfz, hcl⟩ := own_ptr (own_chg HO.out HC4.out (by simp)) (by omega); injection hg' with hg'; injection hg' with hg'; subst hg'; have f0 := hfz j; have y0 := hcl j (.int .i64 0) HFA.out; clear hfz hcl)
        | fail)
      go_roundw
      case rel => exact ⟨j + 1, hlt, by go_num, (HC.out.trans HC4.out (by simp)).setCell (p := ⟨gl, j, none⟩) (.inr (by rw [← HGL.out]; exact Nat.le_refl _)) _, by
        have h := own_set (own_chg HO.out HC4.out (by simp)) j (by omega) (.int .i64 z)
        rw [HFS.out] at h
        exact h⟩
      case measure => simp [intOf]; omega
    · have d1 : decide ((j : Int) < (n : Int)) = false := by simp; omega
      obtain rfl : j = n := by omega
      have HSD := Lib.hid (show SeenI wr (.slice (some ⟨gl, 0, none⟩) j j) d by
        have h := HO.out
        rw [show fillI d j = d by rw [← HDL.out]; exact fillI_all _] at h
        exact ownI_seen h HDL.out)
      have HI := Lib.hid (dints_any _ d wr HSD.out (by rw [HDL.out]; omega) HIN.out)
      unfold Made at HI
      go_wp2_with (first
        | (go_at_call 15; (with_reducible refine HI.out.mono ?_); rintro e w5 ⟨x, rfl, hc5, ho5⟩; have HC5 := Lib.hid hc5; have HO5 := Lib.hid ho5; clear hc5 ho5)
        | fail)
      go_ret
      exact ⟨_, rfl, HC.out.trans HC5.out (by simp), own_mono HO5.out HC.out.size⟩

theorem wpList_append_txt {ops : Array Oper} {rest : List Oper} {o : Oper} {a : Act} {w : World} {Q : Exit → Act → World → Prop} (hgd : o.guard = none) (s x : Operand) (hop : o.op = Op.call { callee := Callee.builtin Builtin.append, args := #[s, x], argTypes := #[26, 9] })
    (base : Nat) (v : Value) (n : Nat) (xs : List Value) (hs : a.eval s = v) (hown : w.ownsRow base 5 1 v n xs) (b : ByteArray) (hx : a.eval x = .string b) (hb : n + b.size ≤ 140737488355328) (hbase : base ≤ w.heap.size)
    (h : ∀ v' w', w'.ownsRow base 5 1 v' (n + b.size) (xs ++ nv .u8 (bl b)) → w.grownBy w' v.ownBlock → wpList Tryd.prog ops Q rest (a.put o.dst v') w') : wpList Tryd.prog ops Q (o :: rest) a w := by
  obtain ⟨i0, hi, hz0, hz1, hz2⟩ := info_u8
  obtain ⟨v', w', hrun, r1, r2, -⟩ := Go.Lib.run_append_own_string (P := Tryd.prog) w base 26 9 o.type 5 i0 Tryd.underlying26 Tryd.underlying9 hi hz0 hz1 hz2 v n xs hown b (by unfold maxLen; omega) hb hbase
  have e : Go.Lib.strCells b = nv .u8 (bl b) := by
    simp [Go.Lib.strCells, nv, bl]
  rw [e] at r1
  refine wpList_plain hgd fun K hK => ?_
  unfold Oper.wp execOp
  simp only [hop, resolve, invoke, builtin, Sem.run_bind, Sem.run_pure, Result.andThen_ok, List.map_toArray, List.map_cons, List.map_nil, hs, hx, hrun]
  exact hK _ _ (h v' w' r1 r2)

/-- All texts, one behind the other. -/
def txt12 (l : List V) : List Nat := l.flatMap fun v => bl v.s
theorem txt12_len (l : List V) (h : ∀ v ∈ l, v.s.size ≤ 100) : (txt12 l).length ≤ 100 * l.length := by
  induction l with
  | nil => simp [txt12]
  | cons v l ih =>
    have h1 := h v (by simp)
    have h2 := ih fun x hx => h x (by simp [hx])
    unfold txt12 at h2 ⊢
    rw [List.flatMap_cons, List.length_append, bl_length, List.length_cons]
    omega
theorem txt12_snoc (l : List V) (j : Nat) (v : V) (h : l[j]? = some v) : txt12 (l.take (j + 1)) = txt12 (l.take j) ++ bl v.s := by
  rw [List.take_add_one, h]
  simp [txt12]

set_option maxRecDepth 100000 in
set_option maxHeartbeats 4000000 in
theorem joined12_any (lv : Value) (l : List V) (w : World) (hS : SeenV w lv l) (hl : l.length ≤ 100000) (hs : ∀ v ∈ l, v.s.size ≤ 100) :
    Calls Tryd.prog 33 #[lv] w fun e w' => ∃ x, e = .returned x ∧ Made 5 .u8 (txt12 l) w x w' := by
  obtain ⟨ao, cap, rfl, hc1, hc2⟩ := hS.shape
  obtain ⟨n, hn⟩ : ∃ n, n = l.length := ⟨_, rfl⟩
  rw [← hn] at hS hc1 hl ⊢
  have HN := Lib.hid hn; have HS := Lib.hid hS; have HSZ := Lib.hid hs
  clear hS hn hs hc2
  go_enter Tryd.func33, Tryd.ntmps33
  go_wp2
  go_loopw [3, 8] (fun bv i w' => ∃ j : Nat, j ≤ n ∧ i = .int .i64 (j : Int) ∧ Chg [] w w' ∧ w'.ownsRow w.heap.size 5 1 bv (txt12 (l.take j)).length (nv .u8 (txt12 (l.take j)))) (fun _ i _ => n - (intOf i).toNat)
  case atStart => exact ⟨0, Nat.zero_le _, rfl, Chg.refl _ _, World.ownsRow_nil _ _ _ _⟩
  case round =>
    obtain ⟨j, hj, rfl, hc, ho⟩ := hrel
    obtain ⟨bo, bc, rfl⟩ := own_shape ho
    have hB := hc.size
    have hlen := txt12_len (l.take j) (fun v hv => HSZ.out v (List.mem_of_mem_take hv))
    rw [List.length_take] at hlen
    obtain ⟨X, hX⟩ : ∃ X, X = txt12 (l.take j) := ⟨_, rfl⟩
    rw [← hX] at ho hlen ⊢
    obtain ⟨m, hm⟩ : ∃ m, m = X.length := ⟨_, rfl⟩
    rw [← hm] at ho hlen ⊢
    have HC := Lib.hid hc; have HO := Lib.hid ho; have HX := Lib.hid hX; have HM := Lib.hid hm
    clear hc ho hX hm
    by_cases hlt : j < n
    · have d1 : decide ((j : Int) < (n : Int)) = true := by simp; omega
      obtain ⟨v, hv⟩ : ∃ v, l[j]? = some v := ⟨_, List.getElem?_eq_getElem (by rw [← HN.out]; exact hlt)⟩
      obtain ⟨g, off, rfl, hcell⟩ := SeenV.get (HS.out.keep HC.out) (by omega)
      obtain ⟨x0, x1⟩ := hcell j v hv
      have HT := Lib.hid (txt12_snoc l j v hv)
      rw [← HX.out] at HT
      have hvs := HSZ.out v (List.mem_of_getElem? hv)
      have b1 : (j : Int) < (n : Int) := by omega
      have hnl : j ≤ n := hj
      clear hcell hv
      go_wp2_with (first
        | (at_builtin; refine wpList_append_txt rfl _ _ rfl w.heap.size _ _ _ rfl (HO.out.alloc _) v.s rfl ?c1 ?c2 ?_)
        | fail)
      case c1 => omega
      case c2 => simp; omega
      intro v6 w6 hown6 hgrow6
      have HC6 := Lib.hid ((HC.out.alloc _).grown hgrow6 (fun k hk => .inr (own_ge HO.out k hk)))
      rw [show nv .u8 X ++ nv .u8 (bl v.s) = nv .u8 (X ++ bl v.s) by simp [nv], ← HT.out] at hown6
      have HO6 := Lib.hid hown6
      have HTL := Lib.hid (show (txt12 (l.take (j + 1))).length = m + v.s.size by rw [HT.out, List.length_append, bl_length, HM.out])
      clear hown6 hgrow6
      go_wp2
      go_roundw
      case rel => exact ⟨j + 1, hlt, by go_num, HC6.out, by rw [HTL.out]; exact HO6.out⟩
      case measure => simp [intOf]; omega
    · have d1 : decide ((j : Int) < (n : Int)) = false := by simp; omega
      obtain rfl : j = n := by omega
      go_wp2
      go_ret
      have h := HO.out
      rw [HM.out, HX.out, show l.take j = l by rw [HN.out, List.take_length]] at h
      refine ⟨_, rfl, HC.out, ?_⟩
      rw [HM.out, HX.out, show l.take j = l by rw [HN.out, List.take_length]]
      exact h

end Go.Proofs.YtohgnbgijleoaaaDoor

namespace Go.Proofs.YtohgnbgijleoaaaDoor
open Go.RowKit
set_option linter.unusedVariables false
set_option linter.unusedSimpArgs false

theorem own_iter12 {w : World} {B T size n k : Nat} {v : Value} {xs : List Value} {s : ByteArray} {pos q : Nat} (h : w.ownsRow B T size v n xs) (hk : w.heap[k]? = some (.stringIter s pos)) : (w.iterAt k s q).ownsRow B T size v n xs := by
  obtain ⟨hl, h1⟩ := h
  refine ⟨hl, ?_⟩
  rcases h1 with h1 | ⟨g, cap, cur, rfl, hb, hg, h2⟩
  · exact .inl h1
  · refine .inr ⟨g, cap, cur, rfl, hb, ?_, h2⟩
    have hne : k ≠ g := by rintro rfl; rw [hk] at hg; cases hg
    show (w.heap.setIfInBounds k _)[g]? = _
    rw [Array.getElem?_setIfInBounds_ne hne]
    exact hg

theorem Chg.iterAt12 {S : List Nat} {a w : World} (h : Chg S a w) {k : Nat} (hk : k ∈ S ∨ a.heap.size ≤ k) (s : ByteArray) (q : Nat) : Chg S a (w.iterAt k s q) :=
  h.trans (T := [k]) ⟨rfl, rfl, rfl, by show _ ≤ (w.heap.setIfInBounds k _).size; simp, fun j _ hj => by
    show (w.heap.setIfInBounds k _)[j]? = _
    rw [Array.getElem?_setIfInBounds_ne (by simpa [eq_comm] using hj)]⟩ (by simpa using hk)

theorem iter_kept12 {w w' : World} {B T size n k : Nat} {v : Value} {xs : List Value} {s : ByteArray} {pos : Nat} (h : w.ownsRow B T size v n xs) (hk : w.heap[k]? = some (.stringIter s pos)) (hg : w.grownBy w' v.ownBlock) : w'.heap[k]? = some (.stringIter s pos) := by
  refine (hg.block k (Go.lt_of_block hk) fun e => ?_).trans hk
  obtain ⟨hl, h1⟩ := h
  rcases h1 with ⟨rfl, hn⟩ | ⟨g, cap, cur, rfl, hb, hgg, h2⟩
  · simp [Value.ownBlock] at e
  · simp [Value.ownBlock] at e
    subst e
    rw [hk] at hgg
    cases hgg

def itp12 (w : World) (g : Nat) : Nat := match w.heap[g]? with | some (.stringIter _ p) => p | _ => 0
theorem itp12_of {w : World} {g p : Nat} {s : ByteArray} (h : w.heap[g]? = some (.stringIter s p)) : itp12 w g = p := by unfold itp12; rw [h]

/-- What Encode writes. -/
def encD12 (k : Nat) (l : List V) : List Nat := if k = 1 then encP 1 l else if k = 4 then intsE (l.map fun v => (v.s.size : Int)) ++ txt12 l else intsE (l.map V.n)

/-- The signs of a form, and what its parts are. -/
def prt12 (k : Nat) (l : List V) : List (List Nat) := if k = 4 then [intsE (l.map fun v => (v.s.size : Int)), txt12 l] else [intsE (l.map V.n)]
def sg12 (k : Nat) : List Nat := frmS.getD k []
theorem prt12_flat (k : Nat) (hk : k = 2 ∨ k = 3 ∨ k = 4) (l : List V) : (prt12 k l).flatten = encD12 k l := by
  unfold prt12 encD12
  rcases hk with rfl | rfl | rfl
  · rw [if_neg (by decide), if_neg (by decide), if_neg (by decide)]; simp
  · rw [if_neg (by decide), if_neg (by decide), if_neg (by decide)]; simp
  · rw [if_pos rfl, if_neg (by decide), if_pos rfl]; simp
theorem prt12_len (k : Nat) (hk : k = 2 ∨ k = 3 ∨ k = 4) (l : List V) : (prt12 k l).length = (sg12 k).length := by
  unfold prt12
  rcases hk with rfl | rfl | rfl <;> rfl

theorem okV_in (k : Nat) (hk : k = 2 ∨ k = 3 ∨ k = 4) (v : V) (h : okV k v) : In64 v.n ∧ v.s.size ≤ 100 := by
  obtain ⟨-, h2, h3, h4⟩ := h
  unfold In64
  rcases hk with rfl | rfl | rfl
  · obtain ⟨ha, hb⟩ := h2 rfl
    rw [hb]
    exact ⟨by omega, by decide⟩
  · obtain ⟨ha, hb⟩ := h3 rfl
    rw [hb]
    exact ⟨by omega, by decide⟩
  · obtain ⟨ha, hb⟩ := h4 rfl
    exact ⟨by omega, hb⟩

theorem part12_any (k : Nat) (hk : k = 2 ∨ k = 3 ∨ k = 4) (lv : Value) (l : List V) (w : World) (hS : SeenV w lv l) (hl : l.length ≤ 100000) (hok : ∀ v ∈ l, okV k v) (j : Nat) (hj : j < (sg12 k).length) :
    Calls Tryd.prog 19 #[.int .i32 ((((sg12 k).getD j 0 : Nat) : Nat) : Int), lv] w fun e w' => ∃ x, e = .returned x ∧ Made 5 .u8 ((prt12 k l).getD j []) w x w' := by
  have hin := fun v hv => okV_in k hk v (hok v hv)
  have hnum : ∀ sg : Int, (sg == 116) = false → (sg == 108) = false → Calls Tryd.prog 19 #[.int .i32 sg, lv] w fun e w' => ∃ x, e = .returned x ∧ Made 5 .u8 (intsE (l.map V.n)) w x w' := fun sg h1 h2 =>
    part_num12 sg V.n lv l w hS hl h1 (fun v hv => (hin v hv).1) (fun v hv wx => number_n12 sg v wx h2)
  rcases hk with rfl | rfl | rfl
  · have hj : j < 1 := hj
    obtain rfl : j = 0 := by omega
    exact hnum 115 rfl rfl
  · have hj : j < 1 := hj
    obtain rfl : j = 0 := by omega
    exact hnum 110 rfl rfl
  · have hj : j < 2 := hj
    have h2 : j = 0 ∨ j = 1 := by omega
    rcases h2 with rfl | rfl
    · exact part_num12 108 (fun v => (v.s.size : Int)) lv l w hS hl rfl (fun v hv => by have := (hin v hv).2; unfold In64; omega) (fun v hv wx => number_len12 v wx (hin v hv).2)
    · have HJ := Lib.hid (joined12_any lv l w hS hl (fun v hv => (hin v hv).2))
      unfold Made at HJ
      show Calls Tryd.prog 19 #[.int .i32 116, lv] w fun e w' => ∃ x, e = .returned x ∧ Made 5 .u8 (txt12 l) w x w'
      clear hnum hin hok hS
      go_enter Tryd.func19, Tryd.ntmps19
      go_wp2_with (first
        | (go_at_call 33; (with_reducible refine HJ.out.mono ?_); rintro e w2 ⟨x, rfl, hc, ho⟩; have HC := Lib.hid hc; have HO := Lib.hid ho; clear hc ho)
        | fail)
      go_ret
      exact ⟨_, rfl, HC.out, HO.out⟩

theorem flat_take (P : List (List Nat)) (j : Nat) (h : j < P.length) : (P.take (j + 1)).flatten = (P.take j).flatten ++ P.getD j [] := by
  rw [List.take_add_one, List.getElem?_eq_getElem h, List.flatten_append]
  simp [List.getD, h]

theorem prt12_small (k : Nat) (hk : k = 2 ∨ k = 3 ∨ k = 4) (l : List V) (hok : ∀ v ∈ l, okV k v) (j : Nat) : ((prt12 k l).getD j []).length ≤ 100 * l.length := by
  have hin := fun v hv => okV_in k hk v (hok v hv)
  have h1 := intsE_len (l.map V.n) (fun x hx => by obtain ⟨v, hv, rfl⟩ := List.mem_map.1 hx; exact (hin v hv).1)
  have h2 := intsE_len (l.map fun v => (v.s.size : Int)) (fun x hx => by obtain ⟨v, hv, rfl⟩ := List.mem_map.1 hx; have := (hin v hv).2; unfold In64; omega)
  have h3 := txt12_len l (fun v hv => (hin v hv).2)
  rw [List.length_map] at h1 h2
  unfold prt12
  split
  · rcases j with _ | _ | j
    · simp; omega
    · simp; omega
    · simp
  · rcases j with _ | j
    · simp; omega
    · simp

set_option maxRecDepth 100000 in
set_option maxHeartbeats 4000000 in
theorem encode12_form (k : Nat) (hk : k = 2 ∨ k = 3 ∨ k = 4) (lv : Value) (l : List V) (w : World) (hL : Laid w) (hS : SeenV w lv l) (hl : l.length ≤ 1000) (hok : ∀ v ∈ l, okV k v) :
    Calls Tryd.prog 10 #[.int .i64 (k : Int), lv] w fun e w' => ∃ x, e = .returned x ∧ Made 5 .u8 (encD12 k l) w x w' := by
  obtain ⟨i8, hi8, hz80, hz81, hz82⟩ := info_u8
  have HF := Lib.hid (formOf_any12 (k : Int) w (by omega) hL)
  have HP := Lib.hid (fun (wx : World) (hc : Chg [] w wx) => part12_any k hk lv l wx (hS.keep hc) (by omega) hok)
  have hfr : frmB (k : Int) = str (sg12 k) := by unfold frmB; rw [if_neg (by omega), Int.toNat_natCast]; rfl
  rw [hfr] at HF
  have hsz : (str (sg12 k)).size = (sg12 k).length := str_size _
  have hsm : ∀ x ∈ sg12 k, x < 128 := by rcases hk with rfl | rfl | rfl <;> decide
  have hpos : 0 < (sg12 k).length := by rcases hk with rfl | rfl | rfl <;> decide
  have hle : (sg12 k).length ≤ 2 := by rcases hk with rfl | rfl | rfl <;> decide
  have hne : (str (sg12 k)).toList.isEmpty = false := by rcases hk with rfl | rfl | rfl <;> decide +kernel
  have hne2 : ¬ (str (sg12 k)).toList = [] := fun h => by rw [h] at hne; simp at hne
  have HFL := Lib.hid (prt12_flat k hk l)
  have HPL := Lib.hid (prt12_len k hk l)
  have HSM := Lib.hid (prt12_small k hk l hok)
  obtain ⟨S, hSS⟩ : ∃ S, S = sg12 k := ⟨_, rfl⟩
  rw [← hSS] at HF HP hsz hsm hpos hle hne hne2 HPL
  obtain ⟨s, hs⟩ : ∃ s, s = str S := ⟨_, rfl⟩
  rw [← hs] at HF hsz hne hne2
  have HGET := Lib.hid (show ∀ j (h : j < s.size), (s[j]'h).toNat = S.getD j 0 from fun j h => by
    have h1 := bl_get s j h
    have e : bl s = S := by rw [hs]; exact bl_str (fun c hc => by have := hsm c hc; omega)
    rw [e] at h1
    rw [List.getD, h1]; rfl)
  have HLT := Lib.hid (show ∀ j, j < S.length → S.getD j 0 < 128 from fun j hj => hsm _ (getD_mem hj))
  obtain ⟨nF, hnF⟩ : ∃ n, n = S.length := ⟨_, rfl⟩
  rw [← hnF] at hsz hpos hle HPL HP HLT
  obtain ⟨P, hP⟩ : ∃ P, P = prt12 k l := ⟨_, rfl⟩
  rw [← hP] at HFL HPL HSM HP
  obtain ⟨E, hE⟩ : ∃ E, E = encD12 k l := ⟨_, rfl⟩
  rw [← hE] at HFL ⊢
  unfold Made at HP
  have HSZ := Lib.hid hsz
  clear hL hS hok hfr hsm hSS hs hnF hP hE
  go_enter Tryd.func10, Tryd.ntmps10
  go_wp2_with (first
    | (go_at_call 17; (with_reducible refine HF.out.mono ?_); rintro e w1 ⟨rfl, rfl⟩)
    | fail)
  go_loopw [6] (fun bv w' => ∃ j : Nat, j ≤ nF ∧ w'.heap[w.heap.size]? = some (.stringIter s j) ∧ Chg [] w w' ∧ w'.ownsRow (w.heap.size + 1) 5 1 bv ((P.take j).flatten).length (nv .u8 ((P.take j).flatten))) (fun _ w' => nF - itp12 w' w.heap.size)
  case atStart => exact ⟨0, Nat.zero_le _, heap_alloc_new w _, (Chg.refl [] w).alloc _, World.ownsRow_nil _ _ _ _⟩
  case round =>
    obtain ⟨j, hj, hit, hc, ho⟩ := hrel
    obtain ⟨bo, bc, rfl⟩ := own_shape ho
    have HTP := Lib.hid (itp12_of hit)
    have HC := Lib.hid hc
    by_cases hlt : j < nF
    · have hp : j < s.size := by omega
      have hnx : ∀ ty, (Instr.next (.pointer (some ⟨w.heap.size, 0, none⟩)) true ty).run Tryd.prog wr = _ := fun ty => Lib.run_next_ascii_at wr w.heap.size s j ty hit hp (by rw [HGET.out j hp]; exact HLT.out j hlt)
      rw [HGET.out j hp] at hnx
      have HI1 := Lib.hid (Lib.iterAt_heap wr w.heap.size s j (j + 1) hit)
      have HC1 := Lib.hid (Chg.iterAt12 hc (k := w.heap.size) (.inr (Nat.le_refl _)) s (j + 1))
      have HO1 := Lib.hid (own_iter12 (q := j + 1) ho hit)
      have HFT := Lib.hid (flat_take P j (by rw [HPL.out]; exact hlt))
      have HQ := Lib.hid (HP.out _ HC1.out j hlt)
      have hpl := HSM.out j
      have hXl : ((P.take j).flatten).length ≤ 1000000 := by
        have h2 : j = 0 ∨ j = 1 := by omega
        rcases h2 with rfl | rfl
        · simp
        · have := HSM.out 0
          have h3 : (P.take 1).flatten = _ := flat_take P 0 (by rw [HPL.out]; omega)
          simp only [List.take_zero, List.flatten_nil, List.nil_append] at h3
          rw [h3]
          omega
      obtain ⟨g, hg⟩ : ∃ g, g = S.getD j 0 := ⟨_, rfl⟩
      rw [← hg] at hnx HQ
      obtain ⟨Y, hY⟩ : ∃ Y, Y = P.getD j [] := ⟨_, rfl⟩
      rw [← hY] at HFT HQ hpl
      obtain ⟨X, hX⟩ : ∃ X, X = (P.take j).flatten := ⟨_, rfl⟩
      rw [← hX] at HFT HO1 hXl
      obtain ⟨m, hm⟩ : ∃ m, m = X.length := ⟨_, rfl⟩
      rw [← hm] at HO1 hXl
      have HYN := Lib.hid (nv_one .u8 Y)
      have hB1 := HC1.out.size
      have HBS := Lib.hid (show w.heap.size + 1 ≤ (wr.iterAt w.heap.size s (j + 1)).heap.size from Go.lt_of_block HI1.out)
      have HMM := Lib.hid hm
      rw [show (((P.take j).flatten).length) = m by rw [← hX, hm]]
      clear hit hc ho hg hY hX hm hp
      generalize wr.iterAt w.heap.size s (j + 1) = W1 at hnx HI1 HC1 HO1 HQ hB1 HBS
      go_wp2_with (first
        | (go_at_call 19; (with_reducible refine HQ.out.mono ?_); rintro e w4 ⟨yv, rfl, hc4, ho4⟩; obtain ⟨yo, yc, rfl⟩ := own_shape ho4; have HC4 := Lib.hid hc4; have HY4 := Lib.hid (reads_of_own ho4).seen; have HO4 := Lib.hid (own_chg HO1.out hc4 (by simp)); have HI4 := Lib.hid (hc4.heap HI1.out (by simp)); have hB4 := Nat.le_trans HBS.out hc4.size; clear hc4 ho4)
        | (at_builtin; refine wpList_append_reads _ rfl _ _ 26 26 rfl (w.heap.size + 1) 5 5 i8 (.int .u8 0) 1 Tryd.underlying26 Tryd.underlying26 hi8 hz80 hz81 hz82 rfl _ _ _ rfl HO4.out _ (nv .u8 Y) rfl HY4.out HYN.out ?c1 ?c2 hB4 ?_)
        | fail)
      case c1 => rw [nv_length]; unfold maxLen; omega
      case c2 => rw [nv_length]; omega
      intro v5 w5 hown5 hgrow5
      have HI5 := Lib.hid (iter_kept12 HO4.out HI4.out hgrow5)
      have HC5 := Lib.hid ((HC1.out.trans HC4.out (by simp)).grown hgrow5 (fun k hk => .inr (by have := own_ge HO4.out k hk; omega)))
      rw [show nv .u8 X ++ nv .u8 Y = nv .u8 (X ++ Y) by simp [nv], ← HFT.out] at hown5
      have HO5 := Lib.hid hown5
      clear hown5 hgrow5
      go_wp2
      go_roundw
      case rel => exact ⟨j + 1, hlt, HI5.out, HC5.out, by
        have h := HO5.out
        rw [HFT.out] at h ⊢
        rw [List.length_append, ← HMM.out]
        simpa using h⟩
      case measure => rw [itp12_of HI5.out, HTP.out]; omega
    · have hp : ¬ j < s.size := by omega
      have hnx : ∀ ty, (Instr.next (.pointer (some ⟨w.heap.size, 0, none⟩)) true ty).run Tryd.prog wr = _ := fun ty => Lib.run_next_end_at wr w.heap.size s j ty hit hp
      have HO := Lib.hid (show wr.ownsRow (w.heap.size + 1) 5 1 (.slice bo ((P.take j).flatten).length bc) E.length (nv .u8 E) by
        have h := ho
        rw [show (P.take j).flatten = E by rw [← HFL.out, List.take_of_length_le (by rw [HPL.out]; omega)]] at h ⊢
        exact h)
      obtain ⟨m, hm⟩ : ∃ m, m = ((P.take j).flatten).length := ⟨_, rfl⟩
      rw [← hm] at HO ⊢
      clear hit hc ho hm
      go_wp2
      go_ret
      exact ⟨_, rfl, HC.out, own_mono HO.out (by omega)⟩

theorem encode12_any (k : Nat) (hk : 1 ≤ k ∧ k ≤ 4) (lv : Value) (l : List V) (w : World) (hL : Laid w) (hS : SeenV w lv l) (hl : l.length ≤ 1000) (hok : ∀ v ∈ l, okV k v) :
    Calls Tryd.prog 10 #[.int .i64 (k : Int), lv] w fun e w' => ∃ x, e = .returned x ∧ Made 5 .u8 (encD12 k l) w x w' := by
  by_cases h1 : k = 1
  · subst h1
    have HF := Lib.hid (formOf_any12 1 w (by omega) hL)
    rw [show frmB 1 = e0 from rfl] at HF
    have HE := Lib.hid (pencode_any 1 (by omega) lv l w hL hS (by omega) (fun v hv => by
      obtain ⟨h, -⟩ := hok v hv
      rw [(h rfl).2]; decide))
    unfold Made at HE
    rw [show ((1 : Nat) : Int) = 1 from rfl] at HE ⊢
    show Calls Tryd.prog 10 #[.int .i64 1, lv] w fun e w' => ∃ x, e = .returned x ∧ Made 5 .u8 (encP 1 l) w x w'
    clear hL hS hok
    go_enter Tryd.func10, Tryd.ntmps10
    go_wp2_with (first
      | (go_at_call 17; (with_reducible refine HF.out.mono ?_); rintro e w1 ⟨rfl, rfl⟩)
      | (go_at_call 18; (with_reducible refine HE.out.mono ?_); rintro e w2 ⟨x, rfl, hc, ho⟩; have HC := Lib.hid hc; have HO := Lib.hid ho; clear hc ho)
      | fail)
    go_ret
    exact ⟨_, rfl, HC.out, HO.out⟩
  · exact encode12_form k (by omega) lv l w hL hS hl hok

end Go.Proofs.YtohgnbgijleoaaaDoor
