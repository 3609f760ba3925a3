/- Contract of schema.Leaves, and of the closures that it counts by. -/
import Derived.Test.YtpbclmcngafngaaCk
import Derived.Test.YtpbclmcngafngaaBd
import Derived.Deep.RegionHeld3
namespace Go.Proofs.Ytpbclmcngafngaa
open Go.RowKit
set_option linter.unusedVariables false

theorem info_leaf : ∃ i, Try.prog.info? 65 = some i ∧ i.zero = some (.agg #[.int .i64 0, .int .i64 0, .int .i64 0, .int .i64 0]) ∧ i.size = 4 ∧ i.bytes = 32 :=
  info_parts (show (Try.prog.info? 65).map (fun i => (i.zero, i.size, i.bytes)) = some (some (.agg #[.int .i64 0, .int .i64 0, .int .i64 0, .int .i64 0]), 4, 32) by kernel_rfl)
theorem info_field : ∃ i, Try.prog.info? 33 = some i ∧ i.zero = some (.agg #[.string ByteArray.empty, .int .i64 0, .int .i64 0, .int .i64 0]) ∧ i.size = 4 ∧ i.bytes = 40 :=
  info_parts (show (Try.prog.info? 33).map (fun i => (i.zero, i.size, i.bytes)) = some (some (.agg #[.string ByteArray.empty, .int .i64 0, .int .i64 0, .int .i64 0]), 4, 40) by kernel_rfl)

/-- append of cells that lie in memory, as one step of a region that draws its order. -/
theorem step_append_cells {P : Program} {ops : Array Oper} {o : Oper} {a : Act} {w : World} {K : Act → World → Prop} {Q : Exit → Act → World → Prop} {E : Prop}
    (hg : o.guard = none) (s x : Operand) (t : TypeId) (hop : o.op = Op.call { callee := Callee.builtin Builtin.append, args := #[s, x], argTypes := #[t, t] })
    (base : Nat) (e : TypeId) (i : TypeInfo) (z : Value) (size bytes : Nat) (ht : P.underlying t = some (.slice e)) (hi : P.info? e = some i) (hz : i.zero = some z)
    (hsize : i.size = size) (hby : i.bytes = bytes) (hzs : z.cells.size = size) (hsz : 0 < size)
    (v : Value) (n : Nat) (xs : List Value) (hs : a.eval s = v) (hown : w.ownsRow base e size v n xs)
    (ad : Addr) (m c : Nat) (news : List Value) (hx : a.eval x = .slice (some ad) m c) (hl : news.length = m * size) (hnews : ∀ j u, news[j]? = some u → w.cell? (ad.add j) = some u) (h1 : ∀ u ∈ news, u.oneCell' = true)
    (h63 : n + m ≤ maxLen) (hbytes : (n + m) * bytes ≤ 140737488355328) (hbase : base ≤ w.heap.size)
    (hK : ∀ v' w', w'.ownsRow base e size v' (n + m) (xs ++ news) → w.grownBy w' v.ownBlock → K (a.put o.dst v') w') :
    if Region.wanted o (yielded ops a.tmps) = true then Oper.wp P o a w K Q else E := by
  have hw : Region.wanted o (yielded ops a.tmps) = true := by simp [Region.wanted, hg]
  rw [if_pos hw]
  obtain ⟨v', w', hrun, r1, r2, _⟩ := run_append_own (P := P) w base t o.type e i z size bytes ht hi hz hsize hby hzs hsz v n xs hown ad m c news hl hnews h1 h63 hbytes hbase
  unfold Oper.wp
  simp [execOp, hop, resolve, invoke, builtin, hs, hx, hrun, Result.andThen]
  exact hK v' w' r1 r2

theorem new_cells {w : World} {T : TypeId} {C : Array Value} (g : Nat) (hg : g = w.heap.size) : ∀ j u, C.toList[j]? = some u → (w.alloc (.cells C T)).cell? ((⟨g, 0, none⟩ : Addr).add j) = some u := by
  intro j u hu
  subst hg
  rw [addr_add, World.cell?_alloc_mark, Nat.zero_add, ← hu]
  simp
theorem L.one (x : L) : ∀ u ∈ L.cs x, u.oneCell' = true := by
  intro u hu
  simp [L.cs] at hu
  rcases hu with rfl | rfl | rfl | rfl <;> rfl
theorem F.one (x : F) : ∀ u ∈ F.cs x, u.oneCell' = true := by
  intro u hu
  simp [F.cs] at hu
  rcases hu with rfl | rfl | rfl | rfl <;> rfl

def repB (l : List F) (i : Nat) : Bool := decide ((l.getD i default).r = 2)
def optB (l : List F) (i : Nat) : Bool := decide ((l.getD i default).r ≠ 0)
def rls (l : List F) : List Int := cntL (repB l) (parents l)
def dls (l : List F) : List Int := cntL (optB l) (parents l)
@[simp] theorem rls_length (l : List F) : (rls l).length = l.length := by simp [rls]
@[simp] theorem dls_length (l : List F) : (dls l).length = l.length := by simp [dls]

/-- The leaf that field i is, if it is one. -/
def leafAt (l : List F) (i : Nat) : List L := if (l.getD i default).k ≠ 0 then [⟨i, (rls l).getD i 0, (dls l).getD i 0, (l.getD i default).k⟩] else []
def leavesTo (l : List F) (n : Nat) : List L := (List.range n).flatMap (leafAt l)
def leavesL (l : List F) : List L := leavesTo l l.length
theorem leavesTo_succ (l : List F) (n : Nat) : leavesTo l (n + 1) = leavesTo l n ++ leafAt l n := by
  simp [leavesTo, List.range_succ, List.flatMap_append]
theorem leavesTo_le (l : List F) (n : Nat) : (leavesTo l n).length ≤ n := by
  induction n with
  | zero => simp [leavesTo]
  | succ n ih =>
    rw [leavesTo_succ, List.length_append]
    have : (leafAt l n).length ≤ 1 := by unfold leafAt; split <;> simp
    omega

theorem held3 {wb w3 : World} {o : Obj} {B1 B2 Bx k : Nat} {v x y z : Value} {lo : Nat} (h : wb.cell? ⟨B1, k, none⟩ = some x ∧ wb.cell? ⟨B2, k, none⟩ = some y ∧ wb.cell? ⟨Bx, 2, none⟩ = some z) (hg : (wb.drew.alloc o).grownBy w3 v.ownBlock)
    (hq : ∀ q, v.ownBlock = some q → q ≠ B1 ∧ q ≠ B2 ∧ q ≠ Bx ∧ lo ≤ q) : w3.cell? ⟨B1, k, none⟩ = some x ∧ w3.cell? ⟨B2, k, none⟩ = some y ∧ w3.cell? ⟨Bx, 2, none⟩ = some z := by
  have hc := ((Chg.refl v.ownBlock.toList wb).drew.alloc o).grown hg (fun q hq => .inl (by simp [← hq]))
  refine ⟨hc.cell h.1 ?_, hc.cell h.2.1 ?_, hc.cell h.2.2 ?_⟩
  all_goals
    intro hm
    have hq' := hq _ (by simpa using hm)
    first
    | exact hq'.1 rfl
    | exact hq'.2.1 rfl
    | exact hq'.2.2.1 rfl

set_option maxHeartbeats 400000 in
theorem leaves1_any (B : Nat) (sv : Value) (l : List F) (i : Nat) (w : World) (hB : w.cell? ⟨B, 0, none⟩ = some sv) (hS : SeenF w sv l) (hi : i < l.length) :
    Calls Try.prog 44 #[.int .i64 (i : Int), .pointer (some ⟨B, 0, none⟩)] w fun e w' => e = .returned (.bool (repB l i)) ∧ Chg [] w w' := by
  obtain ⟨ao, cap, rfl, hc1, hc2⟩ := hS.shape
  obtain ⟨n, hn⟩ : ∃ n, n = l.length := ⟨_, rfl⟩
  rw [← hn] at hi hc1 hB hS
  obtain ⟨g, off, rfl, hcs⟩ := hS.get (by omega) hn.symm
  obtain ⟨a1, a2, a3, a4⟩ := hcs i hi
  clear hS hcs hn a1 a3 a4
  obtain ⟨r, hr⟩ : ∃ r, r = (l.getD i default).r := ⟨_, rfl⟩
  have E := Lib.hid (show repB l i = (r == 2) by unfold repB; rw [hr]; rfl)
  rw [← hr] at a2
  clear hr
  go_enter Try.func44, Try.ntmps44
  go_wp2
  go_ret
  exact ⟨ret_bool E.out.symm, Chg.refl [] w⟩

set_option maxHeartbeats 400000 in
theorem leaves2_any (B : Nat) (sv : Value) (l : List F) (i : Nat) (w : World) (hB : w.cell? ⟨B, 0, none⟩ = some sv) (hS : SeenF w sv l) (hi : i < l.length) :
    Calls Try.prog 45 #[.int .i64 (i : Int), .pointer (some ⟨B, 0, none⟩)] w fun e w' => e = .returned (.bool (optB l i)) ∧ Chg [] w w' := by
  obtain ⟨ao, cap, rfl, hc1, hc2⟩ := hS.shape
  obtain ⟨n, hn⟩ : ∃ n, n = l.length := ⟨_, rfl⟩
  rw [← hn] at hi hc1 hB hS
  obtain ⟨g, off, rfl, hcs⟩ := hS.get (by omega) hn.symm
  obtain ⟨a1, a2, a3, a4⟩ := hcs i hi
  clear hS hcs hn a1 a3 a4
  obtain ⟨r, hr⟩ : ∃ r, r = (l.getD i default).r := ⟨_, rfl⟩
  have E := Lib.hid (show optB l i = (r != 0) by unfold optB; rw [← hr]; by_cases h : r = 0 <;> simp [h])
  rw [← hr] at a2
  clear hr
  go_enter Try.func45, Try.ntmps45
  go_wp2
  go_ret
  exact ⟨ret_bool E.out.symm, Chg.refl [] w⟩

set_option maxRecDepth 100000 in
set_option maxHeartbeats 1000000 in
theorem leaves_any (sv : Value) (l : List F) (w : World) (hS : SeenF w sv l) (hl : l.length ≤ 1000000) (hw : ∀ f ∈ l, f.c ≤ 9223372036854775807) :
    Calls Try.prog 21 #[sv] w fun e w' => ∃ v, e = .returned v ∧ SeenL w' v (leavesL l) ∧ Chg [] w w' := by
  obtain ⟨i0, hi, hz0, hz1, hz2⟩ := info_leaf
  obtain ⟨ao, cap, rfl, hc1, hc2⟩ := hS.shape
  have HS := Lib.hid hS; have HW := Lib.hid hw
  clear hS hw
  obtain ⟨n, hn⟩ : ∃ n, n = l.length := ⟨_, rfl⟩
  rw [← hn] at hc1 HS ⊢
  have HN := Lib.hid hn; have HL := Lib.hid hl
  have hn2 : n ≤ 1000000 := by omega
  clear hl hn
  have hmf : ∀ (fn : Fn) (first cap : Array Value) (w : World), (Instr.makeFunc fn first cap).run Try.prog w = .ok (.func fn first cap) w := fun _ _ _ _ => rfl
  have eg1 : ∀ args w, (callFunc 44 args).run Try.prog w = .ok (.enter 44 args) w := Go.Proofs.enters_of Try.func44 (by kernel_rfl) rfl
  have eg2 : ∀ args w, (callFunc 45 args).run Try.prog w = .ok (.enter 45 args) w := Go.Proofs.enters_of Try.func45 (by kernel_rfl) rfl
  have hA := (Chg.refl [] w).alloc (.cells #[.slice ao n cap] 23)
  have hcell : (w.alloc (.cells #[.slice ao n cap] 23)).cell? ⟨w.heap.size, 0, none⟩ = some (.slice ao n cap) := by simp
  have HA := Lib.hid hA; have HCL := Lib.hid hcell
  clear hA hcell
  have HP1 := Lib.hid (show ∀ w', Chg [] (w.alloc (.cells #[.slice ao n cap] 23)) w' → ∀ i : Nat, i < l.length → Calls Try.prog 44 (#[.int .i64 (i : Int)] ++ #[.pointer (some ⟨w.heap.size, 0, none⟩)]) w' fun e w'' => e = .returned (.bool (repB l i)) ∧ Chg [] w' w'' from
    fun w' hk i hi => leaves1_any w.heap.size _ l i w' (hk.cell HCL.out (by simp)) (HS.out.keep (HA.out.trans hk (by simp))) hi)
  go_enter Try.func21, Try.ntmps21
  go_wp2_with fail
  (with_reducible refine (count_any 44 #[.pointer (some ⟨w.heap.size, 0, none⟩)] (repB l) _ l _ (HS.out.keep HA.out) (by rw [← HN.out]; omega) HW.out eg1 HP1.out).mono ?_)
  rw [← HN.out]
  rintro e w1 ⟨rfl, hb1, hk1⟩
  have HR1 := Lib.hid (show BlkI w1 (w.heap.size + 1) (rls l) by simpa [rls] using hb1)
  have HC1 := Lib.hid (HA.out.trans hk1 (by simp))
  have hcell1 := hk1.cell HCL.out (by simp)
  have HCL1 := Lib.hid hcell1
  clear hb1 hk1
  have HP2 := Lib.hid (show ∀ w', Chg [] w1 w' → ∀ i : Nat, i < l.length → Calls Try.prog 45 (#[.int .i64 (i : Int)] ++ #[.pointer (some ⟨w.heap.size, 0, none⟩)]) w' fun e w'' => e = .returned (.bool (optB l i)) ∧ Chg [] w' w'' from
    fun w' hk i hi => leaves2_any w.heap.size _ l i w' (hk.cell HCL1.out (by simp)) (HS.out.keep (HC1.out.trans hk (by simp))) hi)
  go_wp2_with fail
  (with_reducible refine (count_any 45 #[.pointer (some ⟨w.heap.size, 0, none⟩)] (optB l) _ l _ (HS.out.keep HC1.out) (by rw [← HN.out]; omega) HW.out eg2 HP2.out).mono ?_)
  rw [← HN.out]
  rintro e w2 ⟨rfl, hb2, hk2⟩
  obtain ⟨B2, hB2⟩ : ∃ B2, B2 = w1.heap.size := ⟨_, rfl⟩
  have HR2 := Lib.hid (HR1.out.chg hk2 (by simp))
  have HD2 := Lib.hid (show BlkI w2 B2 (dls l) by rw [hB2]; exact hb2)
  have HC2 := Lib.hid (HC1.out.trans hk2 (by simp))
  have hcl2 := hk2.cell HCL1.out (by simp)
  clear hb2 hk2 hcell1
  rw [← hB2]
  clear hB2
  go_wp2
  obtain ⟨B1, hB1⟩ : ∃ B1, B1 = w.heap.size + 1 := ⟨_, rfl⟩
  rw [← hB1] at HR2 ⊢
  clear hB1
  go_loopw [5, 16] (fun lv x w' => ∃ k : Nat, x = .int .i64 (k : Int) ∧ k ≤ n ∧ Chg [] w2 w' ∧ w'.ownsRow w2.heap.size 65 4 lv (leavesTo l k).length ((leavesTo l k).flatMap L.cs)) (fun _ x w' => n - (intOf x).toNat)
  case atStart => exact ⟨0, rfl, Nat.zero_le _, Chg.refl _ _, ⟨rfl, .inl ⟨rfl, rfl⟩⟩⟩
  case round =>
    obtain ⟨k, rfl, hk, hc, ho⟩ := hrel
    obtain ⟨ao5, cap5, rfl⟩ := own_shape ho
    have HC := Lib.hid hc; have HO := Lib.hid ho
    clear hc ho
    by_cases hlt : k < n
    · obtain ⟨gs, off, rfl, hcs⟩ := HS.out.get (by omega) HN.out.symm
      obtain ⟨a1, a2, a3, a4⟩ := hcs k hlt
      obtain ⟨f, hf⟩ : ∃ f, f = l.getD k default := ⟨_, rfl⟩
      rw [← hf] at a1 a2 a3 a4
      have HF := Lib.hid hf
      have hcw : Chg [] w wr := HC2.out.trans HC.out (by simp)
      have b1 := hcw.cell a1 (by simp)
      have b2 := hcw.cell a2 (by simp)
      have b3 := hcw.cell a3 (by simp)
      have b4 := hcw.cell a4 (by simp)
      clear hcs hf a1 a2 a3 a4 hcw
      obtain ⟨rr, hrr⟩ : ∃ x, x = (rls l).getD k 0 := ⟨_, rfl⟩
      obtain ⟨dd, hdd⟩ : ∃ x, x = (dls l).getD k 0 := ⟨_, rfl⟩
      have br : (wr.alloc (.cells #[.string f.n, .int .i64 f.r, .int .i64 f.k, .int .i64 f.c] 33)).cell? ⟨B1, k, none⟩ = some (.int .i64 rr) := ((Chg.refl [] wr).alloc _).cell ((HR2.out.chg HC.out (by simp)).cell (by rw [hrr, List.getD, List.getElem?_eq_getElem (by rw [rls_length, ← HN.out]; exact hlt)]; rfl)) (by simp)
      have bd : (wr.alloc (.cells #[.string f.n, .int .i64 f.r, .int .i64 f.k, .int .i64 f.c] 33)).cell? ⟨B2, k, none⟩ = some (.int .i64 dd) := ((Chg.refl [] wr).alloc _).cell ((HD2.out.chg HC.out (by simp)).cell (by rw [hdd, List.getD, List.getElem?_eq_getElem (by rw [dls_length, ← HN.out]; exact hlt)]; rfl)) (by simp)
      have HLA := Lib.hid (show leafAt l k = if f.k ≠ 0 then [⟨k, rr, dd, f.k⟩] else [] by unfold leafAt; rw [HF.out, hrr, hdd])
      have HCA := Lib.hid (HC.out.alloc (.cells #[.string f.n, .int .i64 f.r, .int .i64 f.k, .int .i64 f.c] 33))
      clear hrr hdd
      by_cases hk0 : f.k = 0
      · have e1 : (f.k != 0) = false := by simp [hk0]
        have E := Lib.hid (show leavesTo l (k + 1) = leavesTo l k by rw [leavesTo_succ, HLA.out, if_neg (by simp [hk0]), List.append_nil])
        clear hk0
        go_wp2
        go_roundw
        case rel => exact ⟨k + 1, by go_num, by omega, HCA.out, by rw [E.out]; exact HO.out.alloc _⟩
        case measure => simp [intOf]; omega
      · have e1 : (f.k != 0) = true := by simp [hk0]
        have E := Lib.hid (show leavesTo l (k + 1) = leavesTo l k ++ [⟨k, rr, dd, f.k⟩] by rw [leavesTo_succ, HLA.out, if_pos hk0])
        have hml := leavesTo_le l k
        obtain ⟨m, hm⟩ : ∃ m, m = (leavesTo l k).length := ⟨_, rfl⟩
        obtain ⟨Y, hY⟩ : ∃ Y, Y = (leavesTo l k).flatMap L.cs := ⟨_, rfl⟩
        rw [← hm] at hml
        rw [← hm, ← hY] at HO
        rw [← hm]
        have HM := Lib.hid hm; have HY := Lib.hid hY
        clear hm hY hk0
        have bk : (wr.alloc (.cells #[.string f.n, .int .i64 f.r, .int .i64 f.k, .int .i64 f.c] 33)).cell? ⟨wr.heap.size, 2, none⟩ = some (.int .i64 f.k) := by simp
        have HOB := Lib.hid (HO.out.alloc (.cells #[.string f.n, .int .i64 f.r, .int .i64 f.k, .int .i64 f.c] 33))
        have hwz : (wr.alloc (.cells #[.string f.n, .int .i64 f.r, .int .i64 f.k, .int .i64 f.c] 33)).heap.size = wr.heap.size + 1 := by simp
        have hbs : w2.heap.size ≤ wr.heap.size := HC.out.size
        have HWZ := Lib.hid hwz
        clear hwz
        have hm2 : m + 1 ≤ maxLen := by unfold maxLen; omega
        have hm3 : (m + 1) * 32 ≤ 140737488355328 := by omega
        have HM2 := Lib.hid hm2; have HM3 := Lib.hid hm3
        clear hm2 hm3
        go_wp2_with fail
        obtain ⟨wb, hwb⟩ : ∃ wb, wb = wr.alloc (.cells #[.string f.n, .int .i64 f.r, .int .i64 f.k, .int .i64 f.c] 33) := ⟨_, rfl⟩
        obtain ⟨Bx, hBx⟩ : ∃ Bx, Bx = wr.heap.size := ⟨_, rfl⟩
        rw [← hwb] at br bd bk HOB HCA HWZ ⊢
        rw [← hBx] at bk HWZ hbs ⊢
        have HBD := Lib.hid (show wb.cell? ⟨B1, k, none⟩ = some (.int .i64 rr) ∧ wb.cell? ⟨B2, k, none⟩ = some (.int .i64 dd) ∧ wb.cell? ⟨Bx, 2, none⟩ = some (.int .i64 f.k) from ⟨br, bd, bk⟩)
        have HTG := Lib.hid (show wb.heap[Bx]? = some (.cells #[.string f.n, .int .i64 f.r, .int .i64 f.k, .int .i64 f.c] 33 (0, 0)) by rw [hwb, hBx]; exact heap_alloc_new wr _)
        clear b1 b2 b3 b4 hcl2 hwb hBx HO HC br bd bk
        have hsz : w2.heap.size ≤ wb.heap.size := HCA.out.size
        have HSZ := Lib.hid hsz
        clear hsz
        have HQ := Lib.hid (show ∀ q, (Value.slice ao5 m cap5).ownBlock = some q → q ≠ B1 ∧ q ≠ B2 ∧ q ≠ Bx ∧ w2.heap.size ≤ q from fun q hq => by
          have h1 := own_ge HOB.out q hq
          have h2 := HR2.out.lt
          have h3 := HD2.out.lt
          exact ⟨by omega, by omega, (tagged_of_own HOB.out).ne HTG.out (by decide) q hq, h1⟩)
        go_region_held3 (fun w' => w'.cell? ⟨B1, k, none⟩ = some (.int .i64 rr) ∧ w'.cell? ⟨B2, k, none⟩ = some (.int .i64 dd) ∧ w'.cell? ⟨Bx, 2, none⟩ = some (.int .i64 f.k)) (first | (exact HBD.out) | (exact HS3.out) | (exact ⟨((Chg.refl [] _).drew.alloc _).cell HBD.out.1 (by simp), ((Chg.refl [] _).drew.alloc _).cell HBD.out.2.1 (by simp), ((Chg.refl [] _).drew.alloc _).cell HBD.out.2.2 (by simp)⟩)) (first
          | (refine step_append_cells (by rfl) (.tmp 24) (.tmp 37) 36 (by rfl) w2.heap.size 65 i0 (.agg #[.int .i64 0, .int .i64 0, .int .i64 0, .int .i64 0]) 4 32 Try.underlying36 hi hz0 hz1 hz2 (by rfl) (by decide) (.slice ao5 m cap5) m Y (by rfl) (HOB.out.alloc _) ⟨wb.heap.size, 0, none⟩ 1 1 (L.cs ⟨k, rr, dd, f.k⟩) (by rfl) (by rfl) (new_cells (C := #[.int .i64 (k : Int), .int .i64 rr, .int .i64 dd, .int .i64 f.k]) wb.heap.size rfl) (L.one _) HM2.out HM3.out (Nat.le_trans HSZ.out ((Chg.refl [] wb).drew.alloc _).size) ?_; intro v3 w3 hown hgrow; obtain ⟨ao3, cap3, rfl⟩ := own_shape hown; have HO3 := Lib.hid hown; have HC3 := Lib.hid ((HCA.out.drew.alloc (.cells #[.int .i64 (k : Int), .int .i64 rr, .int .i64 dd, .int .i64 f.k] 65)).grown hgrow (fun q hq => .inr (HQ.out q hq).2.2.2)); have HS3 := Lib.hid (show w3.cell? ⟨B1, k, none⟩ = some (.int .i64 rr) ∧ w3.cell? ⟨B2, k, none⟩ = some (.int .i64 dd) ∧ w3.cell? ⟨Bx, 2, none⟩ = some (.int .i64 f.k) from held3 HBD.out hgrow HQ.out); clear hown hgrow))
        go_wp2
        go_roundw
        case rel =>
          refine ⟨k + 1, by go_num, by omega, HC3.out, ?_⟩
          rw [E.out, List.length_append, List.flatMap_append, ← HM.out, ← HY.out]
          simpa using HO3.out
        case measure => simp [intOf]; omega
    · have ek : k = n := by omega
      have E := Lib.hid (show leavesTo l k = leavesL l by rw [ek, HN.out]; rfl)
      clear ek
      go_wp2
      go_ret
      exact ⟨_, rfl, by rw [← E.out]; exact SeenL.own HO.out rfl, HC2.out.trans HC.out (by simp)⟩

end Go.Proofs.Ytpbclmcngafngaa
