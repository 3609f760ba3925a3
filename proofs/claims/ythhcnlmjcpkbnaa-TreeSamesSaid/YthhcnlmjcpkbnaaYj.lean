/- Records of raw numbers: Make. -/
import Derived.Test.YthhcnlmjcpkbnaaYi
import Derived.Test.YthhcnlmjcpkbnaaA7
import Derived.Test.YthhcnlmjcpkbnaaYb
namespace Go.Proofs.Ythhcnlmjcpkbnaa
open Go.RowKit
set_option linter.unusedVariables false

theorem value8_any (w0 : World) (gm : Nat) (l : List F) (ns : List Int) (sv pv nv : Value) (hl : l.length ≤ 1000) (hwf : ∀ x ∈ ns, (Lit.int .i64 x).wf = true) : ∀ d, MkC w0 gm l ns sv pv nv d
  | 0 => fun f p w hf hd _ => absurd hd (by omega)
  | d + 1 => value8_step w0 gm l ns sv pv nv d hl hwf (value8_any w0 gm l ns sv pv nv hl hwf d)

/-- A record of raw numbers. -/
def mk8 (l : List F) (ns : List Int) : Tr := (mkT l ns l.length 0 0).1

set_option maxRecDepth 100000 in
set_option maxHeartbeats 1000000 in
theorem make8_any (sv nv : Value) (l : List F) (ns : List Int) (w : World) (hS : SeenF w sv l) (hN : SeenI w nv ns) (h1 : 1 ≤ l.length) (hl : l.length ≤ 1000) (hw : ∀ f ∈ l, f.c ≤ 9223372036854775807) (hwf : ∀ x ∈ ns, (Lit.int .i64 x).wf = true) :
    Calls Try.prog 19 #[sv, nv] w fun e w' => ∃ kv, e = .returned (tv (mk8 l ns).n (mk8 l ns).s kv) ∧ KidsIn (w.heap.size ≤ ·) w' l.length (mk8 l ns).k kv ∧ Chg [] w w' := by
  obtain ⟨ao, cap, rfl, hc1, hc2⟩ := hS.shape
  obtain ⟨no, ncap, rfl, hn1, hn2⟩ := hN.shape
  have HS := Lib.hid hS; have HNS := Lib.hid hN; have HWF := Lib.hid hwf
  obtain ⟨gr, hgr⟩ : ∃ gr, gr = w.heap.size := ⟨_, rfl⟩
  have HGR := Lib.hid hgr
  have hsz : (w.alloc (.cells #[.int .i64 0, .string { data := #[] }, .slice none 0 0] 30)).heap.size = gr + 1 := by rw [hgr]; simp
  have HSZ := Lib.hid hsz
  have HP := Lib.hid (rparents_any (.slice ao l.length cap) l (w.alloc (.cells #[.int .i64 0, .string { data := #[] }, .slice none 0 0] 30)) (HS.out.keep ((Chg.refl [] w).alloc _)) (by omega) hw)
  have hb0 : (w.alloc (.cells #[.int .i64 0, .string { data := #[] }, .slice none 0 0] 30)).heap[gr]? = some (.cells #[.int .i64 0, .string { data := #[] }, .slice none 0 0] 30 (0, 0)) := by rw [hgr]; exact heap_alloc_new w _
  have HB0 := Lib.hid hb0
  have HC0 := Lib.hid ((Chg.refl [] w).alloc (.cells #[.int .i64 0, .string { data := #[] }, .slice none 0 0] 30))
  obtain ⟨n, hn⟩ : ∃ n, n = l.length := ⟨_, rfl⟩
  obtain ⟨q, hq⟩ : ∃ q, q = ns.length := ⟨_, rfl⟩
  rw [← hn] at HS HP
  rw [← hq] at HNS
  rw [← hn, ← hq]
  have HN := Lib.hid hn; have HQ := Lib.hid hq
  clear hS hN hwf hsz hb0 hgr hn hq
  go_enter Try.func19, Try.ntmps19
  go_wp2_with fail
  refine HP.out.mono ?_
  rintro e w1 ⟨pv, rfl, hpv, hk1⟩
  obtain ⟨po, pcap, rfl, hp1, hp2⟩ := hpv.shape
  have HPV := Lib.hid hpv; have HK1 := Lib.hid hk1
  have hb1 := hk1.heap HB0.out (by simp)
  have HB1 := Lib.hid hb1
  have hgw : gr < w1.heap.size := Go.lt_of_block hb1
  rw [parents_length, ← HN.out]
  clear hpv hk1 hb1
  have HM := Lib.hid (show MkM w1 (w1.alloc (.cells #[.slice ao n cap, .slice po n pcap, .slice no q ncap, .int .i64 0] 85)) w1.heap.size l ns (.slice ao n cap) (.slice po n pcap) (.slice no q ncap) 0 from
    ⟨HS.out.keep (HC0.out.trans HK1.out (by simp)), by have h := HPV.out; rw [parents_length, ← HN.out] at h; exact h, HNS.out.keep (HC0.out.trans HK1.out (by simp)), Nat.le_refl _, (Chg.refl [] w1).alloc _, heap_alloc_new w1 _, Nat.zero_le _⟩)
  have HV := Lib.hid (value8_any w1 w1.heap.size l ns (.slice ao n cap) (.slice po n pcap) (.slice no q ncap) hl HWF.out n 0 0 _ (by omega) (by rw [← HN.out]; omega) HM.out)
  obtain ⟨T, hT⟩ : ∃ T, T = mkT l ns n 0 0 := ⟨_, rfl⟩
  have HT := Lib.hid (show mk8 l ns = T.1 by unfold mk8; rw [hT, HN.out])
  rw [← hT, show ((0 : Nat) : Int) = 0 from rfl] at HV
  clear hT
  go_wp2_with (first
    | (go_at_call 52; (with_reducible refine HV.out.mono ?_); rintro e w4 ⟨kv4, rfl, hk4, hm4, hc4⟩; obtain ⟨ko4, kc4, rfl, -, -⟩ := hk4.shape; have hb4 := hc4.heap (((Chg.refl [] w1).alloc _).heap HB1.out (by simp)) (by simp; omega); have r0 : w4.cell? ⟨gr, 0, none⟩ = some (.int .i64 0) := (by rw [cell_of_row w4 gr 0 _ _ _ hb4]; rfl); have r1 : w4.cell? ⟨gr, 1, none⟩ = some (.string { data := #[] }) := (by rw [cell_of_row w4 gr 1 _ _ _ hb4]; rfl); have r2 : w4.cell? ⟨gr, 2, none⟩ = some (.slice none 0 0) := (by rw [cell_of_row w4 gr 2 _ _ _ hb4]; rfl); have hf0 : w4.frozen? ⟨gr, 0, none⟩ = false := (by simp [World.frozen?, hb4]); have hf1 : w4.frozen? ⟨gr, 1, none⟩ = false := (by simp [World.frozen?, hb4]); have hf2 : w4.frozen? ⟨gr, 2, none⟩ = false := (by simp [World.frozen?, hb4]); rw [← HGR.out]; have HB4 := Lib.hid hb4; have HK4 := Lib.hid hk4; have HC4 := Lib.hid hc4; clear hb4 hk4 hc4 hm4)
    | fail)
  refine ret_tree rfl rfl rfl (set3 HB4.out _ _ _) ?_
  rw [HT.out]
  have hc3 := chg3 (S := [gr]) (Chg.refl _ w4) (gr := gr) (by simp) (.int .i64 T.1.n) (.string T.1.s) (.slice ko4 T.1.k.length kc4)
  have hgr := HGR.out
  refine ⟨_, rfl, ?_, ?_⟩
  · exact (HK4.out.keep hc3 (fun g hg hm => by simp at hm hg; omega)).mono (fun g hg => by simp at hg; omega) (Nat.le_refl _)
  · have hz1 := HC0.out.size
    have hz2 := HK1.out.size
    exact (((HC0.out.trans HK1.out (by simp)).alloc _).trans HC4.out (fun t ht => .inr (by simp at ht; omega))).trans hc3 (fun t ht => .inr (by simp at ht; omega))

end Go.Proofs.Ythhcnlmjcpkbnaa
