/-
  The program's read.
-/
import Derived.Test.YthdnldbkpllciaaZ38
import Derived.Deep.RegionWith
import Derived.Test.YthdnldbkpllciaaZ24
namespace Go.Proofs.Ythdnldbkpllciaa
open Go.RowKit

theorem sizeSpec : (Try.prog.info? 27).map (·.size) = some 7 := by kernel_rfl
theorem cells_drew {w : World} {g : Nat} {t : TypeId} {l : List Value} (h : Cells w g t l) : Cells w.drew g t l := h
/-- A block of seven cells, written cell by cell. -/
theorem set7 {w : World} {g : Nat} {t : TypeId} {o0 o1 o2 o3 o4 o5 o6 v0 v1 v2 v3 v4 v5 v6 : Value} (h : Cells w g t [o0, o1, o2, o3, o4, o5, o6]) :
    Cells ((((((((w.setCell ⟨g, 0, none⟩ v0).setCell ⟨g, 1, none⟩ v1).setCell ⟨g, 2, none⟩ v2).setCell ⟨g, 3, none⟩ v3).setCell ⟨g, 4, none⟩ v4).setCell ⟨g, 5, none⟩ v5).setCell ⟨g, 6, none⟩ v6).drew) g t [v0, v1, v2, v3, v4, v5, v6]
    ∧ But g w ((((((((w.setCell ⟨g, 0, none⟩ v0).setCell ⟨g, 1, none⟩ v1).setCell ⟨g, 2, none⟩ v2).setCell ⟨g, 3, none⟩ v3).setCell ⟨g, 4, none⟩ v4).setCell ⟨g, 5, none⟩ v5).setCell ⟨g, 6, none⟩ v6).drew) := by
  have st : ∀ (W : World) (l : List Value) (i : Nat) (v : Value), Cells W g t l → Cells (W.setCell ⟨g, i, none⟩ v) g t (l.set i v) := fun W l i v hl => by
    unfold Cells at *
    rw [setCell_eq_setRow W g i _ t (0, 0) v hl, setRow_heap W g _ _ t (0, 0) hl]
    simp
  refine ⟨cells_drew (st _ _ 6 v6 (st _ _ 5 v5 (st _ _ 4 v4 (st _ _ 3 v3 (st _ _ 2 v2 (st _ _ 1 v1 (st _ _ 0 v0 h))))))), ?_⟩
  exact But.drew (((((((But.setCell _ g 0 v0).trans (But.setCell _ g 1 v1)).trans (But.setCell _ g 2 v2)).trans (But.setCell _ g 3 v3)).trans (But.setCell _ g 4 v4)).trans (But.setCell _ g 5 v5)).trans (But.setCell _ g 6 v6))

theorem results_two {fn : Func} {p q : Tmp} {ty : TypeId} (h : fn.results = #[.cell p ty, .tmp q]) (tmps : Array Value) (w : World) (g : Nat) (t : TypeId) (cs : Array Value) (fr : Nat × Nat) (d : Array Field) (k : Value)
    (hp : tmps.getD p undef = .pointer (some ⟨g, 0, none⟩)) (hq : tmps.getD q undef = k) (hg : w.heap[g]? = some (.cells cs t fr))
    (hu : Try.prog.underlying ty = some (.struct d)) (hi : (Try.prog.info? ty).map (·.size) = some cs.size) :
    (results fn tmps).run Try.prog w = .ok (.tuple #[.agg cs, k]) w := by
  have hp' : tmps[p]?.getD undef = .pointer (some ⟨g, 0, none⟩) := by simpa using hp
  have hq' : tmps[q]?.getD undef = k := by simpa using hq
  simp [results, h, hp', hq', asAddr, run_loadVar_row w g t ty cs fr (.struct d) hg hu rfl hi]

set_option maxRecDepth 10000 in
set_option maxHeartbeats 2000000 in
theorem read0_any (x : ByteArray) (hx : x.size ≤ 1099511627776) (w : World) :
    Calls Try.prog 63 #[.string x] w fun e w' => ∃ v, e = .returned (.tuple #[v, .bool (told (rdE x.data.toList = ([], false)))]) ∧ RowsV w' w.heap.size v (rdM x.data.toList) ∧ Below w.heap.size w w' := by
  obtain ⟨ok, hok⟩ : ∃ ok, told (rdE x.data.toList = ([], false)) = ok := ⟨_, rfl⟩
  rw [hok]
  obtain ⟨l, hlx⟩ : ∃ l, x.data.toList = l := ⟨_, rfl⟩
  rw [hlx] at hok
  rw [hlx]
  have hll : l.length ≤ 1099511627776 := by rw [← hlx, len_list]; exact hx
  have HN := hide (fun W => anew_any x l hlx W)
  obtain ⟨s, hs⟩ : ∃ s, rdM l = s := ⟨_, rfl⟩
  obtain ⟨r1, hr1⟩ : ∃ r, rd1 l = r := ⟨_, rfl⟩
  obtain ⟨r2, hr2⟩ : ∃ r, rd2 r1 = r := ⟨_, rfl⟩
  obtain ⟨r3, hr3⟩ : ∃ r, rd3 r2 = r := ⟨_, rfl⟩
  obtain ⟨r4, hr4⟩ : ∃ r, rd4 r3 = r := ⟨_, rfl⟩
  obtain ⟨r5, hr5⟩ : ∃ r, keysS 32 r4 = r := ⟨_, rfl⟩
  obtain ⟨r6, hr6⟩ : ∃ r, numS r5 = r := ⟨_, rfl⟩
  obtain ⟨r7, hr7⟩ : ∃ r, numS r6 = r := ⟨_, rfl⟩
  have hE : rdE l = r7 := by subst hr7 hr6 hr5 hr4 hr3 hr2 hr1; unfold rdE; rfl
  have t0 : mk (txtV (l, false) 16) = s.id := by rw [← hs]; subst hr7 hr6 hr5 hr4 hr3 hr2 hr1; simp only [rdM]
  have t1 : rdPs r1 = s.parties := by rw [← hs]; subst hr7 hr6 hr5 hr4 hr3 hr2 hr1; simp only [rdM]
  have t2 : rdAs r2 = s.arcs := by rw [← hs]; subst hr7 hr6 hr5 hr4 hr3 hr2 hr1; simp only [rdM]
  have t3 : rdLs r3 = s.leaders := by rw [← hs]; subst hr7 hr6 hr5 hr4 hr3 hr2 hr1; simp only [rdM]
  have t4 : keysOf 32 r4 = s.locks := by rw [← hs]; subst hr7 hr6 hr5 hr4 hr3 hr2 hr1; simp only [rdM]
  have t5 : numV r5.1 = s.start := by rw [← hs]; subst hr7 hr6 hr5 hr4 hr3 hr2 hr1; simp only [rdM]
  have t6 : numV r6.1 = s.delta := by rw [← hs]; subst hr7 hr6 hr5 hr4 hr3 hr2 hr1; simp only [rdM]
  have l1 : r1.1.length ≤ 1099511627776 := by rw [← hr1]; exact Nat.le_trans (txt_le _ _) hll
  have l2 : r2.1.length ≤ 1099511627776 := by rw [← hr2]; exact Nat.le_trans (itemsS_le _ partyS_le _ _) (Nat.le_trans (cnt_le _ _) l1)
  have l3 : r3.1.length ≤ 1099511627776 := by rw [← hr3]; exact Nat.le_trans (itemsS_le _ arcS_le _ _) (Nat.le_trans (cnt_le _ _) l2)
  have l4 : r4.1.length ≤ 1099511627776 := by rw [← hr4]; exact Nat.le_trans (itemsS_le _ num_le _ _) (Nat.le_trans (cnt_le _ _) l3)
  have H0 := fun W b (h : At 114 W b (l, false)) => rtext_any 16 h hll
  have H1 := fun W b (h : At 114 W b r1) => rlist_party 6 (by omega) (by omega) h l1
  have H2 := fun W b (h : At 114 W b r2) => rlist_arc 12 (by omega) (by omega) h l2
  have H3 := fun W b (h : At 114 W b r3) => rlist_int 3 (by omega) (by omega) h l3
  have H4 := fun W b (h : At 114 W b r4) => rlist_lock 3 (by omega) (by omega) h l4
  have H5 := fun W b (h : At 114 W b r5) => rnum_any h
  have H6 := fun W b (h : At 114 W b r6) => rnum_any h
  change ∀ W b, At 114 W b (l, false) → Calls _ _ _ _ (fun e w' => e = .returned (.string (mk (txtV (l, false) 16))) ∧ At _ _ _ (rd1 l) ∧ _) at H0
  change ∀ W b, At 114 W b r1 → Calls _ _ _ _ (fun e w' => ∃ v, e = .returned v ∧ PRow2 _ _ _ (rdPs r1) ∧ At _ _ _ (rd2 r1) ∧ _) at H1
  change ∀ W b, At 114 W b r2 → Calls _ _ _ _ (fun e w' => ∃ v, e = .returned v ∧ ARow _ _ _ (rdAs r2) ∧ At _ _ _ (rd3 r2) ∧ _) at H2
  change ∀ W b, At 114 W b r3 → Calls _ _ _ _ (fun e w' => ∃ v, e = .returned v ∧ IRow _ _ _ (rdLs r3) ∧ At _ _ _ (rd4 r3) ∧ _) at H3
  change ∀ W b, At 114 W b r4 → Calls _ _ _ _ (fun e w' => ∃ v, e = .returned v ∧ SRow _ _ _ (keysOf 32 r4) ∧ At _ _ _ (keysS 32 r4) ∧ _) at H4
  rw [t0, hr1] at H0
  rw [t1, hr2] at H1
  rw [t2, hr3] at H2
  rw [t3, hr4] at H3
  rw [t4, hr5] at H4
  rw [t5, hr6] at H5
  rw [t6, hr7] at H6
  rw [hE] at hok
  replace H0 := hide H0
  replace H1 := hide H1
  replace H2 := hide H2
  replace H3 := hide H3
  replace H4 := hide H4
  replace H5 := hide H5
  replace H6 := hide H6
  replace hok := hide hok
  rw [hs]
  clear hs hr1 hr2 hr3 hr4 hr5 hr6 hr7 t0 t1 t2 t3 t4 t5 t6 hE l1 l2 l3 l4 hll hlx hx
  have hB1 := (Below.refl w.heap.size w).alloc (Nat.le_refl _) (Obj.cells #[.string ⟨#[]⟩, .slice none 0 0, .slice none 0 0, .slice none 0 0, .slice none 0 0, .int .i64 0, .int .i64 0] 27)
  have hc1 : Cells (w.alloc (Obj.cells #[.string ⟨#[]⟩, .slice none 0 0, .slice none 0 0, .slice none 0 0, .slice none 0 0, .int .i64 0, .int .i64 0] 27)) w.heap.size 27 [.string ⟨#[]⟩, .slice none 0 0, .slice none 0 0, .slice none 0 0, .slice none 0 0, .int .i64 0, .int .i64 0] := heap_alloc_new _ _
  have hz1 : (w.alloc (Obj.cells #[.string ⟨#[]⟩, .slice none 0 0, .slice none 0 0, .slice none 0 0, .slice none 0 0, .int .i64 0, .int .i64 0] 27)).heap.size = w.heap.size + 1 := by simp
  replace hB1 := hide hB1
  replace hc1 := hide hc1
  go_enter Try.func63, Try.ntmps63
  go_upto_region 1 with fail
  generalize w.alloc (Obj.cells #[.string ⟨#[]⟩, .slice none 0 0, .slice none 0 0, .slice none 0 0, .slice none 0 0, .int .i64 0, .int .i64 0] 27) = w1 at hB1 hc1 hz1 ⊢
  obtain ⟨g, hgg⟩ : ∃ g, w.heap.size = g := ⟨_, rfl⟩
  rw [hgg] at hB1 hc1 hz1 ⊢
  go_wp2_with fail
  refine (HN.out w1).mono ?_
  rintro e w2 ⟨b, rfl, ha2, hb2, hB2⟩
  have hgb : g < b := by omega
  have hat := hide ha2
  have hcs := hide (hc1.out.below hB2)
  have hBg := hide (hB1.out.trans (hB2.mono (by omega)))
  have hz2 := hB2.size
  have hs2 : g < w2.heap.size := by omega
  have hbz : b < w2.heap.size := ha2.lt
  clear HN hc1 hB1 ha2 hB2 hz1 hz2
  go_wp2_with fail
  refine (H0.out _ _ hat.out).mono ?_
  rintro e w3 ⟨rfl, ha3, hb3⟩
  replace hat := hide ha3
  replace hcs := hide (hcs.out.but hb3 (by omega))
  replace hBg := hide (hBg.out.trans (hb3.below (by omega) (by omega)))
  have hs3 := hb3.size
  clear H0 ha3 hb3
  go_wp2_with fail
  refine (H1.out _ _ hat.out).mono ?_
  rintro e w4 ⟨v1, rfl, hp4, ha4, hb4⟩
  obtain ⟨p1, n1, k1, hv1⟩ : ∃ a n c, v1 = .slice a n c := by obtain ⟨_, _, _, h, _⟩ := hp4; exact ⟨_, _, _, h⟩
  rw [hv1] at hp4 ⊢
  replace hat := hide ha4
  replace hcs := hide (hcs.out.but hb4 (by omega))
  replace hBg := hide (hBg.out.trans (hb4.below (by omega) (by omega)))
  have hP := hide hp4
  have hs4 := hb4.size
  clear H1 ha4 hb4 hp4 hv1
  go_wp2_with fail
  refine (H2.out _ _ hat.out).mono ?_
  rintro e w5 ⟨v2, rfl, hp5, ha5, hb5⟩
  obtain ⟨p2, n2, k2, hv2⟩ : ∃ a n c, v2 = .slice a n c := by obtain ⟨_, _, h, _⟩ := hp5; exact ⟨_, _, _, h⟩
  rw [hv2] at hp5 ⊢
  replace hat := hide ha5
  replace hcs := hide (hcs.out.but hb5 (by omega))
  replace hBg := hide (hBg.out.trans (hb5.below (by omega) (by omega)))
  replace hP := hide (hP.out.but hb5 (by omega))
  have hA := hide hp5
  have hs5 := hb5.size
  clear H2 ha5 hb5 hp5 hv2
  go_wp2_with fail
  refine (H3.out _ _ hat.out).mono ?_
  rintro e w6 ⟨v3, rfl, hp6, ha6, hb6⟩
  obtain ⟨p3, n3, k3, hv3⟩ : ∃ a n c, v3 = .slice a n c := by obtain ⟨_, _, h, _⟩ := hp6; exact ⟨_, _, _, h⟩
  rw [hv3] at hp6 ⊢
  replace hat := hide ha6
  replace hcs := hide (hcs.out.but hb6 (by omega))
  replace hBg := hide (hBg.out.trans (hb6.below (by omega) (by omega)))
  replace hP := hide (hP.out.but hb6 (by omega))
  replace hA := hide (hA.out.but hb6 (by omega))
  have hI := hide hp6
  have hs6 := hb6.size
  clear H3 ha6 hb6 hp6 hv3
  go_wp2_with fail
  refine (H4.out _ _ hat.out).mono ?_
  rintro e w7 ⟨v4, rfl, hp7, ha7, hb7⟩
  obtain ⟨p4, n4, k4, hv4⟩ : ∃ a n c, v4 = .slice a n c := by obtain ⟨_, _, h, _⟩ := hp7; exact ⟨_, _, _, h⟩
  rw [hv4] at hp7 ⊢
  replace hat := hide ha7
  replace hcs := hide (hcs.out.but hb7 (by omega))
  replace hBg := hide (hBg.out.trans (hb7.below (by omega) (by omega)))
  replace hP := hide (hP.out.but hb7 (by omega))
  replace hA := hide (hA.out.but hb7 (by omega))
  replace hI := hide (hI.out.but hb7 (by omega))
  have hK := hide hp7
  have hs7 := hb7.size
  clear H4 ha7 hb7 hp7 hv4
  go_wp2_with fail
  refine (H5.out _ _ hat.out).mono ?_
  rintro e w8 ⟨rfl, ha8, hb8, hy8⟩
  clear hy8
  replace hat := hide ha8
  replace hcs := hide (hcs.out.but hb8 (by omega))
  replace hBg := hide (hBg.out.trans (hb8.below (by omega) (by omega)))
  replace hP := hide (hP.out.but hb8 (by omega))
  replace hA := hide (hA.out.but hb8 (by omega))
  replace hI := hide (hI.out.but hb8 (by omega))
  replace hK := hide (hK.out.but hb8 (by omega))
  have hs8 := hb8.size
  clear H5 ha8 hb8
  go_wp2_with fail
  refine (H6.out _ _ hat.out).mono ?_
  rintro e w9 ⟨rfl, ha9, hb9, hy9⟩
  clear hy9
  replace hat := hide ha9
  replace hcs := hide (hcs.out.but hb9 (by omega))
  replace hBg := hide (hBg.out.trans (hb9.below (by omega) (by omega)))
  replace hP := hide (hP.out.but hb9 (by omega))
  replace hA := hide (hA.out.but hb9 (by omega))
  replace hI := hide (hI.out.but hb9 (by omega))
  replace hK := hide (hK.out.but hb9 (by omega))
  have hs9 := hb9.size
  clear H6 ha9 hb9
  go_upto_region 3 with fail
  have hB10 := (Below.refl w9.heap.size w9).alloc (Nat.le_refl _) (Obj.cells #[.string s.id, .slice p1 n1 k1, .slice p2 n2 k2, .slice p3 n3 k3, .slice p4 n4 k4, .int .i64 s.start, .int .i64 s.delta] 27)
  have hc10 : Cells (w9.alloc (Obj.cells #[.string s.id, .slice p1 n1 k1, .slice p2 n2 k2, .slice p3 n3 k3, .slice p4 n4 k4, .int .i64 s.start, .int .i64 s.delta] 27)) w9.heap.size 27 [.string s.id, .slice p1 n1 k1, .slice p2 n2 k2, .slice p3 n3 k3, .slice p4 n4 k4, .int .i64 s.start, .int .i64 s.delta] := heap_alloc_new _ _
  replace hat := hide (hat.out.below hB10)
  replace hcs := hide (hcs.out.below hB10)
  replace hBg := hide (hBg.out.trans (hB10.mono (by omega)))
  replace hP := hide (hP.out.below hB10)
  replace hA := hide (hA.out.below hB10)
  replace hI := hide (hI.out.below hB10)
  replace hK := hide (hK.out.below hB10)
  replace hc10 := hide hc10
  clear hB10
  generalize w9.alloc (Obj.cells #[.string s.id, .slice p1 n1 k1, .slice p2 n2 k2, .slice p3 n3 k3, .slice p4 n4 k4, .int .i64 s.start, .int .i64 s.delta] 27) = w10 at hat hcs hBg hP hA hI hK hc10 ⊢
  obtain ⟨q, hq⟩ : ∃ q, w9.heap.size = q := ⟨_, rfl⟩
  rw [hq] at hc10 ⊢
  have hgq : g ≠ q := by omega
  have hgb' : b ≠ g := by omega
  have c0 : w10.cell? ⟨q, 0, none⟩ = some (.string s.id) := hc10.out.at 0
  have c1 : w10.cell? ⟨q, 1, none⟩ = some (.slice p1 n1 k1) := hc10.out.at 1
  have c2 : w10.cell? ⟨q, 2, none⟩ = some (.slice p2 n2 k2) := hc10.out.at 2
  have c3 : w10.cell? ⟨q, 3, none⟩ = some (.slice p3 n3 k3) := hc10.out.at 3
  have c4 : w10.cell? ⟨q, 4, none⟩ = some (.slice p4 n4 k4) := hc10.out.at 4
  have c5 : w10.cell? ⟨q, 5, none⟩ = some (.int .i64 s.start) := hc10.out.at 5
  have c6 : w10.cell? ⟨q, 6, none⟩ = some (.int .i64 s.delta) := hc10.out.at 6
  have d0 : w10.cell? ⟨g, 0, none⟩ = some (.string ⟨#[]⟩) := hcs.out.at 0
  have d1 : w10.cell? ⟨g, 1, none⟩ = some (.slice none 0 0) := hcs.out.at 1
  have d2 : w10.cell? ⟨g, 2, none⟩ = some (.slice none 0 0) := hcs.out.at 2
  have d3 : w10.cell? ⟨g, 3, none⟩ = some (.slice none 0 0) := hcs.out.at 3
  have d4 : w10.cell? ⟨g, 4, none⟩ = some (.slice none 0 0) := hcs.out.at 4
  have d5 : w10.cell? ⟨g, 5, none⟩ = some (.int .i64 0) := hcs.out.at 5
  have d6 : w10.cell? ⟨g, 6, none⟩ = some (.int .i64 0) := hcs.out.at 6
  have f0 : w10.frozen? ⟨g, 0, none⟩ = false := frozen_of_row w10 g 0 _ _ hcs.out
  have f1 : w10.frozen? ⟨g, 1, none⟩ = false := frozen_of_row w10 g 1 _ _ hcs.out
  have f2 : w10.frozen? ⟨g, 2, none⟩ = false := frozen_of_row w10 g 2 _ _ hcs.out
  have f3 : w10.frozen? ⟨g, 3, none⟩ = false := frozen_of_row w10 g 3 _ _ hcs.out
  have f4 : w10.frozen? ⟨g, 4, none⟩ = false := frozen_of_row w10 g 4 _ _ hcs.out
  have f5 : w10.frozen? ⟨g, 5, none⟩ = false := frozen_of_row w10 g 5 _ _ hcs.out
  have f6 : w10.frozen? ⟨g, 6, none⟩ = false := frozen_of_row w10 g 6 _ _ hcs.out
  obtain ⟨hS7, hB7⟩ := set7 (v0 := .string s.id) (v1 := .slice p1 n1 k1) (v2 := .slice p2 n2 k2) (v3 := .slice p3 n3 k3) (v4 := .slice p4 n4 k4) (v5 := .int .i64 s.start) (v6 := .int .i64 s.delta) hcs.out
  have hat2 := hide (hat.out.but hB7 hgb')
  have HF := hide (show RowsV _ g _ s ∧ Below g w _ from ⟨⟨p1, n1, k1, p2, n2, k2, p3, n3, k3, p4, n4, k4, rfl, (hP.out.but hB7 (by omega)).mono (by omega), (hA.out.but hB7 (by omega)).mono (by omega), (hI.out.but hB7 (by omega)).mono (by omega), (hK.out.but hB7 (by omega)).mono (by omega)⟩, hBg.out.trans (hB7.below (Nat.le_refl _) (by have := hcs.out.lt; omega))⟩)
  have hS8 := hide hS7
  have HF2 := HF
  have HBad := hide (fun W (h : At 114 W b r7) => abad_any h)
  have HLeft := hide (fun W (h : At 114 W b r7) => aleft_any h)
  have HC7 := hide (show _ ∧ _ ∧ _ ∧ _ ∧ _ ∧ _ ∧ _ from ⟨hB7.cell (Ne.symm hgq) c0, hB7.cell (Ne.symm hgq) c1, hB7.cell (Ne.symm hgq) c2, hB7.cell (Ne.symm hgq) c3, hB7.cell (Ne.symm hgq) c4, hB7.cell (Ne.symm hgq) c5, hB7.cell (Ne.symm hgq) c6⟩)
  clear hB7 HF hS7 hat2 hP hA hI hK hBg hcs hc10 hb2 hgb hs2 hbz hq hs3 hs4 hs5 hs6 hs7 hs8 hs9
  by_cases hbad : r7.2 = true
  · rw [hbad] at HBad
    have he : ok = false := by rw [← hok.out]; exact told_no (fun h => by rw [h] at hbad; exact Bool.noConfusion hbad)
    have HOK := hide he
    clear hbad he HLeft hok
    refine wp_region_held_drew (S := fun W => W.cell? ⟨q, 0, none⟩ = some (.string s.id) ∧ W.cell? ⟨q, 1, none⟩ = some (.slice p1 n1 k1) ∧ W.cell? ⟨q, 2, none⟩ = some (.slice p2 n2 k2) ∧ W.cell? ⟨q, 3, none⟩ = some (.slice p3 n3 k3) ∧ W.cell? ⟨q, 4, none⟩ = some (.slice p4 n4 k4) ∧ W.cell? ⟨q, 5, none⟩ = some (.int .i64 s.start) ∧ W.cell? ⟨q, 6, none⟩ = some (.int .i64 s.delta)) (by kernel_rfl) ⟨c0, c1, c2, c3, c4, c5, c6⟩ (fun hHeld => ?_)
    refine wpAnyH_take (i := 0) (oi := { dst := some 23, op := Op.load 27 (Operand.tmp 5), type := 27, pos := "bytes.go:51", after := #[], guard := none }) (v := ?_) rfl (by kernel_rfl) (by kernel_rfl) (by kernel_rfl) (fun _ _ _ h => h) (Or.inl ⟨by rfl, ?_⟩) (by assumption) ?_
    rotate_left
    · intro W hSW; obtain ⟨c0, c1, c2, c3, c4, c5, c6⟩ := hSW; first | (go_simp; done) | (go_simp; with_reducible rfl)
    try simp only [Act.put, List.setIfInBounds_toArray, List.set_cons_zero, List.set_cons_succ]
    refine wpAnyH_take (i := 1) (oi := { dst := some 24, op := Op.move (Operand.tmp 4), type := 96, pos := "bytes.go:51", after := #[], guard := none }) (v := ?_) rfl (by kernel_rfl) (by kernel_rfl) (by kernel_rfl) (fun _ _ _ h => h) (Or.inl ⟨by rfl, ?_⟩) (by assumption) ?_
    rotate_left
    · first | (intro w hSw; go_simp; done) | (intro w hSw; go_simp; with_reducible rfl)
    try simp only [Act.put, List.setIfInBounds_toArray, List.set_cons_zero, List.set_cons_succ]
    refine wpAnyH_ready (rs := [2]) (by kernel_rfl) (by simp) ?_
    refine AllReadyH.cons (o := { dst := some 25, op := Op.call { callee := Callee.value (Operand.func 84), args := #[Operand.tmp 24], argTypes := #[96] }, type := 4, pos := "bytes.go:51", after := #[{ on := 1, ground := Ground.data }], guard := none }) rfl (fun K hK => ?_) AllReadyH.nil
    go_simp
    refine (HBad.out _ hat.out.drew).mono ?_
    rintro e w0 ⟨rfl, hw0⟩
    subst w0
    go_wp2_with fail
    refine hK.out _ _ ⟨c0, c1, c2, c3, c4, c5, c6⟩ (fun hHeld => ?_)
    clear hK K
    try simp only [Act.put, List.setIfInBounds_toArray, List.set_cons_zero, List.set_cons_succ]
    refine wpAnyH_take (i := 3) (oi := { dst := some 26, op := Op.unOp UnOp.not 4 (Operand.tmp 25), type := 4, pos := "bytes.go:51", after := #[{ on := 2, ground := Ground.data }], guard := none }) (v := ?_) rfl (by kernel_rfl) (by kernel_rfl) (by kernel_rfl) (fun _ _ _ h => h) (Or.inl ⟨by rfl, ?_⟩) (by assumption) ?_
    rotate_left
    · first | (intro w hSw; go_simp; done) | (intro w hSw; go_simp; with_reducible rfl)
    try simp only [Act.put, List.setIfInBounds_toArray, List.set_cons_zero, List.set_cons_succ]
    refine wpAnyH_take (i := 4) (oi := { dst := some 27, op := Op.move (Operand.tmp 26), type := 4, pos := "bytes.go:51", after := #[{ on := 3, ground := Ground.data }, { on := 2, ground := Ground.chain }], guard := none }) (v := ?_) rfl (by kernel_rfl) (by kernel_rfl) (by kernel_rfl) (fun _ _ _ h => h) (Or.inl ⟨by rfl, ?_⟩) (by assumption) ?_
    rotate_left
    · first | (intro w hSw; go_simp; done) | (intro w hSw; go_simp; with_reducible rfl)
    try simp only [Act.put, List.setIfInBounds_toArray, List.set_cons_zero, List.set_cons_succ]
    refine wpAnyH_take (i := 5) (oi := { dst := some 28, op := Op.move (Operand.tmp 4), type := 96, pos := "bytes.go:51", after := #[{ on := 4, ground := Ground.guard }], guard := some (4, true) }) (v := undef) rfl (by kernel_rfl) (by kernel_rfl) (by kernel_rfl) (fun _ _ _ h => h) (Or.inr ⟨by rfl, rfl⟩) (by assumption) ?_
    try simp only [Act.put, List.setIfInBounds_toArray, List.set_cons_zero, List.set_cons_succ]
    refine wpAnyH_take (i := 6) (oi := { dst := some 29, op := Op.call { callee := Callee.value (Operand.func 85), args := #[Operand.tmp 28], argTypes := #[96] }, type := 3, pos := "bytes.go:51", after := #[{ on := 5, ground := Ground.data }, { on := 4, ground := Ground.chain }, { on := 4, ground := Ground.guard }], guard := some (4, true) }) (v := undef) rfl (by kernel_rfl) (by kernel_rfl) (by kernel_rfl) (fun _ _ _ h => h) (Or.inr ⟨by rfl, rfl⟩) (by assumption) ?_
    try simp only [Act.put, List.setIfInBounds_toArray, List.set_cons_zero, List.set_cons_succ]
    refine wpAnyH_take (i := 7) (oi := { dst := some 30, op := Op.binOp BinOp.eql 3 (Operand.tmp 29) (Operand.const (Value.int IntKind.i64 0)) 3, type := 4, pos := "bytes.go:51", after := #[{ on := 6, ground := Ground.data }, { on := 4, ground := Ground.guard }, { on := 9, ground := Ground.gcOnly Departure.lateStores }], guard := some (4, true) }) (v := undef) rfl (by kernel_rfl) (by kernel_rfl) (by kernel_rfl) (fun _ _ _ h => h) (Or.inr ⟨by rfl, rfl⟩) (by assumption) ?_
    try simp only [Act.put, List.setIfInBounds_toArray, List.set_cons_zero, List.set_cons_succ]
    refine wpAnyH_take (i := 8) (oi := { dst := some 31, op := Op.pick (Operand.tmp 27) (Operand.tmp 30) (Operand.const (Value.bool false)), type := 4, pos := "bytes.go:51", after := #[{ on := 4, ground := Ground.data }, { on := 7, ground := Ground.data }, { on := 9, ground := Ground.gcOnly Departure.lateStores }], guard := none }) (v := ?_) rfl (by kernel_rfl) (by kernel_rfl) (by kernel_rfl) (fun _ _ _ h => h) (Or.inl ⟨by rfl, ?_⟩) (by assumption) ?_
    rotate_left
    · first | (intro w hSw; go_simp; done) | (intro w hSw; go_simp; with_reducible rfl)
    try simp only [Act.put, List.setIfInBounds_toArray, List.set_cons_zero, List.set_cons_succ]
    refine wpAnyH_ready (rs := [9]) (by kernel_rfl) (by simp) ?_
    refine AllReadyH.cons (o := { dst := none, op := Op.store 27 (Operand.tmp 2) (Operand.tmp 23), type := 0, pos := "bytes.go:51", after := #[{ on := 0, ground := Ground.data }, { on := 6, ground := Ground.chain }, { on := 0, ground := Ground.phase }, { on := 1, ground := Ground.textOnly Departure.lateStores }, { on := 2, ground := Ground.textOnly Departure.lateStoresUnsure }, { on := 3, ground := Ground.textOnly Departure.lateStores }, { on := 4, ground := Ground.textOnly Departure.lateStores }, { on := 5, ground := Ground.textOnly Departure.lateStores }, { on := 6, ground := Ground.textOnly Departure.lateStoresUnsure }, { on := 7, ground := Ground.textOnly Departure.lateStores }, { on := 8, ground := Ground.textOnly Departure.lateStores }], guard := none }) rfl (fun K hK => ?_) AllReadyH.nil
    go_simp
    refine hK.out _ _ HC7.out (fun hHeld => ?_)
    clear hK K
    try simp only [Act.put, List.setIfInBounds_toArray, List.set_cons_zero, List.set_cons_succ]
    refine wpAnyH_take (i := 10) (oi := { dst := some 3, op := Op.assign (Operand.tmp 31), type := 4, pos := "bytes.go:51", after := #[{ on := 8, ground := Ground.data }, { on := 9, ground := Ground.chain }, { on := 0, ground := Ground.phase }, { on := 1, ground := Ground.phase }, { on := 2, ground := Ground.phase }, { on := 3, ground := Ground.phase }, { on := 4, ground := Ground.phase }, { on := 5, ground := Ground.phase }, { on := 6, ground := Ground.phase }, { on := 7, ground := Ground.phase }, { on := 8, ground := Ground.phase }, { on := 9, ground := Ground.phase }], guard := none }) (v := ?_) rfl (by kernel_rfl) (by kernel_rfl) (by kernel_rfl) (fun _ _ _ h => h) (Or.inl ⟨by rfl, ?_⟩) (by assumption) ?_
    rotate_left
    · first | (intro w hSw; go_simp; done) | (intro w hSw; go_simp; with_reducible rfl)
    try simp only [Act.put, List.setIfInBounds_toArray, List.set_cons_zero, List.set_cons_succ]
    refine wpAnyH_done (by kernel_rfl) ?_ _
    go_wp2
    refine bodyPost_ret (v := .tuple #[.agg #[.string s.id, .slice p1 n1 k1, .slice p2 n2 k2, .slice p3 n3 k3, .slice p4 n4 k4, .int .i64 s.start, .int .i64 s.delta], .bool false]) (results_two (fn := Try.f63) Try.results63 _ _ g 27 _ (0, 0) _ _ (by rfl) (by rfl) hS8.out Try.underlying27 sizeSpec) rfl ?_
    exact ⟨_, by rw [HOK.out], by rw [hgg]; exact HF2.out.1, by rw [hgg]; exact HF2.out.2⟩
  · have hb' : r7.2 = false := by cases e : r7.2; rfl; exact absurd e hbad
    rw [hb'] at HBad
    obtain ⟨z, hz⟩ : ∃ z, ((r7.1.length : Int) == 0) = z := ⟨_, rfl⟩
    have he : ok = z := by
      rw [← hok.out, ← hz]
      by_cases h0 : r7.1 = []
      · rw [told_yes (Prod.ext h0 hb'), h0]; rfl
      · rw [told_no (fun h => h0 (by rw [h]))]
        have : r7.1.length ≠ 0 := fun e => h0 (List.eq_nil_of_length_eq_zero e)
        exact (beq_eq_false_iff_ne.2 (by omega)).symm
    have HOK := hide he
    clear hbad he hok hb'
    refine wp_region_held_drew (S := fun W => W.cell? ⟨q, 0, none⟩ = some (.string s.id) ∧ W.cell? ⟨q, 1, none⟩ = some (.slice p1 n1 k1) ∧ W.cell? ⟨q, 2, none⟩ = some (.slice p2 n2 k2) ∧ W.cell? ⟨q, 3, none⟩ = some (.slice p3 n3 k3) ∧ W.cell? ⟨q, 4, none⟩ = some (.slice p4 n4 k4) ∧ W.cell? ⟨q, 5, none⟩ = some (.int .i64 s.start) ∧ W.cell? ⟨q, 6, none⟩ = some (.int .i64 s.delta)) (by kernel_rfl) ⟨c0, c1, c2, c3, c4, c5, c6⟩ (fun hHeld => ?_)
    refine wpAnyH_take (i := 0) (oi := { dst := some 23, op := Op.load 27 (Operand.tmp 5), type := 27, pos := "bytes.go:51", after := #[], guard := none }) (v := ?_) rfl (by kernel_rfl) (by kernel_rfl) (by kernel_rfl) (fun _ _ _ h => h) (Or.inl ⟨by rfl, ?_⟩) (by assumption) ?_
    rotate_left
    · intro W hSW; obtain ⟨c0, c1, c2, c3, c4, c5, c6⟩ := hSW; first | (go_simp; done) | (go_simp; with_reducible rfl)
    try simp only [Act.put, List.setIfInBounds_toArray, List.set_cons_zero, List.set_cons_succ]
    refine wpAnyH_take (i := 1) (oi := { dst := some 24, op := Op.move (Operand.tmp 4), type := 96, pos := "bytes.go:51", after := #[], guard := none }) (v := ?_) rfl (by kernel_rfl) (by kernel_rfl) (by kernel_rfl) (fun _ _ _ h => h) (Or.inl ⟨by rfl, ?_⟩) (by assumption) ?_
    rotate_left
    · first | (intro w hSw; go_simp; done) | (intro w hSw; go_simp; with_reducible rfl)
    try simp only [Act.put, List.setIfInBounds_toArray, List.set_cons_zero, List.set_cons_succ]
    refine wpAnyH_ready (rs := [2]) (by kernel_rfl) (by simp) ?_
    refine AllReadyH.cons (o := { dst := some 25, op := Op.call { callee := Callee.value (Operand.func 84), args := #[Operand.tmp 24], argTypes := #[96] }, type := 4, pos := "bytes.go:51", after := #[{ on := 1, ground := Ground.data }], guard := none }) rfl (fun K hK => ?_) AllReadyH.nil
    go_simp
    refine (HBad.out _ hat.out.drew).mono ?_
    rintro e w0 ⟨rfl, hw0⟩
    subst w0
    go_wp2_with fail
    refine hK.out _ _ ⟨c0, c1, c2, c3, c4, c5, c6⟩ (fun hHeld => ?_)
    clear hK K
    try simp only [Act.put, List.setIfInBounds_toArray, List.set_cons_zero, List.set_cons_succ]
    refine wpAnyH_take (i := 3) (oi := { dst := some 26, op := Op.unOp UnOp.not 4 (Operand.tmp 25), type := 4, pos := "bytes.go:51", after := #[{ on := 2, ground := Ground.data }], guard := none }) (v := ?_) rfl (by kernel_rfl) (by kernel_rfl) (by kernel_rfl) (fun _ _ _ h => h) (Or.inl ⟨by rfl, ?_⟩) (by assumption) ?_
    rotate_left
    · first | (intro w hSw; go_simp; done) | (intro w hSw; go_simp; with_reducible rfl)
    try simp only [Act.put, List.setIfInBounds_toArray, List.set_cons_zero, List.set_cons_succ]
    refine wpAnyH_take (i := 4) (oi := { dst := some 27, op := Op.move (Operand.tmp 26), type := 4, pos := "bytes.go:51", after := #[{ on := 3, ground := Ground.data }, { on := 2, ground := Ground.chain }], guard := none }) (v := ?_) rfl (by kernel_rfl) (by kernel_rfl) (by kernel_rfl) (fun _ _ _ h => h) (Or.inl ⟨by rfl, ?_⟩) (by assumption) ?_
    rotate_left
    · first | (intro w hSw; go_simp; done) | (intro w hSw; go_simp; with_reducible rfl)
    try simp only [Act.put, List.setIfInBounds_toArray, List.set_cons_zero, List.set_cons_succ]
    refine wpAnyH_take (i := 5) (oi := { dst := some 28, op := Op.move (Operand.tmp 4), type := 96, pos := "bytes.go:51", after := #[{ on := 4, ground := Ground.guard }], guard := some (4, true) }) (v := ?_) rfl (by kernel_rfl) (by kernel_rfl) (by kernel_rfl) (fun _ _ _ h => h) (Or.inl ⟨by rfl, ?_⟩) (by assumption) ?_
    rotate_left
    · first | (intro w hSw; go_simp; done) | (intro w hSw; go_simp; with_reducible rfl)
    try simp only [Act.put, List.setIfInBounds_toArray, List.set_cons_zero, List.set_cons_succ]
    refine wpAnyH_ready (rs := [6]) (by kernel_rfl) (by simp) ?_
    refine AllReadyH.cons (o := { dst := some 29, op := Op.call { callee := Callee.value (Operand.func 85), args := #[Operand.tmp 28], argTypes := #[96] }, type := 3, pos := "bytes.go:51", after := #[{ on := 5, ground := Ground.data }, { on := 4, ground := Ground.chain }, { on := 4, ground := Ground.guard }], guard := some (4, true) }) rfl (fun K hK => ?_) AllReadyH.nil
    go_simp
    refine (HLeft.out _ hat.out.drew).mono ?_
    rintro e w0 ⟨rfl, hw0⟩
    subst w0
    go_wp2_with fail
    refine hK.out _ _ ⟨c0, c1, c2, c3, c4, c5, c6⟩ (fun hHeld => ?_)
    clear hK K
    try simp only [Act.put, List.setIfInBounds_toArray, List.set_cons_zero, List.set_cons_succ]
    refine wpAnyH_take (i := 7) (oi := { dst := some 30, op := Op.binOp BinOp.eql 3 (Operand.tmp 29) (Operand.const (Value.int IntKind.i64 0)) 3, type := 4, pos := "bytes.go:51", after := #[{ on := 6, ground := Ground.data }, { on := 4, ground := Ground.guard }, { on := 9, ground := Ground.gcOnly Departure.lateStores }], guard := some (4, true) }) (v := ?_) rfl (by kernel_rfl) (by kernel_rfl) (by kernel_rfl) (fun _ _ _ h => h) (Or.inl ⟨by rfl, ?_⟩) (by assumption) ?_
    rotate_left
    · first | (intro w hSw; go_simp; done) | (intro w hSw; go_simp; with_reducible rfl)
    try simp only [Act.put, List.setIfInBounds_toArray, List.set_cons_zero, List.set_cons_succ]
    refine wpAnyH_take (i := 8) (oi := { dst := some 31, op := Op.pick (Operand.tmp 27) (Operand.tmp 30) (Operand.const (Value.bool false)), type := 4, pos := "bytes.go:51", after := #[{ on := 4, ground := Ground.data }, { on := 7, ground := Ground.data }, { on := 9, ground := Ground.gcOnly Departure.lateStores }], guard := none }) (v := ?_) rfl (by kernel_rfl) (by kernel_rfl) (by kernel_rfl) (fun _ _ _ h => h) (Or.inl ⟨by rfl, ?_⟩) (by assumption) ?_
    rotate_left
    · first | (intro w hSw; go_simp; done) | (intro w hSw; go_simp; with_reducible rfl)
    try simp only [Act.put, List.setIfInBounds_toArray, List.set_cons_zero, List.set_cons_succ]
    refine wpAnyH_ready (rs := [9]) (by kernel_rfl) (by simp) ?_
    refine AllReadyH.cons (o := { dst := none, op := Op.store 27 (Operand.tmp 2) (Operand.tmp 23), type := 0, pos := "bytes.go:51", after := #[{ on := 0, ground := Ground.data }, { on := 6, ground := Ground.chain }, { on := 0, ground := Ground.phase }, { on := 1, ground := Ground.textOnly Departure.lateStores }, { on := 2, ground := Ground.textOnly Departure.lateStoresUnsure }, { on := 3, ground := Ground.textOnly Departure.lateStores }, { on := 4, ground := Ground.textOnly Departure.lateStores }, { on := 5, ground := Ground.textOnly Departure.lateStores }, { on := 6, ground := Ground.textOnly Departure.lateStoresUnsure }, { on := 7, ground := Ground.textOnly Departure.lateStores }, { on := 8, ground := Ground.textOnly Departure.lateStores }], guard := none }) rfl (fun K hK => ?_) AllReadyH.nil
    go_simp
    refine hK.out _ _ HC7.out (fun hHeld => ?_)
    clear hK K
    try simp only [Act.put, List.setIfInBounds_toArray, List.set_cons_zero, List.set_cons_succ]
    refine wpAnyH_take (i := 10) (oi := { dst := some 3, op := Op.assign (Operand.tmp 31), type := 4, pos := "bytes.go:51", after := #[{ on := 8, ground := Ground.data }, { on := 9, ground := Ground.chain }, { on := 0, ground := Ground.phase }, { on := 1, ground := Ground.phase }, { on := 2, ground := Ground.phase }, { on := 3, ground := Ground.phase }, { on := 4, ground := Ground.phase }, { on := 5, ground := Ground.phase }, { on := 6, ground := Ground.phase }, { on := 7, ground := Ground.phase }, { on := 8, ground := Ground.phase }, { on := 9, ground := Ground.phase }], guard := none }) (v := ?_) rfl (by kernel_rfl) (by kernel_rfl) (by kernel_rfl) (fun _ _ _ h => h) (Or.inl ⟨by rfl, ?_⟩) (by assumption) ?_
    rotate_left
    · first | (intro w hSw; go_simp; done) | (intro w hSw; go_simp; with_reducible rfl)
    try simp only [Act.put, List.setIfInBounds_toArray, List.set_cons_zero, List.set_cons_succ]
    refine wpAnyH_done (by kernel_rfl) ?_ _
    go_wp2
    refine bodyPost_ret (v := .tuple #[.agg #[.string s.id, .slice p1 n1 k1, .slice p2 n2 k2, .slice p3 n3 k3, .slice p4 n4 k4, .int .i64 s.start, .int .i64 s.delta], .bool z]) (results_two (fn := Try.f63) Try.results63 _ _ g 27 _ (0, 0) _ _ (by rfl) (by rfl) hS8.out Try.underlying27 sizeSpec) rfl ?_
    exact ⟨_, by rw [HOK.out], by rw [hgg]; exact HF2.out.1, by rw [hgg]; exact HF2.out.2⟩

end Go.Proofs.Ythdnldbkpllciaa

/-
  The program's Read.
-/
namespace Go.Proofs.Ythdnldbkpllciaa
open Go.RowKit

/-- The bytes are a swap's. -/
def acc (l : List UInt8) : Prop := rdE l = ([], false) ∧ specOk (rdM l)
def zero7 : List Value := [.string ⟨#[]⟩, .slice none 0 0, .slice none 0 0, .slice none 0 0, .slice none 0 0, .int .i64 0, .int .i64 0]
theorem cells7_one (a1 a2 a3 a4 : Option Addr) (c1 c2 c3 c4 : Nat) (s : SpecM) : ∀ u ∈ (cells7 a1 a2 a3 a4 c1 c2 c3 c4 s).toList, u.oneCell' = true := by
  intro u hu
  simp only [cells7, List.mem_cons, List.not_mem_nil, or_false] at hu
  rcases hu with rfl | rfl | rfl | rfl | rfl | rfl | rfl <;> rfl

set_option maxRecDepth 10000 in
set_option maxHeartbeats 2000000 in
theorem read_any (x : ByteArray) (hx : x.size ≤ 1099511627776) (w : World) (b : Bool) (hb : told (acc x.data.toList) = b) :
    Calls Try.prog 27 #[.string x] w fun e w' => ∃ v, e = .returned (.tuple #[v, .int .i64 (bif b then 0 else 2)]) ∧ SpecW w' v (bif b then rdM x.data.toList else noSpec) ∧ Below w.heap.size w w' := by
  obtain ⟨l, hlx⟩ : ∃ l, x.data.toList = l := ⟨_, rfl⟩
  have HR := read0_any x hx
  rw [hlx] at hb HR ⊢
  unfold acc at hb
  obtain ⟨s, hs⟩ : ∃ s, rdM l = s := ⟨_, rfl⟩
  obtain ⟨ok, hok⟩ : ∃ ok, told (rdE l = ([], false)) = ok := ⟨_, rfl⟩
  rw [hs, hok] at HR
  have HSane := hide (rdM_sane l)
  rw [hs] at HSane
  rw [hs] at hb ⊢
  have HB : Hid (b = (ok && told (specOk s))) := by
    show _ = _
    rw [← hb, ← hok]
    by_cases h1 : rdE l = ([], false)
    · by_cases h2 : specOk s
      · rw [told_yes (And.intro h1 h2), told_yes h1, told_yes h2]; rfl
      · rw [told_no (fun h => h2 h.2), told_yes h1, told_no h2]; rfl
    · rw [told_no (fun h => h1 h.1), told_no h1]; rfl
  replace HR := hide HR
  clear hs hok hb hlx hx
  have hB1 := hide ((Below.refl w.heap.size w).alloc (Nat.le_refl _) (Obj.cells #[.string ⟨#[]⟩, .slice none 0 0, .slice none 0 0, .slice none 0 0, .slice none 0 0, .int .i64 0, .int .i64 0] 27))
  have hc1 := hide (show Cells (w.alloc (Obj.cells #[.string ⟨#[]⟩, .slice none 0 0, .slice none 0 0, .slice none 0 0, .slice none 0 0, .int .i64 0, .int .i64 0] 27)) w.heap.size 27 zero7 from heap_alloc_new _ _)
  have hz1 : (w.alloc (Obj.cells #[.string ⟨#[]⟩, .slice none 0 0, .slice none 0 0, .slice none 0 0, .slice none 0 0, .int .i64 0, .int .i64 0] 27)).heap.size = w.heap.size + 1 := by simp
  go_enter Try.func27, Try.ntmps27
  go_upto_region 1 with fail
  generalize w.alloc (Obj.cells #[.string ⟨#[]⟩, .slice none 0 0, .slice none 0 0, .slice none 0 0, .slice none 0 0, .int .i64 0, .int .i64 0] 27) = w1 at hB1 hc1 hz1 ⊢
  obtain ⟨g, hgg⟩ : ∃ g, w.heap.size = g := ⟨_, rfl⟩
  rw [hgg] at hB1 hc1 hz1 ⊢
  go_wp2_with fail
  refine (HR.out w1).mono ?_
  rintro e w2 ⟨v, rfl, hw2, hb2⟩
  have HV := hide hw2
  obtain ⟨a1, a2, a3, a4, c1, c2, c3, c4, rfl, L, C⟩ := hw2.spec HSane.out
  have hc2 := hide (hc1.out.below hb2)
  have hB2 := hide (hB1.out.trans (hb2.mono (by omega)))
  have hz2 := hb2.size
  have HL := hide L
  have HC := hide C
  clear HR hB1 hc1 hb2 L C hw2
  have hg1 : g < w1.heap.size := by omega
  unfold cells7
  go_upto_region 2 with fail
  have hB3 := (Below.refl w2.heap.size w2).alloc (Nat.le_refl _) (Obj.cells #[.string s.id, .slice a1 s.parties.length c1, .slice a2 s.arcs.length c2, .slice a3 s.leaders.length c3, .slice a4 s.locks.length c4, .int .i64 s.start, .int .i64 s.delta] 27)
  have hg3 : (w2.alloc (Obj.cells #[.string s.id, .slice a1 s.parties.length c1, .slice a2 s.arcs.length c2, .slice a3 s.leaders.length c3, .slice a4 s.locks.length c4, .int .i64 s.start, .int .i64 s.delta] 27)).heap[w2.heap.size]? = some (.cells (cells7 a1 a2 a3 a4 c1 c2 c3 c4 s) 27 (0, 0)) := heap_alloc_new _ _
  have hc3 := hide (hc2.out.below hB3)
  have hB4 := hide (hB2.out.trans (hB3.mono (by omega)))
  have HL3 := hide (HL.out.below hB3)
  have HV3 := hide (HV.out.below hB3)
  have hz3 := hB3.size
  clear hB3 hc2 hB2 HL HV
  generalize w2.alloc (Obj.cells #[.string s.id, .slice a1 s.parties.length c1, .slice a2 s.arcs.length c2, .slice a3 s.leaders.length c3, .slice a4 s.locks.length c4, .int .i64 s.start, .int .i64 s.delta] 27) = w3 at hg3 hc3 hB4 HL3 hz3 HV3 ⊢
  obtain ⟨q, hq⟩ : ∃ q, w2.heap.size = q := ⟨_, rfl⟩
  rw [hq] at hg3 hz3 hz2 ⊢
  obtain ⟨q0, q1, q2, q3, q4, q5, q6⟩ := cells7_at hg3
  have HG := hide hg3
  have hgq : q ≠ g := by omega
  have hql := (Array.getElem?_eq_some_iff.1 hg3).1
  clear hg3 hq
  cases hok : ok
  · have hbf : b = false := by rw [HB.out, hok]; rfl
    subst hbf
    go_upto_region 3 with fail
    clear q0 q1 q2 q3 q4 q5 q6
    go_wp2_with ((with_reducible refine wpList_at ?_); refine wpList_splice (by rfl) 27 (.tmp 2) (.tmp 18) (by rfl) g 0 zero7.toArray _ (by rfl) (by rfl) (by rfl) 27 _ hc3.out sizeSpec (by decide) (by intro u hu; simp [zero7] at hu; rcases hu with rfl | rfl | rfl <;> rfl) ?_; intro w5 hc5 hz5 hb5; refine Hid.out ?_)
    unfold Hid
    have hc5' := hide hc5
    have hB5 := hide (hB4.out.trans (hb5.below (Nat.le_refl _) (by omega)))
    clear hc5 hb5 hc3 hB4
    go_wp2
    refine bodyPost_ret (v := .tuple #[.agg zero7.toArray, .int .i64 2]) (results_two (fn := Try.f27) Try.results27 _ _ g 27 _ (0, 0) _ _ (by rfl) (by rfl) hc5'.out Try.underlying27 sizeSpec) rfl ?_
    exact ⟨_, rfl, no_spec _, by rw [hgg]; exact hB5.out⟩
  · have HCk := check_spec (w := w3) (s := s) ⟨a1, a2, a3, a4, c1, c2, c3, c4, rfl, HL3.out, HC.out⟩
    have hbc : b = told (specOk s) := by rw [HB.out, hok]; rfl
    rw [← hbc] at HCk
    unfold cells7 at HCk
    replace HCk := hide HCk
    clear hbc
    go_wp2_with fail
    refine HCk.out.mono ?_
    rintro e w4 ⟨rfl, hb4⟩
    replace q0 := cell_on hb4 q0
    replace q1 := cell_on hb4 q1
    replace q2 := cell_on hb4 q2
    replace q3 := cell_on hb4 q3
    replace q4 := cell_on hb4 q4
    replace q5 := cell_on hb4 q5
    replace q6 := cell_on hb4 q6
    have hc4 := hide (hc3.out.below hb4)
    have hB5 := hide (hB4.out.trans (hb4.mono (by omega)))
    have HV4 := hide (HV3.out.below hb4)
    have hz4 := hb4.size
    clear HCk hb4 hc3 hB4 HL3 HV3
    cases b
    · go_upto_region 3 with fail
      clear q0 q1 q2 q3 q4 q5 q6
      go_wp2_with ((with_reducible refine wpList_at ?_); refine wpList_splice (by rfl) 27 (.tmp 2) (.tmp 18) (by rfl) g 0 zero7.toArray _ (by rfl) (by rfl) (by rfl) 27 _ hc4.out sizeSpec (by decide) (by intro u hu; simp [zero7] at hu; rcases hu with rfl | rfl | rfl <;> rfl) ?_; intro w5 hc5 hz5 hb5; refine Hid.out ?_)
      unfold Hid
      have hc5' := hide hc5
      have hB6 := hide (hB5.out.trans (hb5.below (Nat.le_refl _) (by omega)))
      clear hc5 hb5 hc4 hB5
      go_wp2
      refine bodyPost_ret (v := .tuple #[.agg zero7.toArray, .int .i64 2]) (results_two (fn := Try.f27) Try.results27 _ _ g 27 _ (0, 0) _ _ (by rfl) (by rfl) hc5'.out Try.underlying27 sizeSpec) rfl ?_
      exact ⟨_, rfl, no_spec _, by rw [hgg]; exact hB6.out⟩
    · go_wp2_with ((with_reducible refine wpList_at ?_); refine wpList_splice (by rfl) 27 (.tmp 2) (.tmp 19) (by rfl) g 0 (cells7 a1 a2 a3 a4 c1 c2 c3 c4 s) _ (by rfl) (by rfl) (by rfl) 27 _ hc4.out sizeSpec (by show 0 + 7 ≤ 7; omega) (cells7_one _ _ _ _ _ _ _ _ _) ?_; intro w5 hc5 hz5 hb5; refine Hid.out ?_)
      unfold Hid
      have hc5' := hide hc5
      have hB6 := hide (hB5.out.trans (hb5.below (Nat.le_refl _) (by omega)))
      have HS := hide ((HV4.out.but hb5 hg1).spec HSane.out)
      clear hc5 hb5 hc4 hB5
      go_wp2
      refine bodyPost_ret (v := .tuple #[.agg (cells7 a1 a2 a3 a4 c1 c2 c3 c4 s), .int .i64 0]) (results_two (fn := Try.f27) Try.results27 _ _ g 27 _ (0, 0) _ _ (by rfl) (by rfl) hc5'.out Try.underlying27 sizeSpec) rfl ?_
      exact ⟨_, rfl, HS.out, by rw [hgg]; exact hB6.out⟩

end Go.Proofs.Ythdnldbkpllciaa
