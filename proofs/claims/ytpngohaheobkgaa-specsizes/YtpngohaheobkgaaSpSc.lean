/-
  The program's Same.
-/
import Derived.Test.YtpngohaheobkgaaSpSb
namespace Go.Proofs.Ytpngohaheobkgaa
open Go.RowKit

set_option maxRecDepth 10000 in
set_option maxHeartbeats 4000000 in
theorem same_any {w : World} {v u : Value} {s t : SpecM} (hv : SpecV w v s) (hu : SpecV w u t) : Calls Try.prog 20 #[v, u] w fun e w' => e = .returned (.bool (told (s = t))) ∧ Below w.heap.size w w' := by
  obtain ⟨a1, a2, a3, a4, c1, c2, c3, c4, rfl, L⟩ := hv
  obtain ⟨b1, b2, b3, b4, d1, d2, d3, d4, rfl, M⟩ := hu
  obtain ⟨r, hr⟩ : ∃ r, told (s = t) = r := ⟨_, rfl⟩
  have HR := hide hr
  rw [hr]
  clear hr
  generalize hg : w.heap.size = g
  have HP := fun W (hW : Below w.heap.size w W) => eqparties_any (c := c1) (d := d1) (L.parties.below hW) (M.parties.below hW)
  have HA := fun W (hW : Below w.heap.size w W) => eqarcs_any (c := c2) (d := d2) (L.arcs.below hW) (M.arcs.below hW)
  have HI := fun W (hW : Below w.heap.size w W) => eqints_any (c := c3) (d := d3) (L.leaders.below hW) (M.leaders.below hW)
  have HT := fun W (hW : Below w.heap.size w W) => eqtexts_any (c := c4) (d := d4) (L.locks.below hW) (M.locks.below hW)
  replace HP := hide HP
  replace HA := hide HA
  replace HI := hide HI
  replace HT := hide HT
  clear L M
  go_enter Try.func20, Try.ntmps20
  go_wp2_with ((with_reducible refine wpList_at ?_); refine wpList_boxv (by rfl) 27 (.tmp 0) (by rfl) _ (by rfl) ?_; rw [hg]; intro w1 hg1 hz1 hb1; refine Hid.out ?_)
  unfold Hid
  have hg1' := hide hg1
  clear hg1
  obtain ⟨k, hk⟩ : ∃ k, w1.heap.size = k := ⟨_, rfl⟩
  go_wp2_with ((with_reducible refine wpList_at ?_); refine wpList_boxv (by rfl) 27 (.tmp 1) (by rfl) _ (by rfl) ?_; rw [hk]; intro w2 hg2 hz2 hb2; refine Hid.out ?_)
  unfold Hid
  have hgg := (hb2.block g (by omega)).trans hg1'.out
  have hB : Below w.heap.size w w2 := by rw [hg]; exact hb1.trans (hb2.mono (by omega))
  have HG := hide hgg
  have HE := hide hg2
  have hgk : g < w2.heap.size := by omega
  have hkk : k < w2.heap.size := by omega
  have hS := hide (Below.refl w2.heap.size w2)
  obtain ⟨q0, q1, q2, q3, q4, q5, q6⟩ := cells7_at hgg
  obtain ⟨e0, e1, e2, e3, e4, e5, e6⟩ := cells7_at hg2
  have hB' := hide hB
  clear hg1' hgg hg2 hb1 hb2 hz1 hz2 hk hB
  by_cases p0 : ¬ s.id = t.id
  · have t9 := text_other p0
    have HZ := hide p0
    clear p0
    go_wp2
    go_ret
    exact ⟨ret_bool (by rw [← HR.out, told_no (fun h => HZ.out (by rw [h]))]), by rw [← hg]; exact hB'.out⟩
  replace p0 := Classical.not_not.1 p0
  have tp0 := text_same p0
  replace p0 := hide p0
  by_cases p1 : ¬ s.start = t.start
  · have t9 := (show (s.start == t.start) = false by rw [beq_eq_false_iff_ne]; exact p1)
    have HZ := hide p1
    clear p1
    go_wp2
    go_ret
    exact ⟨ret_bool (by rw [← HR.out, told_no (fun h => HZ.out (by rw [h]))]), by rw [← hg]; exact hB'.out⟩
  replace p1 := Classical.not_not.1 p1
  have tp1 := (show (s.start == t.start) = true by rw [beq_iff_eq]; exact p1)
  replace p1 := hide p1
  by_cases p2 : ¬ s.delta = t.delta
  · have t9 := (show (s.delta == t.delta) = false by rw [beq_eq_false_iff_ne]; exact p2)
    have HZ := hide p2
    clear p2
    go_wp2
    go_ret
    exact ⟨ret_bool (by rw [← HR.out, told_no (fun h => HZ.out (by rw [h]))]), by rw [← hg]; exact hB'.out⟩
  replace p2 := Classical.not_not.1 p2
  have tp2 := (show (s.delta == t.delta) = true by rw [beq_iff_eq]; exact p2)
  replace p2 := hide p2
  go_wp2_with fail
  by_cases p3 : ¬ s.parties = t.parties
  · have HX := (HP.out w2 hB'.out)
    rw [told_no p3] at HX
    refine HX.mono ?_
    rintro e w9 ⟨rfl, hb9⟩
    replace hB' := hide (below_then hB'.out hb9)
    have HZ := hide p3
    clear p3 HX hb9
    go_wp2
    go_ret
    exact ⟨ret_bool (by rw [← HR.out, told_no (fun h => HZ.out (by rw [h]))]), by rw [← hg]; exact hB'.out⟩
  replace p3 := Classical.not_not.1 p3
  have HX := (HP.out w2 hB'.out)
  rw [told_yes p3] at HX
  replace p3 := hide p3
  refine HX.mono ?_
  rintro e w3 ⟨rfl, hb9⟩
  replace hB' := hide (below_then hB'.out hb9)
  have hS2 := hide (below_then hS.out hb9)
  clear HX hb9 hS q0 q1 q2 q3 q4 q5 q6 e0 e1 e2 e3 e4 e5 e6
  have hS := hS2
  clear hS2
  obtain ⟨q0, q1, q2, q3, q4, q5, q6⟩ := cells7_at ((hS.out.block g hgk).trans HG.out)
  obtain ⟨e0, e1, e2, e3, e4, e5, e6⟩ := cells7_at ((hS.out.block k hkk).trans HE.out)
  go_wp2_with fail
  by_cases p4 : ¬ s.arcs = t.arcs
  · have HX := (HA.out w3 hB'.out)
    rw [told_no p4] at HX
    refine HX.mono ?_
    rintro e w9 ⟨rfl, hb9⟩
    replace hB' := hide (below_then hB'.out (hb9.on))
    have HZ := hide p4
    clear p4 HX hb9
    go_wp2
    go_ret
    exact ⟨ret_bool (by rw [← HR.out, told_no (fun h => HZ.out (by rw [h]))]), by rw [← hg]; exact hB'.out⟩
  replace p4 := Classical.not_not.1 p4
  have HX := (HA.out w3 hB'.out)
  rw [told_yes p4] at HX
  replace p4 := hide p4
  refine HX.mono ?_
  rintro e w4 ⟨rfl, hb9⟩
  replace hB' := hide (below_then hB'.out (hb9.on))
  have hS2 := hide (below_then hS.out (hb9.on))
  clear HX hb9 hS q0 q1 q2 q3 q4 q5 q6 e0 e1 e2 e3 e4 e5 e6
  have hS := hS2
  clear hS2
  obtain ⟨q0, q1, q2, q3, q4, q5, q6⟩ := cells7_at ((hS.out.block g hgk).trans HG.out)
  obtain ⟨e0, e1, e2, e3, e4, e5, e6⟩ := cells7_at ((hS.out.block k hkk).trans HE.out)
  go_wp2_with fail
  by_cases p5 : ¬ s.leaders = t.leaders
  · have HX := (HI.out w4 hB'.out)
    rw [told_no p5] at HX
    refine HX.mono ?_
    rintro e w9 ⟨rfl, hb9⟩
    replace hB' := hide (below_then hB'.out (hb9.on))
    have HZ := hide p5
    clear p5 HX hb9
    go_wp2
    go_ret
    exact ⟨ret_bool (by rw [← HR.out, told_no (fun h => HZ.out (by rw [h]))]), by rw [← hg]; exact hB'.out⟩
  replace p5 := Classical.not_not.1 p5
  have HX := (HI.out w4 hB'.out)
  rw [told_yes p5] at HX
  replace p5 := hide p5
  refine HX.mono ?_
  rintro e w5 ⟨rfl, hb9⟩
  replace hB' := hide (below_then hB'.out (hb9.on))
  have hS2 := hide (below_then hS.out (hb9.on))
  clear HX hb9 hS q0 q1 q2 q3 q4 q5 q6 e0 e1 e2 e3 e4 e5 e6
  have hS := hS2
  clear hS2
  obtain ⟨q0, q1, q2, q3, q4, q5, q6⟩ := cells7_at ((hS.out.block g hgk).trans HG.out)
  obtain ⟨e0, e1, e2, e3, e4, e5, e6⟩ := cells7_at ((hS.out.block k hkk).trans HE.out)
  go_wp2_with fail
  by_cases p6 : ¬ s.locks = t.locks
  · have HX := (HT.out w5 hB'.out)
    rw [told_no p6] at HX
    refine HX.mono ?_
    rintro e w9 ⟨rfl, hb9⟩
    replace hB' := hide (below_then hB'.out (hb9.on))
    have HZ := hide p6
    clear p6 HX hb9
    go_wp2
    go_ret
    exact ⟨ret_bool (by rw [← HR.out, told_no (fun h => HZ.out (by rw [h]))]), by rw [← hg]; exact hB'.out⟩
  replace p6 := Classical.not_not.1 p6
  have HX := (HT.out w5 hB'.out)
  rw [told_yes p6] at HX
  replace p6 := hide p6
  refine HX.mono ?_
  rintro e w6 ⟨rfl, hb9⟩
  replace hB' := hide (below_then hB'.out (hb9.on))
  clear HX hb9
  go_wp2
  go_ret
  exact ⟨ret_bool (by rw [← HR.out, told_yes (spec_same p0.out p3.out p4.out p5.out p6.out p1.out p2.out)]), by rw [← hg]; exact hB'.out⟩

end Go.Proofs.Ytpngohaheobkgaa
