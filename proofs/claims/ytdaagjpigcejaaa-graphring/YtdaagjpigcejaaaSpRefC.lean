/-
  The document's Check of chapter 4, whole.
-/
import Derived.Test.YtdaagjpigcejaaaSpRefA
namespace Go.Proofs.Ytdaagjpigcejaaa
open Go.RowKit

set_option maxRecDepth 10000 in
set_option maxHeartbeats 4000000 in
theorem refcheck_any {w : World} {v : Value} {s : SpecM} (hv : SpecV w v s) : Calls Try.prog 39 #[v] w fun e w' => e = .returned (.bool (told (specOk s))) ∧ Below w.heap.size w w' := by
  obtain ⟨a1, a2, a3, a4, c1, c2, c3, c4, rfl, L⟩ := hv
  obtain ⟨r, hr⟩ : ∃ r, told (specOk s) = r := ⟨_, rfl⟩
  have HR : Hid (told (specOk s) = r) := hr
  rw [hr]
  clear hr
  generalize hg : w.heap.size = g
  have HN := fun W => refname_any s.id W
  have HLd : ∀ W, Lies W a1 a2 a3 a4 s → _ := fun W hW => refleaders_any (w := W) (s := s) ⟨a1, a2, a3, a4, c1, c2, c3, c4, rfl, hW⟩
  have HPa : ∀ W, Lies W a1 a2 a3 a4 s → _ := fun W hW => refparties_any (w := W) (s := s) ⟨a1, a2, a3, a4, c1, c2, c3, c4, rfl, hW⟩
  have HAr : ∀ W, Lies W a1 a2 a3 a4 s → _ := fun W hW => refarcs_any (w := W) (s := s) ⟨a1, a2, a3, a4, c1, c2, c3, c4, rfl, hW⟩
  unfold cells7 at HLd HPa HAr
  go_enter Try.func39, Try.ntmps39
  go_wp2_with ((with_reducible refine wpList_at ?_); refine wpList_boxv (by rfl) 28 (.tmp 0) (by rfl) _ (by rfl) ?_; rw [hg]; intro w1 hg1 hz1 hb1; obtain ⟨q0, q1, q2, q3, q4, q5, q6⟩ := cells7_at hg1)
  have L1 : Lies w1 a1 a2 a3 a4 s := L.below (by rw [hg]; exact hb1)
  have hgs : g ≤ w1.heap.size := by omega
  have HL1 : Hid (Lies w1 a1 a2 a3 a4 s) := L1
  have i5 := L1.start
  have i6 := L1.delta
  unfold In64 at i5 i6
  clear L L1 hg1 hz1
  by_cases p0 : ¬ nameOk s.id
  · have HX := (HN w1)
    rw [told_no p0] at HX
    refine HX.mono ?_
    rintro e w9 ⟨rfl, hw9⟩
    subst w9
    go_wp2
    go_ret
    exact ⟨ret_bool (by rw [← HR.out, told_no (fun h => p0 h.1)]), hb1⟩
  replace p0 := Classical.not_not.1 p0
  have HP0 : Hid (nameOk s.id) := p0
  have HX := (HN w1)
  rw [told_yes p0] at HX
  clear p0
  refine HX.mono ?_
  rintro e w9 ⟨rfl, hw9⟩
  subst w9
  clear HX HN
  go_wp2_with fail
  by_cases p1 : ¬ leadersOk s
  · have HX := (HLd w1 (HL1.out.below (Below.refl _ _)))
    rw [told_no p1] at HX
    refine HX.mono ?_
    rintro e w9 ⟨rfl, hb9⟩
    go_wp2
    go_ret
    exact ⟨ret_bool (by rw [← HR.out, told_no (fun h => p1 h.2.1)]), (hb1).trans (hb9.mono hgs)⟩
  replace p1 := Classical.not_not.1 p1
  have HP1 : Hid (leadersOk s) := p1
  have HX := (HLd w1 (HL1.out.below (Below.refl _ _)))
  rw [told_yes p1] at HX
  clear p1
  refine HX.mono ?_
  rintro e w2 ⟨rfl, hb9⟩
  have hB := hb9
  replace q0 := cell_on hb9 q0
  replace q1 := cell_on hb9 q1
  replace q2 := cell_on hb9 q2
  replace q3 := cell_on hb9 q3
  replace q4 := cell_on hb9 q4
  replace q5 := cell_on hb9 q5
  replace q6 := cell_on hb9 q6
  clear hb9 HX HLd
  go_wp2_with fail
  by_cases p2 : ¬ partiesOk s
  · have HX := (HPa w2 (HL1.out.below hB))
    rw [told_no p2] at HX
    refine HX.mono ?_
    rintro e w9 ⟨rfl, hb9⟩
    go_wp2
    go_ret
    exact ⟨ret_bool (by rw [← HR.out, told_no (fun h => p2 h.2.2.1)]), (hb1.trans (hB.mono hgs)).trans (hb9.mono (Nat.le_trans hgs hB.size))⟩
  replace p2 := Classical.not_not.1 p2
  have HP2 : Hid (partiesOk s) := p2
  have HX := (HPa w2 (HL1.out.below hB))
  rw [told_yes p2] at HX
  clear p2
  refine HX.mono ?_
  rintro e w3 ⟨rfl, hb9⟩
  replace hB := below_then hB hb9
  replace q0 := cell_on hb9 q0
  replace q1 := cell_on hb9 q1
  replace q2 := cell_on hb9 q2
  replace q3 := cell_on hb9 q3
  replace q4 := cell_on hb9 q4
  replace q5 := cell_on hb9 q5
  replace q6 := cell_on hb9 q6
  clear hb9 HX HPa
  go_wp2_with fail
  by_cases p3 : ¬ arcsOk s
  · have HX := (HAr w3 (HL1.out.below hB))
    rw [told_no p3] at HX
    refine HX.mono ?_
    rintro e w9 ⟨rfl, hb9⟩
    go_wp2
    go_ret
    exact ⟨ret_bool (by rw [← HR.out, told_no (fun h => p3 h.2.2.2.1)]), (hb1.trans (hB.mono hgs)).trans (hb9.mono (Nat.le_trans hgs hB.size))⟩
  replace p3 := Classical.not_not.1 p3
  have HP3 : Hid (arcsOk s) := p3
  have HX := (HAr w3 (HL1.out.below hB))
  rw [told_yes p3] at HX
  clear p3
  refine HX.mono ?_
  rintro e w4 ⟨rfl, hb9⟩
  replace hB := below_then hB hb9
  replace q0 := cell_on hb9 q0
  replace q1 := cell_on hb9 q1
  replace q2 := cell_on hb9 q2
  replace q3 := cell_on hb9 q3
  replace q4 := cell_on hb9 q4
  replace q5 := cell_on hb9 q5
  replace q6 := cell_on hb9 q6
  clear hb9 HX HAr
  by_cases x0 : ¬ (0 : Int) ≤ s.start
  · go_wp2
    go_ret
    exact ⟨ret_bool (by rw [← HR.out, told_no (fun h => by have := h.2.2.2.2.1; omega)]), hb1.trans (hB.mono hgs)⟩
  replace x0 := Classical.not_not.1 x0
  by_cases x1 : ¬ s.start ≤ (1099511627776 : Int)
  · go_wp2
    go_ret
    exact ⟨ret_bool (by rw [← HR.out, told_no (fun h => by have := h.2.2.2.2.2.1; omega)]), hb1.trans (hB.mono hgs)⟩
  replace x1 := Classical.not_not.1 x1
  by_cases x2 : ¬ (1 : Int) ≤ s.delta
  · go_wp2
    go_ret
    exact ⟨ret_bool (by rw [← HR.out, told_no (fun h => by have := h.2.2.2.2.2.2.1; omega)]), hb1.trans (hB.mono hgs)⟩
  replace x2 := Classical.not_not.1 x2
  by_cases x3 : ¬ s.delta ≤ (1048576 : Int)
  · go_wp2
    go_ret
    exact ⟨ret_bool (by rw [← HR.out, told_no (fun h => by have := h.2.2.2.2.2.2.2; omega)] <;> exact decide_eq_false (by omega)), hb1.trans (hB.mono hgs)⟩
  replace x3 := Classical.not_not.1 x3
  go_wp2
  go_ret
  exact ⟨ret_bool (by rw [← HR.out, told_yes ⟨HP0.out, HP1.out, HP2.out, HP3.out, x0, x1, x2, x3⟩]), hb1.trans (hB.mono hgs)⟩

end Go.Proofs.Ytdaagjpigcejaaa
