/-
  The document's Check of chapter 4, whole.
-/
import Derived.Test.YthdnldbkpllciaaZ16
import Derived.Test.YthdnldbkpllciaaZ11
import Derived.BigQuiet
import Derived.Deep.QuietTactic
namespace Go.Proofs.Ythdnldbkpllciaa
open Go.RowKit

set_option maxRecDepth 10000 in
set_option maxHeartbeats 4000000 in
theorem refcheck_any {w : World} {v : Value} {s : SpecM} (hv : SpecV w v s) : Calls Try.prog 90 #[v] w fun e w' => e = .returned (.bool (told (specOk s))) ∧ Below w.heap.size w w' := by
  obtain ⟨a1, a2, a3, a4, c1, c2, c3, c4, rfl, L⟩ := hv
  obtain ⟨r, hr⟩ : ∃ r, told (specOk s) = r := ⟨_, rfl⟩
  have HR : Hid (told (specOk s) = r) := hr
  rw [hr]
  clear hr
  generalize hg : w.heap.size = g
  have HN := fun W => refname_any s.id W
  have HLd : ∀ W, Lies W a1 a2 a3 a4 s → _ := fun W hW => refleaders_any (w := W) (s := s) ⟨a1, a2, a3, a4, c1, c2, c3, c4, rfl, hW⟩
  have HPa : ∀ W, Lies W a1 a2 a3 a4 s → _ := fun W hW => refparties_any (w := W) (s := s) ⟨a1, a2, a3, a4, c1, c2, c3, c4, rfl, hW⟩
  have HAr : ∀ W, Lies W a1 a2 a3 a4 s → _ := fun W hW => refarcs_any (w := W) (s := s) ⟨a1, a2, a3, a4, c1, c2, c3, c4, rfl, hW⟩
  unfold cells7 at HLd HPa HAr
  go_enter Try.func90, Try.ntmps90
  go_wp2_with ((with_reducible refine wpList_at ?_); refine wpList_boxv (by rfl) 27 (.tmp 0) (by rfl) _ (by rfl) ?_; rw [hg]; intro w1 hg1 hz1 hb1; obtain ⟨q0, q1, q2, q3, q4, q5, q6⟩ := cells7_at hg1)
  have L1 : Lies w1 a1 a2 a3 a4 s := L.below (by rw [hg]; exact hb1)
  have hgs : g ≤ w1.heap.size := by omega
  have HL1 : Hid (Lies w1 a1 a2 a3 a4 s) := L1
  have i5 := L1.start
  have i6 := L1.delta
  unfold In64 at i5 i6
  clear L L1 hg1 hz1
  by_cases p0 : ¬ nameOk s.id
  · have HX := (HN w1)
    rw [told_no p0] at HX
    refine HX.mono ?_
    rintro e w9 ⟨rfl, hw9⟩
    subst w9
    go_wp2
    go_ret
    exact ⟨ret_bool (by rw [← HR.out, told_no (fun h => p0 h.1)]), hb1⟩
  replace p0 := Classical.not_not.1 p0
  have HP0 : Hid (nameOk s.id) := p0
  have HX := (HN w1)
  rw [told_yes p0] at HX
  clear p0
  refine HX.mono ?_
  rintro e w9 ⟨rfl, hw9⟩
  subst w9
  clear HX HN
  go_wp2_with fail
  by_cases p1 : ¬ leadersOk s
  · have HX := (HLd w1 (HL1.out.below (Below.refl _ _)))
    rw [told_no p1] at HX
    refine HX.mono ?_
    rintro e w9 ⟨rfl, hb9⟩
    go_wp2
    go_ret
    exact ⟨ret_bool (by rw [← HR.out, told_no (fun h => p1 h.2.1)]), (hb1).trans (hb9.mono hgs)⟩
  replace p1 := Classical.not_not.1 p1
  have HP1 : Hid (leadersOk s) := p1
  have HX := (HLd w1 (HL1.out.below (Below.refl _ _)))
  rw [told_yes p1] at HX
  clear p1
  refine HX.mono ?_
  rintro e w2 ⟨rfl, hb9⟩
  have hB := hb9
  replace q0 := cell_on hb9 q0
  replace q1 := cell_on hb9 q1
  replace q2 := cell_on hb9 q2
  replace q3 := cell_on hb9 q3
  replace q4 := cell_on hb9 q4
  replace q5 := cell_on hb9 q5
  replace q6 := cell_on hb9 q6
  clear hb9 HX HLd
  go_wp2_with fail
  by_cases p2 : ¬ partiesOk s
  · have HX := (HPa w2 (HL1.out.below hB))
    rw [told_no p2] at HX
    refine HX.mono ?_
    rintro e w9 ⟨rfl, hb9⟩
    go_wp2
    go_ret
    exact ⟨ret_bool (by rw [← HR.out, told_no (fun h => p2 h.2.2.1)]), (hb1.trans (hB.mono hgs)).trans (hb9.mono (Nat.le_trans hgs hB.size))⟩
  replace p2 := Classical.not_not.1 p2
  have HP2 : Hid (partiesOk s) := p2
  have HX := (HPa w2 (HL1.out.below hB))
  rw [told_yes p2] at HX
  clear p2
  refine HX.mono ?_
  rintro e w3 ⟨rfl, hb9⟩
  replace hB := below_then hB hb9
  replace q0 := cell_on hb9 q0
  replace q1 := cell_on hb9 q1
  replace q2 := cell_on hb9 q2
  replace q3 := cell_on hb9 q3
  replace q4 := cell_on hb9 q4
  replace q5 := cell_on hb9 q5
  replace q6 := cell_on hb9 q6
  clear hb9 HX HPa
  go_wp2_with fail
  by_cases p3 : ¬ arcsOk s
  · have HX := (HAr w3 (HL1.out.below hB))
    rw [told_no p3] at HX
    refine HX.mono ?_
    rintro e w9 ⟨rfl, hb9⟩
    go_wp2
    go_ret
    exact ⟨ret_bool (by rw [← HR.out, told_no (fun h => p3 h.2.2.2.1)]), (hb1.trans (hB.mono hgs)).trans (hb9.mono (Nat.le_trans hgs hB.size))⟩
  replace p3 := Classical.not_not.1 p3
  have HP3 : Hid (arcsOk s) := p3
  have HX := (HAr w3 (HL1.out.below hB))
  rw [told_yes p3] at HX
  clear p3
  refine HX.mono ?_
  rintro e w4 ⟨rfl, hb9⟩
  replace hB := below_then hB hb9
  replace q0 := cell_on hb9 q0
  replace q1 := cell_on hb9 q1
  replace q2 := cell_on hb9 q2
  replace q3 := cell_on hb9 q3
  replace q4 := cell_on hb9 q4
  replace q5 := cell_on hb9 q5
  replace q6 := cell_on hb9 q6
  clear hb9 HX HAr
  by_cases x0 : ¬ (0 : Int) ≤ s.start
  · go_wp2
    go_ret
    exact ⟨ret_bool (by rw [← HR.out, told_no (fun h => by have := h.2.2.2.2.1; omega)]), hb1.trans (hB.mono hgs)⟩
  replace x0 := Classical.not_not.1 x0
  by_cases x1 : ¬ s.start ≤ (1099511627776 : Int)
  · go_wp2
    go_ret
    exact ⟨ret_bool (by rw [← HR.out, told_no (fun h => by have := h.2.2.2.2.2.1; omega)]), hb1.trans (hB.mono hgs)⟩
  replace x1 := Classical.not_not.1 x1
  by_cases x2 : ¬ (1 : Int) ≤ s.delta
  · go_wp2
    go_ret
    exact ⟨ret_bool (by rw [← HR.out, told_no (fun h => by have := h.2.2.2.2.2.2.1; omega)]), hb1.trans (hB.mono hgs)⟩
  replace x2 := Classical.not_not.1 x2
  by_cases x3 : ¬ s.delta ≤ (1048576 : Int)
  · go_wp2
    go_ret
    exact ⟨ret_bool (by rw [← HR.out, told_no (fun h => by have := h.2.2.2.2.2.2.2; omega)] <;> exact decide_eq_false (by omega)), hb1.trans (hB.mono hgs)⟩
  replace x3 := Classical.not_not.1 x3
  go_wp2
  go_ret
  exact ⟨ret_bool (by rw [← HR.out, told_yes ⟨HP0.out, HP1.out, HP2.out, HP3.out, x0, x1, x2, x3⟩]), hb1.trans (hB.mono hgs)⟩

end Go.Proofs.Ythdnldbkpllciaa

/-
  The document's Same of chapter 4: numbers, texts.
-/
namespace Go.Proofs.Ythdnldbkpllciaa
open Go.RowKit


theorem all_getD {α : Type} (d : α) {l k : List α} (hl : l.length = k.length) (h : ∀ j, j < l.length → l.getD j d = k.getD j d) : l = k := by
  apply List.ext_getElem hl
  intro j h1 h2
  have := h j h1
  rw [List.getD_eq_getElem?_getD, List.getD_eq_getElem?_getD, List.getElem?_eq_getElem h1, List.getElem?_eq_getElem h2] at this
  exact this
theorem neq_list (a b : ByteArray) : (a.toList != b.toList) = !(a.data.toList == b.data.toList) := by
  rw [bne, same_list]
theorem text_same {a b : ByteArray} (h : a = b) : (a.toList == b.toList) = true := by rw [h]; exact beq_self_eq_true _
theorem text_other {a b : ByteArray} (h : a ≠ b) : (a.toList == b.toList) = false := by
  rw [same_list, beq_eq_false_iff_ne]
  exact fun e => h (ByteArray.ext (Array.toList_inj.1 e))
theorem text_nsame {a b : ByteArray} (h : a = b) : (a.toList != b.toList) = false := by rw [bne, text_same h]; rfl
theorem text_nother {a b : ByteArray} (h : a ≠ b) : (a.toList != b.toList) = true := by rw [bne, text_other h]; rfl

end Go.Proofs.Ythdnldbkpllciaa

/-
  slices.Equal at numbers and texts.
-/
namespace Go.Proofs.Ythdnldbkpllciaa
open Go.RowKit

set_option maxRecDepth 10000 in
set_option maxHeartbeats 1000000 in
theorem eqints_any {w : World} {a b : Option Addr} {c d : Nat} {l k : List Int} (ha : Ints w a l.length l) (hb : Ints w b k.length k) :
    Calls Try.prog 31 #[.slice a l.length c, .slice b k.length d] w fun e w' => e = .returned (.bool (told (l = k))) ∧ Drew w w' := by
  obtain ⟨r, hr⟩ : ∃ r, told (l = k) = r := ⟨_, rfl⟩
  have HR : Hid (told (l = k) = r) := hr
  rw [hr]
  clear hr
  have hl1 := ha.2.1
  have hl2 := hb.2.1
  unfold maxLen at hl1 hl2
  by_cases hne : l.length ≠ k.length
  · have n1 := nat_ne hne
    go_enter Try.func31, Try.ntmps31
    go_wp2
    go_ret
    exact ⟨ret_bool (by rw [← HR.out, told_no (fun h => hne (by rw [h]))]), Drew.refl _⟩
  have hn : l.length = k.length := by omega
  have HN : Hid (l.length = k.length) := hn
  have n1 := nat_same hn
  generalize hln : l.length = n at *
  generalize hkn : k.length = m at *
  have HLN : Hid (l.length = n) := hln
  have HKN : Hid (k.length = m) := hkn
  have HA : Hid (Ints w a n l) := ha
  have HB : Hid (Ints w b m k) := hb
  clear hne hn hln hkn ha hb
  go_enter Try.func31, Try.ntmps31
  go_wp2
  go_loopw [13] (fun i wr => ∃ j : Nat, j ≤ n ∧ i = .int .i64 j ∧ Hid (∀ i, i < j → l.getD i 0 = k.getD i 0) ∧ Drew w wr) (fun i _ => n - (intOf i).toNat)
  case atStart => exact ⟨0, by omega, rfl, fun j hj => absurd hj (by omega), Drew.refl _⟩
  case round =>
    obtain ⟨j, hj, rfl, HO, hst⟩ := hrel
    by_cases hlt : j < n
    · have j1 : (j : Int) < (n : Int) := by omega
      have j2 : (j : Int) < (m : Int) := by have := HN.out; omega
      obtain ⟨b1, o1, rfl, d1⟩ := HA.out.2.2.2 j hlt
      obtain ⟨b2, o2, rfl, d2⟩ := HB.out.2.2.2 j (by omega)
      replace d1 := hst.cell d1
      replace d2 := hst.cell d2
      obtain ⟨x, hx⟩ : ∃ x, l.getD j 0 = x := ⟨_, rfl⟩
      obtain ⟨y, hy⟩ : ∃ y, k.getD j 0 = y := ⟨_, rfl⟩
      rw [hx] at d1
      rw [hy] at d2
      have HX : Hid (l.getD j 0 = x) := hx
      have HY : Hid (k.getD j 0 = y) := hy
      clear hx hy
      by_cases hxy : x = y
      · have t : (x != y) = false := by rw [bne_eq_false_iff_eq]; exact hxy
        have HXY : Hid (x = y) := hxy
        clear hxy
        go_wp2
        go_quiet (fail)
        replace hst := hst.drewN nq
        generalize wr.drewN nq = w3 at hst ⊢
        go_wp2
        go_roundw
        case rel =>
          refine ⟨j + 1, by omega, by go_num, ?_, hst⟩
          intro i hi
          by_cases hij : i = j
          · subst hij; rw [HX.out, HY.out, HXY.out]
          · exact HO.out i (by omega)
        case measure => simp [intOf]; omega
      · have t : (x != y) = true := by rw [bne_iff_ne]; exact hxy
        go_wp2
        go_quiet (fail)
        go_wp2
        go_ret
        exact ⟨ret_bool (by rw [← HR.out, told_no (fun h => hxy (by rw [← HX.out, ← HY.out, h]))]), hst.drewN _⟩
    · have j1 : ¬ (j : Int) < (n : Int) := by omega
      go_wp2
      go_ret
      exact ⟨ret_bool (by rw [← HR.out, told_yes (all_getD 0 (by rw [HLN.out, HKN.out]; exact HN.out) (fun i hi => HO.out i (by rw [HLN.out] at hi; omega)))]), hst⟩

set_option maxRecDepth 10000 in
set_option maxHeartbeats 1000000 in
theorem eqtexts_any {w : World} {a b : Option Addr} {c d : Nat} {l k : List ByteArray} (ha : Strs w a l.length l) (hb : Strs w b k.length k) :
    Calls Try.prog 32 #[.slice a l.length c, .slice b k.length d] w fun e w' => e = .returned (.bool (told (l = k))) ∧ Drew w w' := by
  obtain ⟨r, hr⟩ : ∃ r, told (l = k) = r := ⟨_, rfl⟩
  have HR : Hid (told (l = k) = r) := hr
  rw [hr]
  clear hr
  have hl1 := ha.2.1
  have hl2 := hb.2.1
  unfold maxLen at hl1 hl2
  by_cases hne : l.length ≠ k.length
  · have n1 := nat_ne hne
    go_enter Try.func32, Try.ntmps32
    go_wp2
    go_ret
    exact ⟨ret_bool (by rw [← HR.out, told_no (fun h => hne (by rw [h]))]), Drew.refl _⟩
  have hn : l.length = k.length := by omega
  have HN : Hid (l.length = k.length) := hn
  have n1 := nat_same hn
  generalize hln : l.length = n at *
  generalize hkn : k.length = m at *
  have HLN : Hid (l.length = n) := hln
  have HKN : Hid (k.length = m) := hkn
  have HA : Hid (Strs w a n l) := ha
  have HB : Hid (Strs w b m k) := hb
  clear hne hn hln hkn ha hb
  go_enter Try.func32, Try.ntmps32
  go_wp2
  go_loopw [13] (fun i wr => ∃ j : Nat, j ≤ n ∧ i = .int .i64 j ∧ Hid (∀ i, i < j → l.getD i ByteArray.empty = k.getD i ByteArray.empty) ∧ Drew w wr) (fun i _ => n - (intOf i).toNat)
  case atStart => exact ⟨0, by omega, rfl, fun j hj => absurd hj (by omega), Drew.refl _⟩
  case round =>
    obtain ⟨j, hj, rfl, HO, hst⟩ := hrel
    by_cases hlt : j < n
    · have j1 : (j : Int) < (n : Int) := by omega
      have j2 : (j : Int) < (m : Int) := by have := HN.out; omega
      obtain ⟨b1, o1, rfl, d1⟩ := HA.out.2.2.2 j hlt
      obtain ⟨b2, o2, rfl, d2⟩ := HB.out.2.2.2 j (by omega)
      replace d1 := hst.cell d1
      replace d2 := hst.cell d2
      obtain ⟨x, hx⟩ : ∃ x, l.getD j ByteArray.empty = x := ⟨_, rfl⟩
      obtain ⟨y, hy⟩ : ∃ y, k.getD j ByteArray.empty = y := ⟨_, rfl⟩
      rw [hx] at d1
      rw [hy] at d2
      have HX : Hid (l.getD j ByteArray.empty = x) := hx
      have HY : Hid (k.getD j ByteArray.empty = y) := hy
      clear hx hy
      by_cases hxy : x = y
      · have t : (x.toList == y.toList) = true := text_same hxy
        have HXY : Hid (x = y) := hxy
        clear hxy
        go_wp2
        go_quiet (fail)
        replace hst := hst.drewN nq
        generalize wr.drewN nq = w3 at hst ⊢
        go_wp2
        go_roundw
        case rel =>
          refine ⟨j + 1, by omega, by go_num, ?_, hst⟩
          intro i hi
          by_cases hij : i = j
          · subst hij; rw [HX.out, HY.out, HXY.out]
          · exact HO.out i (by omega)
        case measure => simp [intOf]; omega
      · have t : (x.toList == y.toList) = false := text_other hxy
        go_wp2
        go_quiet (fail)
        go_wp2
        go_ret
        exact ⟨ret_bool (by rw [← HR.out, told_no (fun h => hxy (by rw [← HX.out, ← HY.out, h]))]), hst.drewN _⟩
    · have j1 : ¬ (j : Int) < (n : Int) := by omega
      go_wp2
      go_ret
      exact ⟨ret_bool (by rw [← HR.out, told_yes (all_getD ByteArray.empty (by rw [HLN.out, HKN.out]; exact HN.out) (fun i hi => HO.out i (by rw [HLN.out] at hi; omega)))]), hst⟩

end Go.Proofs.Ythdnldbkpllciaa

/-
  slices.Index and slices.Contains at numbers.
-/
namespace Go.Proofs.Ythdnldbkpllciaa
open Go.RowKit

theorem mem_getD {l : List Int} {x : Int} : x ∈ l ↔ ∃ j, j < l.length ∧ l.getD j 0 = x := by
  constructor
  · intro h
    obtain ⟨j, hj, rfl⟩ := List.mem_iff_getElem.1 h
    exact ⟨j, hj, by rw [List.getD_eq_getElem?_getD, List.getElem?_eq_getElem hj]; rfl⟩
  · rintro ⟨j, hj, rfl⟩
    exact getD_mem l j 0 hj

set_option maxRecDepth 10000 in
set_option maxHeartbeats 1000000 in
theorem index_any {w : World} {a : Option Addr} {c : Nat} {l : List Int} (ha : Ints w a l.length l) (x : Int) :
    Calls Try.prog 67 #[.slice a l.length c, .int .i64 x] w fun e w' => ∃ r : Int, e = .returned (.int .i64 r) ∧ (0 ≤ r ↔ x ∈ l) ∧ w' = w := by
  obtain ⟨n, hn⟩ : ∃ n, l.length = n := ⟨_, rfl⟩
  rw [hn] at ha ⊢
  have hl1 := ha.2.1
  unfold maxLen at hl1
  replace ha := hide ha
  replace hn := hide hn
  go_enter Try.func67, Try.ntmps67
  go_wp2
  go_loopw [8] (fun i wr => ∃ j : Nat, j ≤ n ∧ i = .int .i64 j ∧ Hid (∀ i, i < j → l.getD i 0 ≠ x) ∧ wr = w) (fun i _ => n - (intOf i).toNat)
  case atStart => exact ⟨0, by omega, rfl, fun j hj => absurd hj (by omega), rfl⟩
  case round =>
    obtain ⟨j, hj, rfl, HO, rfl⟩ := hrel
    by_cases hlt : j < n
    · have j1 : (j : Int) < (n : Int) := by omega
      obtain ⟨b1, o1, rfl, d1⟩ := ha.out.2.2.2 j hlt
      obtain ⟨y, hy⟩ : ∃ y, l.getD j 0 = y := ⟨_, rfl⟩
      rw [hy] at d1
      replace hy := hide hy
      by_cases hxy : x = y
      · have t : (x == y) = true := by rw [hxy]; exact beq_self_eq_true _
        have HM : Hid (x ∈ l) := mem_getD.2 ⟨j, by rw [hn.out]; exact hlt, by rw [hy.out, hxy]⟩
        clear hxy
        go_wp2
        go_ret
        exact ⟨_, rfl, ⟨fun _ => HM.out, fun _ => by omega⟩, rfl⟩
      · have t : (x == y) = false := by rw [beq_eq_false_iff_ne]; exact hxy
        replace hxy := hide hxy
        go_wp2
        go_roundw
        case rel =>
          refine ⟨j + 1, by omega, by go_num, fun i hi => ?_, trivial⟩
          by_cases hij : i = j
          · subst hij; rw [hy.out]; exact fun e => hxy.out e.symm
          · exact HO.out i (by omega)
        case measure => simp [intOf]; omega
    · have j1 : ¬ (j : Int) < (n : Int) := by omega
      go_wp2
      go_ret
      exact ⟨_, rfl, ⟨fun h => absurd h (by omega), fun h => by
        obtain ⟨i, hi, hx⟩ := mem_getD.1 h
        exact absurd hx (HO.out i (by rw [hn.out] at hi; omega))⟩, rfl⟩

set_option maxRecDepth 10000 in
set_option maxHeartbeats 400000 in
theorem contains_any {w : World} {a : Option Addr} {c : Nat} {l : List Int} (ha : Ints w a l.length l) (x : Int) :
    Calls Try.prog 39 #[.slice a l.length c, .int .i64 x] w fun e w' => e = .returned (.bool (told (x ∈ l))) ∧ w' = w := by
  have HI := index_any (c := c) ha x
  generalize l.length = n at HI ⊢
  replace HI := hide HI
  obtain ⟨t, ht⟩ : ∃ t, told (x ∈ l) = t := ⟨_, rfl⟩
  rw [ht]
  replace ht := hide ht
  go_enter Try.func39, Try.ntmps39
  go_wp2_with fail
  refine HI.out.mono ?_
  rintro e w0 ⟨r, rfl, hr, hw0⟩
  subst w0
  replace hr := hide hr
  go_wp2
  go_ret
  refine ⟨ret_bool ?_, rfl⟩
  rw [← ht.out]
  by_cases h : x ∈ l
  · rw [told_yes h]; exact decide_eq_true (hr.out.2 h)
  · rw [told_no h]; exact decide_eq_false (fun e => h (hr.out.1 e))

end Go.Proofs.Ythdnldbkpllciaa
