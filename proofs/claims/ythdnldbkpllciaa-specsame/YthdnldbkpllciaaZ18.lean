/-
  The document's Check of chapter 4: arcs; the whole of it.
-/
import Derived.Test.YthdnldbkpllciaaZ17
import Derived.Test.YthdnldbkpllciaaZ12
import Derived.BigQuiet
import Derived.Deep.QuietTactic
namespace Go.Proofs.Ythdnldbkpllciaa
open Go.RowKit

set_option maxRecDepth 10000 in
set_option maxHeartbeats 4000000 in
theorem refarcs_any {w : World} {v : Value} {s : SpecM} (hv : SpecV w v s) : Calls Try.prog 103 #[v] w fun e w' => e = .returned (.bool (told (arcsOk s))) ∧ Below w.heap.size w w' := by
  obtain ⟨a1, a2, a3, a4, c1, c2, c3, c4, rfl, L⟩ := hv
  obtain ⟨r, hr⟩ : ∃ r, told (arcsOk s) = r := ⟨_, rfl⟩
  have HR : Hid (told (arcsOk s) = r) := hr
  rw [hr]
  clear hr
  generalize hg : w.heap.size = g
  have hL1 := L.arcs.1
  have hL3 := L.parties.1
  unfold maxLen at hL1 hL3
  obtain ⟨n, hn⟩ : ∃ n, s.arcs.length = n := ⟨_, rfl⟩
  have HN0 : Hid (s.arcs.length = n) := hn
  obtain ⟨m, hm⟩ : ∃ m, s.parties.length = m := ⟨_, rfl⟩
  have HM0 : Hid (s.parties.length = m) := hm
  go_enter Try.func103, Try.ntmps103
  go_wp2_with ((with_reducible refine wpList_at ?_); refine wpList_boxv (by rfl) 27 (.tmp 0) (by rfl) _ (by rfl) ?_; rw [hg]; intro w1 hg1 hz1 hb1; obtain ⟨q0, q1, q2, q3, q4, q5, q6⟩ := cells7_at hg1; rw [hm] at q1; rw [hn] at q2)
  have L1 : Lies w1 a1 a2 a3 a4 s := L.below (by rw [hg]; exact hb1)
  have Q2 : Hid (w1.cell? ⟨g, 2, none⟩ = some (.slice a2 n c2)) := q2
  have HL1 : Hid (Lies w1 a1 a2 a3 a4 s) := L1
  have hgs : g ≤ w1.heap.size := by omega
  rw [hn] at hL1
  rw [hm] at hL3
  clear L L1 hg1 hz1 q0 q1 q2 q3 q4 q5 q6 hn hm
  go_loopw [4] (fun i wr => ∃ k : Nat, k ≤ n ∧ i = .int .i64 k ∧ Hid (∀ j, j < k → arcOk s j) ∧ Below w1.heap.size w1 wr) (fun i _ => n - (intOf i).toNat)
  case atStart => exact ⟨0, by omega, rfl, fun j hj => absurd hj (by omega), Below.refl _ _⟩
  case round =>
    obtain ⟨i, hi, rfl, HO, hst⟩ := hrel
    have q2 := cell_on hst Q2.out
    by_cases hlt : i < n
    · have i1 : (i : Int) < (n : Int) := by omega
      have hlt' : i < s.arcs.length := by rw [HN0.out]; exact hlt
      have HLT : Hid (i < s.arcs.length) := hlt'
      obtain ⟨b2, o2, rfl, i1', i2', i3', i4', i5', d0, d1, d2, d3, d4⟩ := HL1.out.arcs.2 i hlt'
      obtain ⟨A, hA⟩ : ∃ A, s.arcs.getD i noArc = A := ⟨_, rfl⟩
      have HO' : Hid (arcOk s i = ((0 ≤ A.src ∧ A.src < (m : Int) ∧ 0 ≤ A.dst ∧ A.dst < (m : Int) ∧ A.src ≠ A.dst ∧ 0 ≤ A.ledger ∧ A.ledger < 4 ∧ nameOk A.asset ∧ 1 ≤ A.amount ∧ A.amount ≤ 1125899906842624) ∧ ∀ k, k < i → ¬ ((s.arcs.getD k noArc).src = A.src ∧ (s.arcs.getD k noArc).dst = A.dst))) := by
        show _ = _
        unfold arcOk arcFine; rw [hA, HM0.out]
      rw [hA] at d0 d1 d2 d3 d4
      clear hA i1' i2' i3' i4' i5' hlt'
      replace d0 := cell_on hst d0
      replace d1 := cell_on hst d1
      replace d2 := cell_on hst d2
      replace d3 := cell_on hst d3
      replace d4 := cell_on hst d4
      have e0 : (wr.alloc (Obj.cells #[Value.int IntKind.i64 A.src, Value.int IntKind.i64 A.dst, Value.int IntKind.i64 A.ledger, Value.string A.asset, Value.int IntKind.i64 A.amount] 34)).cell? ⟨wr.heap.size, 0, none⟩ = some (.int .i64 A.src) := by rw [World.cell?_alloc_new]; rfl
      have e1 : (wr.alloc (Obj.cells #[Value.int IntKind.i64 A.src, Value.int IntKind.i64 A.dst, Value.int IntKind.i64 A.ledger, Value.string A.asset, Value.int IntKind.i64 A.amount] 34)).cell? ⟨wr.heap.size, 1, none⟩ = some (.int .i64 A.dst) := by rw [World.cell?_alloc_new]; rfl
      have hB2 : Below w1.heap.size w1 (wr.alloc (Obj.cells #[Value.int IntKind.i64 A.src, Value.int IntKind.i64 A.dst, Value.int IntKind.i64 A.ledger, Value.string A.asset, Value.int IntKind.i64 A.amount] 34)) := hst.alloc hst.size _
      have E0 : Hid ((wr.alloc (Obj.cells #[Value.int IntKind.i64 A.src, Value.int IntKind.i64 A.dst, Value.int IntKind.i64 A.ledger, Value.string A.asset, Value.int IntKind.i64 A.amount] 34)).cell? ⟨wr.heap.size, 0, none⟩ = some (.int .i64 A.src)) := e0
      have E1 : Hid ((wr.alloc (Obj.cells #[Value.int IntKind.i64 A.src, Value.int IntKind.i64 A.dst, Value.int IntKind.i64 A.ledger, Value.string A.asset, Value.int IntKind.i64 A.amount] 34)).cell? ⟨wr.heap.size, 1, none⟩ = some (.int .i64 A.dst)) := e1
      clear e0 e1
      have HNm := fun W => refname_any A.asset W
      by_cases c1 : A.src < 0
      · go_wp2
        go_ret
        exact ⟨ret_bool (by rw [← HR.out, told_no (fun h => by have := h.2.2 i HLT.out; rw [HO'.out] at this; omega)]), hb1.trans (hB2.mono hgs)⟩
      by_cases c2 : (m : Int) ≤ A.src
      · go_wp2
        go_ret
        exact ⟨ret_bool (by rw [← HR.out, told_no (fun h => by have := h.2.2 i HLT.out; rw [HO'.out] at this; omega)]), hb1.trans (hB2.mono hgs)⟩
      by_cases c3 : A.dst < 0
      · go_wp2
        go_ret
        exact ⟨ret_bool (by rw [← HR.out, told_no (fun h => by have := h.2.2 i HLT.out; rw [HO'.out] at this; omega)]), hb1.trans (hB2.mono hgs)⟩
      by_cases c4 : (m : Int) ≤ A.dst
      · go_wp2
        go_ret
        exact ⟨ret_bool (by rw [← HR.out, told_no (fun h => by have := h.2.2 i HLT.out; rw [HO'.out] at this; omega)]), hb1.trans (hB2.mono hgs)⟩
      by_cases c5 : A.src = A.dst
      · have c5' : (A.src == A.dst) = true := by rw [c5]; exact beq_self_eq_true _
        have HC : Hid (A.src = A.dst) := c5
        clear c5
        go_wp2
        go_ret
        exact ⟨ret_bool (by rw [← HR.out, told_no (fun h => by have := h.2.2 i HLT.out; rw [HO'.out] at this; exact this.1.2.2.2.2.1 HC.out)]), hb1.trans (hB2.mono hgs)⟩
      have c5' : (A.src == A.dst) = false := by rw [beq_eq_false_iff_ne]; exact c5
      by_cases c6 : A.ledger < 0
      · go_wp2
        go_ret
        exact ⟨ret_bool (by rw [← HR.out, told_no (fun h => by have := h.2.2 i HLT.out; rw [HO'.out] at this; omega)]), hb1.trans (hB2.mono hgs)⟩
      by_cases c7 : (4 : Int) ≤ A.ledger
      · go_wp2
        go_ret
        exact ⟨ret_bool (by rw [← HR.out, told_no (fun h => by have := h.2.2 i HLT.out; rw [HO'.out] at this; omega)]), hb1.trans (hB2.mono hgs)⟩
      by_cases c8 : ¬ nameOk A.asset
      · rw [told_no c8] at HNm
        go_wp2_with (go_at_call 100; refine (HNm _).mono ?_; rintro e w0 ⟨rfl, hw0⟩; subst w0)
        go_ret
        exact ⟨ret_bool (by rw [← HR.out, told_no (fun h => by have := h.2.2 i HLT.out; rw [HO'.out] at this; exact c8 this.1.2.2.2.2.2.2.2.1)]), hb1.trans (hB2.mono hgs)⟩
      have c8n : nameOk A.asset := Classical.not_not.1 c8
      rw [told_yes c8n] at HNm
      have HC8 : Hid (nameOk A.asset) := c8n
      clear c8 c8n
      by_cases c9 : A.amount < 1
      · go_wp2_with (go_at_call 100; refine (HNm _).mono ?_; rintro e w0 ⟨rfl, hw0⟩; subst w0)
        go_ret
        exact ⟨ret_bool (by rw [← HR.out, told_no (fun h => by have := h.2.2 i HLT.out; rw [HO'.out] at this; omega)]), hb1.trans (hB2.mono hgs)⟩
      by_cases c10 : (1125899906842624 : Int) < A.amount
      · go_wp2_with (go_at_call 100; refine (HNm _).mono ?_; rintro e w0 ⟨rfl, hw0⟩; subst w0)
        go_ret
        exact ⟨ret_bool (by rw [← HR.out, told_no (fun h => by have := h.2.2 i HLT.out; rw [HO'.out] at this; omega)]), hb1.trans (hB2.mono hgs)⟩
      go_wp2_with (go_at_call 100; refine (HNm _).mono ?_; rintro e w0 ⟨rfl, hw0⟩; subst w0)
      clear q2 d0 d1 d2 d3 d4 hst HNm
      generalize wr.alloc (Obj.cells #[Value.int IntKind.i64 A.src, Value.int IntKind.i64 A.dst, Value.int IntKind.i64 A.ledger, Value.string A.asset, Value.int IntKind.i64 A.amount] 34) = w2 at E0 E1 hB2 ⊢
      generalize wr.heap.size = gp at E0 E1 ⊢
      go_loopw [6] (fun i6 wr => ∃ k : Nat, k ≤ i ∧ i6 = .int .i64 k ∧ Hid (∀ j, j < k → ¬ ((s.arcs.getD j noArc).src = A.src ∧ (s.arcs.getD j noArc).dst = A.dst)) ∧ Still w2 wr) (fun i6 _ => i - (intOf i6).toNat)
      case atStart => exact ⟨0, by omega, rfl, fun j hj => absurd hj (by omega), Still.refl _⟩
      case round =>
        obtain ⟨k, hk, rfl, HK, hst⟩ := hrel
        by_cases hkl : k < i
        · have k1 : (k : Int) < (i : Int) := by omega
          have k2 : (k : Int) < (n : Int) := by omega
          obtain ⟨_, _, _, _, _, d0, d1, _, _, _⟩ := HL1.out.arcs.get k (by rw [HN0.out]; omega)
          replace d0 := hst.cell (cell_on hB2 d0)
          replace d1 := hst.cell (cell_on hB2 d1)
          have q2 := hst.cell (cell_on hB2 Q2.out)
          have e0 := hst.cell E0.out
          have e1 := hst.cell E1.out
          obtain ⟨x, hx⟩ : ∃ x, (s.arcs.getD k noArc).src = x := ⟨_, rfl⟩
          obtain ⟨y, hy⟩ : ∃ y, (s.arcs.getD k noArc).dst = y := ⟨_, rfl⟩
          rw [hx] at d0
          rw [hy] at d1
          have HX : Hid ((s.arcs.getD k noArc).src = x) := hx
          have HY : Hid ((s.arcs.getD k noArc).dst = y) := hy
          clear hx hy
          by_cases hxs : x = A.src
          · have t1 : (x == A.src) = true := by rw [hxs]; exact beq_self_eq_true _
            have HXS : Hid (x = A.src) := hxs
            clear hxs
            by_cases hyd : y = A.dst
            · have t2 : (y == A.dst) = true := by rw [hyd]; exact beq_self_eq_true _
              have HYD : Hid (y = A.dst) := hyd
              clear hyd
              go_wp2
              go_quiet (fail)
              go_wp2
              go_ret
              exact ⟨ret_bool (by rw [← HR.out, told_no (fun h => by have := h.2.2 i HLT.out; rw [HO'.out] at this; exact this.2 k hkl ⟨by rw [HX.out, HXS.out], by rw [HY.out, HYD.out]⟩)]), below_drewN (hst.below (hb1.trans (hB2.mono hgs))) _⟩
            · have t2 : (y == A.dst) = false := by rw [beq_eq_false_iff_ne]; exact hyd
              go_wp2
              go_quiet (fail)
              replace hst := hst.drewN nq
              generalize wr.drewN nq = w3 at hst ⊢
              go_wp2
              go_roundw
              case rel =>
                refine ⟨k + 1, by omega, by go_num, ?_, hst⟩
                intro j hj
                by_cases hjk : j = k
                · subst hjk; rw [HX.out, HY.out]; exact fun h => hyd h.2
                · exact HK.out j (by omega)
              case measure => simp [intOf]; omega
          · have t1 : (x == A.src) = false := by rw [beq_eq_false_iff_ne]; exact hxs
            go_wp2
            go_quiet (fail)
            replace hst := hst.drewN nq
            generalize wr.drewN nq = w3 at hst ⊢
            go_wp2
            go_roundw
            case rel =>
              refine ⟨k + 1, by omega, by go_num, ?_, hst⟩
              intro j hj
              by_cases hjk : j = k
              · subst hjk; rw [HX.out]; exact fun h => hxs h.1
              · exact HK.out j (by omega)
            case measure => simp [intOf]; omega
        · have k1 : ¬ (k : Int) < (i : Int) := by omega
          go_wp2
          go_roundw
          case rel =>
            refine ⟨i + 1, by omega, by go_num, ?_, hst.below hB2⟩
            intro j hj
            by_cases hjk : j = i
            · subst hjk; rw [HO'.out]; exact ⟨⟨by omega, by omega, by omega, by omega, c5, by omega, by omega, HC8.out, by omega, by omega⟩, fun j hj => HK.out j (by omega)⟩
            · exact HO.out j (by omega)
          case measure => simp [intOf]; omega
    · have i1 : ¬ (i : Int) < (n : Int) := by omega
      have HALL : Hid (∀ j, j < s.arcs.length → arcOk s j) := fun j hj => HO.out j (by rw [HN0.out] at hj; omega)
      clear HO
      by_cases hn1 : 1 ≤ n
      · have n1 : (1 : Int) ≤ (n : Int) := by omega
        by_cases hn2 : n ≤ 12
        · have n2 : (n : Int) ≤ 12 := by omega
          go_wp2
          go_ret
          exact ⟨ret_bool (by rw [← HR.out, told_yes ⟨by rw [HN0.out]; exact hn1, by rw [HN0.out]; exact hn2, HALL.out⟩]), hb1.trans (hst.mono hgs)⟩
        · have n2 : ¬ (n : Int) ≤ 12 := by omega
          go_wp2
          go_ret
          exact ⟨ret_bool (by rw [← HR.out, told_no (fun h => by have := h.2.1; rw [HN0.out] at this; omega)]), hb1.trans (hst.mono hgs)⟩
      · have n1 : ¬ (1 : Int) ≤ (n : Int) := by omega
        go_wp2
        go_ret
        exact ⟨ret_bool (by rw [← HR.out, told_no (fun h => by have := h.1; rw [HN0.out] at this; omega)]), hb1.trans (hst.mono hgs)⟩

end Go.Proofs.Ythdnldbkpllciaa

/-
  The document's Check of chapter 4, whole.
-/
namespace Go.Proofs.Ythdnldbkpllciaa
open Go.RowKit

set_option maxRecDepth 10000 in
set_option maxHeartbeats 4000000 in
theorem refcheck_any {w : World} {v : Value} {s : SpecM} (hv : SpecV w v s) : Calls Try.prog 90 #[v] w fun e w' => e = .returned (.bool (told (specOk s))) ∧ Below w.heap.size w w' := by
  obtain ⟨a1, a2, a3, a4, c1, c2, c3, c4, rfl, L⟩ := hv
  obtain ⟨r, hr⟩ : ∃ r, told (specOk s) = r := ⟨_, rfl⟩
  have HR : Hid (told (specOk s) = r) := hr
  rw [hr]
  clear hr
  generalize hg : w.heap.size = g
  have HN := fun W => refname_any s.id W
  have HLd : ∀ W, Lies W a1 a2 a3 a4 s → _ := fun W hW => refleaders_any (w := W) (s := s) ⟨a1, a2, a3, a4, c1, c2, c3, c4, rfl, hW⟩
  have HPa : ∀ W, Lies W a1 a2 a3 a4 s → _ := fun W hW => refparties_any (w := W) (s := s) ⟨a1, a2, a3, a4, c1, c2, c3, c4, rfl, hW⟩
  have HAr : ∀ W, Lies W a1 a2 a3 a4 s → _ := fun W hW => refarcs_any (w := W) (s := s) ⟨a1, a2, a3, a4, c1, c2, c3, c4, rfl, hW⟩
  unfold cells7 at HLd HPa HAr
  go_enter Try.func90, Try.ntmps90
  go_wp2_with ((with_reducible refine wpList_at ?_); refine wpList_boxv (by rfl) 27 (.tmp 0) (by rfl) _ (by rfl) ?_; rw [hg]; intro w1 hg1 hz1 hb1; obtain ⟨q0, q1, q2, q3, q4, q5, q6⟩ := cells7_at hg1)
  have L1 : Lies w1 a1 a2 a3 a4 s := L.below (by rw [hg]; exact hb1)
  have hgs : g ≤ w1.heap.size := by omega
  have HL1 : Hid (Lies w1 a1 a2 a3 a4 s) := L1
  have i5 := L1.start
  have i6 := L1.delta
  unfold In64 at i5 i6
  clear L L1 hg1 hz1
  by_cases p0 : ¬ nameOk s.id
  · have HX := (HN w1)
    rw [told_no p0] at HX
    refine HX.mono ?_
    rintro e w9 ⟨rfl, hw9⟩
    subst w9
    go_wp2
    go_ret
    exact ⟨ret_bool (by rw [← HR.out, told_no (fun h => p0 h.1)]), hb1⟩
  replace p0 := Classical.not_not.1 p0
  have HP0 : Hid (nameOk s.id) := p0
  have HX := (HN w1)
  rw [told_yes p0] at HX
  clear p0
  refine HX.mono ?_
  rintro e w9 ⟨rfl, hw9⟩
  subst w9
  clear HX HN
  go_wp2_with fail
  by_cases p1 : ¬ leadersOk s
  · have HX := (HLd w1 (HL1.out.below (Below.refl _ _)))
    rw [told_no p1] at HX
    refine HX.mono ?_
    rintro e w9 ⟨rfl, hb9⟩
    go_wp2
    go_ret
    exact ⟨ret_bool (by rw [← HR.out, told_no (fun h => p1 h.2.1)]), (hb1).trans (hb9.mono hgs)⟩
  replace p1 := Classical.not_not.1 p1
  have HP1 : Hid (leadersOk s) := p1
  have HX := (HLd w1 (HL1.out.below (Below.refl _ _)))
  rw [told_yes p1] at HX
  clear p1
  refine HX.mono ?_
  rintro e w2 ⟨rfl, hb9⟩
  have hB := hb9
  replace q0 := cell_on hb9 q0
  replace q1 := cell_on hb9 q1
  replace q2 := cell_on hb9 q2
  replace q3 := cell_on hb9 q3
  replace q4 := cell_on hb9 q4
  replace q5 := cell_on hb9 q5
  replace q6 := cell_on hb9 q6
  clear hb9 HX HLd
  go_wp2_with fail
  by_cases p2 : ¬ partiesOk s
  · have HX := (HPa w2 (HL1.out.below hB))
    rw [told_no p2] at HX
    refine HX.mono ?_
    rintro e w9 ⟨rfl, hb9⟩
    go_wp2
    go_ret
    exact ⟨ret_bool (by rw [← HR.out, told_no (fun h => p2 h.2.2.1)]), (hb1.trans (hB.mono hgs)).trans (hb9.mono (Nat.le_trans hgs hB.size))⟩
  replace p2 := Classical.not_not.1 p2
  have HP2 : Hid (partiesOk s) := p2
  have HX := (HPa w2 (HL1.out.below hB))
  rw [told_yes p2] at HX
  clear p2
  refine HX.mono ?_
  rintro e w3 ⟨rfl, hb9⟩
  replace hB := below_then hB hb9
  replace q0 := cell_on hb9 q0
  replace q1 := cell_on hb9 q1
  replace q2 := cell_on hb9 q2
  replace q3 := cell_on hb9 q3
  replace q4 := cell_on hb9 q4
  replace q5 := cell_on hb9 q5
  replace q6 := cell_on hb9 q6
  clear hb9 HX HPa
  go_wp2_with fail
  by_cases p3 : ¬ arcsOk s
  · have HX := (HAr w3 (HL1.out.below hB))
    rw [told_no p3] at HX
    refine HX.mono ?_
    rintro e w9 ⟨rfl, hb9⟩
    go_wp2
    go_ret
    exact ⟨ret_bool (by rw [← HR.out, told_no (fun h => p3 h.2.2.2.1)]), (hb1.trans (hB.mono hgs)).trans (hb9.mono (Nat.le_trans hgs hB.size))⟩
  replace p3 := Classical.not_not.1 p3
  have HP3 : Hid (arcsOk s) := p3
  have HX := (HAr w3 (HL1.out.below hB))
  rw [told_yes p3] at HX
  clear p3
  refine HX.mono ?_
  rintro e w4 ⟨rfl, hb9⟩
  replace hB := below_then hB hb9
  replace q0 := cell_on hb9 q0
  replace q1 := cell_on hb9 q1
  replace q2 := cell_on hb9 q2
  replace q3 := cell_on hb9 q3
  replace q4 := cell_on hb9 q4
  replace q5 := cell_on hb9 q5
  replace q6 := cell_on hb9 q6
  clear hb9 HX HAr
  by_cases x0 : ¬ (0 : Int) ≤ s.start
  · go_wp2
    go_ret
    exact ⟨ret_bool (by rw [← HR.out, told_no (fun h => by have := h.2.2.2.2.1; omega)]), hb1.trans (hB.mono hgs)⟩
  replace x0 := Classical.not_not.1 x0
  by_cases x1 : ¬ s.start ≤ (1099511627776 : Int)
  · go_wp2
    go_ret
    exact ⟨ret_bool (by rw [← HR.out, told_no (fun h => by have := h.2.2.2.2.2.1; omega)]), hb1.trans (hB.mono hgs)⟩
  replace x1 := Classical.not_not.1 x1
  by_cases x2 : ¬ (1 : Int) ≤ s.delta
  · go_wp2
    go_ret
    exact ⟨ret_bool (by rw [← HR.out, told_no (fun h => by have := h.2.2.2.2.2.2.1; omega)]), hb1.trans (hB.mono hgs)⟩
  replace x2 := Classical.not_not.1 x2
  by_cases x3 : ¬ s.delta ≤ (1048576 : Int)
  · go_wp2
    go_ret
    exact ⟨ret_bool (by rw [← HR.out, told_no (fun h => by have := h.2.2.2.2.2.2.2; omega)] <;> exact decide_eq_false (by omega)), hb1.trans (hB.mono hgs)⟩
  replace x3 := Classical.not_not.1 x3
  go_wp2
  go_ret
  exact ⟨ret_bool (by rw [← HR.out, told_yes ⟨HP0.out, HP1.out, HP2.out, HP3.out, x0, x1, x2, x3⟩]), hb1.trans (hB.mono hgs)⟩

end Go.Proofs.Ythdnldbkpllciaa

/-
  The document's Same of chapter 4: numbers, texts.
-/
namespace Go.Proofs.Ythdnldbkpllciaa
open Go.RowKit


theorem all_getD {α : Type} (d : α) {l k : List α} (hl : l.length = k.length) (h : ∀ j, j < l.length → l.getD j d = k.getD j d) : l = k := by
  apply List.ext_getElem hl
  intro j h1 h2
  have := h j h1
  rw [List.getD_eq_getElem?_getD, List.getD_eq_getElem?_getD, List.getElem?_eq_getElem h1, List.getElem?_eq_getElem h2] at this
  exact this
theorem neq_list (a b : ByteArray) : (a.toList != b.toList) = !(a.data.toList == b.data.toList) := by
  rw [bne, same_list]
theorem text_same {a b : ByteArray} (h : a = b) : (a.toList == b.toList) = true := by rw [h]; exact beq_self_eq_true _
theorem text_other {a b : ByteArray} (h : a ≠ b) : (a.toList == b.toList) = false := by
  rw [same_list, beq_eq_false_iff_ne]
  exact fun e => h (ByteArray.ext (Array.toList_inj.1 e))
theorem text_nsame {a b : ByteArray} (h : a = b) : (a.toList != b.toList) = false := by rw [bne, text_same h]; rfl
theorem text_nother {a b : ByteArray} (h : a ≠ b) : (a.toList != b.toList) = true := by rw [bne, text_other h]; rfl

end Go.Proofs.Ythdnldbkpllciaa

/-
  slices.Equal at numbers and texts.
-/
namespace Go.Proofs.Ythdnldbkpllciaa
open Go.RowKit

set_option maxRecDepth 10000 in
set_option maxHeartbeats 1000000 in
theorem eqints_any {w : World} {a b : Option Addr} {c d : Nat} {l k : List Int} (ha : Ints w a l.length l) (hb : Ints w b k.length k) :
    Calls Try.prog 31 #[.slice a l.length c, .slice b k.length d] w fun e w' => e = .returned (.bool (told (l = k))) ∧ Drew w w' := by
  obtain ⟨r, hr⟩ : ∃ r, told (l = k) = r := ⟨_, rfl⟩
  have HR : Hid (told (l = k) = r) := hr
  rw [hr]
  clear hr
  have hl1 := ha.2.1
  have hl2 := hb.2.1
  unfold maxLen at hl1 hl2
  by_cases hne : l.length ≠ k.length
  · have n1 := nat_ne hne
    go_enter Try.func31, Try.ntmps31
    go_wp2
    go_ret
    exact ⟨ret_bool (by rw [← HR.out, told_no (fun h => hne (by rw [h]))]), Drew.refl _⟩
  have hn : l.length = k.length := by omega
  have HN : Hid (l.length = k.length) := hn
  have n1 := nat_same hn
  generalize hln : l.length = n at *
  generalize hkn : k.length = m at *
  have HLN : Hid (l.length = n) := hln
  have HKN : Hid (k.length = m) := hkn
  have HA : Hid (Ints w a n l) := ha
  have HB : Hid (Ints w b m k) := hb
  clear hne hn hln hkn ha hb
  go_enter Try.func31, Try.ntmps31
  go_wp2
  go_loopw [13] (fun i wr => ∃ j : Nat, j ≤ n ∧ i = .int .i64 j ∧ Hid (∀ i, i < j → l.getD i 0 = k.getD i 0) ∧ Drew w wr) (fun i _ => n - (intOf i).toNat)
  case atStart => exact ⟨0, by omega, rfl, fun j hj => absurd hj (by omega), Drew.refl _⟩
  case round =>
    obtain ⟨j, hj, rfl, HO, hst⟩ := hrel
    by_cases hlt : j < n
    · have j1 : (j : Int) < (n : Int) := by omega
      have j2 : (j : Int) < (m : Int) := by have := HN.out; omega
      obtain ⟨b1, o1, rfl, d1⟩ := HA.out.2.2.2 j hlt
      obtain ⟨b2, o2, rfl, d2⟩ := HB.out.2.2.2 j (by omega)
      replace d1 := hst.cell d1
      replace d2 := hst.cell d2
      obtain ⟨x, hx⟩ : ∃ x, l.getD j 0 = x := ⟨_, rfl⟩
      obtain ⟨y, hy⟩ : ∃ y, k.getD j 0 = y := ⟨_, rfl⟩
      rw [hx] at d1
      rw [hy] at d2
      have HX : Hid (l.getD j 0 = x) := hx
      have HY : Hid (k.getD j 0 = y) := hy
      clear hx hy
      by_cases hxy : x = y
      · have t : (x != y) = false := by rw [bne_eq_false_iff_eq]; exact hxy
        have HXY : Hid (x = y) := hxy
        clear hxy
        go_wp2
        go_quiet (fail)
        replace hst := hst.drewN nq
        generalize wr.drewN nq = w3 at hst ⊢
        go_wp2
        go_roundw
        case rel =>
          refine ⟨j + 1, by omega, by go_num, ?_, hst⟩
          intro i hi
          by_cases hij : i = j
          · subst hij; rw [HX.out, HY.out, HXY.out]
          · exact HO.out i (by omega)
        case measure => simp [intOf]; omega
      · have t : (x != y) = true := by rw [bne_iff_ne]; exact hxy
        go_wp2
        go_quiet (fail)
        go_wp2
        go_ret
        exact ⟨ret_bool (by rw [← HR.out, told_no (fun h => hxy (by rw [← HX.out, ← HY.out, h]))]), hst.drewN _⟩
    · have j1 : ¬ (j : Int) < (n : Int) := by omega
      go_wp2
      go_ret
      exact ⟨ret_bool (by rw [← HR.out, told_yes (all_getD 0 (by rw [HLN.out, HKN.out]; exact HN.out) (fun i hi => HO.out i (by rw [HLN.out] at hi; omega)))]), hst⟩

set_option maxRecDepth 10000 in
set_option maxHeartbeats 1000000 in
theorem eqtexts_any {w : World} {a b : Option Addr} {c d : Nat} {l k : List ByteArray} (ha : Strs w a l.length l) (hb : Strs w b k.length k) :
    Calls Try.prog 32 #[.slice a l.length c, .slice b k.length d] w fun e w' => e = .returned (.bool (told (l = k))) ∧ Drew w w' := by
  obtain ⟨r, hr⟩ : ∃ r, told (l = k) = r := ⟨_, rfl⟩
  have HR : Hid (told (l = k) = r) := hr
  rw [hr]
  clear hr
  have hl1 := ha.2.1
  have hl2 := hb.2.1
  unfold maxLen at hl1 hl2
  by_cases hne : l.length ≠ k.length
  · have n1 := nat_ne hne
    go_enter Try.func32, Try.ntmps32
    go_wp2
    go_ret
    exact ⟨ret_bool (by rw [← HR.out, told_no (fun h => hne (by rw [h]))]), Drew.refl _⟩
  have hn : l.length = k.length := by omega
  have HN : Hid (l.length = k.length) := hn
  have n1 := nat_same hn
  generalize hln : l.length = n at *
  generalize hkn : k.length = m at *
  have HLN : Hid (l.length = n) := hln
  have HKN : Hid (k.length = m) := hkn
  have HA : Hid (Strs w a n l) := ha
  have HB : Hid (Strs w b m k) := hb
  clear hne hn hln hkn ha hb
  go_enter Try.func32, Try.ntmps32
  go_wp2
  go_loopw [13] (fun i wr => ∃ j : Nat, j ≤ n ∧ i = .int .i64 j ∧ Hid (∀ i, i < j → l.getD i ByteArray.empty = k.getD i ByteArray.empty) ∧ Drew w wr) (fun i _ => n - (intOf i).toNat)
  case atStart => exact ⟨0, by omega, rfl, fun j hj => absurd hj (by omega), Drew.refl _⟩
  case round =>
    obtain ⟨j, hj, rfl, HO, hst⟩ := hrel
    by_cases hlt : j < n
    · have j1 : (j : Int) < (n : Int) := by omega
      have j2 : (j : Int) < (m : Int) := by have := HN.out; omega
      obtain ⟨b1, o1, rfl, d1⟩ := HA.out.2.2.2 j hlt
      obtain ⟨b2, o2, rfl, d2⟩ := HB.out.2.2.2 j (by omega)
      replace d1 := hst.cell d1
      replace d2 := hst.cell d2
      obtain ⟨x, hx⟩ : ∃ x, l.getD j ByteArray.empty = x := ⟨_, rfl⟩
      obtain ⟨y, hy⟩ : ∃ y, k.getD j ByteArray.empty = y := ⟨_, rfl⟩
      rw [hx] at d1
      rw [hy] at d2
      have HX : Hid (l.getD j ByteArray.empty = x) := hx
      have HY : Hid (k.getD j ByteArray.empty = y) := hy
      clear hx hy
      by_cases hxy : x = y
      · have t : (x.toList == y.toList) = true := text_same hxy
        have HXY : Hid (x = y) := hxy
        clear hxy
        go_wp2
        go_quiet (fail)
        replace hst := hst.drewN nq
        generalize wr.drewN nq = w3 at hst ⊢
        go_wp2
        go_roundw
        case rel =>
          refine ⟨j + 1, by omega, by go_num, ?_, hst⟩
          intro i hi
          by_cases hij : i = j
          · subst hij; rw [HX.out, HY.out, HXY.out]
          · exact HO.out i (by omega)
        case measure => simp [intOf]; omega
      · have t : (x.toList == y.toList) = false := text_other hxy
        go_wp2
        go_quiet (fail)
        go_wp2
        go_ret
        exact ⟨ret_bool (by rw [← HR.out, told_no (fun h => hxy (by rw [← HX.out, ← HY.out, h]))]), hst.drewN _⟩
    · have j1 : ¬ (j : Int) < (n : Int) := by omega
      go_wp2
      go_ret
      exact ⟨ret_bool (by rw [← HR.out, told_yes (all_getD ByteArray.empty (by rw [HLN.out, HKN.out]; exact HN.out) (fun i hi => HO.out i (by rw [HLN.out] at hi; omega)))]), hst⟩

end Go.Proofs.Ythdnldbkpllciaa
