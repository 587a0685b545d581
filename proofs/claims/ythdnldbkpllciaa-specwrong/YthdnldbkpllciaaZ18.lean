/-
  The document's Check of chapter 4: names, leaders.
-/
import Derived.Test.YthdnldbkpllciaaZ12
import Derived.BigQuiet
import Derived.Deep.QuietTactic
namespace Go.Proofs.Ythdnldbkpllciaa
open Go.RowKit

set_option maxHeartbeats 400000 in
theorem refname_any (s : ByteArray) (w : World) : Calls Try.prog 100 #[.string s] w fun e w' => e = .returned (.bool (told (nameOk s))) ∧ w' = w := by
  obtain ⟨r, hr⟩ : ∃ r, told (nameOk s) = r := ⟨_, rfl⟩
  have HR : Hid (told (1 ≤ s.size ∧ s.size ≤ 16) = r) := hr
  rw [hr]
  clear hr
  by_cases h1 : 1 ≤ s.size
  · have h1' : (1 : Int) ≤ (s.size : Int) := by omega
    by_cases h2 : s.size ≤ 16
    · have h2' : (s.size : Int) ≤ 16 := by omega
      go_enter Try.func100, Try.ntmps100
      go_wp2
      go_ret
      exact ⟨ret_bool (by rw [← HR.out, told_yes ⟨h1, h2⟩]), rfl⟩
    · have h2' : ¬ (s.size : Int) ≤ 16 := by omega
      go_enter Try.func100, Try.ntmps100
      go_wp2
      go_ret
      exact ⟨ret_bool (by rw [← HR.out, told_no (fun h => h2 h.2)]), rfl⟩
  · have h1' : ¬ (1 : Int) ≤ (s.size : Int) := by omega
    go_enter Try.func100, Try.ntmps100
    go_wp2
    go_ret
    exact ⟨ret_bool (by rw [← HR.out, told_no (fun h => h1 h.1)]), rfl⟩

set_option maxRecDepth 10000 in
set_option maxHeartbeats 1000000 in
theorem refleaders_any {w : World} {v : Value} {s : SpecM} (hv : SpecV w v s) : Calls Try.prog 101 #[v] w fun e w' => e = .returned (.bool (told (leadersOk s))) ∧ Below w.heap.size w w' := by
  obtain ⟨a1, a2, a3, a4, c1, c2, c3, c4, rfl, L⟩ := hv
  obtain ⟨r, hr⟩ : ∃ r, told (leadersOk s) = r := ⟨_, rfl⟩
  have HR : Hid (told (leadersOk s) = r) := hr
  rw [hr]
  clear hr
  generalize hg : w.heap.size = g
  have hL1 := L.leaders.2.1
  have hL2 := L.locks.2.1
  have hL3 := L.parties.1
  unfold maxLen at hL1 hL2 hL3
  by_cases h1 : s.leaders.length < 1
  · have h1' : (s.leaders.length : Int) < 1 := by omega
    go_enter Try.func101, Try.ntmps101
    go_wp2_with ((with_reducible refine wpList_at ?_); refine wpList_boxv (by rfl) 27 (.tmp 0) (by rfl) _ (by rfl) ?_; rw [hg]; intro w1 hg1 hz1 hb1; obtain ⟨q0, q1, q2, q3, q4, q5, q6⟩ := cells7_at hg1)
    go_ret
    exact ⟨ret_bool (by rw [← HR.out, told_no (fun h => by have := h.1; omega)]), hb1⟩
  have h1' : ¬ (s.leaders.length : Int) < 1 := by omega
  by_cases h2 : 3 < s.leaders.length
  · have h2' : (3 : Int) < (s.leaders.length : Int) := by omega
    go_enter Try.func101, Try.ntmps101
    go_wp2_with ((with_reducible refine wpList_at ?_); refine wpList_boxv (by rfl) 27 (.tmp 0) (by rfl) _ (by rfl) ?_; rw [hg]; intro w1 hg1 hz1 hb1; obtain ⟨q0, q1, q2, q3, q4, q5, q6⟩ := cells7_at hg1)
    go_ret
    exact ⟨ret_bool (by rw [← HR.out, told_no (fun h => by have := h.2.1; omega)]), hb1⟩
  have h2' : ¬ (3 : Int) < (s.leaders.length : Int) := by omega
  by_cases h3 : s.locks.length ≠ s.leaders.length
  · have h3' : ((s.locks.length : Int) != (s.leaders.length : Int)) = true := nat_ne h3
    go_enter Try.func101, Try.ntmps101
    go_wp2_with ((with_reducible refine wpList_at ?_); refine wpList_boxv (by rfl) 27 (.tmp 0) (by rfl) _ (by rfl) ?_; rw [hg]; intro w1 hg1 hz1 hb1; obtain ⟨q0, q1, q2, q3, q4, q5, q6⟩ := cells7_at hg1)
    go_ret
    exact ⟨ret_bool (by rw [← HR.out, told_no (fun h => h3 h.2.2.1)]), hb1⟩
  have h3e : s.locks.length = s.leaders.length := by omega
  have h3' : ((s.locks.length : Int) != (s.leaders.length : Int)) = false := nat_same h3e
  go_enter Try.func101, Try.ntmps101
  go_wp2_with ((with_reducible refine wpList_at ?_); refine wpList_boxv (by rfl) 27 (.tmp 0) (by rfl) _ (by rfl) ?_; rw [hg]; intro w1 hg1 hz1 hb1; obtain ⟨q0, q1, q2, q3, q4, q5, q6⟩ := cells7_at hg1)
  have L1 : Lies w1 a1 a2 a3 a4 s := L.below (by rw [hg]; exact hb1)
  have Q1 : Hid (w1.cell? ⟨g, 1, none⟩ = some (.slice a1 s.parties.length c1)) := q1
  have Q3 : Hid (w1.cell? ⟨g, 3, none⟩ = some (.slice a3 s.leaders.length c3)) := q3
  have Q4 : Hid (w1.cell? ⟨g, 4, none⟩ = some (.slice a4 s.locks.length c4)) := q4
  have HL1 : Hid (Lies w1 a1 a2 a3 a4 s) := L1
  clear L L1 hg1 hz1 q0 q1 q2 q3 q4 q5 q6
  go_loopw [4] (fun i wr => ∃ k : Nat, k ≤ s.leaders.length ∧ i = .int .i64 k ∧ Hid (∀ j, j < k → leaderOk s j) ∧ Still w1 wr) (fun i _ => s.leaders.length - (intOf i).toNat)
  case atStart => exact ⟨0, by omega, rfl, fun j hj => absurd hj (by omega), Still.refl _⟩
  case round =>
    obtain ⟨i, hi, rfl, HO, hst⟩ := hrel
    by_cases hlt : i < s.leaders.length
    · have i1 : (i : Int) < (s.leaders.length : Int) := by omega
      obtain ⟨b3, o3, rfl, d3⟩ := HL1.out.leaders.2.2.2 i hlt
      obtain ⟨b4, o4, rfl, d4⟩ := HL1.out.locks.2.2.2 i (by omega)
      have HO' : Hid (leaderOk s i = (0 ≤ s.leaders.getD i 0 ∧ s.leaders.getD i 0 < (s.parties.length : Int) ∧ (s.locks.getD i ByteArray.empty).size = 32 ∧ ∀ k, k < i → s.leaders.getD k 0 ≠ s.leaders.getD i 0)) := (rfl : _ = _)
      generalize hx : s.leaders.getD i 0 = x at d3 HO'
      generalize ht : s.locks.getD i ByteArray.empty = t at d4 HO'
      have i4 : (i : Int) < (s.locks.length : Int) := by omega
      have D3 : Hid (w1.cell? ⟨b3, o3 + i, none⟩ = some (.int .i64 x)) := d3
      replace d3 := hst.cell d3
      replace d4 := hst.cell d4
      have q1 := hst.cell Q1.out
      have q3 := hst.cell Q3.out
      have q4 := hst.cell Q4.out
      clear hx ht
      by_cases x0 : x < 0
      · go_wp2
        go_quiet (fail)
        go_wp2
        go_ret
        exact ⟨ret_bool (by rw [← HR.out, told_no (fun h => by have := h.2.2.2 i hlt; rw [HO'.out] at this; omega)]), below_drewN (hst.below hb1) _⟩
      have x0' : decide (x < 0) = false := decide_eq_false x0
      by_cases x1 : (s.parties.length : Int) ≤ x
      · go_wp2
        go_quiet (fail)
        go_wp2
        go_ret
        exact ⟨ret_bool (by rw [← HR.out, told_no (fun h => by have := h.2.2.2 i hlt; rw [HO'.out] at this; omega)]), below_drewN (hst.below hb1) _⟩
      have x1' : decide ((s.parties.length : Int) ≤ x) = false := decide_eq_false x1
      by_cases x2 : t.size ≠ 32
      · have x2' : ((t.size : Int) != 32) = true := by rw [bne_iff_ne]; omega
        go_wp2
        go_quiet (fail)
        go_wp2
        go_ret
        exact ⟨ret_bool (by rw [← HR.out, told_no (fun h => by have := h.2.2.2 i hlt; rw [HO'.out] at this; exact x2 this.2.2.1)]), below_drewN (hst.below hb1) _⟩
      have x2' : ((t.size : Int) != 32) = false := by rw [bne_eq_false_iff_eq]; omega
      go_wp2
      go_quiet (fail)
      replace hst := hst.drewN nq
      generalize wr.drewN nq = w2 at hst ⊢
      clear q1 q3 q4 d3 d4 x2' x1' x0'
      go_wp2
      go_loopw [5] (fun i5 wr => ∃ k : Nat, k ≤ i ∧ i5 = .int .i64 k ∧ Hid (∀ j, j < k → s.leaders.getD j 0 ≠ x) ∧ Still w1 wr) (fun i5 _ => i - (intOf i5).toNat)
      case atStart => exact ⟨0, by omega, rfl, fun j hj => absurd hj (by omega), hst⟩
      case round =>
        clear hst
        obtain ⟨k, hk, rfl, HK, hst⟩ := hrel
        by_cases hkl : k < i
        · have k1 : (k : Int) < (i : Int) := by omega
          have k2 : (k : Int) < (s.leaders.length : Int) := by omega
          have dk := hst.cell (HL1.out.leaders.get k (by omega))
          have d3 := hst.cell D3.out
          have q3 := hst.cell Q3.out
          generalize hy : s.leaders.getD k 0 = y at dk
          have HY : Hid (s.leaders.getD k 0 = y) := hy
          clear hy
          by_cases hxy : y = x
          · have e : (y == x) = true := by rw [hxy]; exact beq_self_eq_true _
            have HXY : Hid (y = x) := hxy
            clear hxy
            go_wp2
            go_quiet (fail)
            go_wp2
            go_ret
            exact ⟨ret_bool (by rw [← HR.out, told_no (fun h => by have := h.2.2.2 i hlt; rw [HO'.out] at this; exact this.2.2.2 k hkl (by rw [HY.out, HXY.out]))]), below_drewN (hst.below hb1) _⟩
          · have e : (y == x) = false := by rw [beq_eq_false_iff_ne]; exact hxy
            go_wp2
            go_quiet (fail)
            replace hst := hst.drewN nq
            generalize wr.drewN nq = w3 at hst ⊢
            go_wp2
            go_roundw
            case rel =>
              refine ⟨k + 1, by omega, by go_num, ?_, hst⟩
              intro j hj
              by_cases hjk : j = k
              · subst hjk; rw [HY.out]; exact hxy
              · exact HK.out j (by omega)
            case measure => simp [intOf]; omega
        · have k1 : ¬ (k : Int) < (i : Int) := by omega
          go_wp2
          go_roundw
          case rel =>
            refine ⟨i + 1, by omega, by go_num, ?_, hst⟩
            intro j hj
            by_cases hjk : j = i
            · subst hjk; rw [HO'.out]; exact ⟨by omega, by omega, by omega, fun j hj => HK.out j (by omega)⟩
            · exact HO.out j (by omega)
          case measure => simp [intOf]; omega
    · have i1 : ¬ (i : Int) < (s.leaders.length : Int) := by omega
      go_wp2
      go_ret
      exact ⟨ret_bool (by rw [← HR.out, told_yes ⟨by omega, by omega, by omega, fun j hj => HO.out j (by omega)⟩]), hst.below hb1⟩

end Go.Proofs.Ythdnldbkpllciaa

/-
  The document's Check of chapter 4: parties.
-/
namespace Go.Proofs.Ythdnldbkpllciaa
open Go.RowKit

set_option maxRecDepth 10000 in
set_option maxHeartbeats 2000000 in
theorem refparties_any {w : World} {v : Value} {s : SpecM} (hv : SpecV w v s) : Calls Try.prog 102 #[v] w fun e w' => e = .returned (.bool (told (partiesOk s))) ∧ Below w.heap.size w w' := by
  obtain ⟨a1, a2, a3, a4, c1, c2, c3, c4, rfl, L⟩ := hv
  obtain ⟨r, hr⟩ : ∃ r, told (partiesOk s) = r := ⟨_, rfl⟩
  have HR : Hid (told (partiesOk s) = r) := hr
  rw [hr]
  clear hr
  generalize hg : w.heap.size = g
  have hL1 := L.leaders.2.1
  have hL3 := L.parties.1
  unfold maxLen at hL1 hL3
  by_cases h1 : s.parties.length < 2
  · have h1' : (s.parties.length : Int) < 2 := by omega
    go_enter Try.func102, Try.ntmps102
    go_wp2_with ((with_reducible refine wpList_at ?_); refine wpList_boxv (by rfl) 27 (.tmp 0) (by rfl) _ (by rfl) ?_; rw [hg]; intro w1 hg1 hz1 hb1; obtain ⟨q0, q1, q2, q3, q4, q5, q6⟩ := cells7_at hg1)
    go_ret
    exact ⟨ret_bool (by rw [← HR.out, told_no (fun h => by have := h.1; omega)]), hb1⟩
  have h1' : ¬ (s.parties.length : Int) < 2 := by omega
  by_cases h2 : 6 < s.parties.length
  · have h2' : (6 : Int) < (s.parties.length : Int) := by omega
    go_enter Try.func102, Try.ntmps102
    go_wp2_with ((with_reducible refine wpList_at ?_); refine wpList_boxv (by rfl) 27 (.tmp 0) (by rfl) _ (by rfl) ?_; rw [hg]; intro w1 hg1 hz1 hb1; obtain ⟨q0, q1, q2, q3, q4, q5, q6⟩ := cells7_at hg1)
    go_ret
    exact ⟨ret_bool (by rw [← HR.out, told_no (fun h => by have := h.2.1; omega)]), hb1⟩
  have h2' : ¬ (6 : Int) < (s.parties.length : Int) := by omega
  go_enter Try.func102, Try.ntmps102
  go_wp2_with ((with_reducible refine wpList_at ?_); refine wpList_boxv (by rfl) 27 (.tmp 0) (by rfl) _ (by rfl) ?_; rw [hg]; intro w1 hg1 hz1 hb1; obtain ⟨q0, q1, q2, q3, q4, q5, q6⟩ := cells7_at hg1)
  have L1 : Lies w1 a1 a2 a3 a4 s := L.below (by rw [hg]; exact hb1)
  have Q1 : Hid (w1.cell? ⟨g, 1, none⟩ = some (.slice a1 s.parties.length c1)) := q1
  have Q3 : Hid (w1.cell? ⟨g, 3, none⟩ = some (.slice a3 s.leaders.length c3)) := q3
  have HL1 : Hid (Lies w1 a1 a2 a3 a4 s) := L1
  have hgs : g ≤ w1.heap.size := by omega
  clear L L1 hg1 hz1 q0 q1 q2 q3 q4 q5 q6
  go_loopw [4] (fun i wr => ∃ k : Nat, k ≤ s.parties.length ∧ i = .int .i64 k ∧ Hid (∀ j, j < k → partyOk s j) ∧ Below w1.heap.size w1 wr) (fun i _ => s.parties.length - (intOf i).toNat)
  case atStart => exact ⟨0, by omega, rfl, fun j hj => absurd hj (by omega), Below.refl _ _⟩
  case round =>
    obtain ⟨i, hi, rfl, HO, hst⟩ := hrel
    by_cases hlt : i < s.parties.length
    · have i1 : (i : Int) < (s.parties.length : Int) := by omega
      obtain ⟨b1, o1, rfl, ps, d0, ka, kc, d1, hks⟩ := HL1.out.parties.2 i hlt
      obtain ⟨P, hP⟩ : ∃ P, s.parties.getD i noParty = P := ⟨_, rfl⟩
      have HO' : Hid (partyOk s i = (nameOk P.acc ∧ P.keys.length = s.leaders.length ∧ (∀ k, k < P.keys.length → (P.keys.getD k ByteArray.empty).size = 16) ∧ ∀ k, k < i → (s.parties.getD k noParty).acc ≠ P.acc)) := by
        show _ = _
        unfold partyOk; rw [hP]
      rw [hP] at ps d0 d1 hks
      clear hP
      have hkm := hks.2.1
      unfold maxLen at hkm ps
      have HKS : Hid (Strs w1 ka P.keys.length P.keys) := hks
      replace d0 := cell_on hst d0
      replace d1 := cell_on hst d1
      have q1 := cell_on hst Q1.out
      have q3 := cell_on hst Q3.out
      clear hks
      go_wp2_with fail
      have e0 : (wr.alloc (Obj.cells #[Value.string P.acc, Value.slice ka P.keys.length kc] 32)).cell? ⟨wr.heap.size, 0, none⟩ = some (.string P.acc) := by rw [World.cell?_alloc_new]; rfl
      have e1 : (wr.alloc (Obj.cells #[Value.string P.acc, Value.slice ka P.keys.length kc] 32)).cell? ⟨wr.heap.size, 1, none⟩ = some (.slice ka P.keys.length kc) := by rw [World.cell?_alloc_new]; rfl
      have hB2 : Below w1.heap.size w1 (wr.alloc (Obj.cells #[Value.string P.acc, Value.slice ka P.keys.length kc] 32)) := hst.alloc hst.size _
      clear q1 q3 d0 d1 hst
      generalize wr.alloc (Obj.cells #[Value.string P.acc, Value.slice ka P.keys.length kc] 32) = w2 at e0 e1 hB2 ⊢
      generalize wr.heap.size = gp at e0 e1 ⊢
      have q3 := cell_on hB2 Q3.out
      have HN := refname_any P.acc w2
      by_cases hn : nameOk P.acc
      · rw [told_yes hn] at HN
        have HNm : Hid (nameOk P.acc) := hn
        clear hn
        refine HN.mono ?_
        rintro e w0 ⟨rfl, hw0⟩
        subst w0
        clear HN
        by_cases hkl : P.keys.length = s.leaders.length
        · have hkl' : ((P.keys.length : Int) != (s.leaders.length : Int)) = false := nat_same hkl
          have HKL : Hid (P.keys.length = s.leaders.length) := hkl
          have E0 : Hid (w2.cell? ⟨gp, 0, none⟩ = some (.string P.acc)) := e0
          have E1 : Hid (w2.cell? ⟨gp, 1, none⟩ = some (.slice ka P.keys.length kc)) := e1
          clear hkl
          go_wp2
          clear e0 e1 q3
          go_loopw [6] (fun i6 wr => ∃ k : Nat, k ≤ P.keys.length ∧ i6 = .int .i64 k ∧ Hid (∀ j, j < k → (P.keys.getD j ByteArray.empty).size = 16) ∧ Still w2 wr) (fun i6 _ => P.keys.length - (intOf i6).toNat)
          case atStart => exact ⟨0, by omega, rfl, fun j hj => absurd hj (by omega), Still.refl _⟩
          case round =>
            obtain ⟨k, hk, rfl, HK, hst⟩ := hrel
            by_cases hkl : k < P.keys.length
            · have k1 : (k : Int) < (P.keys.length : Int) := by omega
              obtain ⟨bk, ok, rfl, dk⟩ := HKS.out.2.2.2 k hkl
              replace dk := hst.cell (cell_on hB2 dk)
              have e1 := hst.cell E1.out
              obtain ⟨t, ht⟩ : ∃ t, P.keys.getD k ByteArray.empty = t := ⟨_, rfl⟩
              rw [ht] at dk
              have HT : Hid (P.keys.getD k ByteArray.empty = t) := ht
              clear ht
              by_cases ht16 : t.size = 16
              · have t1 : ((t.size : Int) != 16) = false := by rw [bne_eq_false_iff_eq]; omega
                have HT16 : Hid (t.size = 16) := ht16
                clear ht16
                go_wp2
                go_roundw
                case rel =>
                  refine ⟨k + 1, by omega, by go_num, ?_, hst⟩
                  intro j hj
                  by_cases hjk : j = k
                  · subst hjk; rw [HT.out]; exact HT16.out
                  · exact HK.out j (by omega)
                case measure => simp [intOf]; omega
              · have t1 : ((t.size : Int) != 16) = true := by rw [bne_iff_ne]; omega
                go_wp2
                go_ret
                exact ⟨ret_bool (by rw [← HR.out, told_no (fun h => by have := h.2.2 i hlt; rw [HO'.out] at this; exact ht16 (by rw [← HT.out]; exact this.2.2.1 k hkl))]), hst.below (hb1.trans (hB2.mono hgs))⟩
            · have k1 : ¬ (k : Int) < (P.keys.length : Int) := by omega
              have HKK : Hid (∀ j, j < P.keys.length → (P.keys.getD j ByteArray.empty).size = 16) := fun j hj => HK.out j (by omega)
              have e1 := hst.cell E1.out
              clear HK
              go_wp2
              clear e1
              replace hst : Still w2 wr := hst
              go_loopw [7] (fun i7 wr => ∃ k : Nat, k ≤ i ∧ i7 = .int .i64 k ∧ Hid (∀ j, j < k → (s.parties.getD j noParty).acc ≠ P.acc) ∧ Still w2 wr) (fun i7 _ => i - (intOf i7).toNat)
              case atStart => exact ⟨0, by omega, rfl, fun j hj => absurd hj (by omega), hst⟩
              case round =>
                clear hst hk k1 hkl
                obtain ⟨k7, hk, rfl, HK7, hst⟩ := hrel
                by_cases hkl : k7 < i
                · have k1 : (k7 : Int) < (i : Int) := by omega
                  have k2 : (k7 : Int) < (s.parties.length : Int) := by omega
                  obtain ⟨ps7, d7, ka7, kc7, d71, hks7⟩ := HL1.out.parties.get k7 (by omega)
                  replace d7 := hst.cell (cell_on hB2 d7)
                  have q1 := hst.cell (cell_on hB2 Q1.out)
                  have e0 := hst.cell E0.out
                  obtain ⟨t, ht⟩ : ∃ t, (s.parties.getD k7 noParty).acc = t := ⟨_, rfl⟩
                  rw [ht] at d7
                  have HT : Hid ((s.parties.getD k7 noParty).acc = t) := ht
                  clear ht d71 hks7 ps7
                  by_cases hta : t = P.acc
                  · have t1 : (t.toList == P.acc.toList) = true := by rw [hta]; exact beq_self_eq_true _
                    have HTA : Hid (t = P.acc) := hta
                    clear hta
                    go_wp2
                    go_quiet (fail)
                    go_wp2
                    go_ret
                    exact ⟨ret_bool (by rw [← HR.out, told_no (fun h => by have := h.2.2 i hlt; rw [HO'.out] at this; exact this.2.2.2 k7 hkl (by rw [HT.out, HTA.out]))]), below_drewN (hst.below (hb1.trans (hB2.mono hgs))) _⟩
                  · have t1 : (t.toList == P.acc.toList) = false := by
                      rw [same_list, beq_eq_false_iff_ne]
                      exact fun h => hta (ByteArray.ext (Array.toList_inj.1 h))
                    go_wp2
                    go_quiet (fail)
                    replace hst := hst.drewN nq
                    generalize wr.drewN nq = w3 at hst ⊢
                    go_wp2
                    go_roundw
                    case rel =>
                      refine ⟨k7 + 1, by omega, by go_num, ?_, hst⟩
                      intro j hj
                      by_cases hjk : j = k7
                      · subst hjk; rw [HT.out]; exact hta
                      · exact HK7.out j (by omega)
                    case measure => simp [intOf]; omega
                · have k1 : ¬ (k7 : Int) < (i : Int) := by omega
                  go_wp2
                  go_roundw
                  case rel =>
                    refine ⟨i + 1, by omega, by go_num, ?_, hst.below hB2⟩
                    intro j hj
                    by_cases hjk : j = i
                    · subst hjk; rw [HO'.out]; exact ⟨HNm.out, HKL.out, HKK.out, fun j hj => HK7.out j (by omega)⟩
                    · exact HO.out j (by omega)
                  case measure => simp [intOf]; omega
        · have hkl' : ((P.keys.length : Int) != (s.leaders.length : Int)) = true := nat_ne hkl
          go_wp2
          go_ret
          exact ⟨ret_bool (by rw [← HR.out, told_no (fun h => by have := h.2.2 i hlt; rw [HO'.out] at this; exact hkl this.2.1)]), hb1.trans (hB2.mono hgs)⟩
      · rw [told_no hn] at HN
        refine HN.mono ?_
        rintro e w0 ⟨rfl, hw0⟩
        subst w0
        go_wp2
        go_ret
        exact ⟨ret_bool (by rw [← HR.out, told_no (fun h => by have := h.2.2 i hlt; rw [HO'.out] at this; exact hn this.1)]), hb1.trans (hB2.mono hgs)⟩
    · have i1 : ¬ (i : Int) < (s.parties.length : Int) := by omega
      go_wp2
      go_ret
      exact ⟨ret_bool (by rw [← HR.out, told_yes ⟨by omega, by omega, fun j hj => HO.out j (by omega)⟩]), hb1.trans (hst.mono hgs)⟩

end Go.Proofs.Ythdnldbkpllciaa
