/-
  slices.Index and slices.Contains at numbers.
-/
import Derived.Test.YtdaagjpigcejaaaSpRefS
import Derived.Test.YtdaagjpigcejaaaZ02
import Derived.BigQuiet
import Derived.Deep.QuietTactic
namespace Go.Proofs.Ytdaagjpigcejaaa
open Go.RowKit

theorem mem_getD {l : List Int} {x : Int} : x ∈ l ↔ ∃ j, j < l.length ∧ l.getD j 0 = x := by
  constructor
  · intro h
    obtain ⟨j, hj, rfl⟩ := List.mem_iff_getElem.1 h
    exact ⟨j, hj, by rw [List.getD_eq_getElem?_getD, List.getElem?_eq_getElem hj]; rfl⟩
  · rintro ⟨j, hj, rfl⟩
    exact getD_mem l j 0 hj

set_option maxRecDepth 10000 in
set_option maxHeartbeats 1000000 in
theorem index_any {w : World} {a : Option Addr} {c : Nat} {l : List Int} (ha : Ints w a l.length l) (x : Int) :
    Calls Try.prog 52 #[.slice a l.length c, .int .i64 x] w fun e w' => ∃ r : Int, e = .returned (.int .i64 r) ∧ (0 ≤ r ↔ x ∈ l) ∧ w' = w := by
  obtain ⟨n, hn⟩ : ∃ n, l.length = n := ⟨_, rfl⟩
  rw [hn] at ha ⊢
  have hl1 := ha.2.1
  unfold maxLen at hl1
  replace ha := hide ha
  replace hn := hide hn
  go_enter Try.func52, Try.ntmps52
  go_wp2
  go_loopw [8] (fun i wr => ∃ j : Nat, j ≤ n ∧ i = .int .i64 j ∧ Hid (∀ i, i < j → l.getD i 0 ≠ x) ∧ wr = w) (fun i _ => n - (intOf i).toNat)
  case atStart => exact ⟨0, by omega, rfl, fun j hj => absurd hj (by omega), rfl⟩
  case round =>
    obtain ⟨j, hj, rfl, HO, rfl⟩ := hrel
    by_cases hlt : j < n
    · have j1 : (j : Int) < (n : Int) := by omega
      obtain ⟨b1, o1, rfl, d1⟩ := ha.out.2.2.2 j hlt
      obtain ⟨y, hy⟩ : ∃ y, l.getD j 0 = y := ⟨_, rfl⟩
      rw [hy] at d1
      replace hy := hide hy
      by_cases hxy : x = y
      · have t : (x == y) = true := by rw [hxy]; exact beq_self_eq_true _
        have HM : Hid (x ∈ l) := mem_getD.2 ⟨j, by rw [hn.out]; exact hlt, by rw [hy.out, hxy]⟩
        clear hxy
        go_wp2
        go_ret
        exact ⟨_, rfl, ⟨fun _ => HM.out, fun _ => by omega⟩, rfl⟩
      · have t : (x == y) = false := by rw [beq_eq_false_iff_ne]; exact hxy
        replace hxy := hide hxy
        go_wp2
        go_roundw
        case rel =>
          refine ⟨j + 1, by omega, by go_num, fun i hi => ?_, trivial⟩
          by_cases hij : i = j
          · subst hij; rw [hy.out]; exact fun e => hxy.out e.symm
          · exact HO.out i (by omega)
        case measure => simp [intOf]; omega
    · have j1 : ¬ (j : Int) < (n : Int) := by omega
      go_wp2
      go_ret
      exact ⟨_, rfl, ⟨fun h => absurd h (by omega), fun h => by
        obtain ⟨i, hi, hx⟩ := mem_getD.1 h
        exact absurd hx (HO.out i (by rw [hn.out] at hi; omega))⟩, rfl⟩

set_option maxRecDepth 10000 in
set_option maxHeartbeats 400000 in
theorem contains_any {w : World} {a : Option Addr} {c : Nat} {l : List Int} (ha : Ints w a l.length l) (x : Int) :
    Calls Try.prog 32 #[.slice a l.length c, .int .i64 x] w fun e w' => e = .returned (.bool (told (x ∈ l))) ∧ w' = w := by
  have HI := index_any (c := c) ha x
  generalize l.length = n at HI ⊢
  replace HI := hide HI
  obtain ⟨t, ht⟩ : ∃ t, told (x ∈ l) = t := ⟨_, rfl⟩
  rw [ht]
  replace ht := hide ht
  go_enter Try.func32, Try.ntmps32
  go_wp2_with fail
  refine HI.out.mono ?_
  rintro e w0 ⟨r, rfl, hr, hw0⟩
  subst w0
  replace hr := hide hr
  go_wp2
  go_ret
  refine ⟨ret_bool ?_, rfl⟩
  rw [← ht.out]
  by_cases h : x ∈ l
  · rw [told_yes h]; exact decide_eq_true (hr.out.2 h)
  · rw [told_no h]; exact decide_eq_false (fun e => h (hr.out.1 e))

end Go.Proofs.Ytdaagjpigcejaaa

/-
  The document's Check of chapter 4: names, leaders.
-/
namespace Go.Proofs.Ytdaagjpigcejaaa
open Go.RowKit

set_option maxHeartbeats 400000 in
theorem refname_any (s : ByteArray) (w : World) : Calls Try.prog 56 #[.string s] w fun e w' => e = .returned (.bool (told (nameOk s))) ∧ w' = w := by
  obtain ⟨r, hr⟩ : ∃ r, told (nameOk s) = r := ⟨_, rfl⟩
  have HR : Hid (told (1 ≤ s.size ∧ s.size ≤ 16) = r) := hr
  rw [hr]
  clear hr
  by_cases h1 : 1 ≤ s.size
  · have h1' : (1 : Int) ≤ (s.size : Int) := by omega
    by_cases h2 : s.size ≤ 16
    · have h2' : (s.size : Int) ≤ 16 := by omega
      go_enter Try.func56, Try.ntmps56
      go_wp2
      go_ret
      exact ⟨ret_bool (by rw [← HR.out, told_yes ⟨h1, h2⟩]), rfl⟩
    · have h2' : ¬ (s.size : Int) ≤ 16 := by omega
      go_enter Try.func56, Try.ntmps56
      go_wp2
      go_ret
      exact ⟨ret_bool (by rw [← HR.out, told_no (fun h => h2 h.2)]), rfl⟩
  · have h1' : ¬ (1 : Int) ≤ (s.size : Int) := by omega
    go_enter Try.func56, Try.ntmps56
    go_wp2
    go_ret
    exact ⟨ret_bool (by rw [← HR.out, told_no (fun h => h1 h.1)]), rfl⟩

set_option maxRecDepth 10000 in
set_option maxHeartbeats 1000000 in
theorem refleaders_any {w : World} {v : Value} {s : SpecM} (hv : SpecV w v s) : Calls Try.prog 57 #[v] w fun e w' => e = .returned (.bool (told (leadersOk s))) ∧ Below w.heap.size w w' := by
  obtain ⟨a1, a2, a3, a4, c1, c2, c3, c4, rfl, L⟩ := hv
  obtain ⟨r, hr⟩ : ∃ r, told (leadersOk s) = r := ⟨_, rfl⟩
  have HR : Hid (told (leadersOk s) = r) := hr
  rw [hr]
  clear hr
  generalize hg : w.heap.size = g
  have hL1 := L.leaders.2.1
  have hL2 := L.locks.2.1
  have hL3 := L.parties.1
  unfold maxLen at hL1 hL2 hL3
  by_cases h1 : s.leaders.length < 1
  · have h1' : (s.leaders.length : Int) < 1 := by omega
    go_enter Try.func57, Try.ntmps57
    go_wp2_with ((with_reducible refine wpList_at ?_); refine wpList_boxv (by rfl) 28 (.tmp 0) (by rfl) _ (by rfl) ?_; rw [hg]; intro w1 hg1 hz1 hb1; obtain ⟨q0, q1, q2, q3, q4, q5, q6⟩ := cells7_at hg1)
    go_ret
    exact ⟨ret_bool (by rw [← HR.out, told_no (fun h => by have := h.1; omega)]), hb1⟩
  have h1' : ¬ (s.leaders.length : Int) < 1 := by omega
  by_cases h2 : 3 < s.leaders.length
  · have h2' : (3 : Int) < (s.leaders.length : Int) := by omega
    go_enter Try.func57, Try.ntmps57
    go_wp2_with ((with_reducible refine wpList_at ?_); refine wpList_boxv (by rfl) 28 (.tmp 0) (by rfl) _ (by rfl) ?_; rw [hg]; intro w1 hg1 hz1 hb1; obtain ⟨q0, q1, q2, q3, q4, q5, q6⟩ := cells7_at hg1)
    go_ret
    exact ⟨ret_bool (by rw [← HR.out, told_no (fun h => by have := h.2.1; omega)]), hb1⟩
  have h2' : ¬ (3 : Int) < (s.leaders.length : Int) := by omega
  by_cases h3 : s.locks.length ≠ s.leaders.length
  · have h3' : ((s.locks.length : Int) != (s.leaders.length : Int)) = true := nat_ne h3
    go_enter Try.func57, Try.ntmps57
    go_wp2_with ((with_reducible refine wpList_at ?_); refine wpList_boxv (by rfl) 28 (.tmp 0) (by rfl) _ (by rfl) ?_; rw [hg]; intro w1 hg1 hz1 hb1; obtain ⟨q0, q1, q2, q3, q4, q5, q6⟩ := cells7_at hg1)
    go_ret
    exact ⟨ret_bool (by rw [← HR.out, told_no (fun h => h3 h.2.2.1)]), hb1⟩
  have h3e : s.locks.length = s.leaders.length := by omega
  have h3' : ((s.locks.length : Int) != (s.leaders.length : Int)) = false := nat_same h3e
  go_enter Try.func57, Try.ntmps57
  go_wp2_with ((with_reducible refine wpList_at ?_); refine wpList_boxv (by rfl) 28 (.tmp 0) (by rfl) _ (by rfl) ?_; rw [hg]; intro w1 hg1 hz1 hb1; obtain ⟨q0, q1, q2, q3, q4, q5, q6⟩ := cells7_at hg1)
  have L1 : Lies w1 a1 a2 a3 a4 s := L.below (by rw [hg]; exact hb1)
  have Q1 : Hid (w1.cell? ⟨g, 1, none⟩ = some (.slice a1 s.parties.length c1)) := q1
  have Q3 : Hid (w1.cell? ⟨g, 3, none⟩ = some (.slice a3 s.leaders.length c3)) := q3
  have Q4 : Hid (w1.cell? ⟨g, 4, none⟩ = some (.slice a4 s.locks.length c4)) := q4
  have HL1 : Hid (Lies w1 a1 a2 a3 a4 s) := L1
  clear L L1 hg1 hz1 q0 q1 q2 q3 q4 q5 q6
  go_loopw [4] (fun i wr => ∃ k : Nat, k ≤ s.leaders.length ∧ i = .int .i64 k ∧ Hid (∀ j, j < k → leaderOk s j) ∧ Still w1 wr) (fun i _ => s.leaders.length - (intOf i).toNat)
  case atStart => exact ⟨0, by omega, rfl, fun j hj => absurd hj (by omega), Still.refl _⟩
  case round =>
    obtain ⟨i, hi, rfl, HO, hst⟩ := hrel
    by_cases hlt : i < s.leaders.length
    · have i1 : (i : Int) < (s.leaders.length : Int) := by omega
      obtain ⟨b3, o3, rfl, d3⟩ := HL1.out.leaders.2.2.2 i hlt
      obtain ⟨b4, o4, rfl, d4⟩ := HL1.out.locks.2.2.2 i (by omega)
      have HO' : Hid (leaderOk s i = (0 ≤ s.leaders.getD i 0 ∧ s.leaders.getD i 0 < (s.parties.length : Int) ∧ (s.locks.getD i ByteArray.empty).size = 32 ∧ ∀ k, k < i → s.leaders.getD k 0 ≠ s.leaders.getD i 0)) := (rfl : _ = _)
      generalize hx : s.leaders.getD i 0 = x at d3 HO'
      generalize ht : s.locks.getD i ByteArray.empty = t at d4 HO'
      have i4 : (i : Int) < (s.locks.length : Int) := by omega
      have D3 : Hid (w1.cell? ⟨b3, o3 + i, none⟩ = some (.int .i64 x)) := d3
      replace d3 := hst.cell d3
      replace d4 := hst.cell d4
      have q1 := hst.cell Q1.out
      have q3 := hst.cell Q3.out
      have q4 := hst.cell Q4.out
      clear hx ht
      by_cases x0 : x < 0
      · go_wp2
        go_quiet (fail)
        go_wp2
        go_ret
        exact ⟨ret_bool (by rw [← HR.out, told_no (fun h => by have := h.2.2.2 i hlt; rw [HO'.out] at this; omega)]), below_drewN (hst.below hb1) _⟩
      have x0' : decide (x < 0) = false := decide_eq_false x0
      by_cases x1 : (s.parties.length : Int) ≤ x
      · go_wp2
        go_quiet (fail)
        go_wp2
        go_ret
        exact ⟨ret_bool (by rw [← HR.out, told_no (fun h => by have := h.2.2.2 i hlt; rw [HO'.out] at this; omega)]), below_drewN (hst.below hb1) _⟩
      have x1' : decide ((s.parties.length : Int) ≤ x) = false := decide_eq_false x1
      by_cases x2 : t.size ≠ 32
      · have x2' : ((t.size : Int) != 32) = true := by rw [bne_iff_ne]; omega
        go_wp2
        go_quiet (fail)
        go_wp2
        go_ret
        exact ⟨ret_bool (by rw [← HR.out, told_no (fun h => by have := h.2.2.2 i hlt; rw [HO'.out] at this; exact x2 this.2.2.1)]), below_drewN (hst.below hb1) _⟩
      have x2' : ((t.size : Int) != 32) = false := by rw [bne_eq_false_iff_eq]; omega
      go_wp2
      go_quiet (fail)
      replace hst := hst.drewN nq
      generalize wr.drewN nq = w2 at hst ⊢
      clear q1 q3 q4 d3 d4 x2' x1' x0'
      go_wp2
      go_loopw [5] (fun i5 wr => ∃ k : Nat, k ≤ i ∧ i5 = .int .i64 k ∧ Hid (∀ j, j < k → s.leaders.getD j 0 ≠ x) ∧ Still w1 wr) (fun i5 _ => i - (intOf i5).toNat)
      case atStart => exact ⟨0, by omega, rfl, fun j hj => absurd hj (by omega), hst⟩
      case round =>
        clear hst
        obtain ⟨k, hk, rfl, HK, hst⟩ := hrel
        by_cases hkl : k < i
        · have k1 : (k : Int) < (i : Int) := by omega
          have k2 : (k : Int) < (s.leaders.length : Int) := by omega
          have dk := hst.cell (HL1.out.leaders.get k (by omega))
          have d3 := hst.cell D3.out
          have q3 := hst.cell Q3.out
          generalize hy : s.leaders.getD k 0 = y at dk
          have HY : Hid (s.leaders.getD k 0 = y) := hy
          clear hy
          by_cases hxy : y = x
          · have e : (y == x) = true := by rw [hxy]; exact beq_self_eq_true _
            have HXY : Hid (y = x) := hxy
            clear hxy
            go_wp2
            go_quiet (fail)
            go_wp2
            go_ret
            exact ⟨ret_bool (by rw [← HR.out, told_no (fun h => by have := h.2.2.2 i hlt; rw [HO'.out] at this; exact this.2.2.2 k hkl (by rw [HY.out, HXY.out]))]), below_drewN (hst.below hb1) _⟩
          · have e : (y == x) = false := by rw [beq_eq_false_iff_ne]; exact hxy
            go_wp2
            go_quiet (fail)
            replace hst := hst.drewN nq
            generalize wr.drewN nq = w3 at hst ⊢
            go_wp2
            go_roundw
            case rel =>
              refine ⟨k + 1, by omega, by go_num, ?_, hst⟩
              intro j hj
              by_cases hjk : j = k
              · subst hjk; rw [HY.out]; exact hxy
              · exact HK.out j (by omega)
            case measure => simp [intOf]; omega
        · have k1 : ¬ (k : Int) < (i : Int) := by omega
          go_wp2
          go_roundw
          case rel =>
            refine ⟨i + 1, by omega, by go_num, ?_, hst⟩
            intro j hj
            by_cases hjk : j = i
            · subst hjk; rw [HO'.out]; exact ⟨by omega, by omega, by omega, fun j hj => HK.out j (by omega)⟩
            · exact HO.out j (by omega)
          case measure => simp [intOf]; omega
    · have i1 : ¬ (i : Int) < (s.leaders.length : Int) := by omega
      go_wp2
      go_ret
      exact ⟨ret_bool (by rw [← HR.out, told_yes ⟨by omega, by omega, by omega, fun j hj => HO.out j (by omega)⟩]), hst.below hb1⟩

end Go.Proofs.Ytdaagjpigcejaaa
