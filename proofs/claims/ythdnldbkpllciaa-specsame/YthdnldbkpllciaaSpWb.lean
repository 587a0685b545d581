/-
  The program's write and Bytes.
-/
import Derived.Test.YthdnldbkpllciaaSpWp
import Derived.Test.YthdnldbkpllciaaSpOwnD
namespace Go.Proofs.Ythdnldbkpllciaa
open Go.RowKit

theorem spec_party {s : SpecM} (h : specOk s) (j : Nat) (hj : j < s.parties.length) : partyFits (s.parties.getD j noParty) := by
  obtain ⟨_, ⟨_, l2, _⟩, ⟨_, _, p3⟩, _⟩ := h
  obtain ⟨⟨_, k1⟩, k2, k3, _⟩ := p3 j hj
  exact ⟨by omega, by omega, fun i hi => by rw [k3 i hi]; omega⟩
theorem spec_arc {s : SpecM} (h : specOk s) (j : Nat) (hj : j < s.arcs.length) : (s.arcs.getD j noArc).asset.size ≤ 1000 := by
  obtain ⟨_, _, _, ⟨_, _, p3⟩, _⟩ := h
  obtain ⟨⟨_, _, _, _, _, _, _, ⟨_, k⟩, _⟩, _⟩ := p3 j hj
  omega
theorem spec_lock {s : SpecM} (h : specOk s) (j : Nat) (hj : j < s.locks.length) : (s.locks.getD j ByteArray.empty).size ≤ 1000 := by
  obtain ⟨_, ⟨_, _, l3, l4⟩, _⟩ := h
  obtain ⟨_, _, k, _⟩ := l4 j (by omega)
  omega
theorem getD_of {α : Type} {l : List α} {x d : α} (h : x ∈ l) : ∃ j, j < l.length ∧ l.getD j d = x := by
  obtain ⟨j, hj, e⟩ := List.getElem_of_mem h
  exact ⟨j, hj, by rw [List.getD_eq_getElem?_getD, List.getElem?_eq_getElem hj]; exact e⟩

set_option maxRecDepth 10000 in
set_option maxHeartbeats 4000000 in
theorem write_any {w : World} {a1 a2 a3 a4 : Option Addr} {c1 c2 c3 c4 : Nat} {s : SpecM} (L : Lies w a1 a2 a3 a4 s) (hok : specOk s) :
    Calls Try.prog 26 #[.agg (cells7 a1 a2 a3 a4 c1 c2 c3 c4 s)] w fun e w' => e = .returned (.string ⟨(specB s).toArray⟩) ∧ Below w.heap.size w w' := by
  have n1 : s.parties.length ≤ 6 := hok.2.2.1.2.1
  have n2 : s.arcs.length ≤ 12 := hok.2.2.2.1.2.1
  have n3 : s.leaders.length ≤ 3 := hok.2.1.2.1
  have n4 : s.locks.length ≤ 3 := by have := hok.2.1.2.2.1; omega
  have n0 : s.id.size ≤ 16 := hok.1.2
  obtain ⟨y1, hy1, hz1, HY1⟩ := ctext_ex s.id (by omega)
  obtain ⟨y2, hy2⟩ : ∃ y : ByteArray, y = ⟨(num8 (s.parties.length : Int) ++ s.parties.flatMap partyB).toArray⟩ := ⟨_, rfl⟩
  obtain ⟨y3, hy3⟩ : ∃ y : ByteArray, y = ⟨(num8 (s.arcs.length : Int) ++ s.arcs.flatMap arcB).toArray⟩ := ⟨_, rfl⟩
  obtain ⟨y4, hy4⟩ : ∃ y : ByteArray, y = ⟨(num8 (s.leaders.length : Int) ++ s.leaders.flatMap num8).toArray⟩ := ⟨_, rfl⟩
  obtain ⟨y5, hy5⟩ : ∃ y : ByteArray, y = ⟨(num8 (s.locks.length : Int) ++ s.locks.flatMap txt8).toArray⟩ := ⟨_, rfl⟩
  obtain ⟨y6, hy6, hz6, HY6⟩ := cnum_ex s.start
  obtain ⟨y7, hy7, hz7, HY7⟩ := cnum_ex s.delta
  have hz2 : y2.size ≤ 100000 := by
    rw [hy2, mk_size, List.length_append, num8_length]
    have := flat_le partyB s.parties 9100 (fun x hx => by
      obtain ⟨j, hj, e⟩ := getD_of (d := noParty) hx
      rw [← e]; exact partyB_le _ (spec_party hok j hj))
    omega
  have hz3 : y3.size ≤ 100000 := by
    rw [hy3, mk_size, List.length_append, num8_length]
    have := flat_le arcB s.arcs 1040 (fun x hx => by
      obtain ⟨j, hj, e⟩ := getD_of (d := noArc) hx
      have := spec_arc hok j hj
      rw [← e, arcB_length]; omega)
    omega
  have hz4 : y4.size ≤ 100000 := by
    rw [hy4, mk_size]
    have := numsB_length s.leaders
    unfold numsB at this
    omega
  have hz5 : y5.size ≤ 100000 := by
    rw [hy5, mk_size]
    have := textsB_le s.locks 1000 (fun j hj => spec_lock hok j hj)
    unfold textsB at this
    show (num8 (s.locks.length : Int) ++ s.locks.flatMap (fun t : ByteArray => text8 t.data.toList)).length ≤ 100000
    omega
  have HE : Hid (y1 ++ y2 ++ y3 ++ y4 ++ y5 ++ y6 ++ y7 = ⟨(specB s).toArray⟩) := by
    show _ = _
    refine bytes_of _ _ ?_
    rw [add_list, add_list, add_list, add_list, add_list, add_list, hy1, hy2, hy3, hy4, hy5, hy6, hy7]
    unfold specB numsB textsB
    show _ ++ (num8 (s.parties.length : Int) ++ s.parties.flatMap partyB) ++ (num8 (s.arcs.length : Int) ++ s.arcs.flatMap arcB) ++ (num8 (s.leaders.length : Int) ++ s.leaders.flatMap num8) ++ (num8 (s.locks.length : Int) ++ s.locks.flatMap txt8) ++ _ ++ _ = _
    unfold txt8
    simp only [List.append_assoc]
  have HY2 : ∀ W, Below w.heap.size w W → Calls Try.prog 56 #[.slice a1 s.parties.length c1, .func (.func 57) #[] #[]] W fun e w' => e = .returned (.string y2) ∧ Below W.heap.size W w' := by
    intro W hW; rw [hy2]; exact wlist_party (L.parties.below hW) (by omega) (fun j hj => spec_party hok j hj)
  have HY3 : ∀ W, Below w.heap.size w W → Calls Try.prog 58 #[.slice a2 s.arcs.length c2, .func (.func 59) #[] #[]] W fun e w' => e = .returned (.string y3) ∧ Below W.heap.size W w' := by
    intro W hW; rw [hy3]; exact wlist_arc (L.arcs.below hW) (by omega) (fun j hj => spec_arc hok j hj)
  have HY4 : ∀ W, Below w.heap.size w W → Calls Try.prog 60 #[.slice a3 s.leaders.length c3, .func (.func 61) #[] #[]] W fun e w' => e = .returned (.string y4) ∧ Below W.heap.size W w' := by
    intro W hW; rw [hy4]; exact wlist_int (L.leaders.below hW) (by omega) (fun j hj => Int.le_refl _)
  have HY5 : ∀ W, Below w.heap.size w W → Calls Try.prog 62 #[.slice a4 s.locks.length c4, .func (.func 55) #[] #[]] W fun e w' => e = .returned (.string y5) ∧ Below W.heap.size W w' := by
    intro W hW; rw [hy5]; exact wlist_str (L.locks.below hW) (by omega) (fun j hj => spec_lock hok j hj)
  have sm1 : ¬ 9223372036854775807 < y1.size + y2.size := by omega
  have sm2 : ¬ 9223372036854775807 < y1.size + y2.size + y3.size := by omega
  have sm3 : ¬ 9223372036854775807 < y1.size + y2.size + y3.size + y4.size := by omega
  have sm4 : ¬ 9223372036854775807 < y1.size + y2.size + y3.size + y4.size + y5.size := by omega
  have sm5 : ¬ 9223372036854775807 < y1.size + y2.size + y3.size + y4.size + y5.size + y6.size := by omega
  have sm6 : ¬ 9223372036854775807 < y1.size + y2.size + y3.size + y4.size + y5.size + y6.size + y7.size := by omega
  replace HY1 := hide HY1
  replace HY2 := hide HY2
  replace HY3 := hide HY3
  replace HY4 := hide HY4
  replace HY5 := hide HY5
  replace HY6 := hide HY6
  replace HY7 := hide HY7
  generalize hg : w.heap.size = g
  clear hy1 hy2 hy3 hy4 hy5 hy6 hy7 hz1 hz2 hz3 hz4 hz5 hz6 hz7 n0 n1 n2 n3 n4 hok L
  go_enter Try.func26, Try.ntmps26
  go_wp2_with ((with_reducible refine wpList_at ?_); refine wpList_boxv (by rfl) 27 (.tmp 0) (by rfl) _ (by rfl) ?_; rw [hg]; intro w1 hg1 hz1 hb1; obtain ⟨q0, q1, q2, q3, q4, q5, q6⟩ := cells7_at hg1)
  have hB : Below w.heap.size w w1 := by rw [hg]; exact hb1
  clear hg1 hz1 hb1
  go_region_held3 (fun w' => w'.cell? ⟨g, 0, none⟩ = some (.string s.id) ∧ w'.cell? ⟨g, 1, none⟩ = some (.slice a1 s.parties.length c1) ∧ w'.cell? ⟨g, 2, none⟩ = some (.slice a2 s.arcs.length c2) ∧ w'.cell? ⟨g, 3, none⟩ = some (.slice a3 s.leaders.length c3) ∧ w'.cell? ⟨g, 4, none⟩ = some (.slice a4 s.locks.length c4) ∧ w'.cell? ⟨g, 5, none⟩ = some (.int .i64 s.start) ∧ w'.cell? ⟨g, 6, none⟩ = some (.int .i64 s.delta)) (first | (exact ⟨q0, q1, q2, q3, q4, q5, q6⟩) | (go_keep; done)) (first | (go_at_call 55; (with_reducible refine (HY1.out _).mono ?_); rintro e w9 ⟨rfl, hb9⟩; (first | (replace hB := hB.trans (hb9.mono hB.size)) | (replace hB := hB.drew.trans (hb9.mono hB.size))); replace q0 := cell_on hb9 q0; replace q1 := cell_on hb9 q1; replace q2 := cell_on hb9 q2; replace q3 := cell_on hb9 q3; replace q4 := cell_on hb9 q4; replace q5 := cell_on hb9 q5; replace q6 := cell_on hb9 q6) | (go_at_call 56; (with_reducible refine (HY2.out _ hB).mono ?_); rintro e w9 ⟨rfl, hb9⟩; (first | (replace hB := hB.trans (hb9.mono hB.size)) | (replace hB := hB.drew.trans (hb9.mono hB.size))); replace q0 := cell_on hb9 q0; replace q1 := cell_on hb9 q1; replace q2 := cell_on hb9 q2; replace q3 := cell_on hb9 q3; replace q4 := cell_on hb9 q4; replace q5 := cell_on hb9 q5; replace q6 := cell_on hb9 q6) | (go_at_call 58; (with_reducible refine (HY3.out _ hB).mono ?_); rintro e w9 ⟨rfl, hb9⟩; (first | (replace hB := hB.trans (hb9.mono hB.size)) | (replace hB := hB.drew.trans (hb9.mono hB.size))); replace q0 := cell_on hb9 q0; replace q1 := cell_on hb9 q1; replace q2 := cell_on hb9 q2; replace q3 := cell_on hb9 q3; replace q4 := cell_on hb9 q4; replace q5 := cell_on hb9 q5; replace q6 := cell_on hb9 q6) | (go_at_call 60; (with_reducible refine (HY4.out _ hB).mono ?_); rintro e w9 ⟨rfl, hb9⟩; (first | (replace hB := hB.trans (hb9.mono hB.size)) | (replace hB := hB.drew.trans (hb9.mono hB.size))); replace q0 := cell_on hb9 q0; replace q1 := cell_on hb9 q1; replace q2 := cell_on hb9 q2; replace q3 := cell_on hb9 q3; replace q4 := cell_on hb9 q4; replace q5 := cell_on hb9 q5; replace q6 := cell_on hb9 q6) | (go_at_call 62; (with_reducible refine (HY5.out _ hB).mono ?_); rintro e w9 ⟨rfl, hb9⟩; (first | (replace hB := hB.trans (hb9.mono hB.size)) | (replace hB := hB.drew.trans (hb9.mono hB.size))); replace q0 := cell_on hb9 q0; replace q1 := cell_on hb9 q1; replace q2 := cell_on hb9 q2; replace q3 := cell_on hb9 q3; replace q4 := cell_on hb9 q4; replace q5 := cell_on hb9 q5; replace q6 := cell_on hb9 q6) | (go_at_call 61; (with_reducible refine (HY6.out _).mono ?_); rintro e w9 ⟨rfl, hb9⟩; (first | (replace hB := hB.trans (hb9.mono hB.size)) | (replace hB := hB.drew.trans (hb9.mono hB.size))); replace q0 := cell_on hb9 q0; replace q1 := cell_on hb9 q1; replace q2 := cell_on hb9 q2; replace q3 := cell_on hb9 q3; replace q4 := cell_on hb9 q4; replace q5 := cell_on hb9 q5; replace q6 := cell_on hb9 q6) | (go_at_call 61; (with_reducible refine (HY7.out _).mono ?_); rintro e w9 ⟨rfl, hb9⟩; (first | (replace hB := hB.trans (hb9.mono hB.size)) | (replace hB := hB.drew.trans (hb9.mono hB.size))); replace q0 := cell_on hb9 q0; replace q1 := cell_on hb9 q1; replace q2 := cell_on hb9 q2; replace q3 := cell_on hb9 q3; replace q4 := cell_on hb9 q4; replace q5 := cell_on hb9 q5; replace q6 := cell_on hb9 q6))
  all_goals
    go_wp2
    go_ret
    rw [HE.out]
    rw [hg] at hB
    exact ⟨rfl, hB⟩

set_option maxRecDepth 10000 in
set_option maxHeartbeats 1000000 in
theorem bytes_yes {w : World} {v : Value} {s : SpecM} (hv : SpecW w v s) (hok : specOk s) : Calls Try.prog 9 #[v] w fun e w' => e = .returned (.string ⟨(specB s).toArray⟩) ∧ Below w.heap.size w w' := by
  have HC : ∀ W, Below w.heap.size w W → Calls Try.prog 7 #[v] W fun e w' => e = .returned (.bool true) ∧ Below W.heap.size W w' := fun W hW => by
    have := check_spec (hv.below hW); rw [told_yes hok] at this; exact this
  obtain ⟨a1, a2, a3, a4, c1, c2, c3, c4, rfl, L, C⟩ := hv
  have HW := fun W (hW : Below w.heap.size w W) => write_any (c1 := c1) (c2 := c2) (c3 := c3) (c4 := c4) (L.below hW) hok
  generalize (⟨(specB s).toArray⟩ : ByteArray) = y at HW ⊢
  generalize hg : w.heap.size = g
  unfold cells7 at HC HW
  replace HC := hide HC
  replace HW := hide HW
  clear L C hok
  go_enter Try.func9, Try.ntmps9
  go_wp2_with ((with_reducible refine wpList_at ?_); refine wpList_boxv (by rfl) 27 (.tmp 0) (by rfl) _ (by rfl) ?_; rw [hg]; intro w1 hg1 hz1 hb1; obtain ⟨q0, q1, q2, q3, q4, q5, q6⟩ := cells7_at hg1)
  have hB : Below w.heap.size w w1 := by rw [hg]; exact hb1
  clear hg1 hz1 hb1
  refine (HC.out w1 hB).mono ?_
  rintro e w2 ⟨rfl, hb2⟩
  replace hB := below_then hB hb2
  replace q0 := cell_on hb2 q0
  replace q1 := cell_on hb2 q1
  replace q2 := cell_on hb2 q2
  replace q3 := cell_on hb2 q3
  replace q4 := cell_on hb2 q4
  replace q5 := cell_on hb2 q5
  replace q6 := cell_on hb2 q6
  clear hb2 HC
  go_wp2_with fail
  refine (HW.out w2 hB).mono ?_
  rintro e w3 ⟨rfl, hb3⟩
  replace hB := below_then hB hb3
  clear hb3 HW
  go_wp2
  go_ret
  rw [hg] at hB
  exact ⟨rfl, hB⟩

set_option maxRecDepth 10000 in
set_option maxHeartbeats 1000000 in
theorem bytes_no {w : World} {v : Value} {s : SpecM} (hv : SpecW w v s) (hok : ¬ specOk s) : Calls Try.prog 9 #[v] w fun e w' => e = .returned (.string ⟨#[]⟩) ∧ Below w.heap.size w w' := by
  have HC : ∀ W, Below w.heap.size w W → Calls Try.prog 7 #[v] W fun e w' => e = .returned (.bool false) ∧ Below W.heap.size W w' := fun W hW => by
    have := check_spec (hv.below hW); rw [told_no hok] at this; exact this
  obtain ⟨a1, a2, a3, a4, c1, c2, c3, c4, rfl, L, C⟩ := hv
  generalize hg : w.heap.size = g
  unfold cells7 at HC
  replace HC := hide HC
  clear L C hok
  go_enter Try.func9, Try.ntmps9
  go_wp2_with ((with_reducible refine wpList_at ?_); refine wpList_boxv (by rfl) 27 (.tmp 0) (by rfl) _ (by rfl) ?_; rw [hg]; intro w1 hg1 hz1 hb1; obtain ⟨q0, q1, q2, q3, q4, q5, q6⟩ := cells7_at hg1)
  have hB : Below w.heap.size w w1 := by rw [hg]; exact hb1
  clear hg1 hz1 hb1
  refine (HC.out w1 hB).mono ?_
  rintro e w2 ⟨rfl, hb2⟩
  replace hB := below_then hB hb2
  clear hb2 HC
  go_wp2
  go_ret
  rw [hg] at hB
  exact ⟨rfl, hB⟩

end Go.Proofs.Ythdnldbkpllciaa
