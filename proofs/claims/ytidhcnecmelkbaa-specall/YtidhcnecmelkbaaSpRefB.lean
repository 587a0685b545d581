/-
  The document's Bytes of chapter 4.
-/
import Derived.Test.YtidhcnecmelkbaaSpRefC
import Derived.Test.YtidhcnecmelkbaaSpNum
import Derived.Deep.RegionHeld3
import Derived.Deep.DrawnRows
namespace Go.Proofs.Ytidhcnecmelkbaa
open Go.RowKit

theorem nums_ex (l : List Int) (hl : l.length ≤ 1000) : ∃ y : ByteArray, y.data.toList = numsB l ∧ y.size = 8 + 8 * l.length ∧ ∀ w a c, Ints w a l.length l → Calls Try.prog 55 #[.slice a l.length c] w fun e w' => e = .returned (.string y) ∧ Below w.heap.size w w' :=
  ⟨⟨(numsB l).toArray⟩, rfl, by rw [mk_size, numsB_length], fun w a c h => (refnums_any (c := c) h hl).mono (by rintro e w' ⟨y, hy, rfl, hb⟩; exact ⟨by rw [bytes_of _ y hy], hb⟩)⟩
theorem texts_ex (l : List ByteArray) (m : Nat) (hl : l.length ≤ 1000) (hm : m ≤ 1000) (h : ∀ j, j < l.length → (l.getD j ByteArray.empty).size ≤ m) : ∃ y : ByteArray, y.data.toList = textsB l ∧ y.size ≤ 8 + (8 + m) * l.length ∧ ∀ w a c, Strs w a l.length l → Calls Try.prog 54 #[.slice a l.length c] w fun e w' => e = .returned (.string y) ∧ Below w.heap.size w w' :=
  ⟨⟨(textsB l).toArray⟩, rfl, by rw [mk_size]; exact textsB_le l m h, fun w a c h2 => (reftextsB_any (c := c) h2 hl (fun j hj => Nat.le_trans (h j hj) hm)).mono (by rintro e w' ⟨y, hy, _, rfl, hb⟩; exact ⟨by rw [bytes_of _ y hy], hb⟩)⟩

theorem arc_new0 (w : World) (A : ArcM) (h : In64 A.src ∧ In64 A.dst ∧ In64 A.ledger ∧ In64 A.amount ∧ A.asset.size ≤ maxLen) :
    ArcAt (w.alloc (Obj.cells #[Value.int IntKind.i64 A.src, Value.int IntKind.i64 A.dst, Value.int IntKind.i64 A.ledger, Value.string A.asset, Value.int IntKind.i64 A.amount] 43)) w.heap.size 0 A :=
  ⟨h.1, h.2.1, h.2.2.1, h.2.2.2.1, h.2.2.2.2, by rw [World.cell?_alloc_new]; rfl, by rw [World.cell?_alloc_new]; rfl, by rw [World.cell?_alloc_new]; rfl, by rw [World.cell?_alloc_new]; rfl, by rw [World.cell?_alloc_new]; rfl⟩

set_option maxRecDepth 10000 in
set_option maxHeartbeats 4000000 in
theorem refbytes_no {w : World} {v : Value} {s : SpecM} (hv : SpecV w v s) (hno : ¬ specOk s) : Calls Try.prog 16 #[v] w fun e w' => e = .returned (.string ⟨#[]⟩) ∧ Below w.heap.size w w' := by
  obtain ⟨a1, a2, a3, a4, c1, c2, c3, c4, rfl, L⟩ := hv
  generalize hg : w.heap.size = g
  have HCk : ∀ W, Lies W a1 a2 a3 a4 s → _ := fun W hW => refcheck_any (w := W) (s := s) ⟨a1, a2, a3, a4, c1, c2, c3, c4, rfl, hW⟩
  rw [told_no hno] at HCk
  unfold cells7 at HCk
  go_enter Try.func16, Try.ntmps16
  go_wp2_with ((with_reducible refine wpList_at ?_); refine wpList_boxv (by rfl) 27 (.tmp 0) (by rfl) _ (by rfl) ?_; rw [hg]; intro w1 hg1 hz1 hb1; obtain ⟨q0, q1, q2, q3, q4, q5, q6⟩ := cells7_at hg1)
  have L1 : Lies w1 a1 a2 a3 a4 s := L.below (by rw [hg]; exact hb1)
  refine (HCk _ L1).mono ?_
  rintro e w2 ⟨rfl, hb2⟩
  go_wp2
  go_ret
  exact ⟨rfl, hb1.trans (hb2.mono (by omega))⟩

set_option maxRecDepth 10000 in
set_option maxHeartbeats 8000000 in
theorem refbytes_yes {w : World} {v : Value} {s : SpecM} (hv : SpecV w v s) (hok : specOk s) : Calls Try.prog 16 #[v] w fun e w' => ∃ y : ByteArray, y.data.toList = specB s ∧ e = .returned (.string y) ∧ Below w.heap.size w w' := by
  obtain ⟨a1, a2, a3, a4, c1, c2, c3, c4, rfl, L⟩ := hv
  generalize hg : w.heap.size = g
  have HCk : ∀ W, Lies W a1 a2 a3 a4 s → _ := fun W hW => refcheck_any (w := W) (s := s) ⟨a1, a2, a3, a4, c1, c2, c3, c4, rfl, hW⟩
  rw [told_yes hok] at HCk
  unfold cells7 at HCk
  have HOK : Hid (specOk s) := hok
  obtain ⟨⟨z1, hid⟩, ⟨z2, hnl, hlk, hlds⟩, ⟨z3, hnp, hpts⟩, ⟨z4, hna, harcs⟩, z5⟩ := hok
  clear z1 z2 z3 z4 z5
  obtain ⟨x0, hx0, hs0, HT0⟩ := r3text_ex s.id (by omega)
  obtain ⟨x1, hx1, hs1, HN1⟩ := r3num_ex (s.parties.length : Int)
  obtain ⟨x2, hx2, hs2, HN2⟩ := r3num_ex (s.arcs.length : Int)
  obtain ⟨x3, hx3, hs3, HN3⟩ := nums_ex s.leaders (by omega)
  obtain ⟨x4, hx4, hs4, HN4⟩ := texts_ex s.locks 32 (by omega) (by omega) (fun j hj => by have := (hlds j (by omega)).2.2.1; omega)
  obtain ⟨x5, hx5, hs5, HN5⟩ := r3num_ex s.start
  obtain ⟨x6, hx6, hs6, HN6⟩ := r3num_ex s.delta
  have HX0 : Hid (x0.data.toList = text8 s.id.data.toList) := hx0
  have HX1 : Hid (x1.data.toList = num8 (s.parties.length : Int)) := hx1
  have HX2 : Hid (x2.data.toList = num8 (s.arcs.length : Int)) := hx2
  have HX3 : Hid (x3.data.toList = numsB s.leaders) := hx3
  have HX4 : Hid (x4.data.toList = textsB s.locks) := hx4
  have HX5 : Hid (x5.data.toList = num8 s.start) := hx5
  have HX6 : Hid (x6.data.toList = num8 s.delta) := hx6
  have HPT : Hid (∀ i, i < s.parties.length → partyOk s i) := hpts
  have HAT : Hid (∀ i, i < s.arcs.length → arcOk s i) := harcs
  clear hx0 hx1 hx2 hx3 hx4 hx5 hx6 hlds hpts harcs
  replace HT0 := hide HT0
  replace HN1 := hide HN1
  replace HN2 := hide HN2
  replace HN3 := hide HN3
  replace HN4 := hide HN4
  replace HN5 := hide HN5
  replace HN6 := hide HN6
  replace hs0 := hide hs0
  replace hs1 := hide hs1
  replace hs2 := hide hs2
  replace hs3 := hide hs3
  replace hs4 := hide hs4
  replace hs5 := hide hs5
  replace hs6 := hide hs6
  replace hlk := hide hlk
  replace hid := hide hid
  replace hnl := hide hnl
  replace hnp := hide hnp
  replace hna := hide hna
  go_enter Try.func16, Try.ntmps16
  go_wp2_with ((with_reducible refine wpList_at ?_); refine wpList_boxv (by rfl) 27 (.tmp 0) (by rfl) _ (by rfl) ?_; rw [hg]; intro w1 hg1 hz1 hb1; obtain ⟨q0, q1, q2, q3, q4, q5, q6⟩ := cells7_at hg1)
  have hgs : g ≤ w1.heap.size := by omega
  have L1 : Lies w1 a1 a2 a3 a4 s := L.below (by rw [hg]; exact hb1)
  have HL1 : Hid (Lies w1 a1 a2 a3 a4 s) := L1
  refine (HCk _ L1).mono ?_
  rintro e w2 ⟨rfl, hB⟩
  replace q0 := cell_on hB q0
  replace q1 := cell_on hB q1
  replace q2 := cell_on hB q2
  replace q3 := cell_on hB q3
  replace q4 := cell_on hB q4
  replace q5 := cell_on hB q5
  replace q6 := cell_on hB q6
  clear L L1 HCk hz1
  go_wp2_with fail
  have sm1 : ¬ 9223372036854775807 < x0.size + x1.size := by have := hs0.out; have := hs1.out; have := hid.out; omega
  go_region_held3 (fun w' => w'.cell? ⟨g, 0, none⟩ = some (.string s.id) ∧ w'.cell? ⟨g, 1, none⟩ = some (.slice a1 s.parties.length c1)) (first | (exact ⟨q0, q1⟩) | (go_keep; done)) (first | (go_at_call 52; (with_reducible refine (HT0.out _).mono ?_); rintro e w9 ⟨rfl, hb9⟩; (first | (replace hB := below_then hB hb9) | (replace hB := below_then hB.drew hb9)); replace q0 := cell_on hb9 q0; replace q1 := cell_on hb9 q1; replace q2 := cell_on hb9 q2; replace q3 := cell_on hb9 q3; replace q4 := cell_on hb9 q4; replace q5 := cell_on hb9 q5; replace q6 := cell_on hb9 q6) | (go_at_call 53; (with_reducible refine (HN1.out _).mono ?_); rintro e w9 ⟨rfl, hb9⟩; (first | (replace hB := below_then hB hb9) | (replace hB := below_then hB.drew hb9)); replace q0 := cell_on hb9 q0; replace q1 := cell_on hb9 q1; replace q2 := cell_on hb9 q2; replace q3 := cell_on hb9 q3; replace q4 := cell_on hb9 q4; replace q5 := cell_on hb9 q5; replace q6 := cell_on hb9 q6))
  go_wp2
  have hxs0 : (x0 ++ x1).size ≤ 32 := by rw [ByteArray.size_append, hs0.out, hs1.out]; have := hid.out; omega
  have HXX : Hid ((x0 ++ x1).data.toList = text8 s.id.data.toList ++ num8 (s.parties.length : Int)) := by show _ = _; rw [add_list, HX0.out, HX1.out]
  generalize x0 ++ x1 = xx at hxs0 HXX ⊢
  have hnp' := hnp.out
  have hna' := hna.out
  have hnl' := hnl.out
  clear q0 sm1 HX0 HX1 HT0 HN1 hs0 hs1
  have Q1 : Hid (∀ W, Below w1.heap.size w1 W → W.cell? ⟨g, 1, none⟩ = some (.slice a1 s.parties.length c1)) := fun W h => cell_on h (cells7_at hg1).2.1
  have Q2 : Hid (∀ W, Below w1.heap.size w1 W → W.cell? ⟨g, 2, none⟩ = some (.slice a2 s.arcs.length c2)) := fun W h => cell_on h (cells7_at hg1).2.2.1
  have Q3 : Hid (∀ W, Below w1.heap.size w1 W → W.cell? ⟨g, 3, none⟩ = some (.slice a3 s.leaders.length c3)) := fun W h => cell_on h (cells7_at hg1).2.2.2.1
  have Q4 : Hid (∀ W, Below w1.heap.size w1 W → W.cell? ⟨g, 4, none⟩ = some (.slice a4 s.locks.length c4)) := fun W h => cell_on h (cells7_at hg1).2.2.2.2.1
  have Q5 : Hid (∀ W, Below w1.heap.size w1 W → W.cell? ⟨g, 5, none⟩ = some (.int .i64 s.start)) := fun W h => cell_on h (cells7_at hg1).2.2.2.2.2.1
  have Q6 : Hid (∀ W, Below w1.heap.size w1 W → W.cell? ⟨g, 6, none⟩ = some (.int .i64 s.delta)) := fun W h => cell_on h (cells7_at hg1).2.2.2.2.2.2
  clear q1 q2 q3 q4 q5 q6 hg1
  go_loopw [3, 4] (fun sv i wr => ∃ (j : Nat) (x : ByteArray), j ≤ s.parties.length ∧ i = .int .i64 j ∧ sv = .string x ∧ x.size ≤ 32 + 104 * j ∧ Hid (x.data.toList = text8 s.id.data.toList ++ num8 (s.parties.length : Int) ++ (s.parties.take j).flatMap partyB) ∧ Below w1.heap.size w1 wr) (fun _ i _ => s.parties.length - (intOf i).toNat)
  case atStart => exact ⟨0, xx, by omega, rfl, rfl, by omega, by show _ = _; rw [HXX.out]; simp, hB⟩
  case round =>
    clear hB HXX hxs0
    obtain ⟨j, x, hj, rfl, rfl, hxs, HX, hB⟩ := hrel
    by_cases hlt : j < s.parties.length
    · have j1 : (j : Int) < (s.parties.length : Int) := by omega
      obtain ⟨b1, o1, rfl, _, d0, ka, kc, d1, hks⟩ := HL1.out.parties.2 j hlt
      obtain ⟨⟨_, hac⟩, hkl, hkz, _⟩ := HPT.out j hlt
      obtain ⟨P, hP⟩ : ∃ P, s.parties.getD j noParty = P := ⟨_, rfl⟩
      rw [hP] at d0 d1 hks hac hkl hkz
      have HP : Hid (s.parties.getD j noParty = P) := hP
      clear hP
      obtain ⟨y1, hy1, hz1, HY1⟩ := r3text_ex P.acc (by omega)
      obtain ⟨y2, hy2, hz2, HY2⟩ := texts_ex P.keys 16 (by omega) (by omega) (fun i hi => by have := hkz i hi; omega)
      have HB : Hid (y1.data.toList = text8 P.acc.data.toList) := hy1
      have HC : Hid (y2.data.toList = textsB P.keys) := hy2
      have sz : x.size + y1.size + y2.size ≤ 32 + 104 * (j + 1) := by rw [hkl] at hz2; omega
      have sm1 : ¬ 9223372036854775807 < x.size + y1.size := by omega
      have sm2 : ¬ 9223372036854775807 < x.size + y1.size + y2.size := by omega
      replace d0 := cell_on hB d0
      replace d1 := cell_on hB d1
      have q1 := Q1.out _ hB
      have HKS : Hid (Strs w1 ka P.keys.length P.keys) := hks
      replace HY1 := hide HY1
      replace HY2 := hide HY2
      replace sz := hide sz
      clear hy1 hy2 hz1 hz2 hac hkl hkz hks
      go_wp2_with fail
      go_region_held3 (fun w' => w'.cell? ⟨g, 1, none⟩ = some (.slice (some ⟨b1, o1, none⟩) s.parties.length c1) ∧ w'.cell? ⟨b1, o1 + j * 2, none⟩ = some (.string P.acc) ∧ w'.cell? ⟨b1, o1 + j * 2 + 1, none⟩ = some (.slice ka P.keys.length kc)) (first | (exact ⟨q1, d0, d1⟩) | (go_keep; done)) (first | (go_at_call 52; (with_reducible refine (HY1.out _).mono ?_); rintro e w9 ⟨rfl, hb9⟩; (first | (replace hB := below_then hB hb9) | (replace hB := below_then hB.drew hb9)); replace q1 := cell_on hb9 q1; replace d0 := cell_on hb9 d0; replace d1 := cell_on hb9 d1) | (go_at_call 54; (with_reducible refine (HY2.out _ _ _ (HKS.out.below hB)).mono ?_); rintro e w9 ⟨rfl, hb9⟩; (first | (replace hB := below_then hB hb9) | (replace hB := below_then hB.drew hb9)); replace q1 := cell_on hb9 q1; replace d0 := cell_on hb9 d0; replace d1 := cell_on hb9 d1))
      all_goals
        go_wp2
        go_roundw
        case rel =>
          refine ⟨j + 1, x ++ y1 ++ y2, by omega, by go_num, rfl, by rw [ByteArray.size_append, ByteArray.size_append]; exact sz.out, ?_, hB⟩
          show _ = _
          rw [add_list, add_list, HX.out, HB.out, HC.out, take_flat partyB s.parties noParty j hlt, HP.out]
          simp only [partyB, List.append_assoc]
        case measure => simp [intOf]; omega
    · have j1 : ¬ (j : Int) < (s.parties.length : Int) := by omega
      have q1 := Q1.out _ hB
      have q2 := Q2.out _ hB
      have sm1 : ¬ 9223372036854775807 < x.size + x2.size := by have := hs2.out; omega
      have sm1' : (x.size : Int) + (x2.size : Int) ≤ 10000 := by have := hs2.out; omega
      have HX' : Hid (x.data.toList = text8 s.id.data.toList ++ num8 (s.parties.length : Int) ++ s.parties.flatMap partyB) := by
        have := HX.out
        rw [List.take_of_length_le (by omega)] at this
        exact this
      clear HX
      go_wp2_with (go_at_call 53; (with_reducible refine (HN2.out _).mono ?_); rintro e w9 ⟨rfl, hb9⟩; replace hB := below_then hB hb9; replace q2 := cell_on hb9 q2)
      have hxs0 : (x ++ x2).size ≤ 672 := by rw [ByteArray.size_append, hs2.out]; omega
      have HXX : Hid ((x ++ x2).data.toList = text8 s.id.data.toList ++ num8 (s.parties.length : Int) ++ s.parties.flatMap partyB ++ num8 (s.arcs.length : Int)) := by show _ = _; rw [add_list, HX'.out, HX2.out]
      generalize x ++ x2 = xx at hxs0 HXX ⊢
      clear q1 q2 sm1 sm1' HX' HN2 hs2 HX2
      go_loopw [3, 5] (fun sv i wr => ∃ (j : Nat) (x : ByteArray), j ≤ s.arcs.length ∧ i = .int .i64 j ∧ sv = .string x ∧ x.size ≤ 672 + 56 * j ∧ Hid (x.data.toList = text8 s.id.data.toList ++ num8 (s.parties.length : Int) ++ s.parties.flatMap partyB ++ num8 (s.arcs.length : Int) ++ (s.arcs.take j).flatMap arcB) ∧ Below w1.heap.size w1 wr) (fun _ i _ => s.arcs.length - (intOf i).toNat)
      case atStart => exact ⟨0, xx, by omega, rfl, rfl, by omega, by show _ = _; rw [HXX.out]; simp, hB⟩
      case round =>
        clear hB HXX hxs0 hlt j1 hj hxs
        obtain ⟨j5, x, hj, rfl, rfl, hxs, HX, hB⟩ := hrel
        have q2 := Q2.out _ hB
        by_cases hlt : j5 < s.arcs.length
        · have j1 : (j5 : Int) < (s.arcs.length : Int) := by omega
          obtain ⟨b2, o2, rfl, hA⟩ := HL1.out.arcs.2 j5 hlt
          obtain ⟨⟨_, _, _, _, _, _, _, ⟨_, has⟩, _, _⟩, _⟩ := HAT.out j5 hlt
          obtain ⟨P, hP⟩ : ∃ P, s.arcs.getD j5 noArc = P := ⟨_, rfl⟩
          rw [hP] at hA has
          have HP : Hid (s.arcs.getD j5 noArc = P) := hP
          clear hP
          obtain ⟨u1, u2, u3, u4, u5, d0, d1, d2, d3, d4⟩ := hA.below hB
          obtain ⟨y1, hy1, hz1, HY1⟩ := r3num_ex P.src
          obtain ⟨y2, hy2, hz2, HY2⟩ := r3num_ex P.dst
          obtain ⟨y3, hy3, hz3, HY3⟩ := r3num_ex P.ledger
          obtain ⟨y4, hy4, hz4, HY4⟩ := r3text_ex P.asset (by omega)
          obtain ⟨y5, hy5, hz5, HY5⟩ := r3num_ex P.amount
          have HB : Hid (y1.data.toList = num8 P.src ∧ y2.data.toList = num8 P.dst ∧ y3.data.toList = num8 P.ledger ∧ y4.data.toList = text8 P.asset.data.toList ∧ y5.data.toList = num8 P.amount) := ⟨hy1, hy2, hy3, hy4, hy5⟩
          have sz : x.size + y1.size + y2.size + y3.size + y4.size + y5.size ≤ 672 + 56 * (j5 + 1) := by omega
          have sm1 : ¬ 9223372036854775807 < x.size + y1.size := by omega
          have sm2 : ¬ 9223372036854775807 < x.size + y1.size + y2.size := by omega
          have sm3 : ¬ 9223372036854775807 < x.size + y1.size + y2.size + y3.size := by omega
          have sm4 : ¬ 9223372036854775807 < x.size + y1.size + y2.size + y3.size + y4.size := by omega
          have sm5 : ¬ 9223372036854775807 < x.size + y1.size + y2.size + y3.size + y4.size + y5.size := by omega
          have HU : Hid (In64 P.src ∧ In64 P.dst ∧ In64 P.ledger ∧ In64 P.amount ∧ P.asset.size ≤ maxLen) := ⟨u1, u2, u3, u4, u5⟩
          replace sm1 := hide sm1
          replace sm2 := hide sm2
          replace sm3 := hide sm3
          replace sm4 := hide sm4
          replace sm5 := hide sm5
          replace HY1 := hide HY1
          replace HY2 := hide HY2
          replace HY3 := hide HY3
          replace HY4 := hide HY4
          replace HY5 := hide HY5
          replace sz := hide sz
          clear u1 u2 u3 u4 u5 hy1 hy2 hy3 hy4 hy5 hz1 hz2 hz3 hz4 hz5 has hA
          go_wp2_with fail
          have hE := arc_new0 wr P HU.out
          replace hB := hB.alloc hB.size (Obj.cells #[Value.int IntKind.i64 P.src, Value.int IntKind.i64 P.dst, Value.int IntKind.i64 P.ledger, Value.string P.asset, Value.int IntKind.i64 P.amount] 43)
          clear q2 d0 d1 d2 d3 d4 HU
          generalize wr.alloc (Obj.cells #[Value.int IntKind.i64 P.src, Value.int IntKind.i64 P.dst, Value.int IntKind.i64 P.ledger, Value.string P.asset, Value.int IntKind.i64 P.amount] 43) = w3 at hE hB ⊢
          generalize wr.heap.size = gp at hE ⊢
          obtain ⟨_, _, _, _, _, e0, e1, e2, e3, e4⟩ := hE
          simp only [Nat.zero_add] at e0 e1 e2 e3 e4
          replace sm1 := sm1.out
          replace sm2 := sm2.out
          replace sm3 := sm3.out
          replace sm4 := sm4.out
          replace sm5 := sm5.out
          go_region_held3 (fun w' => w'.cell? ⟨gp, 0, none⟩ = some (.int .i64 P.src) ∧ w'.cell? ⟨gp, 1, none⟩ = some (.int .i64 P.dst) ∧ w'.cell? ⟨gp, 2, none⟩ = some (.int .i64 P.ledger) ∧ w'.cell? ⟨gp, 3, none⟩ = some (.string P.asset) ∧ w'.cell? ⟨gp, 4, none⟩ = some (.int .i64 P.amount)) (first | (exact ⟨e0, e1, e2, e3, e4⟩) | (go_keep; done)) (first | (go_at_call 53; (with_reducible refine (HY1.out _).mono ?_); rintro e w9 ⟨rfl, hb9⟩; (first | (replace hB := below_then hB hb9) | (replace hB := below_then hB.drew hb9)); replace e0 := cell_on hb9 e0; replace e1 := cell_on hb9 e1; replace e2 := cell_on hb9 e2; replace e3 := cell_on hb9 e3; replace e4 := cell_on hb9 e4) | (go_at_call 53; (with_reducible refine (HY2.out _).mono ?_); rintro e w9 ⟨rfl, hb9⟩; (first | (replace hB := below_then hB hb9) | (replace hB := below_then hB.drew hb9)); replace e0 := cell_on hb9 e0; replace e1 := cell_on hb9 e1; replace e2 := cell_on hb9 e2; replace e3 := cell_on hb9 e3; replace e4 := cell_on hb9 e4) | (go_at_call 53; (with_reducible refine (HY3.out _).mono ?_); rintro e w9 ⟨rfl, hb9⟩; (first | (replace hB := below_then hB hb9) | (replace hB := below_then hB.drew hb9)); replace e0 := cell_on hb9 e0; replace e1 := cell_on hb9 e1; replace e2 := cell_on hb9 e2; replace e3 := cell_on hb9 e3; replace e4 := cell_on hb9 e4) | (go_at_call 52; (with_reducible refine (HY4.out _).mono ?_); rintro e w9 ⟨rfl, hb9⟩; (first | (replace hB := below_then hB hb9) | (replace hB := below_then hB.drew hb9)); replace e0 := cell_on hb9 e0; replace e1 := cell_on hb9 e1; replace e2 := cell_on hb9 e2; replace e3 := cell_on hb9 e3; replace e4 := cell_on hb9 e4) | (go_at_call 53; (with_reducible refine (HY5.out _).mono ?_); rintro e w9 ⟨rfl, hb9⟩; (first | (replace hB := below_then hB hb9) | (replace hB := below_then hB.drew hb9)); replace e0 := cell_on hb9 e0; replace e1 := cell_on hb9 e1; replace e2 := cell_on hb9 e2; replace e3 := cell_on hb9 e3; replace e4 := cell_on hb9 e4))
          all_goals
            go_wp2
            go_roundw
            case rel =>
              refine ⟨j5 + 1, x ++ y1 ++ y2 ++ y3 ++ y4 ++ y5, by omega, by go_num, rfl, by simp only [ByteArray.size_append]; exact sz.out, ?_, hB⟩
              show _ = _
              obtain ⟨g1, g2, g3, g4, g5⟩ := HB.out
              rw [add_list, add_list, add_list, add_list, add_list, HX.out, g1, g2, g3, g4, g5, take_flat arcB s.arcs noArc j5 hlt, HP.out]
              simp only [arcB, List.append_assoc]
            case measure => simp [intOf]; omega
        · have j1 : ¬ (j5 : Int) < (s.arcs.length : Int) := by omega
          have HX' : Hid (x.data.toList = text8 s.id.data.toList ++ num8 (s.parties.length : Int) ++ s.parties.flatMap partyB ++ num8 (s.arcs.length : Int) ++ s.arcs.flatMap arcB) := by
            have := HX.out
            rw [List.take_of_length_le (by omega)] at this
            exact this
          have q3 := Q3.out _ hB
          have q4 := Q4.out _ hB
          have q5 := Q5.out _ hB
          have q6 := Q6.out _ hB
          have t3 := hs3.out
          have t4 := hs4.out
          have t5 := hs5.out
          have t6 := hs6.out
          have hlk' := hlk.out
          have sm1 : ¬ 9223372036854775807 < x.size + x3.size := by omega
          have sm2 : ¬ 9223372036854775807 < x.size + x3.size + x4.size := by omega
          have sm3 : ¬ 9223372036854775807 < x.size + x3.size + x4.size + x5.size := by omega
          have sm4 : ¬ 9223372036854775807 < x.size + x3.size + x4.size + x5.size + x6.size := by omega
          clear t3 t4 t5 t6 hlk' HX
          go_wp2_with fail
          clear q2
          go_region_held3 (fun w' => w'.cell? ⟨g, 3, none⟩ = some (.slice a3 s.leaders.length c3) ∧ w'.cell? ⟨g, 4, none⟩ = some (.slice a4 s.locks.length c4) ∧ w'.cell? ⟨g, 5, none⟩ = some (.int .i64 s.start) ∧ w'.cell? ⟨g, 6, none⟩ = some (.int .i64 s.delta)) (first | (exact ⟨q3, q4, q5, q6⟩) | (go_keep; done)) (first | (go_at_call 55; (with_reducible refine (HN3.out _ _ _ ((HL1.out.leaders.below hB).below (Still.refl _).drew.on)).mono ?_); rintro e w9 ⟨rfl, hb9⟩; (first | (replace hB := below_then hB hb9) | (replace hB := below_then hB.drew hb9)); replace q3 := cell_on hb9 q3; replace q4 := cell_on hb9 q4; replace q5 := cell_on hb9 q5; replace q6 := cell_on hb9 q6) | (go_at_call 54; (with_reducible refine (HN4.out _ _ _ (HL1.out.locks.below hB)).mono ?_); rintro e w9 ⟨rfl, hb9⟩; (first | (replace hB := below_then hB hb9) | (replace hB := below_then hB.drew hb9)); replace q3 := cell_on hb9 q3; replace q4 := cell_on hb9 q4; replace q5 := cell_on hb9 q5; replace q6 := cell_on hb9 q6) | (go_at_call 53; (with_reducible refine (HN5.out _).mono ?_); rintro e w9 ⟨rfl, hb9⟩; (first | (replace hB := below_then hB hb9) | (replace hB := below_then hB.drew hb9)); replace q3 := cell_on hb9 q3; replace q4 := cell_on hb9 q4; replace q5 := cell_on hb9 q5; replace q6 := cell_on hb9 q6) | (go_at_call 53; (with_reducible refine (HN6.out _).mono ?_); rintro e w9 ⟨rfl, hb9⟩; (first | (replace hB := below_then hB hb9) | (replace hB := below_then hB.drew hb9)); replace q3 := cell_on hb9 q3; replace q4 := cell_on hb9 q4; replace q5 := cell_on hb9 q5; replace q6 := cell_on hb9 q6))
          all_goals
            go_wp2
            go_ret
            refine ⟨x ++ x3 ++ x4 ++ x5 ++ x6, ?_, rfl, hb1.trans (hB.mono hgs)⟩
            rw [add_list, add_list, add_list, add_list, HX'.out, HX3.out, HX4.out, HX5.out, HX6.out]; rfl

end Go.Proofs.Ytidhcnecmelkbaa
