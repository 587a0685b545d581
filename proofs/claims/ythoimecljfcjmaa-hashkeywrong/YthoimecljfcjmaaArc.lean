/-
  The statements' arcs by numbers.
-/
import Derived.Test.YthoimecljfcjmaaZ09
import Derived.Deep.RegionHeld3
import Derived.Deep.CutRange
import Derived.Deep.CutBlock
import Derived.Deep.DrawnRows
namespace Go.Proofs.Ythoimecljfcjmaa
open Go.RowKit
attribute [local go_sem ↓] Go.wp_at_zero Go.wp_at_succ

theorem tmod_nat (a b : Nat) : ((a : Int)).tmod (b : Int) = ((a % b : Nat) : Int) := by
  rw [Int.ofNat_tmod]
theorem tdiv_nat (a b : Nat) : ((a : Int)).tdiv (b : Int) = ((a / b : Nat) : Int) := by
  rw [Int.ofNat_tdiv]
theorem ownA_more {w' : World} {B : Nat} {v' : Value} {l : List ArcM} (a : ArcM) (h : w'.ownsRow B 42 5 v' (l.length + 1) (l.flatMap acells ++ acells a)) : OwnA w' B v' (l ++ [a]) := by
  unfold OwnA; rw [List.length_append, List.flatMap_append]; simpa using h
theorem row_own {w : World} {base : Nat} {e : TypeId} {size : Nat} {v : Value} {n : Nat} {xs : List Value} (h : w.ownsRow base e size v n xs) : ∀ g, v.ownBlock = some g → base ≤ g := by
  intro g hg
  rcases h.2 with ⟨rfl, _⟩ | ⟨g', cap, cur, rfl, hb, _⟩
  · simp [Value.ownBlock] at hg
  · simp [Value.ownBlock] at hg; omega

theorem two_texts : Try.prog.underlying 74 = some (.array 2 9) := by kernel_rfl
theorem index_first (x y : ByteArray) (W : World) : Sem.run Try.prog (Instr.index 74 (.agg #[.string x, .string y]) (.int .i64 0)) W = .ok (.string x) W := by
  obtain ⟨i0, hi, hz0, hz1, hz2⟩ := info_parts Try.info9
  simp [Instr.index, asIntOf, go_sem, run_underlying two_texts, part, sizeOf, typeInfo, hi, hz1]
theorem index_second (x y : ByteArray) (W : World) : Sem.run Try.prog (Instr.index 74 (.agg #[.string x, .string y]) (.int .i64 1)) W = .ok (.string y) W := by
  obtain ⟨i0, hi, hz0, hz1, hz2⟩ := info_parts Try.info9
  simp [Instr.index, asIntOf, go_sem, run_underlying two_texts, part, sizeOf, typeInfo, hi, hz1]

set_option maxRecDepth 10000 in
set_option maxHeartbeats 2000000 in
theorem arcs_any (n bits ledgers : Nat) (h1 : 1 ≤ n) (h6 : n ≤ 6) (hb : bits < 4096) (hl : ledgers < 5) (w : World) : Calls Try.prog 29 #[.int .i64 (n : Int), .int .i64 (bits : Int), .int .i64 (ledgers : Int)] w fun e w' =>
    ∃ v, e = .returned v ∧ OwnA w' w.heap.size v (arcsP n bits ledgers) ∧ Below w.heap.size w w' := by
  have n0 : ¬ (n : Int) = 0 := by omega
  obtain ⟨B, hB⟩ : ∃ B, w.heap.size = B := ⟨_, rfl⟩
  go_enter Try.func29, Try.ntmps29
  go_wp2_with fail
  go_loopw [7, 8] (fun v i wr => ∃ j : Nat, j ≤ n ∧ i = .int .i64 j ∧ OwnA wr B v (ringL n j) ∧ Below B w wr ∧ B ≤ wr.heap.size) (fun _ i _ => n - (intOf i).toNat)
  case atStart => exact ⟨0, by omega, rfl, World.ownsRow_nil _ _ _ _, by rw [← hB]; exact Below.refl _ _, by omega⟩
  case round =>
    obtain ⟨j, hj, rfl, hown, hbel, hsz⟩ := hrel
    by_cases hlt : j < n
    · have j1 : (j : Int) < (n : Int) := by omega
      have hT : ((j : Int) + 1).tmod (n : Int) = (((j + 1) % n : Nat) : Int) := tmod_nat (j + 1) n
      have hlen := ringL_len n j
      have HLEN : Hid ((ringL n j).length = j) := hlen
      obtain ⟨t, ht⟩ : ∃ t, (j + 1) % n = t := ⟨_, rfl⟩
      rw [ht] at hT
      have HT : Hid ((j + 1) % n = t) := ht
      clear ht
      obtain ⟨va, vc, rfl⟩ := row_slice hown
      go_wp2_with (at_builtin; refine wpList_put1 (st := 24) Try.underlying24 Try.info42 rfl (by decide) (by decide) wr _ (by rfl) (.tmp 17) (.tmp 24) (by rfl) B _ _ _ (by rfl) hown (by rfl) rfl (by intro u hu; simp at hu; rcases hu with rfl | rfl | rfl | rfl | rfl <;> rfl) (by omega) hsz ?_; intro v7 w7 hown7 hg7; obtain ⟨v7a, v7c, rfl⟩ := row_slice hown7)
      go_roundw
      case rel =>
        have hO : OwnA w7 B (.slice v7a ((ringL n j).length + 1) v7c) (ringL n j ++ [bareArc j t]) := ownA_more _ hown7
        exact ⟨j + 1, by omega, by go_num, by rw [ringL, HT.out]; rw [HLEN.out] at hO; exact hO, hbel.grown hg7 (by omega) (row_own hown), Nat.le_trans hsz hg7.size⟩
      case measure => simp [intOf]; omega
    · have j1 : ¬ (j : Int) < (n : Int) := by omega
      have hjn : j = n := by omega
      rw [hjn] at hown
      obtain ⟨q0, hq0⟩ : ∃ q, q = (ringL n n, bits) := ⟨_, rfl⟩
      have HQ0 : Hid (q0 = (ringL n n, bits)) := hq0
      have hown0 : OwnA wr B u7 q0.1 := by rw [hq0]; exact hown
      have hlen0 : q0.1.length ≤ 8 := by rw [hq0]; show (ringL n n).length ≤ 8; rw [ringL_len]; omega
      have hq02 : q0.2 = bits := by rw [hq0]
      have HB0 : Hid (q0.2 < 4096) := by show q0.2 < 4096; rw [hq02]; exact hb
      clear hq0 hown
      go_wp2_with fail
      go_loopw [1, 7, 9] (fun x v i wr => ∃ a : Nat, a ≤ n ∧ i = .int .i64 a ∧ x = .int .i64 ((fillA n a q0).2 : Int) ∧ OwnA wr B v (fillA n a q0).1 ∧ Below B w wr ∧ B ≤ wr.heap.size) (fun _ _ i _ => n - (intOf i).toNat)
      case atStart => exact ⟨0, by omega, rfl, by rw [fillA, hq02], hown0, hbel, hsz⟩
      case round =>
        clear hown0 hbel hsz hq02
        obtain ⟨a, ha, rfl, rfl, hown, hbel, hsz⟩ := hrel
        by_cases hlt : a < n
        · have a1 : (a : Int) < (n : Int) := by omega
          have hlenA := fillA_len n a q0 hlen0
          have hstep : Hid (fillA n (a + 1) q0 = fillB n a n (fillA n a q0)) := rfl
          have HB : Hid ((fillA n a q0).2 < 4096) := Nat.lt_of_le_of_lt (fillA_bits n a q0) HB0.out
          generalize fillA n a q0 = q at hown hlenA hstep HB
          go_wp2_with fail
          go_loopw [1, 7, 10] (fun x v i wr => ∃ b : Nat, b ≤ n ∧ i = .int .i64 b ∧ x = .int .i64 ((fillB n a b q).2 : Int) ∧ OwnA wr B v (fillB n a b q).1 ∧ Below B w wr ∧ B ≤ wr.heap.size) (fun _ _ i _ => n - (intOf i).toNat)
          case atStart => exact ⟨0, by omega, rfl, rfl, hown, hbel, hsz⟩
          case round =>
            clear hown hbel hsz
            obtain ⟨b, hb', rfl, rfl, hown, hbel, hsz⟩ := hrel
            by_cases hltb : b < n
            · have b1 : (b : Int) < (n : Int) := by omega
              have hlenB := fillB_len n a b q hlenA
              have hstepB : Hid (fillB n a (b + 1) q = pairF n a b (fillB n a b q)) := rfl
              have hbb := Nat.lt_of_le_of_lt (fillB_bits n a b q) HB.out
              generalize fillB n a b q = p at hown hlenB hstepB hbb
              obtain ⟨pl, pb⟩ := p
              simp only at hown hlenB hbb ⊢
              have hT : ((a : Int) + 1).tmod (n : Int) = (((a + 1) % n : Nat) : Int) := tmod_nat (a + 1) n
              have hD : (pb : Int).tdiv 2 = ((pb / 2 : Nat) : Int) := tdiv_nat pb 2
              obtain ⟨t, ht⟩ : ∃ t, (a + 1) % n = t := ⟨_, rfl⟩
              rw [ht] at hT
              obtain ⟨va, vc, rfl⟩ := row_slice hown
              by_cases c1 : a = b
              · have HP : Hid (pairF n a b (pl, pb) = (pl, pb)) := by show _ = _; unfold pairF; rw [if_pos (.inl c1)]
                have c1' : ((a : Int) == (b : Int)) = true := by rw [c1]; exact beq_self_eq_true _
                clear ht hT hD
                replace c1 := hide c1
                go_wp2_with fail
                go_roundw
                case rel => exact ⟨b + 1, by omega, by go_num, by rw [hstepB.out, HP.out] <;> simp, by rw [hstepB.out, HP.out]; exact hown, hbel, hsz⟩
                case measure => simp [intOf]; omega
              have c1' : ((a : Int) == (b : Int)) = false := by rw [beq_eq_false_iff_ne]; omega
              by_cases c2 : b = t
              · have HP : Hid (pairF n a b (pl, pb) = (pl, pb)) := by show _ = _; unfold pairF; rw [if_pos (.inr (by rw [ht]; exact c2))]
                have c2' : ((b : Int) == (t : Int)) = true := by rw [c2]; exact beq_self_eq_true _
                clear hD
                replace ht := hide ht
                replace c2 := hide c2
                go_wp2_with fail
                go_roundw
                case rel => exact ⟨b + 1, by omega, by go_num, by rw [hstepB.out, HP.out] <;> simp, by rw [hstepB.out, HP.out]; exact hown, hbel, hsz⟩
                case measure => simp [intOf]; omega
              have c2' : ((b : Int) == (t : Int)) = false := by rw [beq_eq_false_iff_ne]; omega
              have c12 : ¬ (a = b ∨ b = (a + 1) % n) := by rw [ht]; exact fun h => h.elim c1 c2
              by_cases c3 : pb % 2 = 1 ∧ pl.length < 8
              · have HP : Hid (pairF n a b (pl, pb) = (pl ++ [bareArc a b], pb / 2)) := by show _ = _; unfold pairF; rw [if_neg c12, if_pos c3]
                have c3' : (pb : Int).tmod 2 = 1 := by have := tmod_nat pb 2; rw [c3.1] at this; exact this
                have c4 : (pl.length : Int) < 8 := by omega
                have hlt8 := c3.2
                clear ht c12 c3
                go_wp2_with (at_builtin; refine wpList_put1 (st := 24) Try.underlying24 Try.info42 rfl (by decide) (by decide) wr _ (by rfl) (.tmp 55) (.tmp 59) (by rfl) B _ _ _ (by rfl) hown (by rfl) rfl (by intro u hu; simp at hu; rcases hu with rfl | rfl | rfl | rfl | rfl <;> rfl) (by omega) hsz ?_; intro v7 w7 hown7 hg7; obtain ⟨v7a, v7c, rfl⟩ := row_slice hown7)
                have hO : OwnA w7 B (.slice v7a (pl.length + 1) v7c) (pl ++ [bareArc a b]) := ownA_more _ hown7
                go_roundw
                case rel => exact ⟨b + 1, by omega, by go_num, by rw [hstepB.out, HP.out] <;> simp, by rw [hstepB.out, HP.out]; exact hO, hbel.grown hg7 (by omega) (row_own hown), Nat.le_trans hsz hg7.size⟩
                case measure => simp [intOf]; omega
              have HP : Hid (pairF n a b (pl, pb) = (pl, pb / 2)) := by show _ = _; unfold pairF; rw [if_neg c12, if_neg c3]
              by_cases c4 : pb % 2 = 1
              · have c3' : (pb : Int).tmod 2 = 1 := by have := tmod_nat pb 2; rw [c4] at this; exact this
                have c5 : ¬ (pl.length : Int) < 8 := by omega
                clear ht c12 c3 c4
                go_wp2_with fail
                go_roundw
                case rel => exact ⟨b + 1, by omega, by go_num, by rw [hstepB.out, HP.out] <;> simp, by rw [hstepB.out, HP.out]; exact hown, hbel, hsz⟩
                case measure => simp [intOf]; omega
              · have c3' : (pb : Int).tmod 2 = 0 := by have := tmod_nat pb 2; rw [show pb % 2 = 0 by omega] at this; exact this
                clear ht c12 c3 c4
                go_wp2_with fail
                go_roundw
                case rel => exact ⟨b + 1, by omega, by go_num, by rw [hstepB.out, HP.out] <;> simp, by rw [hstepB.out, HP.out]; exact hown, hbel, hsz⟩
                case measure => simp [intOf]; omega
            · have b1 : ¬ (b : Int) < (n : Int) := by omega
              have hbn : b = n := by omega
              rw [hbn]
              go_wp2_with fail
              go_roundw
              case rel => exact ⟨a + 1, by omega, by go_num, by rw [hstep.out], by rw [hstep.out]; rw [hbn] at hown; exact hown, hbel, hsz⟩
              case measure => simp [intOf]; omega
        · have a1 : ¬ (a : Int) < (n : Int) := by omega
          have han : a = n := by omega
          rw [han] at hown ⊢
          have HE : Hid ((fillA n n q0).1.mapIdx (deck (fillA n n q0).2 ledgers) = arcsP n bits ledgers) := by
            show _ = _; unfold arcsP; rw [HQ0.out]
          have hlenA := fillA_len n n q0 hlen0
          have hbA := Nat.lt_of_le_of_lt (fillA_bits n n q0) HB0.out
          generalize fillA n n q0 = q at hown hlenA hbA HE ⊢
          obtain ⟨L, pb⟩ := q
          simp only at hown hlenA hbA HE ⊢
          obtain ⟨va, vc, rfl⟩ := row_slice hown
          clear han a1 hlt ha HQ0 HB0 hlen0
          go_wp2_with fail
          go_loopw [11] (fun i wr => ∃ j : Nat, j ≤ L.length ∧ i = .int .i64 j ∧ OwnA wr B (.slice va L.length vc) (decked pb ledgers L j) ∧ Below B w wr ∧ B ≤ wr.heap.size) (fun i _ => L.length - (intOf i).toNat)
          case atStart => exact ⟨0, by omega, rfl, by rw [decked_zero]; exact hown, hbel, hsz⟩
          case round =>
            clear hown hbel hsz
            obtain ⟨j, hj, rfl, hown, hbel, hsz⟩ := hrel
            by_cases hltj : j < L.length
            · have j1 : (j : Int) < (L.length : Int) := by omega
              have hdl := decked_len pb ledgers L j
              have hat := decked_at pb ledgers L j hltj
              have HD : Hid (decked pb ledgers L (j + 1) = (decked pb ledgers L j).set j (deck pb ledgers j (L.getD j noArc))) := decked_succ pb ledgers L j hltj
              obtain ⟨g, rfl, hgB, hcell⟩ : ∃ g, va = some ⟨g, 0, none⟩ ∧ B ≤ g ∧ ∀ i, i < L.length * 5 → wr.cell? ⟨g, i, none⟩ = ((decked pb ledgers L j).flatMap acells)[i]? := by
                obtain ⟨a', c', hv, _, _, hx⟩ := row_at hown
                rw [hdl] at hx hv
                injection hv with hv _ _
                subst hv
                exact hx (by omega)
              have hown' : wr.ownsRow B 42 5 (.slice (some ⟨g, 0, none⟩) L.length vc) L.length ((decked pb ledgers L j).flatMap acells) := by have := hown; unfold OwnA at this; rw [hdl] at this; exact this
              have c2 : wr.cell? ⟨g, j * 5 + 2, none⟩ = some (.int .i64 (L.getD j noArc).ledger) := by rw [hcell _ (by omega), acells_at _ j (by omega) 2 (by omega), hat]; rfl
              have f2 := World.ownsRow.frozenAt hown' (j * 5 + 2)
              have hl3 : (ledgers : Int).tmod 3 = ((ledgers % 3 : Nat) : Int) := tmod_nat ledgers 3
              have hl4 : ((j : Int) + (ledgers : Int)).tmod (1 + ((ledgers % 3 : Nat) : Int)) = (((j + ledgers) % (1 + ledgers % 3) : Nat) : Int) := by
                have := tmod_nat (j + ledgers) (1 + ledgers % 3); push_cast at this ⊢; exact this
              have hl5 : ¬ (1 + ((ledgers % 3 : Nat) : Int)) = 0 := by omega
              have hl6 : ledgers % 3 < 3 := Nat.mod_lt _ (by omega)
              have hj8 : (j : Int) < 8 := by omega
              obtain ⟨hs1, hg1⟩ := World.ownsRow.stored hown' (j * 5 + 2) (.int .i64 (((j : Int) + (ledgers : Int)) % (1 + (ledgers : Int) % 3)))
              replace hs1 := hide hs1
              replace hg1 := hide hg1
              have HC : Hid (∀ i, i < L.length * 5 → wr.cell? ⟨g, i, none⟩ = ((decked pb ledgers L j).flatMap acells)[i]?) := hcell
              replace hown := hide hown
              replace hown' := hide hown'
              replace hat := hide hat
              clear hcell
              go_upto_region 20 with fail
              clear c2 f2 hl3 hl4 hl5
              have HX : Hid (((j : Int) + (ledgers : Int)) % (1 + (ledgers : Int) % 3) = (((j + ledgers) % (1 + ledgers % 3) : Nat) : Int)) := by show _ = _; push_cast; rfl
              generalize ((j : Int) + (ledgers : Int)) % (1 + (ledgers : Int) % 3) = x2 at hs1 hg1 HX ⊢
              have hbel1 := hbel.grown hg1.out hsz (fun k hk => by injection hk with hk; omega)
              have hsz1 := Nat.le_trans hsz hg1.out.size
              generalize hw1 : wr.setCell ⟨g, j * 5 + 2, none⟩ (.int .i64 x2) = w1 at hs1 hg1 hbel1 hsz1 ⊢
              clear hw1 hg1 hbel hsz hown hown' HC
              have k3 : w1.cell? ⟨g, j * 5 + 3, none⟩ = some (.string (L.getD j noArc).asset) := by
                rw [World.ownsRow.cellAt hs1.out _ (by omega), List.getElem?_set_ne (by omega), acells_at _ j (by omega) 3 (by omega), hat.out]; rfl
              have g3 := World.ownsRow.frozenAt hs1.out (j * 5 + 3)
              have hm : ((j : Int) + (pb : Int)).tmod 2 = (((j + pb) % 2 : Nat) : Int) := tmod_nat (j + pb) 2
              have j9 : (j : Int) + (pb : Int) < 9000 := by omega
              obtain ⟨x3, hx3, hm2⟩ : ∃ x3, x3 = (if (j + pb) % 2 = 0 then gold else salt) ∧ (((j + pb) % 2 = 0 ∧ x3 = ⟨#[103, 111, 108, 100]⟩) ∨ ((j + pb) % 2 = 1 ∧ x3 = ⟨#[115, 97, 108, 116]⟩)) := by
                refine ⟨_, rfl, ?_⟩
                by_cases h : (j + pb) % 2 = 0
                · exact .inl ⟨h, if_pos h⟩
                · exact .inr ⟨by omega, if_neg h⟩
              obtain ⟨hs2, hg2⟩ := World.ownsRow.stored hs1.out (j * 5 + 3) (.string x3)
              replace hs2 := hide hs2
              replace hg2 := hide hg2
              have hbel2 := hbel1.grown hg2.out hsz1 (fun k hk => by injection hk with hk; omega)
              have hsz2 := Nat.le_trans hsz1 hg2.out.size
              replace hbel2 := hide hbel2
              replace hx3 := hide hx3
              have hsz2' := hide hsz2
              clear hsz2
              rcases hm2 with ⟨h0, hx⟩ | ⟨h0, hx⟩
              all_goals
                rw [h0] at hm
                clear h0
                subst hx
                replace hs1 := hide hs1.out
                have ix1 := index_first ⟨#[103, 111, 108, 100]⟩ ⟨#[115, 97, 108, 116]⟩
                have ix2 := index_second ⟨#[103, 111, 108, 100]⟩ ⟨#[115, 97, 108, 116]⟩
                go_upto_region 21 with fail
                clear k3 g3 hm ix1 ix2
                generalize hx3e : (⟨_⟩ : ByteArray) = x3 at hs2 hg2 hbel2 hsz2' hx3 ⊢
                generalize hw2 : w1.setCell ⟨g, j * 5 + 3, none⟩ (.string x3) = w2 at hs2 hg2 hbel2 hsz2' ⊢
                clear hw2 hg2 hs1 hbel1 hsz1 hx3e
                have k4 : w2.cell? ⟨g, j * 5 + 4, none⟩ = some (.int .i64 (L.getD j noArc).amount) := by
                  rw [World.ownsRow.cellAt hs2.out _ (by omega), List.getElem?_set_ne (by omega), List.getElem?_set_ne (by omega), acells_at _ j (by omega) 4 (by omega), hat.out]; rfl
                have g4 := World.ownsRow.frozenAt hs2.out (j * 5 + 4)
                obtain ⟨hs3, hg3⟩ := World.ownsRow.stored hs2.out (j * 5 + 4) (.int .i64 (1 + (7 * (j : Int) + (ledgers : Int)) % 20))
                have hbel3 := hbel2.out.grown hg3 hsz2'.out (fun k hk => by injection hk with hk; omega)
                have hsz3 := Nat.le_trans hsz2'.out hg3.size
                have hm4 : (7 * (j : Int) + (ledgers : Int)).tmod 20 = (7 * (j : Int) + (ledgers : Int)) % 20 := by rw [Int.tmod_eq_emod_of_nonneg (by omega)]
                replace hs3 := hide hs3
                replace hbel3 := hide hbel3
                replace hsz3 := hide hsz3
                clear hg3
                go_wp2_with fail
                go_roundw
                case rel =>
                  refine ⟨j + 1, by omega, by go_num, ?_, hbel3.out, hsz3.out⟩
                  unfold OwnA
                  rw [decked_len, HD.out, acells_set _ j (by omega) _ (by rw [hat.out]; rfl) (by rw [hat.out]; rfl)]
                  have h9 := hs3.out
                  rw [HX.out, hx3.out] at h9
                  have e4 : (1 + (7 * (j : Int) + (ledgers : Int)) % 20) = ((1 + (7 * j + ledgers) % 20 : Nat) : Int) := by push_cast; rfl
                  rw [e4] at h9
                  exact h9
                case measure => simp [intOf]; omega
            · have j1 : ¬ (j : Int) < (L.length : Int) := by omega
              have hjl : j = L.length := by omega
              rw [hjl, decked_all, HE.out] at hown
              replace hown := hide hown
              go_wp2_with fail
              go_ret
              exact ⟨_, rfl, hown.out, hbel⟩

end Go.Proofs.Ythoimecljfcjmaa
