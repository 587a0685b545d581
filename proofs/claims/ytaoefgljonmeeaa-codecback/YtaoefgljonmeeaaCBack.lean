/-
  The walk of CodecBack.
-/
import Derived.Test.YtaoefgljonmeeaaCodWake
import Derived.Test.YtaoefgljonmeeaaCodBack
import Derived.Test.YtaoefgljonmeeaaPlace
import Derived.Test.YtaoefgljonmeeaaArgs
import Derived.Deep.RegionHeld3
import Derived.Deep.DrawnRows
namespace Go.Proofs.Ytaoefgljonmeeaa
open Go.RowKit

theorem num_ex (v : Int) : ∃ y : ByteArray, y.data.toList = num8 v ∧ y.size = 8 ∧ ∀ w, Calls Try.prog 18 #[.int .i64 v] w fun e w' => e = .returned (.string y) ∧ Below w.heap.size w w' :=
  ⟨⟨(num8 v).toArray⟩, rfl, by rw [mk_size, num8_length], num_any v⟩
theorem text_ex (t : ByteArray) (h : t.size ≤ 1099511627776) : ∃ y : ByteArray, y.data.toList = text8 t.data.toList ∧ y.size = 8 + t.size ∧ ∀ w, Calls Try.prog 19 #[.string t] w fun e w' => e = .returned (.string y) ∧ Below w.heap.size w w' :=
  ⟨⟨(text8 t.data.toList).toArray⟩, rfl, by rw [mk_size, text8_length, len_list], text_any t h⟩

set_option maxRecDepth 10000 in
set_option maxHeartbeats 8000000 in
theorem back_any (a1 : Option Addr) (n1 c1 : Nat) (l1 : List Int) (a2 : Option Addr) (n2 c2 : Nat) (l2 : List ByteArray) (cut : Int) (_wc : (Lit.int .i64 cut).wf = true) (w : World) (hw1 : Ints w a1 n1 l1) (hw2 : Strs w a2 n2 l2) :
    Calls Try.prog 4 #[.slice a1 n1 c1, .slice a2 n2 c2, .int .i64 cut] w fun e w' => e = .returned (.bool true) ∧ Below w.heap.size w w' := by
  have h1m := hw1.2.1
  have h2m := hw2.2.1
  unfold maxLen at h1m h2m
  by_cases hbig : 30 < n1
  · have hbig' : (30 : Int) < (n1 : Int) := by omega
    go_enter Try.func4, Try.ntmps4
    go_wp2_with (go_at_call 7; refine (awake_any _).mono ?_; rintro e w1 ⟨rfl, hb1⟩)
    go_ret
    exact ⟨rfl, hb1⟩
  by_cases hbig2 : 30 < n2
  · have h0 : ¬ (30 : Int) < (n1 : Int) := by omega
    have hbig' : (30 : Int) < (n2 : Int) := by omega
    go_enter Try.func4, Try.ntmps4
    go_wp2_with (go_at_call 7; refine (awake_any _).mono ?_; rintro e w1 ⟨rfl, hb1⟩)
    go_ret
    exact ⟨rfl, hb1⟩
  have h1s : ¬ (30 : Int) < (n1 : Int) := by omega
  have h2s : ¬ (30 : Int) < (n2 : Int) := by omega
  clear h1m h2m hbig hbig2
  have HL1 : Hid (l1.length = n1) := hw1.1
  have HL2 : Hid (l2.length = n2) := hw2.1
  go_enter Try.func4, Try.ntmps4
  go_wp2
  go_loopw [7, 8] (fun sv i wr => ∃ (k : Nat) (x : ByteArray), (k ≤ n1 ∨ k ≤ n2) ∧ i = .int .i64 k ∧ sv = .string x ∧ Hid (x.data.toList = whole l1 l2 k) ∧ x.size ≤ 116 * k ∧ Hid (∀ j, j < k → j < n2 → (l2.getD j ByteArray.empty).size ≤ 100) ∧ Below w.heap.size w wr) (fun _ i _ => n1 + n2 - (intOf i).toNat)
  case atStart => exact ⟨0, ⟨#[]⟩, .inl (by omega), rfl, rfl, rfl, by decide, fun j hj => absurd hj (by omega), Below.refl _ _⟩
  case round =>
    obtain ⟨k, x, hk, rfl, rfl, HX, hxs, HS, hb⟩ := hrel
    by_cases hk1 : k < n1
    · have k1 : (k : Int) < (n1 : Int) := by omega
      obtain ⟨b1, o1, rfl, hc1⟩ := hw1.at hb k hk1
      obtain ⟨y, hy, hys, HN⟩ := num_ex (l1.getD k 0)
      have HY : Hid (y.data.toList = num8 (l1.getD k 0)) := hy
      generalize l1.getD k 0 = v1 at hc1 HN
      have hsum : (x.size : Int) + (y.size : Int) ≤ 4000 := by omega
      clear hy
      by_cases hk2 : k < n2
      · have k2 : (k : Int) < (n2 : Int) := by omega
        obtain ⟨b2, o2, rfl, hc2⟩ := hw2.at hb k hk2
        have hts := hw2.2.2.1 k hk2
        unfold maxLen at hts
        obtain ⟨t, ht⟩ : ∃ t, l2.getD k ByteArray.empty = t := ⟨_, rfl⟩
        rw [ht] at hc2 hts
        have HT : Hid (l2.getD k ByteArray.empty = t) := ht
        clear ht hw1 hw2
        go_wp2_with fail
        refine (HN _).mono ?_
        rintro e w1 ⟨rfl, hb1⟩
        have hB1 := below_then hb hb1
        have hd2 := cell_on hb1 hc2
        clear hc2 hb1 hb HN
        by_cases h100 : 100 < t.size
        · have t1 : (100 : Int) < (t.size : Int) := by omega
          go_wp2_with (go_at_call 7; refine (awake_any _).mono ?_; rintro e w2 ⟨rfl, hb2⟩)
          go_ret
          exact ⟨rfl, below_then hB1 hb2⟩
        · have t1 : (t.size : Int) ≤ 100 := by omega
          obtain ⟨z, hz, hzs, HTx⟩ := text_ex t (by omega)
          have HZ : Hid (z.data.toList = text8 t.data.toList) := hz
          have hxy : (x ++ y).size ≤ 116 * k + 8 := by rw [ByteArray.size_append]; omega
          have hsum2 : (x.size : Int) + (y.size : Int) + (z.size : Int) ≤ 4000 := by omega
          clear hz hts
          go_wp2_with fail
          refine (HTx _).mono ?_
          rintro e w2 ⟨rfl, hb2⟩
          clear HTx
          go_wp2
          go_roundw
          case rel =>
            refine ⟨k + 1, x ++ y ++ z, by omega, by go_num, rfl, ?_, by rw [ByteArray.size_append]; omega, ?_, below_then hB1 hb2⟩
            · show _ = _
              rw [add_list, add_list, HX.out, HY.out, HZ.out, whole_succ, piece_both _ _ _ (by rw [HL1.out]; exact hk1) (by rw [HL2.out]; exact hk2), HT.out, List.append_assoc]
            · intro j hj hj2
              by_cases hjk : j = k
              · subst hjk; rw [HT.out]; omega
              · exact HS.out j (by omega) hj2
          case measure => simp [intOf]; omega
      · have k2 : ¬ (k : Int) < (n2 : Int) := by omega
        clear hw1 hw2
        go_wp2_with fail
        refine (HN _).mono ?_
        rintro e w1 ⟨rfl, hb1⟩
        clear HN
        go_wp2
        go_roundw
        case rel =>
          refine ⟨k + 1, x ++ y, by omega, by go_num, rfl, ?_, by rw [ByteArray.size_append]; omega, ?_, below_then hb hb1⟩
          · show _ = _
            rw [add_list, HX.out, HY.out, whole_succ, piece_num _ _ _ (by rw [HL1.out]; exact hk1) (by rw [HL2.out]; exact hk2)]
          · intro j hj hj2
            exact HS.out j (by omega) hj2
        case measure => simp [intOf]; omega
    · have k1 : ¬ (k : Int) < (n1 : Int) := by omega
      by_cases hk2 : k < n2
      · have k2 : (k : Int) < (n2 : Int) := by omega
        obtain ⟨b2, o2, rfl, hc2⟩ := hw2.at hb k hk2
        have hts := hw2.2.2.1 k hk2
        unfold maxLen at hts
        obtain ⟨t, ht⟩ : ∃ t, l2.getD k ByteArray.empty = t := ⟨_, rfl⟩
        rw [ht] at hc2 hts
        have HT : Hid (l2.getD k ByteArray.empty = t) := ht
        clear ht hw1 hw2
        by_cases h100 : 100 < t.size
        · have t1 : (100 : Int) < (t.size : Int) := by omega
          go_wp2_with (go_at_call 7; refine (awake_any _).mono ?_; rintro e w2 ⟨rfl, hb2⟩)
          go_ret
          exact ⟨rfl, below_then hb hb2⟩
        · have t1 : (t.size : Int) ≤ 100 := by omega
          obtain ⟨z, hz, hzs, HTx⟩ := text_ex t (by omega)
          have HZ : Hid (z.data.toList = text8 t.data.toList) := hz
          have hsum2 : (x.size : Int) + (z.size : Int) ≤ 4000 := by omega
          clear hz hts
          go_wp2_with fail
          refine (HTx _).mono ?_
          rintro e w2 ⟨rfl, hb2⟩
          clear HTx
          go_wp2
          go_roundw
          case rel =>
            refine ⟨k + 1, x ++ z, by omega, by go_num, rfl, ?_, by rw [ByteArray.size_append]; omega, ?_, below_then hb hb2⟩
            · show _ = _
              rw [add_list, HX.out, HZ.out, whole_succ, piece_text _ _ _ (by rw [HL1.out]; exact hk1) (by rw [HL2.out]; exact hk2), HT.out]
            · intro j hj hj2
              by_cases hjk : j = k
              · subst hjk; rw [HT.out]; omega
              · exact HS.out j (by omega) hj2
          case measure => simp [intOf]; omega
      · have k2 : ¬ (k : Int) < (n2 : Int) := by omega
        by_cases hk0 : k = 0
        · have hx0 : x = ⟨#[]⟩ := bare x (by omega)
          have z1 : (n1 : Int) = 0 := by omega
          have z2 : (n2 : Int) = 0 := by omega
          subst hx0
          clear hw1 hw2
          go_wp2_with (go_at_call 7; refine (awake_any _).mono ?_; rintro e w2 ⟨rfl, hb2⟩)
          go_ret
          exact ⟨rfl, below_then hb hb2⟩
        · have hne : x.data.toList ≠ [] := by
            rw [HX.out]
            exact whole_ne _ _ _ (by omega) (by rw [HL1.out, HL2.out]; omega)
          have hpos : 0 < x.size := by
            rw [← len_list]
            exact List.length_pos_iff.2 hne
          have hq : (x.toList == ByteArray.toList ⟨#[]⟩) = false := by rw [same_list, beq_eq_false_iff_ne]; exact hne
          obtain ⟨p, hp, HP⟩ := place_ex cut (x.size : Int) (by omega) (by omega)
          have hxs2 : x.size ≤ 3480 := by omega
          have hps : (p : Int) ≤ (x.size : Int) := by omega
          have HC : Hid (Cut ((x.extract 0 p).data.toList, false) (onward l1 l2 0 k)) := by
            rw [onward_all, ← HX.out, extract_list, List.drop_zero, Nat.sub_zero]
            exact cut_take _ _ (by rw [len_list]; omega)
          have HX2 : Hid (x.data.toList = onward l1 l2 0 k) := by rw [onward_all]; exact HX.out
          have hel : (x.extract 0 p).size ≤ 3480 := by rw [ByteArray.size_extract]; omega
          clear hne hpos HX
          go_wp2_with ((with_reducible refine wpList_at ?_); refine wpList_same (by rfl) (.tmp 62) _ (by rfl) x _ (by rfl) (by rfl) false hq ?_)
          refine (anew_any x _ HX2.out _).mono ?_
          rintro e w1 ⟨g, rfl, hr1, hg, hb1⟩
          have hgw := Nat.le_trans hb.size hg
          have hB1 := below_then hb hb1
          clear hg hb1 hb
          go_wp2_with fail
          refine (HP _).mono ?_
          rintro e w0 ⟨rfl, hw0⟩
          subst w0
          clear HP
          go_wp2_with fail
          refine (anew_any (x.extract 0 p) _ rfl _).mono ?_
          rintro e w2 ⟨h, rfl, hc2, hh, hb2⟩
          have hhw := Nat.le_trans hB1.size hh
          have hgh : g ≠ h := by have := hr1.lt; omega
          have hr2 := hr1.below hb2
          have hB2 := below_then hB1 hb2
          have hrl2 : (onward l1 l2 0 k).length ≤ 3480 := by rw [← HX2.out, len_list]; exact hxs2
          have hcl2 : ((x.extract 0 p).data.toList, false).1.length ≤ 3480 := by show (x.extract 0 p).data.toList.length ≤ 3480; rw [len_list]; exact hel
          clear hh hr1 hB1 hb2 hq hps hp hxs hxs2 hel HX2
          go_wp2_with fail
          go_loopw [11] (fun i wr => ∃ (j : Nat) (rc : (List UInt8 × Bool)), j ≤ k ∧ i = .int .i64 j ∧ At 42 wr g (onward l1 l2 j (k - j), false) ∧ At 42 wr h rc ∧ Hid (Cut rc (onward l1 l2 j (k - j))) ∧ (onward l1 l2 j (k - j)).length ≤ 3480 ∧ rc.1.length ≤ 3480 ∧ Below w.heap.size w wr) (fun i _ => k - (intOf i).toNat)
          case atStart => exact ⟨0, _, by omega, rfl, hr2, hc2, HC.out, hrl2, hcl2, hB2⟩
          case round =>
            clear hr2 hc2 HC hrl2 hcl2 hB2
            obtain ⟨j, rc, hjk, rfl, hr, hc, HCu, hrl, hcl, hb⟩ := hrel
            by_cases hj1 : j < n1
            · have j1 : (j : Int) < (n1 : Int) := by omega
              obtain ⟨b1, o1, rfl, hc1⟩ := hw1.at hb j hj1
              have hv1 := hw1.2.2.1 j hj1
              have hb1 := hw1.lt (by omega)
              have hn1g : b1 ≠ g := by omega
              have hn1h : b1 ≠ h := by omega
              obtain ⟨v1, hv⟩ : ∃ v, l1.getD j 0 = v := ⟨_, rfl⟩
              rw [hv] at hc1 hv1
              have HV : Hid (l1.getD j 0 = v1) := hv
              clear hv hb1
              by_cases hj2 : j < n2
              · have j2 : (j : Int) < (n2 : Int) := by omega
                obtain ⟨b2, o2, rfl, hc2⟩ := hw2.at hb j hj2
                have hb2 := hw2.lt (by omega)
                have hn2g : b2 ≠ g := by omega
                have hn2h : b2 ≠ h := by omega
                have t1 := HS.out j (by omega) hj2
                obtain ⟨t, ht⟩ : ∃ t, l2.getD j ByteArray.empty = t := ⟨_, rfl⟩
                rw [ht] at hc2 t1
                have HT : Hid (l2.getD j ByteArray.empty = t) := ht
                replace t1 : (t.size : Int) ≤ 100 := by omega
                clear ht hb2 hw1 hw2
                have HE : Hid (onward l1 l2 j (k - j) = num8 v1 ++ (text8 t.data.toList ++ onward l1 l2 (j + 1) (k - (j + 1)))) := by
                  show _ = _
                  rw [show k - j = (k - (j + 1)) + 1 by omega, onward_succ, piece_both _ _ _ (by rw [HL1.out]; exact hj1) (by rw [HL2.out]; exact hj2), HV.out, HT.out, List.append_assoc]
                generalize onward l1 l2 j (k - j) = ρ at HE hr HCu hrl
                generalize hρ : onward l1 l2 (j + 1) (k - (j + 1)) = ρ2 at HE
                have HR2 : Hid (onward l1 l2 (j + 1) (k - (j + 1)) = ρ2) := hρ
                clear hρ
                have he := HE.out
                subst he
                clear HE
                have hl2 : ρ2.length ≤ 3480 := by
                  refine Nat.le_trans ?_ hrl
                  simp only [List.length_append]; omega
                have HNc := rnum_any hc
                have HC1 : Hid (Cut (numS rc) (text8 t.data.toList ++ ρ2)) := cut_num rc v1 (text8 t.data.toList ++ ρ2) HCu.out
                have hcl1 := Nat.le_trans (num_le rc) hcl
                go_wp2_with fail
                refine HNc.mono ?_
                rintro e w3 ⟨rfl, hc3, hb3, hz3⟩
                have hr3 := hr.but hb3 hgh
                have hB3 := hb.trans (hb3.below hhw hb.size)
                have hd1 := hb3.cell hn1h hc1
                have hd2 := hb3.cell hn2h hc2
                generalize numS rc = rc1 at hc3 HC1 hcl1
                generalize numV rc.1 = vc
                have HA3 : Hid (At 42 w3 g (num8 v1 ++ (text8 t.data.toList ++ ρ2), false)) := hr3
                have HAc3 : Hid (At 42 w3 h rc1) := hc3
                clear hr hc hb HCu hcl hrl hb3 hz3 HNc hr3 hc3 hc1 hc2
                go_wp2_with fail
                go_region_held3 (fun w' => w'.cell? ⟨b1, o1 + j, none⟩ = some (.int .i64 v1)) (first | (go_keep; done) | (exact hb4.cell hn1g (by assumption)) | (exact hb4.cell hn1g hd1))
                  ((go_at_call 10; refine (rnum_at v1 hv1 HA3.out.drew).mono ?_; rintro e w4 ⟨rfl, hr4, hb4⟩))
                all_goals
                  have hc4 := HAc3.out.drew.but hb4 (Ne.symm hgh)
                  have hB4 := hB3.drew.trans (hb4.below hgw hB3.size)
                  have hd2' := hb4.cell hn2g (show w3.drew.cell? _ = _ from hd2)
                  clear HA3 HAc3 hB3 hb4 hd1 hd2
                  have HTc := rtext_any 100 hc4 (by omega)
                  have HC5 : Hid (Cut (txtS rc1 100) ρ2) := cut_txt rc1 _ ρ2 100 (by rw [len_list]; exact t1) (by omega) HC1.out
                  have hcl5 := Nat.le_trans (txt_le rc1 100) hcl1
                  go_wp2_with fail
                  refine HTc.mono ?_
                  rintro e w5 ⟨rfl, hc5, hb5⟩
                  have hr5 := hr4.but hb5 hgh
                  have hB5 := hB4.trans (hb5.below hhw hB4.size)
                  have hd5 := hb5.cell hn2h hd2'
                  generalize txtS rc1 100 = rc5 at hc5 HC5 hcl5
                  generalize txtV rc1 100 = xc
                  have HA5 : Hid (At 42 w5 g (text8 t.data.toList ++ ρ2, false)) := hr5
                  have HAc5 : Hid (At 42 w5 h rc5) := hc5
                  clear hr4 hc4 hB4 HC1 hcl1 hb5 HTc hr5 hc5 hd2'
                  go_wp2_with fail
                  go_region_held3 (fun w' => w'.cell? ⟨b2, o2 + j, none⟩ = some (.string t)) (first | (go_keep; done) | (exact hb6.cell hn2g (by assumption)) | (exact hb6.cell hn2g hd5))
                    ((go_at_call 14; refine (rtext_at t 100 t1 (by omega) (by omega) HA5.out.drew).mono ?_; rintro e w6 ⟨rfl, hr6, hb6⟩))
                  all_goals
                    have hc6 := HAc5.out.drew.but hb6 (Ne.symm hgh)
                    have hB6 := hB5.drew.trans (hb6.below hgw hB5.size)
                    clear HA5 HAc5 hB5 hb6 hd5
                    go_wp2
                    go_roundw
                    case rel => exact ⟨j + 1, rc5, by omega, by go_num, by rw [HR2.out]; exact hr6, hc6, by rw [HR2.out]; exact HC5, by rw [HR2.out]; exact hl2, hcl5, hB6⟩
                    case measure => simp [intOf]; omega
              · have j2 : ¬ (j : Int) < (n2 : Int) := by omega
                clear hw1 hw2
                have HE : Hid (onward l1 l2 j (k - j) = num8 v1 ++ onward l1 l2 (j + 1) (k - (j + 1))) := by
                  show _ = _
                  rw [show k - j = (k - (j + 1)) + 1 by omega, onward_succ, piece_num _ _ _ (by rw [HL1.out]; exact hj1) (by rw [HL2.out]; exact hj2), HV.out]
                generalize onward l1 l2 j (k - j) = ρ at HE hr HCu hrl
                generalize hρ : onward l1 l2 (j + 1) (k - (j + 1)) = ρ2 at HE
                have HR2 : Hid (onward l1 l2 (j + 1) (k - (j + 1)) = ρ2) := hρ
                clear hρ
                have he := HE.out
                subst he
                clear HE
                have hl2 : ρ2.length ≤ 3480 := by
                  refine Nat.le_trans ?_ hrl
                  simp only [List.length_append]; omega
                have HNc := rnum_any hc
                have HC1 : Hid (Cut (numS rc) ρ2) := cut_num rc v1 ρ2 HCu.out
                have hcl1 := Nat.le_trans (num_le rc) hcl
                go_wp2_with fail
                refine HNc.mono ?_
                rintro e w3 ⟨rfl, hc3, hb3, hz3⟩
                have hr3 := hr.but hb3 hgh
                have hB3 := hb.trans (hb3.below hhw hb.size)
                have hd1 := hb3.cell hn1h hc1
                generalize numS rc = rc1 at hc3 HC1 hcl1
                generalize numV rc.1 = vc
                have HA3 : Hid (At 42 w3 g (num8 v1 ++ ρ2, false)) := hr3
                have HAc3 : Hid (At 42 w3 h rc1) := hc3
                clear hr hc hb HCu hcl hrl hb3 hz3 HNc hr3 hc3 hc1
                go_wp2_with fail
                go_region_held3 (fun w' => w'.cell? ⟨b1, o1 + j, none⟩ = some (.int .i64 v1)) (first | (go_keep; done) | (exact hb4.cell hn1g (by assumption)) | (exact hb4.cell hn1g hd1))
                  ((go_at_call 10; refine (rnum_at v1 hv1 HA3.out.drew).mono ?_; rintro e w4 ⟨rfl, hr4, hb4⟩))
                all_goals
                  have hc4 := HAc3.out.drew.but hb4 (Ne.symm hgh)
                  have hB4 := hB3.drew.trans (hb4.below hgw hB3.size)
                  clear HA3 HAc3 hB3 hb4 hd1
                  go_wp2
                  go_roundw
                  case rel => exact ⟨j + 1, rc1, by omega, by go_num, by rw [HR2.out]; exact hr4, hc4, by rw [HR2.out]; exact HC1, by rw [HR2.out]; exact hl2, hcl1, hB4⟩
                  case measure => simp [intOf]; omega
            · have j1 : ¬ (j : Int) < (n1 : Int) := by omega
              by_cases hj2 : j < n2
              · have j2 : (j : Int) < (n2 : Int) := by omega
                obtain ⟨b2, o2, rfl, hc2⟩ := hw2.at hb j hj2
                have hb2 := hw2.lt (by omega)
                have hn2g : b2 ≠ g := by omega
                have hn2h : b2 ≠ h := by omega
                have t1 := HS.out j (by omega) hj2
                obtain ⟨t, ht⟩ : ∃ t, l2.getD j ByteArray.empty = t := ⟨_, rfl⟩
                rw [ht] at hc2 t1
                have HT : Hid (l2.getD j ByteArray.empty = t) := ht
                replace t1 : (t.size : Int) ≤ 100 := by omega
                clear ht hb2 hw1 hw2
                have HE : Hid (onward l1 l2 j (k - j) = text8 t.data.toList ++ onward l1 l2 (j + 1) (k - (j + 1))) := by
                  show _ = _
                  rw [show k - j = (k - (j + 1)) + 1 by omega, onward_succ, piece_text _ _ _ (by rw [HL1.out]; exact hj1) (by rw [HL2.out]; exact hj2), HT.out]
                generalize onward l1 l2 j (k - j) = ρ at HE hr HCu hrl
                generalize hρ : onward l1 l2 (j + 1) (k - (j + 1)) = ρ2 at HE
                have HR2 : Hid (onward l1 l2 (j + 1) (k - (j + 1)) = ρ2) := hρ
                clear hρ
                have he := HE.out
                subst he
                clear HE
                have hl2 : ρ2.length ≤ 3480 := by
                  refine Nat.le_trans ?_ hrl
                  simp only [List.length_append]; omega
                have HTc := rtext_any 100 hc (by omega)
                have HC5 : Hid (Cut (txtS rc 100) ρ2) := cut_txt rc _ ρ2 100 (by rw [len_list]; exact t1) (by omega) HCu.out
                have hcl5 := Nat.le_trans (txt_le rc 100) hcl
                go_wp2_with fail
                refine HTc.mono ?_
                rintro e w5 ⟨rfl, hc5, hb5⟩
                have hr5 := hr.but hb5 hgh
                have hB5 := hb.trans (hb5.below hhw hb.size)
                have hd5 := hb5.cell hn2h hc2
                generalize txtS rc 100 = rc5 at hc5 HC5 hcl5
                generalize txtV rc 100 = xc
                have HA5 : Hid (At 42 w5 g (text8 t.data.toList ++ ρ2, false)) := hr5
                have HAc5 : Hid (At 42 w5 h rc5) := hc5
                clear hr hc hb HCu hcl hb5 HTc hr5 hc5 hc2
                go_wp2_with fail
                go_region_held3 (fun w' => w'.cell? ⟨b2, o2 + j, none⟩ = some (.string t)) (first | (go_keep; done) | (exact hb6.cell hn2g (by assumption)) | (exact hb6.cell hn2g hd5))
                  ((go_at_call 14; refine (rtext_at t 100 t1 (by omega) (by omega) HA5.out.drew).mono ?_; rintro e w6 ⟨rfl, hr6, hb6⟩))
                all_goals
                  have hc6 := HAc5.out.drew.but hb6 (Ne.symm hgh)
                  have hB6 := hB5.drew.trans (hb6.below hgw hB5.size)
                  clear HA5 HAc5 hB5 hb6 hd5
                  go_wp2
                  go_roundw
                  case rel => exact ⟨j + 1, rc5, by omega, by go_num, by rw [HR2.out]; exact hr6, hc6, by rw [HR2.out]; exact HC5, by rw [HR2.out]; exact hl2, hcl5, hB6⟩
                  case measure => simp [intOf]; omega
              · have j2 : ¬ (j : Int) < (n2 : Int) := by omega
                have hjk2 : k - j = 0 := by omega
                rw [hjk2, onward_none] at hr HCu
                have hrc := cut_none rc HCu.out
                subst hrc
                have HLr := aleft_any hr
                have HBr := abad_any hr
                have HBc := abad_any hc
                have HLc := aleft_any hc
                clear hw1 hw2 hr hc HCu hrl hcl hjk2
                go_wp2_with fail
                refine HLr.mono ?_
                rintro e w0 ⟨rfl, hw0⟩
                subst w0
                go_wp2_with fail
                refine HBr.mono ?_
                rintro e w0 ⟨rfl, hw0⟩
                subst w0
                go_wp2_with fail
                refine HBc.mono ?_
                rintro e w0 ⟨rfl, hw0⟩
                subst w0
                go_wp2_with fail
                refine HLc.mono ?_
                rintro e w0 ⟨rfl, hw0⟩
                subst w0
                go_wp2_with fail
                refine (awake_any _).mono ?_
                rintro e wl ⟨rfl, hbl⟩
                go_wp2
                go_ret
                exact ⟨rfl, below_then hb hbl⟩

end Go.Proofs.Ytaoefgljonmeeaa
