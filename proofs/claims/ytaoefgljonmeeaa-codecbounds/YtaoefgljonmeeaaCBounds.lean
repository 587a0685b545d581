/-
  The walk of CodecBounds.
-/
import Derived.Test.YtaoefgljonmeeaaCodWake
import Derived.Test.YtaoefgljonmeeaaPlace
namespace Go.Proofs.Ytaoefgljonmeeaa
open Go.RowKit

/-- Texts by letters. -/
theorem letters_bounds (k : Nat) (hk : k < 60) : ∃ z tz f q x : ByteArray, z = ⟨(List.replicate k (0 : UInt8)).toArray⟩
    ∧ (∀ w, Calls Try.prog 19 #[.string z] w fun e w' => e = .returned (.string tz) ∧ Below w.heap.size w w')
    ∧ (∀ w, Calls Try.prog 18 #[.int .i64 5] w fun e w' => e = .returned (.string f) ∧ Below w.heap.size w w')
    ∧ (∀ w, Calls Try.prog 18 #[.int .i64 (k : Int)] w fun e w' => e = .returned (.string q) ∧ Below w.heap.size w w')
    ∧ (∀ w, Calls Try.prog 18 #[.int .i64 (-1 - (k : Int))] w fun e w' => e = .returned (.string x) ∧ Below w.heap.size w w')
    ∧ tz.size = 8 + k ∧ f.size = 8 ∧ q.size = 8 ∧ (tz ++ f).data.toList = text8 (List.replicate k 0) ++ num8 5 ∧ (q ++ f).data.toList = num8 (k : Int) ++ num8 5 ∧ x.data.toList = num8 (-1 - (k : Int)) ++ [] := by
  refine ⟨_, ⟨(text8 (List.replicate k 0)).toArray⟩, ⟨(num8 5).toArray⟩, ⟨(num8 (k : Int)).toArray⟩, ⟨(num8 (-1 - (k : Int))).toArray⟩, rfl, fun w => text_any _ (by rw [mk_size, List.length_replicate]; omega) w, num_any 5, num_any _, num_any _, ?_, ?_, ?_, ?_, ?_, ?_⟩
  · rw [mk_size, text8_length, List.length_replicate]
  · rw [mk_size, num8_length]
  · rw [mk_size, num8_length]
  · rw [add_list]
  · rw [add_list]
  · simp

set_option maxRecDepth 10000 in
set_option maxHeartbeats 2000000 in
theorem bounds_any (n most : Int) (_wn : (Lit.int .i64 n).wf = true) (_wm : (Lit.int .i64 most).wf = true) (w : World) :
    Calls Try.prog 5 #[.int .i64 n, .int .i64 most] w fun e w' => e = .returned (.bool true) ∧ Below w.heap.size w w' := by
  obtain ⟨k, hk, HP1⟩ := place_ex n 60 (by omega) (by omega)
  obtain ⟨m, hm, HP2⟩ := place_ex most 60 (by omega) (by omega)
  obtain ⟨z, tz, f, q, x, hz, HT, HF, HQ, HX, stz, sf, sq, e1, e2, e3⟩ := letters_bounds k (by omega)
  have HZ : Hid (z = ⟨(List.replicate k (0 : UInt8)).toArray⟩) := hz
  have E1 : Hid ((tz ++ f).data.toList = text8 (List.replicate k 0) ++ num8 5) := e1
  have E2 : Hid ((q ++ f).data.toList = num8 (k : Int) ++ num8 5) := e2
  have E3 : Hid (x.data.toList = num8 (-1 - (k : Int)) ++ []) := e3
  have s1 : (tz.size : Int) = 8 + (k : Int) := by omega
  have s2 : (f.size : Int) = 8 := by omega
  have s3 : (q.size : Int) = 8 := by omega
  clear hz e1 e2 e3 stz sf sq _wn _wm
  go_enter Try.func5, Try.ntmps5
  go_wp2_with fail
  refine (HP1 _).mono ?_
  rintro e w0 ⟨rfl, hw0⟩
  subst w0
  go_wp2_with fail
  refine (HP2 _).mono ?_
  rintro e w0 ⟨rfl, hw0⟩
  subst w0
  clear HP1 HP2
  go_wp2_with (first
    | (at_make; refine wpList_zeros (by rfl) _ _ (by rfl) w.heap.size k (by rfl) (by rfl) (by omega) (Nat.le_refl _) ?_; intro v1 w1 hown1 hb1)
    | ((with_reducible refine wpList_at ?_); refine wpList_said (by rfl) (.tmp 18) (by rfl) w.heap.size _ _ (by rfl) hown1 ?_; rw [← HZ.out]))
  refine (HT _).mono ?_
  rintro e w2 ⟨rfl, hb2⟩
  have hB2 := below_then hb1 hb2
  clear hown1 hb1 hb2 HT
  go_wp2_with fail
  refine (HF _).mono ?_
  rintro e w3 ⟨rfl, hb3⟩
  have hB3 := below_then hB2 hb3
  clear hB2 hb3
  go_wp2_with fail
  refine (anew_any (tz ++ f) _ E1.out _).mono ?_
  rintro e w4 ⟨g, rfl, hr4, hg, hb4⟩
  have hgw := Nat.le_trans hB3.size hg
  have hB4 := below_then hB3 hb4
  clear hB3 hb4 hg E1
  go_wp2_with fail
  refine (HQ _).mono ?_
  rintro e w5 ⟨rfl, hb5⟩
  have hr5 := hr4.below hb5
  have hB5 := below_then hB4 hb5
  clear hr4 hB4 hb5 HQ
  go_wp2_with fail
  refine (HF _).mono ?_
  rintro e w6 ⟨rfl, hb6⟩
  have hr6 := hr5.below hb6
  have hB6 := below_then hB5 hb6
  clear hr5 hB5 hb6 HF
  go_wp2_with fail
  refine (anew_any (q ++ f) _ E2.out _).mono ?_
  rintro e w7 ⟨h, rfl, hc7, hh, hb7⟩
  have hgh : g ≠ h := by have := hr6.lt; omega
  have hhw := Nat.le_trans hB6.size hh
  have hr7 := hr6.below hb7
  have hB7 := below_then hB6 hb7
  clear hr6 hB6 hb7 E2 hh
  by_cases hlt : (m : Int) < (k : Int)
  · have HR := rtext_any (m : Int) hr7 (by show (text8 (List.replicate k 0) ++ num8 5).length ≤ _; rw [List.length_append, text8_length, num8_length, List.length_replicate]; omega)
    obtain ⟨q1, q2⟩ := txt_over (List.replicate k 0) (m : Int) (num8 5) false (by rw [List.length_replicate]; exact hlt) (by rw [List.length_replicate]; omega)
    rw [q1, q2] at HR
    obtain ⟨q3, q4⟩ := cnt_over (k : Int) (m : Int) (num8 5) false (by omega) (by omega) (Or.inr hlt)
    clear q1 q2 hr7
    go_wp2_with fail
    refine HR.mono ?_
    rintro e w8 ⟨rfl, hr8, hb8⟩
    have hc8 := hc7.but hb8 (Ne.symm hgh)
    have hB8 := hB7.trans (hb8.below hgw hB7.size)
    clear HR hc7 hB7 hb8
    have HN := rcount_any (m : Int) hc8
    rw [q3, q4] at HN
    go_wp2_with fail
    refine HN.mono ?_
    rintro e w9 ⟨rfl, hc9, hb9, hz9⟩
    have hr9 := hr8.but hb9 (hgh)
    have hB9 := hB8.trans (hb9.below hhw hB8.size)
    clear HN hc8 hr8 hB8 hb9 hz9
    have HN := abad_any hr9
    go_wp2_with fail
    refine HN.mono ?_
    rintro e w0 ⟨rfl, hw0⟩
    subst w0
    clear HN
    have HN := abad_any hc9
    go_wp2_with fail
    refine HN.mono ?_
    rintro e w0 ⟨rfl, hw0⟩
    subst w0
    clear HN
    have HN := rnum_any hr9
    simp only [numV_nil, numS_nil] at HN
    go_wp2_with fail
    refine HN.mono ?_
    rintro e w10 ⟨rfl, hr10, hb10, hz10⟩
    have hc10 := hc9.but hb10 (Ne.symm hgh)
    have hB10 := hB9.trans (hb10.below hgw hB9.size)
    clear HN hr9 hc9 hB9 hb10 hz10
    have HN := rnum_any hc10
    simp only [numV_nil, numS_nil] at HN
    go_wp2_with fail
    refine HN.mono ?_
    rintro e w11 ⟨rfl, hc11, hb11, hz11⟩
    have hr11 := hr10.but hb11 (hgh)
    have hB11 := hB10.trans (hb11.below hhw hB10.size)
    clear HN hc10 hr10 hB10 hb11 hz11
    have HN := aleft_any hr11
    go_wp2_with fail
    refine HN.mono ?_
    rintro e w0 ⟨rfl, hw0⟩
    subst w0
    clear HN
    go_wp2_with fail
    refine (awake_any _).mono ?_
    rintro e wl ⟨rfl, hbl⟩
    go_wp2
    go_ret
    exact ⟨rfl, below_then hB11 hbl⟩
  · have hle : (k : Int) ≤ (m : Int) := by omega
    have HR := rtext_any (m : Int) hr7 (by show (text8 (List.replicate k 0) ++ num8 5).length ≤ _; rw [List.length_append, text8_length, num8_length, List.length_replicate]; omega)
    rw [txtV_of (List.replicate k 0) (m : Int) (num8 5) false (by rw [List.length_replicate]; exact hle) (by omega), txtS_of (List.replicate k 0) (m : Int) (num8 5) false (by rw [List.length_replicate]; exact hle) (by omega), ← HZ.out] at HR
    have q3 := cntV_of k (m : Int) (num8 5) hle (by omega)
    have q4 := cntS_of k (m : Int) (num8 5) false hle (by omega)
    have Q3 : Hid (cntV (num8 (k : Int) ++ num8 5) (m : Int) = k) := q3
    have Q4 : Hid (cntS (num8 (k : Int) ++ num8 5, false) (m : Int) = (num8 5, false)) := q4
    obtain ⟨q5, q6⟩ := cnt_over (-1 - (k : Int)) (m : Int) [] false (by omega) (by omega) (Or.inl (by omega))
    have Q5 : Hid (cntV (num8 (-1 - (k : Int)) ++ []) (m : Int) = 0) := q5
    have Q6 : Hid (cntS (num8 (-1 - (k : Int)) ++ [], false) (m : Int) = ([], true)) := q6
    have sz : (z.size : Int) = (k : Int) := by rw [HZ.out, mk_size, List.length_replicate]
    clear q3 q4 q5 q6 hr7
    go_wp2_with fail
    refine HR.mono ?_
    rintro e w8 ⟨rfl, hr8, hb8⟩
    have hc8 := hc7.but hb8 (Ne.symm hgh)
    have hB8 := hB7.trans (hb8.below hgw hB7.size)
    clear HR hc7 hB7 hb8
    have HN := rcount_any (m : Int) hc8
    rw [Q3.out, Q4.out] at HN
    go_wp2_with fail
    refine HN.mono ?_
    rintro e w9 ⟨rfl, hc9, hb9, hz9⟩
    have hr9 := hr8.but hb9 (hgh)
    have hB9 := hB8.trans (hb9.below hhw hB8.size)
    clear HN hc8 hr8 hB8 hb9 hz9
    go_wp2_with fail
    refine (HX _).mono ?_
    rintro e w10 ⟨rfl, hb10⟩
    have hr10 := hr9.below hb10
    have hc10 := hc9.below hb10
    have hB10 := below_then hB9 hb10
    clear hr9 hc9 hB9 hb10
    go_wp2_with fail
    refine (anew_any x _ E3.out _).mono ?_
    rintro e w11 ⟨i, rfl, hx11, hi, hb11⟩
    have hgi : g ≠ i := by have := hr10.lt; omega
    have hhi : h ≠ i := by have := hc10.lt; omega
    have hiw := Nat.le_trans hB10.size hi
    have hr11 := hr10.below hb11
    have hc11 := hc10.below hb11
    have hB11 := below_then hB10 hb11
    clear hr10 hc10 hB10 hb11 hi
    have HN := rnum_any hr11
    rw [numV_one 5 (by omega) (by omega), numS_one 5] at HN
    go_wp2_with fail
    refine HN.mono ?_
    rintro e w12 ⟨rfl, hr12, hb12, hz12⟩
    have hc12 := hc11.but hb12 (Ne.symm hgh)
    have hx12 := hx11.but hb12 (Ne.symm hgi)
    have hB12 := hB11.trans (hb12.below hgw hB11.size)
    clear HN hr11 hc11 hx11 hB11 hb12 hz12
    have HN := rnum_any hc12
    rw [numV_one 5 (by omega) (by omega), numS_one 5] at HN
    go_wp2_with fail
    refine HN.mono ?_
    rintro e w13 ⟨rfl, hc13, hb13, hz13⟩
    have hr13 := hr12.but hb13 (hgh)
    have hx13 := hx12.but hb13 (Ne.symm hhi)
    have hB13 := hB12.trans (hb13.below hhw hB12.size)
    clear HN hc12 hr12 hx12 hB12 hb13 hz13
    have HN := abad_any hr13
    go_wp2_with fail
    refine HN.mono ?_
    rintro e w0 ⟨rfl, hw0⟩
    subst w0
    clear HN
    have HN := aleft_any hr13
    go_wp2_with fail
    refine HN.mono ?_
    rintro e w0 ⟨rfl, hw0⟩
    subst w0
    clear HN
    have HN := rcount_any (m : Int) hx13
    rw [Q5.out, Q6.out] at HN
    go_wp2_with fail
    refine HN.mono ?_
    rintro e w14 ⟨rfl, hx14, hb14, hz14⟩
    have hr14 := hr13.but hb14 (hgi)
    have hc14 := hc13.but hb14 (hhi)
    have hB14 := hB13.trans (hb14.below hiw hB13.size)
    clear HN hx13 hr13 hc13 hB13 hb14 hz14
    have HN := abad_any hx14
    go_wp2_with fail
    refine HN.mono ?_
    rintro e w0 ⟨rfl, hw0⟩
    subst w0
    clear HN
    go_wp2_with fail
    refine (awake_any _).mono ?_
    rintro e wl ⟨rfl, hbl⟩
    go_wp2
    go_ret
    exact ⟨rfl, below_then hB14 hbl⟩

end Go.Proofs.Ytaoefgljonmeeaa
