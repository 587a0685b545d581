/-
  The statements' own example of chapter 3 (awake).
-/
import Derived.Test.YtaoefgljonmeeaaCodRead
namespace Go.Proofs.Ytaoefgljonmeeaa
open Go.RowKit

set_option maxRecDepth 10000 in
set_option maxHeartbeats 1000000 in
theorem awake_any (w : World) : Calls Try.prog 7 #[] w fun e w' => e = .returned (.bool true) ∧ Below w.heap.size w w' := by
  obtain ⟨x, hx⟩ : ∃ x : ByteArray, x = ⟨(text8 [97]).toArray⟩ := ⟨_, rfl⟩
  obtain ⟨y, hy⟩ : ∃ y : ByteArray, y = ⟨(num8 (-7)).toArray⟩ := ⟨_, rfl⟩
  have HT : ∀ W, Calls Try.prog 19 #[.string ⟨#[97]⟩] W fun e w' => e = .returned (.string x) ∧ Below W.heap.size W w' := fun W => by
    rw [hx]; exact text_any ⟨#[97]⟩ (by decide) W
  have HN : ∀ W, Calls Try.prog 18 #[.int .i64 (-7)] W fun e w' => e = .returned (.string y) ∧ Below W.heap.size W w' := fun W => by
    rw [hy]; exact num_any (-7) W
  have hxs : x.size = 9 := by rw [hx, mk_size, text8_length]; rfl
  have hys : y.size = 8 := by rw [hy, mk_size, num8_length]
  have hxy : (x ++ y).data.toList = text8 [97] ++ num8 (-7) := by rw [add_list, hx, hy]
  have hV : txtV (text8 [97] ++ num8 (-7), false) 5 = [97] := txtV_of _ _ _ _ (by decide) (by decide)
  have hS : txtS (text8 [97] ++ num8 (-7), false) 5 = (num8 (-7), false) := txtS_of _ _ _ _ (by decide) (by decide)
  have hV2 : numV (num8 (-7)) = -7 := by have := numV_of (-7) (by omega) (by omega) []; rwa [List.append_nil] at this
  have hS2 : numS (num8 (-7), false) = ([], false) := by have := numS_of (-7) [] false; rwa [List.append_nil] at this
  have hll : (text8 [97] ++ num8 (-7)).length = 17 := by rw [List.length_append, text8_length, num8_length]; rfl
  have hsum : (x.size : Int) + (y.size : Int) ≤ 17 := by omega
  clear hx hy
  generalize num8 (-7) = B at *
  generalize text8 [97] ++ B = A at *
  have HV : Hid (txtV (A, false) 5 = [97]) := hV
  have HS : Hid (txtS (A, false) 5 = (B, false)) := hS
  have HV2 : Hid (numV B = -7) := hV2
  have HS2 : Hid (numS (B, false) = ([], false)) := hS2
  have HXY : Hid ((x ++ y).data.toList = A) := hxy
  have HLL : Hid (A.length = 17) := hll
  clear hV hS hV2 hS2 hxy hll
  go_enter Try.func7, Try.ntmps7
  go_wp2_with fail
  refine (HT _).mono ?_
  rintro e w1 ⟨rfl, hb1⟩
  go_wp2_with fail
  refine (HN _).mono ?_
  rintro e w2 ⟨rfl, hb2⟩
  have hB2 := below_then hb1 hb2
  go_wp2_with fail
  refine (new_any (x ++ y) w2).mono ?_
  rintro e w3 ⟨rfl, hr3, hz3, hb3⟩
  have hB3 := below_then hB2 hb3
  generalize hg : w2.heap.size = g at hr3
  have HG : Hid (w2.heap.size = g) := hg
  clear hg
  go_wp2_with fail
  refine (HT _).mono ?_
  rintro e w4 ⟨rfl, hb4⟩
  have hB4 := below_then hB3 hb4
  have ha4 : At 42 w4 g (A, false) := ⟨_, HXY.out, hr3.below hb4⟩
  have HR := rtext_any 5 ha4 (by show A.length ≤ _; rw [HLL.out]; decide)
  rw [HV.out, HS.out] at HR
  clear hr3 ha4
  go_wp2_with fail
  refine HR.mono ?_
  rintro e w5 ⟨rfl, ha5, hb5⟩
  have hgw : w.heap.size ≤ g := by rw [← HG.out]; exact hB2.size
  have hB5 := hB4.trans (hb5.below hgw hB4.size)
  have HR2 := rnum_any ha5
  rw [HS2.out] at HR2
  have hV2 := HV2.out
  clear ha5
  go_wp2_with fail
  refine HR2.mono ?_
  rintro e w6 ⟨rfl, ⟨s6, hs6, hr6⟩, hb6, hz6⟩
  have hB6 := hB5.trans (hb6.below hgw hB5.size)
  have hs0 : s6.size = 0 := by rw [← len_list, hs6]; rfl
  have HL := left_any hr6
  have HBd := bad_any hr6
  clear hr6 HR HR2
  go_wp2_with fail
  refine HL.mono ?_
  rintro e w7 ⟨rfl, hw7⟩
  subst w7
  go_wp2_with fail
  refine HBd.mono ?_
  rintro e w8 ⟨rfl, hw8⟩
  subst w8
  go_wp2
  go_ret
  exact ⟨rfl, hB6⟩

end Go.Proofs.Ytaoefgljonmeeaa
