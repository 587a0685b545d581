/-
  The walk of CodecReads.
-/
import Derived.Test.YtaoefgljonmeeaaCodWake
import Derived.Test.YtaoefgljonmeeaaCodRef
import Derived.Test.YtaoefgljonmeeaaPlace
import Derived.Test.YtaoefgljonmeeaaArgs
import Derived.BigQuiet
import Derived.Deep.QuietTactic
namespace Go.Proofs.Ytaoefgljonmeeaa
open Go.RowKit

set_option maxRecDepth 10000 in
set_option maxHeartbeats 4000000 in
theorem reads_any (s : ByteArray) (a1 : Option Addr) (n1 c1 : Nat) (l1 : List Int) (a2 : Option Addr) (n2 c2 : Nat) (l2 : List Int) (hs : s.size ≤ maxLen) (w : World) (hw1 : Ints w a1 n1 l1) (hw2 : Ints w a2 n2 l2) :
    Calls Try.prog 3 #[.string s, .slice a1 n1 c1, .slice a2 n2 c2] w fun e w' => e = .returned (.bool true) ∧ Below w.heap.size w w' := by
  have h1m := hw1.2.1
  have h2m := hw2.2.1
  unfold maxLen at hs h1m h2m
  by_cases hbig : 2000 < s.size
  · have hbig' : (2000 : Int) < (s.size : Int) := by omega
    go_enter Try.func3, Try.ntmps3
    go_wp2_with (go_at_call 7; refine (awake_any _).mono ?_; rintro e w1 ⟨rfl, hb1⟩)
    go_ret
    exact ⟨rfl, hb1⟩
  by_cases hbig2 : 50 < n1
  · have h0 : ¬ (2000 : Int) < (s.size : Int) := by omega
    have hbig' : (50 : Int) < (n1 : Int) := by omega
    go_enter Try.func3, Try.ntmps3
    go_wp2_with (go_at_call 7; refine (awake_any _).mono ?_; rintro e w1 ⟨rfl, hb1⟩)
    go_ret
    exact ⟨rfl, hb1⟩
  have h0 : ¬ (2000 : Int) < (s.size : Int) := by omega
  have h50 : ¬ (50 : Int) < (n1 : Int) := by omega
  go_enter Try.func3, Try.ntmps3
  go_wp2_with fail
  refine (anew_any s _ rfl _).mono ?_
  rintro e w1 ⟨g, rfl, hr1, hg, hb1⟩
  go_wp2_with fail
  have hr2 : At 42 (w1.alloc (.cells #[.string s, .bool false] 28)) g (s.data.toList, false) := hr1.below ((Below.refl _ _).alloc (Nat.le_refl _) _)
  have hx2 : At 28 (w1.alloc (.cells #[.string s, .bool false] 28)) w1.heap.size (s.data.toList, false) := ⟨s, rfl, Rd.new _ _ _ _⟩
  have hB2 : Below w.heap.size w (w1.alloc (.cells #[.string s, .bool false] 28)) := hb1.alloc hb1.size _
  have hgh : g ≠ w1.heap.size := by have := hr1.lt; omega
  have hhw : w.heap.size ≤ w1.heap.size := hb1.size
  generalize w1.alloc (.cells #[.string s, .bool false] 28) = w2 at hr2 hx2 hB2 ⊢
  generalize w1.heap.size = h at hx2 hgh hhw ⊢
  have hgw := hg
  clear hr1 hb1 hg w1
  go_loopw [9] (fun i wr => ∃ (k : Nat) (r : (List UInt8 × Bool)), k ≤ n1 ∧ i = .int .i64 k ∧ Fine r ∧ r.1.length ≤ 2000 ∧ At 42 wr g r ∧ At 28 wr h r ∧ Below w.heap.size w wr) (fun i _ => n1 - (intOf i).toNat)
  case atStart => exact ⟨0, (s.data.toList, false), by omega, rfl, fun hf => Bool.noConfusion hf, by show s.data.toList.length ≤ 2000; rw [len_list]; omega, hr2, hx2, hB2⟩
  case round =>
    clear hr2 hx2 hB2
    obtain ⟨k, r, hk, rfl, hf, hrl, hr, hx, hb⟩ := hrel
    by_cases hlt : k < n1
    · obtain ⟨b1, o1, rfl, hc1⟩ := hw1.at hb k hlt
      have hv1 := hw1.2.2.1 k hlt
      generalize l1.getD k 0 = v1 at hc1 hv1
      have k1 : (k : Int) < (n1 : Int) := by omega
      obtain ⟨p, hp, HP⟩ := place_ex v1 3 (by omega) (by omega)
      have hpc : p = 0 ∨ p = 1 ∨ p = 2 := by omega
      clear hw1 hv1 h1m h2m hs
      by_cases hm : k < n2
      · obtain ⟨b2, o2, rfl, hc2⟩ := hw2.at hb k hm
        have k2 : (k : Int) < (n2 : Int) := by omega
        generalize l2.getD k 0 = m at hc2
        clear hw2
        go_wp2_with fail
        refine (HP _).mono ?_
        rintro e w0 ⟨rfl, hw0⟩
        subst w0
        clear HP
        rcases hpc with rfl | rfl | rfl
        · go_wp2_with fail
          refine (rnum_any hr).mono ?_
          rintro e w3 ⟨rfl, hr3, hb3, hz3⟩
          have hx3 := hx.but hb3 (Ne.symm hgh)
          have hB3 := hb.trans (hb3.below hgw hb.size)
          clear hr hx hb hb3
          go_wp2_with fail
          refine (refnum_any hf hx3).mono ?_
          rintro e w4 ⟨rfl, hx4, hb4, hz4⟩
          have hr4 := hr3.but hb4 hgh
          have hB4 := hB3.trans (hb4.below hhw hB3.size)
          clear hr3 hx3 hb4 hB3
          have hf4 := fine_num r hf
          have hl4 := Nat.le_trans (num_le r) hrl
          generalize numS r = r4 at hr4 hx4 hf4 hl4
          obtain ⟨l4, bad4⟩ := r4
          obtain ⟨s1, hs1, hd1⟩ := hr4
          obtain ⟨s2, hs2, hd2⟩ := hx4
          have hss : s1 = s2 := ByteArray.ext (Array.toList_inj.1 (hs1.trans hs2.symm))
          subst hss
          have HE : Hid (s1.data.toList = l4) := hs1
          have q0 := hd2.rest
          have q1 := hd2.isbad
          have HRd : Hid (Rd 42 w4 g s1 bad4) := hd1
          have HD1 : Hid (At 42 w4 g (l4, bad4)) := ⟨s1, hs1, hd1⟩
          have HD2 : Hid (At 28 w4 h (l4, bad4)) := ⟨s1, hs1, hd2⟩
          clear hs1 hs2 hd1 hd2
          go_wp2_with fail
          go_quiet ((first | (go_at_call 16; exact Calls.quiet_of_same (bad_any (HRd.out.drewN _))) | (go_at_call 17; exact Calls.quiet_of_same (left_any (HRd.out.drewN _)))))
          go_wp2
          go_roundw
          case rel => exact ⟨k + 1, (l4, bad4), by omega, by go_num, hf4, hl4, HD1.out, HD2.out, ⟨hB4.os, hB4.tape, hB4.output, hB4.size, hB4.block⟩⟩
          case measure => simp [intOf]; omega
        · go_wp2_with fail
          refine (rcount_any m hr).mono ?_
          rintro e w3 ⟨rfl, hr3, hb3, hz3⟩
          have hx3 := hx.but hb3 (Ne.symm hgh)
          have hB3 := hb.trans (hb3.below hgw hb.size)
          clear hr hx hb hb3
          go_wp2_with fail
          refine (refcount_any m hf hx3).mono ?_
          rintro e w4 ⟨rfl, hx4, hb4, hz4⟩
          have hr4 := hr3.but hb4 hgh
          have hB4 := hB3.trans (hb4.below hhw hB3.size)
          clear hr3 hx3 hb4 hB3
          have hf4 := fine_cnt r m hf
          have hl4 := Nat.le_trans (cnt_le r m) hrl
          generalize cntS r m = r4 at hr4 hx4 hf4 hl4
          obtain ⟨l4, bad4⟩ := r4
          obtain ⟨s1, hs1, hd1⟩ := hr4
          obtain ⟨s2, hs2, hd2⟩ := hx4
          have hss : s1 = s2 := ByteArray.ext (Array.toList_inj.1 (hs1.trans hs2.symm))
          subst hss
          have HE : Hid (s1.data.toList = l4) := hs1
          have q0 := hd2.rest
          have q1 := hd2.isbad
          have HRd : Hid (Rd 42 w4 g s1 bad4) := hd1
          have HD1 : Hid (At 42 w4 g (l4, bad4)) := ⟨s1, hs1, hd1⟩
          have HD2 : Hid (At 28 w4 h (l4, bad4)) := ⟨s1, hs1, hd2⟩
          clear hs1 hs2 hd1 hd2
          go_wp2_with fail
          go_quiet ((first | (go_at_call 16; exact Calls.quiet_of_same (bad_any (HRd.out.drewN _))) | (go_at_call 17; exact Calls.quiet_of_same (left_any (HRd.out.drewN _)))))
          go_wp2
          go_roundw
          case rel => exact ⟨k + 1, (l4, bad4), by omega, by go_num, hf4, hl4, HD1.out, HD2.out, ⟨hB4.os, hB4.tape, hB4.output, hB4.size, hB4.block⟩⟩
          case measure => simp [intOf]; omega
        · go_wp2_with fail
          refine (rtext_any m hr (by omega)).mono ?_
          rintro e w3 ⟨rfl, hr3, hb3⟩
          have hx3 := hx.but hb3 (Ne.symm hgh)
          have hB3 := hb.trans (hb3.below hgw hb.size)
          clear hr hx hb hb3
          go_wp2_with fail
          refine (reftext_any m hf hx3).mono ?_
          rintro e w4 ⟨rfl, hx4, hb4⟩
          have hr4 := hr3.but hb4 hgh
          have hB4 := hB3.trans (hb4.below hhw hB3.size)
          clear hr3 hx3 hb4 hB3
          have hf4 := fine_txt r m hf
          have hl4 := Nat.le_trans (txt_le r m) hrl
          generalize txtS r m = r4 at hr4 hx4 hf4 hl4
          obtain ⟨l4, bad4⟩ := r4
          obtain ⟨s1, hs1, hd1⟩ := hr4
          obtain ⟨s2, hs2, hd2⟩ := hx4
          have hss : s1 = s2 := ByteArray.ext (Array.toList_inj.1 (hs1.trans hs2.symm))
          subst hss
          have HE : Hid (s1.data.toList = l4) := hs1
          have q0 := hd2.rest
          have q1 := hd2.isbad
          have HRd : Hid (Rd 42 w4 g s1 bad4) := hd1
          have HD1 : Hid (At 42 w4 g (l4, bad4)) := ⟨s1, hs1, hd1⟩
          have HD2 : Hid (At 28 w4 h (l4, bad4)) := ⟨s1, hs1, hd2⟩
          clear hs1 hs2 hd1 hd2
          go_wp2_with fail
          go_quiet ((first | (go_at_call 16; exact Calls.quiet_of_same (bad_any (HRd.out.drewN _))) | (go_at_call 17; exact Calls.quiet_of_same (left_any (HRd.out.drewN _)))))
          go_wp2
          go_roundw
          case rel => exact ⟨k + 1, (l4, bad4), by omega, by go_num, hf4, hl4, HD1.out, HD2.out, ⟨hB4.os, hB4.tape, hB4.output, hB4.size, hB4.block⟩⟩
          case measure => simp [intOf]; omega
      · have k2 : ¬ (k : Int) < (n2 : Int) := by omega
        clear hw2
        obtain ⟨m, hm0⟩ : ∃ m : Int, m = 0 := ⟨0, rfl⟩
        go_wp2_with fail
        refine (HP _).mono ?_
        rintro e w0 ⟨rfl, hw0⟩
        subst w0
        clear HP
        rcases hpc with rfl | rfl | rfl
        · go_wp2_with fail
          refine (rnum_any hr).mono ?_
          rintro e w3 ⟨rfl, hr3, hb3, hz3⟩
          have hx3 := hx.but hb3 (Ne.symm hgh)
          have hB3 := hb.trans (hb3.below hgw hb.size)
          clear hr hx hb hb3
          go_wp2_with fail
          refine (refnum_any hf hx3).mono ?_
          rintro e w4 ⟨rfl, hx4, hb4, hz4⟩
          have hr4 := hr3.but hb4 hgh
          have hB4 := hB3.trans (hb4.below hhw hB3.size)
          clear hr3 hx3 hb4 hB3
          have hf4 := fine_num r hf
          have hl4 := Nat.le_trans (num_le r) hrl
          generalize numS r = r4 at hr4 hx4 hf4 hl4
          obtain ⟨l4, bad4⟩ := r4
          obtain ⟨s1, hs1, hd1⟩ := hr4
          obtain ⟨s2, hs2, hd2⟩ := hx4
          have hss : s1 = s2 := ByteArray.ext (Array.toList_inj.1 (hs1.trans hs2.symm))
          subst hss
          have HE : Hid (s1.data.toList = l4) := hs1
          have q0 := hd2.rest
          have q1 := hd2.isbad
          have HRd : Hid (Rd 42 w4 g s1 bad4) := hd1
          have HD1 : Hid (At 42 w4 g (l4, bad4)) := ⟨s1, hs1, hd1⟩
          have HD2 : Hid (At 28 w4 h (l4, bad4)) := ⟨s1, hs1, hd2⟩
          clear hs1 hs2 hd1 hd2
          go_wp2_with fail
          go_quiet ((first | (go_at_call 16; exact Calls.quiet_of_same (bad_any (HRd.out.drewN _))) | (go_at_call 17; exact Calls.quiet_of_same (left_any (HRd.out.drewN _)))))
          go_wp2
          go_roundw
          case rel => exact ⟨k + 1, (l4, bad4), by omega, by go_num, hf4, hl4, HD1.out, HD2.out, ⟨hB4.os, hB4.tape, hB4.output, hB4.size, hB4.block⟩⟩
          case measure => simp [intOf]; omega
        · go_wp2_with fail
          refine (rcount_any 0 hr).mono ?_
          rintro e w3 ⟨rfl, hr3, hb3, hz3⟩
          have hx3 := hx.but hb3 (Ne.symm hgh)
          have hB3 := hb.trans (hb3.below hgw hb.size)
          clear hr hx hb hb3
          go_wp2_with fail
          refine (refcount_any 0 hf hx3).mono ?_
          rintro e w4 ⟨rfl, hx4, hb4, hz4⟩
          have hr4 := hr3.but hb4 hgh
          have hB4 := hB3.trans (hb4.below hhw hB3.size)
          clear hr3 hx3 hb4 hB3
          have hf4 := fine_cnt r 0 hf
          have hl4 := Nat.le_trans (cnt_le r 0) hrl
          generalize cntS r 0 = r4 at hr4 hx4 hf4 hl4
          obtain ⟨l4, bad4⟩ := r4
          obtain ⟨s1, hs1, hd1⟩ := hr4
          obtain ⟨s2, hs2, hd2⟩ := hx4
          have hss : s1 = s2 := ByteArray.ext (Array.toList_inj.1 (hs1.trans hs2.symm))
          subst hss
          have HE : Hid (s1.data.toList = l4) := hs1
          have q0 := hd2.rest
          have q1 := hd2.isbad
          have HRd : Hid (Rd 42 w4 g s1 bad4) := hd1
          have HD1 : Hid (At 42 w4 g (l4, bad4)) := ⟨s1, hs1, hd1⟩
          have HD2 : Hid (At 28 w4 h (l4, bad4)) := ⟨s1, hs1, hd2⟩
          clear hs1 hs2 hd1 hd2
          go_wp2_with fail
          go_quiet ((first | (go_at_call 16; exact Calls.quiet_of_same (bad_any (HRd.out.drewN _))) | (go_at_call 17; exact Calls.quiet_of_same (left_any (HRd.out.drewN _)))))
          go_wp2
          go_roundw
          case rel => exact ⟨k + 1, (l4, bad4), by omega, by go_num, hf4, hl4, HD1.out, HD2.out, ⟨hB4.os, hB4.tape, hB4.output, hB4.size, hB4.block⟩⟩
          case measure => simp [intOf]; omega
        · go_wp2_with fail
          refine (rtext_any 0 hr (by omega)).mono ?_
          rintro e w3 ⟨rfl, hr3, hb3⟩
          have hx3 := hx.but hb3 (Ne.symm hgh)
          have hB3 := hb.trans (hb3.below hgw hb.size)
          clear hr hx hb hb3
          go_wp2_with fail
          refine (reftext_any 0 hf hx3).mono ?_
          rintro e w4 ⟨rfl, hx4, hb4⟩
          have hr4 := hr3.but hb4 hgh
          have hB4 := hB3.trans (hb4.below hhw hB3.size)
          clear hr3 hx3 hb4 hB3
          have hf4 := fine_txt r 0 hf
          have hl4 := Nat.le_trans (txt_le r 0) hrl
          generalize txtS r 0 = r4 at hr4 hx4 hf4 hl4
          obtain ⟨l4, bad4⟩ := r4
          obtain ⟨s1, hs1, hd1⟩ := hr4
          obtain ⟨s2, hs2, hd2⟩ := hx4
          have hss : s1 = s2 := ByteArray.ext (Array.toList_inj.1 (hs1.trans hs2.symm))
          subst hss
          have HE : Hid (s1.data.toList = l4) := hs1
          have q0 := hd2.rest
          have q1 := hd2.isbad
          have HRd : Hid (Rd 42 w4 g s1 bad4) := hd1
          have HD1 : Hid (At 42 w4 g (l4, bad4)) := ⟨s1, hs1, hd1⟩
          have HD2 : Hid (At 28 w4 h (l4, bad4)) := ⟨s1, hs1, hd2⟩
          clear hs1 hs2 hd1 hd2
          go_wp2_with fail
          go_quiet ((first | (go_at_call 16; exact Calls.quiet_of_same (bad_any (HRd.out.drewN _))) | (go_at_call 17; exact Calls.quiet_of_same (left_any (HRd.out.drewN _)))))
          go_wp2
          go_roundw
          case rel => exact ⟨k + 1, (l4, bad4), by omega, by go_num, hf4, hl4, HD1.out, HD2.out, ⟨hB4.os, hB4.tape, hB4.output, hB4.size, hB4.block⟩⟩
          case measure => simp [intOf]; omega
    · have hk2 : ¬ (k : Int) < (n1 : Int) := by omega
      clear hr hx hrl hf
      go_wp2_with (go_at_call 7; refine (awake_any _).mono ?_; rintro e wl ⟨rfl, hbl⟩)
      go_ret
      exact ⟨rfl, below_then hb hbl⟩

end Go.Proofs.Ytaoefgljonmeeaa
