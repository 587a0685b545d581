/-
  The document's Verify.
-/
import Derived.Test.YtobgkmecdllbiaaOtsPub
import Derived.Deep.RegionWith
import Derived.Deep.CutRange
namespace Go.Proofs.Ytobgkmecdllbiaa
open Go.RowKit
attribute [local go_sem ↓] Go.wp_at_zero Go.wp_at_succ

theorem back_length (d sig : List UInt8) (n : Nat) (h : 32 * n ≤ sig.length) : (back d sig n).length = 32 * n := by
  induction n with
  | zero => rfl
  | succ n ih =>
    have hh : (hind sig n).length = 16 := by unfold hind; rw [List.length_take, List.length_drop]; omega
    rw [back, List.length_append, ih (by omega)]
    split <;> rw [List.length_append, short_length, hh] <;> omega
theorem same_list (a b : ByteArray) : (a.toList == b.toList) = (a.data.toList == b.data.toList) := by
  rw [ByteArray.toList_eq, ByteArray.toList_eq]
theorem fore_at (s : ByteArray) (n : Nat) : (s.extract (32 * n) (32 * n + 16)).data.toList = fore s.data.toList n := by
  rw [extract_list]; unfold fore; rw [show 32 * n + 16 - 32 * n = 16 by omega]
theorem hind_at (s : ByteArray) (n : Nat) : (s.extract (32 * n + 16) (32 * n + 32)).data.toList = hind s.data.toList n := by
  rw [extract_list]; unfold hind; rw [show 32 * n + 32 - (32 * n + 16) = 16 by omega]

set_option maxRecDepth 10000 in
set_option maxHeartbeats 1000000 in
theorem refverify_long (p m s : ByteArray) (hs : s.size ≠ 512) (w : World) :
    Calls Try.prog 16 #[.string p, .string m, .string s] w fun e w' => e = .returned (.bool false) ∧ w' = w := by
  have h1 : ¬ ((s.size : Int) = 512) := by omega
  go_enter Try.func16, Try.ntmps16
  go_wp2
  go_ret
  trivial

set_option maxRecDepth 10000 in
set_option maxHeartbeats 1000000 in
theorem refverify_any (p m s : ByteArray) (hm : m.size ≤ 1000000) (hs : s.size = 512) (w : World) :
    Calls Try.prog 16 #[.string p, .string m, .string s] w fun e w' => e = .returned (.bool (verifyOf p.data.toList m.data.toList s.data.toList)) ∧ Below w.heap.size w w' := by
  obtain ⟨d, hd⟩ : ∃ d : ByteArray, d = ⟨(digest m.data.toList).toArray⟩ := ⟨_, rfl⟩
  have hd1 : d.size = 32 := by rw [hd, mk_size, digest_length]
  have hd2 : d.data.toList = digest m.data.toList := by rw [hd]
  have HS := refsum_any m (by omega) w
  rw [← hd] at HS
  have HD : Hid (d.data.toList = digest m.data.toList) := hd2
  have hsi : (s.size : Int) = 512 := by omega
  clear hd hd2
  go_enter Try.func16, Try.ntmps16
  go_wp2_with (go_at_call 25; refine HS.mono ?_; rintro e w0 ⟨rfl, hb0⟩)
  go_wp2
  go_loopw [8, 9, 10, 11] (fun v i _ _ wr => ∃ (n : Nat) (x : ByteArray), n ≤ 16 ∧ i = .int .i64 n ∧ v = .string x ∧ x.data.toList = back d.data.toList s.data.toList n ∧ Below w.heap.size w wr) (fun _ i _ _ _ => 16 - (intOf i).toNat)
  case atStart => exact ⟨0, ⟨#[]⟩, by omega, rfl, rfl, rfl, hb0⟩
  case round =>
    obtain ⟨n, x, hn, rfl, rfl, hx, hb⟩ := hrel
    have hxs := size_of x _ _ hx (back_length _ _ _ (by rw [len_list]; omega))
    have HX : Hid (x.data.toList = back d.data.toList s.data.toList n) := hx
    clear hx
    by_cases hlt : n < 16
    · have n1 : (n : Int) < 16 := by omega
      have n0 : (0 : Int) ≤ 32 * (n : Int) := by omega
      have n2 : 32 * (n : Int) + 16 ≤ (s.size : Int) := by omega
      have n3 : 32 * (n : Int) + 32 ≤ (s.size : Int) := by omega
      have n4 : (0 : Int) ≤ 32 * (n : Int) + 16 := by omega
      have n5 : 32 * (n : Int) ≤ 32 * (n : Int) + 16 := by omega
      have n6 : 32 * (n : Int) + 16 ≤ 32 * (n : Int) + 32 := by omega
      have n7 : 32 * (n : Int) + 16 ≤ 512 := by omega
      have n8 : 32 * (n : Int) + 32 ≤ 512 := by omega
      have wz0 : IntKind.i64.wrap (32 * (n : Int)) = 32 * (n : Int) := IntWalk.i64_in _ (by omega)
      have wz1 : IntKind.i64.wrap (32 * (n : Int) + 16) = 32 * (n : Int) + 16 := IntWalk.i64_in _ (by omega)
      have wz2 : IntKind.i64.wrap (32 * (n : Int) + 32) = 32 * (n : Int) + 32 := IntWalk.i64_in _ (by omega)
      have hx := refshort_any (s.extract (32 * n) (32 * n + 16)) (by rw [ByteArray.size_extract]; omega)
      rw [fore_at] at hx
      go_wp2_with fail
      go_cut [10, 11] from 17 to 50 (fun h o wx => ∃ h0 : ByteArray, h = .string h0 ∧ h0.data.toList = short (fore s.data.toList n) ∧ o = .string (s.extract (32 * n + 16) (32 * n + 32)) ∧ Below w.heap.size w wx)
      case first =>
        go_region_with (go_at_call 21; refine (hx _).mono ?_; rintro e w1 ⟨h0, hh0, rfl, hb1⟩)
        all_goals
          go_wp2_with fail
          go_meet
          case rel => exact ⟨h0, rfl, hh0, rfl, below_then hb.drew hb1⟩
      case rest =>
        clear hx hb
        obtain ⟨h0, rfl, hh0, rfl, hb⟩ := hcut
        obtain ⟨o, ho⟩ : ∃ o, o = s.extract (32 * n + 16) (32 * n + 32) := ⟨_, rfl⟩
        have ho1 : o.data.toList = hind s.data.toList n := by rw [ho, hind_at]
        have zo : o.size = 16 := by rw [ho, ByteArray.size_extract]; omega
        rw [← ho]
        clear ho
        have zh := size_of h0 _ _ hh0 (short_length _)
        obtain ⟨b, hbd⟩ : ∃ b, b = bitOf d.data.toList n := ⟨_, rfl⟩
        have hb2 : b < 2 := hbd ▸ bitOf_lt _ _
        have HBt := refbit_any d n hd1 hlt wc
        rw [← hbd] at HBt
        have y0 : (x.size : Int) + (h0.size : Int) ≤ 1000003 := by omega
        have y1 : ((x ++ h0).size : Int) + (o.size : Int) ≤ 1000003 := by rw [ByteArray.size_append]; omega
        have y2 : (x.size : Int) + (o.size : Int) ≤ 1000003 := by omega
        have y3 : ((x ++ o).size : Int) + (h0.size : Int) ≤ 1000003 := by rw [ByteArray.size_append]; omega
        have HN : Hid (back d.data.toList s.data.toList (n + 1) = if b = 0 then (x ++ h0 ++ o).data.toList else (x ++ o ++ h0).data.toList) := by
          show back d.data.toList s.data.toList (n + 1) = _
          rw [back, ← HX.out, ← hh0, ← ho1, ← hbd]
          split <;> rw [add_list, add_list, List.append_assoc]
        clear hbd hh0 ho1
        by_cases hb0' : b = 0
        · subst hb0'
          go_wp2_with (go_at_call 26; refine HBt.mono ?_; rintro e w1 ⟨rfl, rfl⟩)
          go_roundw
          case rel => exact ⟨n + 1, x ++ h0 ++ o, by omega, by go_num, rfl, HN.out.symm, hb⟩
          case measure => simp [intOf]; omega
        · have hb1' : b = 1 := by omega
          subst hb1'
          go_wp2_with (go_at_call 26; refine HBt.mono ?_; rintro e w1 ⟨rfl, rfl⟩)
          go_roundw
          case rel => exact ⟨n + 1, x ++ o ++ h0, by omega, by go_num, rfl, HN.out.symm, hb⟩
          case measure => simp [intOf]; omega
    · have hn8 : n = 16 := by omega
      subst hn8
      go_wp2_with (go_at_call 21; refine (refshort_any x (by omega) _).mono ?_; rintro e w1 ⟨v0, hv0, rfl, hb1⟩)
      go_ret
      refine ⟨?_, below_then hb hb1⟩
      have hv : verifyOf p.data.toList m.data.toList s.data.toList = (v0.toList == p.toList) := by
        rw [same_list, hv0, HX.out, HD.out]
        unfold verifyOf
        rw [len_list, hs]; rfl
      rw [hv]; rfl

end Go.Proofs.Ytobgkmecdllbiaa
