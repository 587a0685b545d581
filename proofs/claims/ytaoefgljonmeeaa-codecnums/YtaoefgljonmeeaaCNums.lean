/-
  The walk of CodecNums.
-/
import Derived.Test.YtaoefgljonmeeaaCodWake
import Derived.Test.YtaoefgljonmeeaaPlace
import Derived.Deep.RegionHeld3
import Derived.Deep.DrawnRows
namespace Go.Proofs.Ytaoefgljonmeeaa
open Go.RowKit
attribute [local go_sem ↓] Go.wp_at_zero Go.wp_at_succ

theorem last_num (k : Nat) (h : k < 256) : (num8 (k : Int)).getD 7 0 = UInt8.ofNat k := by
  have e : word (k : Int) = k := by unfold word; omega
  unfold num8
  rw [e]
  simp [be]

/-- Texts by letters: a number's, that text's, a small number's. -/
theorem letters_nums (v : Int) (k : Nat) (hk : k < 100) : ∃ s t z : ByteArray, (∀ w, Calls Try.prog 18 #[.int .i64 v] w fun e w' => e = .returned (.string s) ∧ Below w.heap.size w w')
    ∧ (∀ w, Calls Try.prog 19 #[.string s] w fun e w' => e = .returned (.string t) ∧ Below w.heap.size w w')
    ∧ (∀ w, Calls Try.prog 18 #[.int .i64 (k : Int)] w fun e w' => e = .returned (.string z) ∧ Below w.heap.size w w')
    ∧ s.data.toList = num8 v ∧ s.size = 8 ∧ t.size = 16 ∧ z.size = 8 ∧ t.extract 8 16 = s ∧ (∀ h : 7 < t.size, (t[7]'h).toNat = 8) ∧ (∀ h : 7 < z.size, z[7]'h = UInt8.ofNat k) := by
  have hs : (⟨(num8 v).toArray⟩ : ByteArray).size = 8 := by rw [mk_size, num8_length]
  refine ⟨⟨(num8 v).toArray⟩, ⟨(text8 (num8 v)).toArray⟩, ⟨(num8 (k : Int)).toArray⟩, num_any v, text_any _ (by omega), num_any _, rfl, hs, ?_, ?_, ?_, fun h => ?_, fun h => ?_⟩
  · rw [mk_size, text8_length, num8_length]
  · rw [mk_size, num8_length]
  · apply ByteArray.ext; rw [← Array.toList_inj, extract_list]
    unfold text8
    have h8 := num8_length v
    have h9 := num8_length ((num8 v).length : Int)
    simp only
    rw [List.drop_append_of_le_length (by omega), List.drop_of_length_le (by omega), List.nil_append, List.take_of_length_le (by omega)]
  · rw [byte_get _ _ h]
    show ((text8 (num8 v)).getD 7 0).toNat = 8
    have h8 := num8_length v
    have h9 := num8_length ((num8 v).length : Int)
    unfold text8
    rw [List.getD_eq_getElem?_getD, List.getElem?_append_left (by omega), ← List.getD_eq_getElem?_getD, h8, last_num 8 (by omega)]; rfl
  · rw [byte_get _ _ h]
    exact last_num k (by omega)

set_option maxRecDepth 100000 in
set_option maxHeartbeats 1000000 in
theorem nums_any (v : Int) (hv : (Lit.int .i64 v).wf = true) (w : World) : Calls Try.prog 6 #[.int .i64 v] w fun e w' => e = .returned (.bool true) ∧ Below w.heap.size w w' := by
  have hr := wf_i64 hv
  obtain ⟨k, hk, HP⟩ := place_ex v 100 (by omega) (by omega)
  obtain ⟨s, t, z, HS, HT, HZ, hs, ss, ts, zs, et, t7, z7⟩ := letters_nums v k (by omega)
  obtain ⟨β, hβ, hk2⟩ : ∃ β : UInt8, UInt8.ofNat k = β ∧ k = β.toNat := ⟨UInt8.ofNat k, rfl, by rw [UInt8.toNat_ofNat']; omega⟩
  rw [hβ] at z7
  subst hk2
  have hβ2 : IntKind.u8.wrap (β.toNat : Int) = (β.toNat : Int) := by have := β.toNat_lt; simp [IntKind.wrap, IntKind.bits, IntKind.signed]; omega
  clear hβ
  have HW : Hid (∀ n : Nat, n = val s.data.toList → IntKind.i64.wrap (n : Int) = v) := fun n hn => by rw [hn, hs]; exact val_num8 v hr.1 hr.2
  clear hv hr hs
  have hs8 : (s.size : Int) = 8 := by omega
  go_enter Try.func6, Try.ntmps6
  go_wp2_with (go_at_call 18; refine (HS _).mono ?_; rintro e w1 ⟨rfl, hb1⟩)
  go_loop [4, 5] (fun u i => ∃ (k n : Nat), k ≤ 8 ∧ i = .int .i64 k ∧ n = val (s.data.toList.take k) ∧ u = .int .u64 n) (fun _ i => 8 - (intOf i).toNat)
  case atStart => exact ⟨0, 0, by omega, rfl, rfl, rfl⟩
  case round =>
    obtain ⟨i, n, hi, rfl, hn, rfl⟩ := hrel
    by_cases hlt : i < 8
    · have hl : i < s.data.toList.length := by rw [len_list]; omega
      have his : i < s.size := by omega
      have i1 : (i : Int) < (s.size : Int) := by omega
      have hn2 : n < 72057594037927936 := by rw [hn]; exact val_take_lt _ _ hlt
      have hx : s[i].toNat < 256 := s[i].toNat_lt
      have HV2 : Hid (n * 256 + s[i].toNat = val (s.data.toList.take (i + 1))) := by
        show _ = _
        rw [val_take _ _ hl, hn, byte_get s i his, List.getD_eq_getElem?_getD, List.getElem?_eq_getElem hl]; rfl
      clear hn t7 z7
      go_wp2
      go_round
      case rel => exact ⟨i + 1, n * 256 + s[i].toNat, by omega, by go_num, HV2.out, by go_num⟩
      case measure => simp [intOf]; omega
    · have hi8 : i = 8 := by omega
      subst hi8
      rw [List.take_of_length_le (by rw [len_list]; omega)] at hn
      have hw := HW.out n hn
      clear hn HW
      have h16 : (t.size : Int) = 16 := by omega
      have hz8 : (z.size : Int) = 8 := by omega
      have t7' := t7 (by omega)
      have z7' := z7 (by omega)
      clear t7 z7
      go_wp2_with (go_at_call 19; refine (HT _).mono ?_; rintro e w2 ⟨rfl, hb2⟩)
      have hB2 := below_then hb1 hb2
      clear hb1 hb2 HS HT
      go_region_held3 (fun _ => True) (trivial) (first | (go_at_call 9; refine (HP _).mono ?_; rintro e w0 ⟨rfl, hw0⟩; subst w0) | (go_at_call 18; refine (HZ _).mono ?_; rintro e w3 ⟨rfl, hb3⟩) | (go_at_call 7; refine (awake_any _).mono ?_; rintro e w4 ⟨rfl, hb4⟩))
      all_goals
        have hB4 : Below w.heap.size w w4 := below_then (below_then hB2.drew hb3) hb4
        go_wp2
        go_ret
        exact ⟨rfl, hB4⟩
end Go.Proofs.Ytaoefgljonmeeaa
