/-
  The document's Hex.
-/
import Derived.Test.YtnnnhdacknecoaaHex
namespace Go.Proofs.Ytnnnhdacknecoaa
open Go.RowKit
attribute [local go_sem ↓] Go.wp_at_zero Go.wp_at_succ

set_option maxRecDepth 10000 in
set_option maxHeartbeats 1000000 in
theorem refhex_any (s : ByteArray) (hs : s.size ≤ 1099511627) (w : World) :
    Calls Try.prog 14 #[.string s] w fun e w' => e = .returned (.string ⟨(hexOf s.data.toList).toArray⟩) ∧ Below w.heap.size w w' := by
  go_enter Try.func14, Try.ntmps14
  go_wp2
  go_loopw [3, 4] (fun v i wr => ∃ k : Nat, k ≤ s.size ∧ i = .int .i64 k ∧ Own wr w.heap.size v (hexOf (s.data.toList.take k)) ∧ Below w.heap.size w wr) (fun _ i _ => s.size - (intOf i).toNat)
  case atStart => exact ⟨0, by omega, rfl, Own.nil _ _, Below.refl _ _⟩
  case round =>
    obtain ⟨k, hk, rfl, hown, hb⟩ := hrel
    by_cases hlt : k < s.size
    · obtain ⟨L, hL⟩ : ∃ L, L = hexOf (s.data.toList.take k) := ⟨_, rfl⟩
      have hl2 : L.length + 2 ≤ 1099511627776 := by rw [hL, hexOf_length]; simp; omega
      rw [← hL] at hown
      have HL : Hid (L = hexOf (s.data.toList.take k)) := hL
      clear hL
      have k0 : (0 : Int) ≤ (k : Int) := by omega
      have k1 : (k : Int) < (s.size : Int) := by omega
      have hn := s[k].toNat_lt
      have q0 : (0 : Int) ≤ (s[k].toNat : Int) / 16 := by omega
      have q1 : (s[k].toNat : Int) / 16 < 16 := by omega
      have r0 : (0 : Int) ≤ (s[k].toNat : Int) % 16 := by omega
      have r1 : (s[k].toNat : Int) % 16 < 16 := by omega
      have ha := low4 s[k]
      go_wp2
      go_region_held3 (fun _ => True) (trivial)
        ((refine step_lit wr _ (by rfl) (.tmp 11) (.tmp 22) (by rfl) w.heap.size _ L (by rfl) hown (two s[k]) 2 rfl (by rfl) (two_row s[k] _ _) hl2 hb.size ?_; intro v4 w4 hown4 hb4))
      all_goals
        go_wp2
        go_roundw
        case rel =>
          rw [HL.out, two_at s k hlt] at hown4
          exact ⟨k + 1, by omega, by go_num, hown4, hb.trans hb4⟩
        case measure => simp [intOf]; omega
    · have hk8 : k = s.size := by omega
      rw [hk8, List.take_of_length_le (by simp)] at hown
      clear hk8
      go_wp2_with (refine wpList_said (by rfl) (.tmp 24) (by rfl) w.heap.size _ _ (by rfl) hown ?_)
      go_ret
      exact ⟨rfl, hb⟩

end Go.Proofs.Ytnnnhdacknecoaa
