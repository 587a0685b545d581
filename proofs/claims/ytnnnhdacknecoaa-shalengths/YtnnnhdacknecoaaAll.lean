/-
  The walks of ShaAll and ShaLengths.
-/
import Derived.Test.YtnnnhdacknecoaaRef
import Derived.Test.YtnnnhdacknecoaaHexRef
import Derived.Test.YtnnnhdacknecoaaAwake
import Derived.Deep.RegionHeld3
import Derived.Deep.DrawnRows
namespace Go.Proofs.Ytnnnhdacknecoaa
open Go.RowKit
attribute [local go_sem ↓] Go.wp_at_zero Go.wp_at_succ

theorem letters_all (s : ByteArray) (hs : s.size ≤ 3000) : ∃ h d sh : ByteArray, (∀ w, Calls Try.prog 13 #[.string s] w fun e w' => e = .returned (.string h) ∧ Below w.heap.size w w')
    ∧ (∀ w, Calls Try.prog 14 #[.string s] w fun e w' => e = .returned (.string h) ∧ Below w.heap.size w w')
    ∧ (∀ w, Calls Try.prog 10 #[.string s] w fun e w' => e = .returned (.string d) ∧ Below w.heap.size w w')
    ∧ (∀ w, Calls Try.prog 11 #[.string s] w fun e w' => e = .returned (.string d) ∧ Below w.heap.size w w')
    ∧ (∀ w, Calls Try.prog 12 #[.string s] w fun e w' => e = .returned (.string sh) ∧ Below w.heap.size w w')
    ∧ d.size = 32 ∧ d.extract 0 16 = sh := by
  refine ⟨⟨(hexOf s.data.toList).toArray⟩, ⟨(digest s.data.toList).toArray⟩, ⟨((digest s.data.toList).take 16).toArray⟩, hex_any s (by omega), refhex_any s (by omega), sum_any s (by omega), refsum_any s (by omega), short_any s (by omega), ?_, ?_⟩
  · show (digest s.data.toList).toArray.size = _
    rw [List.size_toArray, digest_length]
  · apply ByteArray.ext; rw [ByteArray.data_extract]; simp

set_option maxRecDepth 10000 in
set_option maxHeartbeats 1000000 in
theorem all_any (s : ByteArray) (hs : s.size ≤ maxLen) (w : World) : Calls Try.prog 3 #[.string s] w fun e w' => e = .returned (.bool true) ∧ Below w.heap.size w w' := by
  unfold maxLen at hs
  by_cases hbig : 3000 < s.size
  · have hbig' : (3000 : Int) < (s.size : Int) := by omega
    go_enter Try.func3, Try.ntmps3
    go_wp2_with (go_at_call 9; refine (awake_any _).mono ?_; rintro e w1 ⟨rfl, hb1⟩)
    go_ret
    exact ⟨rfl, hb1⟩
  · obtain ⟨h, d, sh, HX, HRX, HS, HRS, HH, zd, ed⟩ := letters_all s (by omega)
    have hsm : ¬ (3000 : Int) < (s.size : Int) := by omega
    have zd' : (d.size : Int) = 32 := by omega
    have z16 : (16 : Int) ≤ (d.size : Int) := by omega
    go_enter Try.func3, Try.ntmps3
    go_wp2_with (go_at_call 10; refine (HS _).mono ?_; rintro e w1 ⟨rfl, hb1⟩)
    go_region_held3 (fun _ => True) (trivial) (first | (go_at_call 11; refine (HRS _).mono ?_; rintro e w2 ⟨rfl, hb2⟩) | (go_at_call 12; refine (HH _).mono ?_; rintro e w3 ⟨rfl, hb3⟩) | (go_at_call 13; refine (HX _).mono ?_; rintro e w4 ⟨rfl, hb4⟩) | (go_at_call 14; refine (HRX _).mono ?_; rintro e w5 ⟨rfl, hb5⟩) | (go_at_call 9; refine (awake_any _).mono ?_; rintro e w6 ⟨rfl, hb6⟩))
    all_goals
      go_wp2
      go_ret
      have z1 := hb1.size
      have z2 : w1.heap.size ≤ w2.heap.size := hb2.size
      have z3 := hb3.size
      have z4 := hb4.size
      have z5 := hb5.size
      exact ⟨rfl, ((((hb1.drew.trans (hb2.mono z1)).trans (hb3.mono (by omega))).trans (hb4.mono (by omega))).trans (hb5.mono (by omega))).trans (hb6.mono (by omega))⟩

end Go.Proofs.Ytnnnhdacknecoaa
