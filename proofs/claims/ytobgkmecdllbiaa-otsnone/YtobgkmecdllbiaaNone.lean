/-
  The walk of OtsNone.
-/
import Derived.Test.YtobgkmecdllbiaaOtsWake
import Derived.Test.YtobgkmecdllbiaaPlace
namespace Go.Proofs.Ytobgkmecdllbiaa
open Go.RowKit

theorem value_len (s : ByteArray) (hs : s.size ≤ 200) (w : World) : Calls Try.prog 9 #[.string s, .int .i64 255, .int .i64 15, .int .i64 1] w fun e w' => ∃ x : ByteArray, (x.size : Int) = 16 ∧ e = .returned (.string x) ∧ Below w.heap.size w w' :=
  (value_any s 255 15 1 (by omega) (by decide) (by decide) (by decide) w).mono fun _ _ ⟨x, hx, he, hb⟩ => ⟨x, by have := size_of x _ _ hx (valueOf_length _ _ _ _); omega, he, hb⟩

set_option maxRecDepth 10000 in
set_option maxHeartbeats 400000 in
theorem none_any (s : ByteArray) (n how : Int) (hsm : s.size ≤ maxLen) (_wn : (Lit.int .i64 n).wf = true) (_wh : (Lit.int .i64 how).wf = true) (w : World) :
    Calls Try.prog 7 #[.string s, .int .i64 n, .int .i64 how] w fun e w' => e = .returned (.bool true) ∧ Below w.heap.size w w' := by
  unfold maxLen at hsm
  clear _wn _wh
  by_cases hbig : 200 < s.size
  · have hbig' : (200 : Int) < (s.size : Int) := by omega
    go_enter Try.func7, Try.ntmps7
    go_wp2_with (go_at_call 8; refine (awake_any _).mono ?_; rintro e w1 ⟨rfl, hb1⟩)
    go_ret
    exact ⟨rfl, hb1⟩
  have hs : s.size ≤ 200 := by omega
  have hsi : ¬ (200 : Int) < (s.size : Int) := by omega
  clear hsm hbig
  obtain ⟨b0, b1⟩ := tmod_bound how 2 (by decide)
  by_cases ev : how.tmod 2 = 0
  · go_enter Try.func7, Try.ntmps7
    go_wp2_with (go_at_call 17; refine (place_any n 1000 (by decide) (by decide) _).mono ?_; rintro e w0 ⟨r, hr, rfl, hw0⟩; subst w0)
    obtain ⟨k, hk⟩ : ∃ k, k = 255 - (256 + (r : Int)) := ⟨_, rfl⟩
    have hk2 : k < 0 ∨ 255 < k := by omega
    rw [← hk]
    generalize 256 + (r : Int) = r2
    clear hk hr
    refine (public_out s k hk2 _).mono ?_
    rintro e w1 ⟨rfl, hb1⟩
    go_wp2_with fail
    refine (sign_out s _ k hk2 _).mono ?_
    rintro e w2 ⟨rfl, hw2⟩
    subst w2
    go_wp2_with fail
    refine (value_out s k 0 0 (by omega) _).mono ?_
    rintro e w2 ⟨rfl, hw2⟩
    subst w2
    go_wp2_with fail
    refine (value_out s 0 k 0 (by omega) _).mono ?_
    rintro e w2 ⟨rfl, hw2⟩
    subst w2
    go_wp2_with fail
    refine (value_out s 0 0 k (by omega) _).mono ?_
    rintro e w2 ⟨rfl, hw2⟩
    subst w2
    go_wp2_with fail
    refine (value_len s hs _).mono ?_
    rintro e w2 ⟨x, hx, rfl, hb2⟩
    go_wp2_with fail
    refine (value_out s 0 16 0 (by omega) _).mono ?_
    rintro e w3 ⟨rfl, hw3⟩
    subst w3
    go_wp2_with fail
    refine (awake_any _).mono ?_
    rintro e w4 ⟨rfl, hb4⟩
    go_wp2
    go_ret
    exact ⟨rfl, below_then (below_then hb1 hb2) hb4⟩
  · go_enter Try.func7, Try.ntmps7
    go_wp2_with (go_at_call 17; refine (place_any n 1000 (by decide) (by decide) _).mono ?_; rintro e w0 ⟨r, hr, rfl, hw0⟩; subst w0)
    obtain ⟨k, hk⟩ : ∃ k, k = 256 + (r : Int) := ⟨_, rfl⟩
    have hk2 : k < 0 ∨ 255 < k := by omega
    rw [← hk]
    clear hk hr
    refine (public_out s k hk2 _).mono ?_
    rintro e w1 ⟨rfl, hb1⟩
    go_wp2_with fail
    refine (sign_out s _ k hk2 _).mono ?_
    rintro e w2 ⟨rfl, hw2⟩
    subst w2
    go_wp2_with fail
    refine (value_out s k 0 0 (by omega) _).mono ?_
    rintro e w2 ⟨rfl, hw2⟩
    subst w2
    go_wp2_with fail
    refine (value_out s 0 k 0 (by omega) _).mono ?_
    rintro e w2 ⟨rfl, hw2⟩
    subst w2
    go_wp2_with fail
    refine (value_out s 0 0 k (by omega) _).mono ?_
    rintro e w2 ⟨rfl, hw2⟩
    subst w2
    go_wp2_with fail
    refine (value_len s hs _).mono ?_
    rintro e w2 ⟨x, hx, rfl, hb2⟩
    go_wp2_with fail
    refine (value_out s 0 16 0 (by omega) _).mono ?_
    rintro e w3 ⟨rfl, hw3⟩
    subst w3
    go_wp2_with fail
    refine (awake_any _).mono ?_
    rintro e w4 ⟨rfl, hb4⟩
    go_wp2
    go_ret
    exact ⟨rfl, below_then (below_then hb1 hb2) hb4⟩

end Go.Proofs.Ytobgkmecdllbiaa
