/-
  The walk of OtsVerifies.
-/
import Derived.Test.YtobgkmecdllbiaaOtsWake
import Derived.Test.YtobgkmecdllbiaaPlace
namespace Go.Proofs.Ytobgkmecdllbiaa
open Go.RowKit

theorem made_true (p s : ByteArray) (seed m : List UInt8) (k : Nat) (hp : p.data.toList = publicOf seed k) (hs : s.data.toList = signOf seed k m) : verifyOf p.data.toList m s.data.toList = true := by
  rw [hp, hs]; exact verify_sign _ _ _

set_option maxRecDepth 10000 in
set_option maxHeartbeats 400000 in
theorem verifies_any (s : ByteArray) (key : Int) (m : ByteArray) (hsm : s.size ≤ maxLen) (_wk : (Lit.int .i64 key).wf = true) (hmm : m.size ≤ maxLen) (w : World) :
    Calls Try.prog 4 #[.string s, .int .i64 key, .string m] w fun e w' => e = .returned (.bool true) ∧ Below w.heap.size w w' := by
  unfold maxLen at hsm hmm
  clear _wk
  by_cases hbig : 200 < s.size
  · have hbig' : (200 : Int) < (s.size : Int) := by omega
    go_enter Try.func4, Try.ntmps4
    go_wp2_with (go_at_call 8; refine (awake_any _).mono ?_; rintro e w1 ⟨rfl, hb1⟩)
    go_ret
    exact ⟨rfl, hb1⟩
  have hs : s.size ≤ 200 := by omega
  have hsi : ¬ (200 : Int) < (s.size : Int) := by omega
  clear hsm hbig
  by_cases hbig : 500 < m.size
  · have hbig' : (500 : Int) < (m.size : Int) := by omega
    go_enter Try.func4, Try.ntmps4
    go_wp2_with (go_at_call 8; refine (awake_any _).mono ?_; rintro e w1 ⟨rfl, hb1⟩)
    go_ret
    exact ⟨rfl, hb1⟩
  have hm : m.size ≤ 500 := by omega
  have hmi : ¬ (500 : Int) < (m.size : Int) := by omega
  clear hmm hbig
  go_enter Try.func4, Try.ntmps4
  go_wp2_with (go_at_call 17; refine (place_any key 256 (by decide) (by decide) _).mono ?_; rintro e w0 ⟨k, hk, rfl, hw0⟩; subst w0)
  refine (public_any s k (by omega) (by omega) _).mono ?_
  rintro e w1 ⟨p, hp, rfl, hb1⟩
  have zp : p.size = 16 := size_of p _ _ hp (publicOf_length _ _)
  have HP : Hid (p.data.toList = publicOf s.data.toList k) := hp
  clear hp
  have zpi : (p.size : Int) = 16 := by omega
  go_wp2_with fail
  refine (sign_any s m k (by omega) (by omega) (by omega) _).mono ?_
  rintro e w2 ⟨g, hg, rfl, hb2⟩
  have zg : g.size = 512 := size_of g _ _ hg (signOf_length _ _ _)
  have V1 := verify_any p m g (by omega) zg
  rw [made_true p g _ _ k HP.out hg] at V1
  clear hg
  have zgi : (g.size : Int) = 512 := by omega
  go_wp2_with fail
  refine (V1 _).mono ?_
  rintro e w3 ⟨rfl, hb3⟩
  clear V1
  go_wp2_with fail
  refine (verify_none p m _ (by rw [ByteArray.size_extract]; omega) _).mono ?_
  rintro e w4 ⟨rfl, hb4⟩
  go_wp2_with fail
  refine (verify_none p m _ (by rw [ByteArray.size_append, zg]; decide) _).mono ?_
  rintro e w5 ⟨rfl, hb5⟩
  have V2 := verify_any (p ++ ⟨#[120]⟩) m g (by omega) zg
  rw [verify_pub _ _ _ (by rw [len_list, ByteArray.size_append, zp]; decide)] at V2
  go_wp2_with fail
  refine (V2 _).mono ?_
  rintro e w6 ⟨rfl, hb6⟩
  clear V2
  go_wp2_with fail
  refine (awake_any _).mono ?_
  rintro e w7 ⟨rfl, hb7⟩
  go_wp2
  go_ret
  exact ⟨rfl, below_then (below_then (below_then (below_then (below_then (below_then hb1 hb2) hb3) hb4) hb5) hb6) hb7⟩

end Go.Proofs.Ytobgkmecdllbiaa
