/-
  The statements' own look at one signature.
-/
import Derived.Test.YtobgkmecdllbiaaOtsOwnV
import Derived.Test.YtobgkmecdllbiaaOtsMore
import Derived.Test.YtobgkmecdllbiaaOtsTwo
namespace Go.Proofs.Ytobgkmecdllbiaa
open Go.RowKit

theorem wake_true (p s : ByteArray) (m : List UInt8) (hp : p.data.toList = publicOf seedL 1) (hs : s.data.toList = signOf seedL 1 m) : verifyOf p.data.toList m s.data.toList = true := by
  rw [hp, hs]; exact verify_sign _ _ _
theorem wake_false (p s : ByteArray) (m : List UInt8) (hp : p.data.toList = publicOf seedL 2) (hs : s.data.toList = signOf seedL 1 m) : verifyOf p.data.toList m s.data.toList = false := by
  rw [hp, hs, verify_other, beq_eq_false_iff_ne]; exact publics_differ

set_option maxRecDepth 10000 in
set_option maxHeartbeats 400000 in
theorem awake_any (w : World) : Calls Try.prog 8 #[] w fun e w' => e = .returned (.bool true) ∧ Below w.heap.size w w' := by
  go_enter Try.func8, Try.ntmps8
  go_wp2_with fail
  refine (sign_any ⟨#[115, 101, 101, 100]⟩ ⟨#[116, 101, 120, 116]⟩ 1 (by decide) (by decide) (by decide) _).mono ?_
  rintro e w1 ⟨s, hs, rfl, hb1⟩
  have zs : s.size = 512 := size_of s _ _ hs (signOf_length _ _ _)
  have HS : Hid (s.data.toList = signOf seedL 1 [116, 101, 120, 116]) := hs
  clear hs
  have zi : (s.size : Int) = 512 := by omega
  go_wp2_with fail
  refine (public_any ⟨#[115, 101, 101, 100]⟩ 1 (by decide) (by decide) _).mono ?_
  rintro e w2 ⟨p1, hp1, rfl, hb2⟩
  have V1 := verify_any p1 ⟨#[116, 101, 120, 116]⟩ s (by decide) zs
  rw [show verifyOf p1.data.toList (ByteArray.mk #[116, 101, 120, 116]).data.toList s.data.toList = true from wake_true p1 s _ hp1 HS.out] at V1
  clear hp1
  go_wp2_with fail
  refine (V1 _).mono ?_
  rintro e w3 ⟨rfl, hb3⟩
  clear V1
  go_wp2_with fail
  refine (public_any ⟨#[115, 101, 101, 100]⟩ 2 (by decide) (by decide) _).mono ?_
  rintro e w4 ⟨p2, hp2, rfl, hb4⟩
  have V2 := verify_any p2 ⟨#[116, 101, 120, 116]⟩ s (by decide) zs
  rw [show verifyOf p2.data.toList (ByteArray.mk #[116, 101, 120, 116]).data.toList s.data.toList = false from wake_false p2 s _ hp2 HS.out] at V2
  clear hp2
  go_wp2_with fail
  refine (V2 _).mono ?_
  rintro e w5 ⟨rfl, hb5⟩
  clear V2
  go_wp2_with fail
  refine (sign_out ⟨#[115, 101, 101, 100]⟩ ⟨#[116, 101, 120, 116]⟩ (-1) (by decide) _).mono ?_
  rintro e w6 ⟨rfl, hw6⟩
  subst w6
  go_wp2
  go_ret
  exact ⟨rfl, below_then (below_then (below_then (below_then hb1 hb2) hb3) hb4) hb5⟩

end Go.Proofs.Ytobgkmecdllbiaa
