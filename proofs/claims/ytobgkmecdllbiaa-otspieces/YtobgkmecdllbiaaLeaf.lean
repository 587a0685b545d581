/-
  What the small functions of package sha give, over words of 32 bits.
-/
import Derived.Test.YtobgkmecdllbiaaRows
import Derived.Test.YtobgkmecdllbiaaBits
import Derived.WalkSpells
import Derived.WalkLawsBesides
namespace Go.Proofs.Ytobgkmecdllbiaa
open Go.RowKit

theorem ret_int {k : IntKind} {a b : Int} (h : a = b) : Ending.returned (.int k a) = .returned (.int k b) := by rw [h]

set_option maxHeartbeats 400000 in
theorem rot_any (x : BitVec 32) (n : Nat) (h1 : 1 ≤ n) (h2 : n ≤ 31) (w : World) :
    Calls Try.prog 46 #[.int .u32 x.toNat, .int .i64 (-(n : Int))] w fun e w' => e = .returned (.int .u32 (rotr x n).toNat) ∧ w' = w := by
  have hb := neg_and n h1 h2
  go_enter Try.func46, Try.ntmps46
  go_wp2
  go_ret
  refine ⟨ret_int ?_, rfl⟩
  rw [bv_shl', bv_shr, bv_or, show 32 - (32 - n) = n from by omega, BitVec.or_comm]; rfl

set_option maxHeartbeats 400000 in
theorem right_any (x : BitVec 32) (n : Nat) (h1 : 1 ≤ n) (h2 : n ≤ 31) (w : World) :
    Calls Try.prog 45 #[.int .u32 x.toNat, .int .i64 n] w fun e w' => e = .returned (.int .u32 (rotr x n).toNat) ∧ w' = w := by
  go_enter Try.func45, Try.ntmps45
  go_wp2_with (go_at_call 46; refine (rot_any x n h1 h2 _).mono ?_; rintro e w' ⟨rfl, rfl⟩)
  go_ret
  exact ⟨rfl, rfl⟩

set_option maxHeartbeats 400000 in
theorem chs_any (x y z : BitVec 32) (w : World) :
    Calls Try.prog 40 #[.int .u32 x.toNat, .int .u32 y.toNat, .int .u32 z.toNat] w fun e w' => e = .returned (.int .u32 (chs x y z).toNat) ∧ w' = w := by
  have hs : IntKind.u32.signed = false := rfl
  have hm : IntKind.u32.max = 4294967295 := rfl
  go_enter Try.func40, Try.ntmps40
  go_wp2
  go_ret
  refine ⟨ret_int ?_, rfl⟩
  rw [bv_not, bv_and, bv_and, bv_xor]; rfl

set_option maxHeartbeats 400000 in
theorem maj_any (x y z : BitVec 32) (w : World) :
    Calls Try.prog 42 #[.int .u32 x.toNat, .int .u32 y.toNat, .int .u32 z.toNat] w fun e w' => e = .returned (.int .u32 (maj x y z).toNat) ∧ w' = w := by
  go_enter Try.func42, Try.ntmps42
  go_wp2
  go_ret
  refine ⟨ret_int ?_, rfl⟩
  rw [bv_and, bv_and, bv_and, bv_xor, bv_xor]; rfl

theorem right_at (x : BitVec 32) (m : Int) (h1 : 1 ≤ m) (h2 : m ≤ 31) (w : World) :
    Calls Try.prog 45 #[.int .u32 x.toNat, .int .i64 m] w fun e w' => e = .returned (.int .u32 (rotr x m.toNat).toNat) ∧ w' = w := by
  obtain ⟨n, rfl⟩ := Int.eq_ofNat_of_zero_le (show 0 ≤ m by omega)
  exact right_any x n (by omega) (by omega) w

set_option maxHeartbeats 400000 in
theorem bsig1_any (x : BitVec 32) (w : World) :
    Calls Try.prog 39 #[.int .u32 x.toNat] w fun e w' => e = .returned (.int .u32 (bsig1 x).toNat) ∧ w' = w := by
  go_enter Try.func39, Try.ntmps39
  go_wp2_with (go_at_call 45; refine (right_at x _ (by decide) (by decide) _).mono ?_; rintro e w' ⟨rfl, rfl⟩)
  go_ret
  refine ⟨ret_int ?_, rfl⟩
  rw [bv_xor, bv_xor]; rfl

set_option maxHeartbeats 400000 in
theorem bsig0_any (x : BitVec 32) (w : World) :
    Calls Try.prog 41 #[.int .u32 x.toNat] w fun e w' => e = .returned (.int .u32 (bsig0 x).toNat) ∧ w' = w := by
  go_enter Try.func41, Try.ntmps41
  go_wp2_with (go_at_call 45; refine (right_at x _ (by decide) (by decide) _).mono ?_; rintro e w' ⟨rfl, rfl⟩)
  go_ret
  refine ⟨ret_int ?_, rfl⟩
  rw [bv_xor, bv_xor]; rfl

set_option maxHeartbeats 400000 in
theorem ssig0_any (x : BitVec 32) (w : World) :
    Calls Try.prog 43 #[.int .u32 x.toNat] w fun e w' => e = .returned (.int .u32 (ssig0 x).toNat) ∧ w' = w := by
  go_enter Try.func43, Try.ntmps43
  go_wp2_with (go_at_call 45; refine (right_at x _ (by decide) (by decide) _).mono ?_; rintro e w' ⟨rfl, rfl⟩)
  go_ret
  refine ⟨ret_int ?_, rfl⟩
  rw [bv_xor, bv_shr3, bv_xor]; rfl

set_option maxHeartbeats 400000 in
theorem ssig1_any (x : BitVec 32) (w : World) :
    Calls Try.prog 44 #[.int .u32 x.toNat] w fun e w' => e = .returned (.int .u32 (ssig1 x).toNat) ∧ w' = w := by
  go_enter Try.func44, Try.ntmps44
  go_wp2_with (go_at_call 45; refine (right_at x _ (by decide) (by decide) _).mono ?_; rintro e w' ⟨rfl, rfl⟩)
  go_ret
  refine ⟨ret_int ?_, rfl⟩
  rw [bv_xor, bv_shr10, bv_xor]; rfl

end Go.Proofs.Ytobgkmecdllbiaa
