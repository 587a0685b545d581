/-
  The document's Value, Public, Sign out of range: the empty text, at once.
-/
import Derived.Test.YtobgkmecdllbiaaOtsPub
namespace Go.Proofs.Ytobgkmecdllbiaa
open Go.RowKit

set_option maxHeartbeats 400000 in
theorem refpublic_out (s : ByteArray) (k : Int) (h : k < 0 ∨ 255 < k) (w : World) :
    Calls Try.prog 12 #[.string s, .int .i64 k] w fun e w' => e = .returned (.string ⟨#[]⟩) ∧ w' = w := by
  rcases h with h | h
  · go_enter Try.func12, Try.ntmps12
    go_wp2
    go_ret
    trivial
  · have h0 : ¬ k < 0 := by omega
    go_enter Try.func12, Try.ntmps12
    go_wp2
    go_ret
    trivial

set_option maxHeartbeats 400000 in
theorem refsign_out (s m : ByteArray) (k : Int) (h : k < 0 ∨ 255 < k) (w : World) :
    Calls Try.prog 14 #[.string s, .int .i64 k, .string m] w fun e w' => e = .returned (.string ⟨#[]⟩) ∧ w' = w := by
  rcases h with h | h
  · go_enter Try.func14, Try.ntmps14
    go_wp2
    go_ret
    trivial
  · have h0 : ¬ k < 0 := by omega
    go_enter Try.func14, Try.ntmps14
    go_wp2
    go_ret
    trivial

set_option maxHeartbeats 400000 in
theorem refvalue_out (s : ByteArray) (k i b : Int) (h : ¬ (0 ≤ k ∧ k ≤ 255 ∧ 0 ≤ i ∧ i < 16 ∧ 0 ≤ b ∧ b ≤ 1)) (w : World) :
    Calls Try.prog 10 #[.string s, .int .i64 k, .int .i64 i, .int .i64 b] w fun e w' => e = .returned (.string ⟨#[]⟩) ∧ w' = w := by
  by_cases h1 : k < 0
  · go_enter Try.func10, Try.ntmps10
    go_wp2
    go_ret
    trivial
  by_cases h2 : 255 < k
  · go_enter Try.func10, Try.ntmps10
    go_wp2
    go_ret
    trivial
  by_cases h3 : i < 0
  · go_enter Try.func10, Try.ntmps10
    go_wp2
    go_ret
    trivial
  by_cases h4 : 16 ≤ i
  · go_enter Try.func10, Try.ntmps10
    go_wp2
    go_ret
    trivial
  by_cases h5 : b < 0
  · go_enter Try.func10, Try.ntmps10
    go_wp2
    go_ret
    trivial
  have h6 : 1 < b := by omega
  clear h
  go_enter Try.func10, Try.ntmps10
  go_wp2
  go_ret
  trivial

end Go.Proofs.Ytobgkmecdllbiaa
