/-
  A signature comes back to its own public key alone.
-/
import Derived.Test.YtobgkmecdllbiaaOts
namespace Go.Proofs.Ytobgkmecdllbiaa

theorem verify_other (seed : List UInt8) (key : Nat) (msg pub : List UInt8) : verifyOf pub msg (signOf seed key msg) = (publicOf seed key == pub) := by
  unfold verifyOf
  rw [signOf_length]
  unfold signOf publicOf
  rw [back_shown seed key _ 16 16 (Nat.le_refl _)]; rfl
theorem publicOf_length (seed : List UInt8) (key : Nat) : (publicOf seed key).length = 16 := short_length _

end Go.Proofs.Ytobgkmecdllbiaa
