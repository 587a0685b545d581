/-
  Package sha's lastBlocks.
-/
import Derived.Test.YtidhcnecmelkbabBuf
namespace Go.Proofs.Ytidhcnecmelkbab
open Go.RowKit

def lenOf : Value → Nat
  | .slice _ n _ => n
  | _ => 0

/-- A byte of a number, so many bits up. -/
def upByte (n k : Nat) : UInt8 := UInt8.ofNat (n / 2 ^ k)
/-- The first i of eight bytes of a number, the highest first. -/
def tops (n : Nat) : Nat → List UInt8
  | 0 => []
  | i + 1 => tops n i ++ [upByte n (56 - 8 * i)]
theorem tops_length (n i : Nat) : (tops n i).length = i := by
  induction i with
  | zero => rfl
  | succ i ih => simp [tops, ih]
/-- How many zeros stand behind so many bytes. -/
def gap (r : Nat) : Nat := (119 - r % 64) % 64
/-- What is mixed in behind the whole blocks of a text of n bytes. -/
def lastB (r : List UInt8) (n : Nat) : List UInt8 := r ++ [128] ++ List.replicate (gap r.length) 0 ++ tops (8 * n) 8

theorem top_row (n k : Nat) : #[Value.int IntKind.u8 ((n : Int) * 8 / 2 ^ (56 - 8 * k) % 256)] = (cb [upByte (8 * n) (56 - 8 * k)]).toArray := by
  have e : (((upByte (8 * n) (56 - 8 * k)).toNat : Nat) : Int) = (n : Int) * 8 / 2 ^ (56 - 8 * k) % 256 := by
    unfold upByte
    rw [UInt8.toNat_ofNat', Int.natCast_emod, Int.natCast_ediv, Int.natCast_mul, Int.natCast_pow, Int.mul_comm]; rfl
  simp [cb, e]

end Go.Proofs.Ytidhcnecmelkbab
