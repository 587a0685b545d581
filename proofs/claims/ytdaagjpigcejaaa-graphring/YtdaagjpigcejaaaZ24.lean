/-
  Package sha's wordBytes.
-/
import Derived.Test.YtdaagjpigcejaaaZ16
import Derived.Test.YtdaagjpigcejaaaZ22
import Derived.Test.YtdaagjpigcejaaaZ18
namespace Go.Proofs.Ytdaagjpigcejaaa
open Go.RowKit


/-- A word's four bytes, the highest first. -/
def four (x : BitVec 32) : List UInt8 := [UInt8.ofNat (x.toNat / 16777216), UInt8.ofNat (x.toNat / 65536), UInt8.ofNat (x.toNat / 256), UInt8.ofNat x.toNat]
def fours (l : List (BitVec 32)) : List UInt8 := l.flatMap four
theorem fours_length (l : List (BitVec 32)) : (fours l).length = 4 * l.length := by
  induction l with
  | nil => rfl
  | cons x l ih => simp [fours, four] at *; omega

theorem run_word (l : List (BitVec 32)) (k : Nat) (x : BitVec 32) (hk : k < 8) (hx : l[k]? = some x) (w : World) :
    (Instr.index 66 (.agg (cw l).toArray) (.int .i64 (k : Int))).run Try.prog w = .ok (.int .u32 (x.toNat : Int)) w := by
  have h1 : (0 : Int) ≤ (k : Int) ∧ (k : Int) < 8 := by omega
  have h2 : (cw l)[k]? = some (Value.int .u32 (x.toNat : Int)) := by simp [cw, hx]
  simp [Instr.index, run_underlying Try.underlying66, asIntOf, h1, h2, part, isAgg, run_underlying Try.underlying65, go_sem]
  omega

theorem fours_snoc (l : List (BitVec 32)) (k : Nat) (x : BitVec 32) (hx : l[k]? = some x) : fours (l.take (k + 1)) = fours (l.take k) ++ four x := by
  rw [List.take_add_one, hx]; simp [fours]
theorem four_row (x : BitVec 32) : #[Value.int IntKind.u8 ((x.toNat : Int) / 16777216), Value.int IntKind.u8 ((x.toNat : Int) / 65536 % 256), Value.int IntKind.u8 ((x.toNat : Int) / 256 % 256), Value.int IntKind.u8 ((x.toNat : Int) % 256)] = (cb (four x)).toArray := by
  have h := x.isLt
  have e1 : (((UInt8.ofNat (x.toNat / 16777216)).toNat : Nat) : Int) = (x.toNat : Int) / 16777216 := by rw [byte_mod]; omega
  have e2 : (((UInt8.ofNat (x.toNat / 65536)).toNat : Nat) : Int) = (x.toNat : Int) / 65536 % 256 := by rw [byte_mod]; omega
  have e3 : (((UInt8.ofNat (x.toNat / 256)).toNat : Nat) : Int) = (x.toNat : Int) / 256 % 256 := by rw [byte_mod]; omega
  have e4 : (((UInt8.ofNat x.toNat).toNat : Nat) : Int) = (x.toNat : Int) % 256 := by rw [byte_mod]
  simp only [cb, four, List.map_cons, List.map_nil, e1, e2, e3, e4]

end Go.Proofs.Ytdaagjpigcejaaa

/-
  Package codec's Num and Text.
-/
namespace Go.Proofs.Ytdaagjpigcejaaa
open Go.RowKit


theorem num_row (v x : Int) (k : Nat) (hk : k < 8) (hx : x = 56 - 8 * (k : Int)) : #[Value.int IntKind.u8 (IntKind.u64.wrap v / 2 ^ x.toNat % 256)] = (cb [UInt8.ofNat (word v / 2 ^ (56 - 8 * k))]).toArray := by
  have e : x.toNat = 56 - 8 * k := by omega
  have e2 : IntKind.u64.wrap v = ((word v : Nat) : Int) := by rw [word_cast, IntKind.wrap_u64]
  simp only [cb, List.map_cons, List.map_nil, byte_mod, e, e2]
  rw [Int.natCast_ediv, Int.natCast_pow]; rfl

end Go.Proofs.Ytdaagjpigcejaaa

/-
  Package codec's Reader: a block of two cells, the text that is left and whether it is bad.
-/
namespace Go.Proofs.Ytdaagjpigcejaaa
open Go.RowKit


variable {t : TypeId} {w w' : World} {b : Nat} {s : ByteArray} {bad : Bool}

end Go.Proofs.Ytdaagjpigcejaaa
