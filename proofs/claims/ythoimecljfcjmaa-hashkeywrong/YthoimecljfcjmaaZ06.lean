/-
  Chapter 3 on plain data: a number's eight bytes, and what a reader of bytes answers.
-/
import Derived.Test.YthoimecljfcjmaaZ00
import Derived.Laws.BitsAllLaws
import Derived.WalkKit
import Derived.Test.YthoimecljfcjmaaRows
import Derived.WalkSpells
import Derived.WalkLawsBesides
import Derived.Deep.WholeRow
import Derived.Laws.Tables
namespace Go.Proofs.Ythoimecljfcjmaa
open Go.RowKit

/-- The first k of a number's eight bytes, the highest first. -/
def be (u : Nat) : Nat → List UInt8
  | 0 => []
  | k + 1 => be u k ++ [UInt8.ofNat (u / 2 ^ (56 - 8 * k))]
theorem be_length (u k : Nat) : (be u k).length = k := by
  induction k with
  | zero => rfl
  | succ k ih => simp [be, ih]
/-- The 64 bits of v. -/
def word (v : Int) : Nat := (v % 18446744073709551616).toNat
theorem word_lt (v : Int) : word v < 18446744073709551616 := by unfold word; omega
theorem word_cast (v : Int) : ((word v : Nat) : Int) = v % 18446744073709551616 := by unfold word; omega
/-- Num: eight bytes. -/
def num8 (v : Int) : List UInt8 := be (word v) 8
theorem num8_length (v : Int) : (num8 v).length = 8 := be_length _ _

/-- Bytes as a number. -/
def val : List UInt8 → Nat := List.foldl (fun a b => a * 256 + b.toNat) 0
theorem val_nil : val [] = 0 := rfl
theorem val_snoc (l : List UInt8) (b : UInt8) : val (l ++ [b]) = val l * 256 + b.toNat := by simp [val]
theorem val_from (l : List UInt8) : ∀ a : Nat, List.foldl (fun a (b : UInt8) => a * 256 + b.toNat) a l < (a + 1) * 256 ^ l.length := by
  induction l with
  | nil => intro a; simp
  | cons b l ih =>
    intro a
    have h := b.toNat_lt
    have h1 := ih (a * 256 + b.toNat)
    have h2 : (a * 256 + b.toNat + 1) * 256 ^ l.length ≤ ((a + 1) * 256) * 256 ^ l.length := Nat.mul_le_mul_right _ (by omega)
    rw [List.foldl_cons, List.length_cons, Nat.pow_succ]
    calc _ < _ := h1
      _ ≤ _ := h2
      _ = _ := by rw [Nat.mul_assoc, Nat.mul_comm 256]
theorem val_lt (l : List UInt8) : val l < 256 ^ l.length := by
  have := val_from l 0; simpa [val] using this
theorem val_be (u k : Nat) (hk : k ≤ 8) (hu : u < 18446744073709551616) : val (be u k) = u / 2 ^ (64 - 8 * k) := by
  induction k with
  | zero => simp [be, val]; omega
  | succ k ih =>
    rw [be, val_snoc, ih (by omega), UInt8.toNat_ofNat']
    have e : 64 - 8 * k = (56 - 8 * k) + 8 := by omega
    have e2 : 64 - 8 * (k + 1) = 56 - 8 * k := by omega
    rw [e, e2, Nat.pow_add, ← Nat.div_div_eq_div_mul]
    generalize u / 2 ^ (56 - 8 * k) = q
    omega
/-- 64 bits as an int. -/
def sgn (n : Nat) : Int := IntKind.i64.wrap (n : Int)
theorem sgn_eq (n : Nat) : sgn n = (if n % 18446744073709551616 < 9223372036854775808 then ((n % 18446744073709551616 : Nat) : Int) else ((n % 18446744073709551616 : Nat) : Int) - 18446744073709551616) := by
  have e : (n : Int) % 18446744073709551616 = ((n % 18446744073709551616 : Nat) : Int) := by omega
  have hw : IntKind.i64.wrap (n : Int) = if 9223372036854775808 ≤ (n : Int) % 18446744073709551616 then (n : Int) % 18446744073709551616 - 18446744073709551616 else (n : Int) % 18446744073709551616 := by
    simp [IntKind.wrap, IntKind.bits, IntKind.signed]
  unfold sgn
  rw [hw, e]; split <;> split <;> omega
theorem sgn_word (v : Int) (h0 : -9223372036854775808 ≤ v) (h1 : v ≤ 9223372036854775807) : sgn (word v) = v := by
  have := word_cast v
  rw [sgn_eq]; split <;> omega
theorem sgn_range (n : Nat) : -9223372036854775808 ≤ sgn n ∧ sgn n ≤ 9223372036854775807 := by rw [sgn_eq]; split <;> omega
theorem val_num8 (v : Int) (h0 : -9223372036854775808 ≤ v) (h1 : v ≤ 9223372036854775807) : sgn (val (num8 v)) = v := by
  rw [num8, val_be _ _ (by omega) (word_lt v)]; simp [sgn_word v h0 h1]

/- What a reader is: the bytes that are left, and whether it is bad. -/
/-- Num: the number, and the reader behind it. -/
def numV (l : List UInt8) : Int := if l.length < 8 then 0 else sgn (val (l.take 8))
def numS (r : (List UInt8 × Bool)) : (List UInt8 × Bool) := if r.1.length < 8 then ([], true) else (r.1.drop 8, r.2)
theorem numV_range (l : List UInt8) : -9223372036854775808 ≤ numV l ∧ numV l ≤ 9223372036854775807 := by
  unfold numV; split
  · omega
  · exact sgn_range _
/-- Count. -/
def cntV (l : List UInt8) (m : Int) : Int := if numV l < 0 ∨ m < numV l then 0 else numV l
def cntS (r : (List UInt8 × Bool)) (m : Int) : (List UInt8 × Bool) := if numV r.1 < 0 ∨ m < numV r.1 then ([], true) else numS r
theorem cntV_range (l : List UInt8) (m : Int) : 0 ≤ cntV l m ∧ cntV l m ≤ 9223372036854775807 := by
  have := numV_range l
  unfold cntV; split <;> omega
/-- Text. -/
def txtV (r : (List UInt8 × Bool)) (m : Int) : List UInt8 := if ((cntS r m).1.length : Int) < cntV r.1 m then [] else (cntS r m).1.take (cntV r.1 m).toNat
def txtS (r : (List UInt8 × Bool)) (m : Int) : (List UInt8 × Bool) := if ((cntS r m).1.length : Int) < cntV r.1 m then ([], true) else ((cntS r m).1.drop (cntV r.1 m).toNat, (cntS r m).2)

theorem num_le (r : (List UInt8 × Bool)) : (numS r).1.length ≤ r.1.length := by unfold numS; split <;> simp
theorem cnt_le (r : (List UInt8 × Bool)) (m : Int) : (cntS r m).1.length ≤ r.1.length := by
  unfold cntS; split
  · simp
  · exact num_le r
theorem txt_le (r : (List UInt8 × Bool)) (m : Int) : (txtS r m).1.length ≤ r.1.length := by
  have := cnt_le r m
  unfold txtS; split
  · simp
  · simp; omega

/-- Once it is bad nothing is left. -/
def Fine (r : (List UInt8 × Bool)) : Prop := r.2 = true → r.1 = []
theorem fine_num (r : (List UInt8 × Bool)) (h : Fine r) : Fine (numS r) := by
  intro hb; unfold numS at *; split at hb
  · simp_all
  · rename_i h1; simp_all [Fine]
theorem fine_cnt (r : (List UInt8 × Bool)) (m : Int) (h : Fine r) : Fine (cntS r m) := by
  intro hb; unfold cntS at *; split at hb
  · simp_all
  · rename_i h1; rw [if_neg h1]; exact fine_num r h hb
theorem fine_txt (r : (List UInt8 × Bool)) (m : Int) (h : Fine r) : Fine (txtS r m) := by
  intro hb; unfold txtS at *; split at hb
  · simp_all
  · rename_i h1; rw [if_neg h1]; simp; rw [fine_cnt r m h hb]; simp

/-- What is written is read. -/
theorem numV_of (v : Int) (h0 : -9223372036854775808 ≤ v) (h1 : v ≤ 9223372036854775807) (t : List UInt8) : numV (num8 v ++ t) = v := by
  have hl := num8_length v
  unfold numV
  rw [if_neg (by rw [List.length_append]; omega), List.take_append_of_le_length (by omega), List.take_of_length_le (by omega), val_num8 v h0 h1]
theorem numS_of (v : Int) (t : List UInt8) (b : Bool) : numS (num8 v ++ t, b) = (t, b) := by
  have hl := num8_length v
  unfold numS
  rw [if_neg (by simp only [List.length_append]; omega)]
  simp only [List.drop_append_of_le_length (show 8 ≤ (num8 v).length by omega), List.drop_of_length_le (show (num8 v).length ≤ 8 by omega), List.nil_append]
theorem cntV_of (n : Nat) (m : Int) (t : List UInt8) (h : (n : Int) ≤ m) (hm : m ≤ 9223372036854775807) : cntV (num8 (n : Int) ++ t) m = n := by
  unfold cntV
  rw [numV_of _ (by omega) (by omega), if_neg (by omega)]
theorem cntS_of (n : Nat) (m : Int) (t : List UInt8) (b : Bool) (h : (n : Int) ≤ m) (hm : m ≤ 9223372036854775807) : cntS (num8 (n : Int) ++ t, b) m = (t, b) := by
  unfold cntS
  simp only
  rw [numV_of _ (by omega) (by omega), if_neg (by omega), numS_of]
/-- Text: how many bytes, and they. -/
def text8 (l : List UInt8) : List UInt8 := num8 (l.length : Int) ++ l
theorem text8_length (l : List UInt8) : (text8 l).length = 8 + l.length := by simp [text8, num8_length]
theorem txtV_of (l : List UInt8) (m : Int) (t : List UInt8) (b : Bool) (h : (l.length : Int) ≤ m) (hm : m ≤ 9223372036854775807) : txtV (text8 l ++ t, b) m = l := by
  unfold txtV text8
  simp only [List.append_assoc]
  rw [cntV_of _ _ _ h hm, cntS_of _ _ _ _ h hm]
  simp only
  rw [if_neg (by rw [List.length_append]; omega)]
  simp
theorem txtS_of (l : List UInt8) (m : Int) (t : List UInt8) (b : Bool) (h : (l.length : Int) ≤ m) (hm : m ≤ 9223372036854775807) : txtS (text8 l ++ t, b) m = (t, b) := by
  unfold txtS text8
  simp only [List.append_assoc]
  rw [cntV_of _ _ _ h hm, cntS_of _ _ _ _ h hm]
  simp only
  rw [if_neg (by rw [List.length_append]; omega)]
  simp
/-- What is more than the most, or less than nothing, is bad. -/
theorem cnt_over (v m : Int) (t : List UInt8) (b : Bool) (h0 : -9223372036854775808 ≤ v) (h1 : v ≤ 9223372036854775807) (h : v < 0 ∨ m < v) : cntV (num8 v ++ t) m = 0 ∧ cntS (num8 v ++ t, b) m = ([], true) := by
  unfold cntV cntS
  simp only
  rw [numV_of _ h0 h1, if_pos h, if_pos h]; exact ⟨rfl, rfl⟩
theorem txt_over (l : List UInt8) (m : Int) (t : List UInt8) (b : Bool) (h : m < (l.length : Int)) (hl : (l.length : Int) ≤ 9223372036854775807) : txtV (text8 l ++ t, b) m = [] ∧ txtS (text8 l ++ t, b) m = ([], true) := by
  obtain ⟨h1, h2⟩ := cnt_over (l.length : Int) m (l ++ t) b (by omega) hl (Or.inr h)
  unfold txtV txtS text8
  simp only [List.append_assoc]
  rw [h1, h2]
  constructor <;> rfl
theorem numV_nil : numV [] = 0 := rfl
theorem numS_nil (b : Bool) : numS ([], b) = ([], true) := rfl
theorem numV_one (v : Int) (h0 : -9223372036854775808 ≤ v) (h1 : v ≤ 9223372036854775807) : numV (num8 v) = v := by
  have := numV_of v h0 h1 []; rwa [List.append_nil] at this
theorem numS_one (v : Int) (b : Bool) : numS (num8 v, b) = ([], b) := by
  have := numS_of v [] b; rwa [List.append_nil] at this
end Go.Proofs.Ythoimecljfcjmaa

/-
  Words of 32 bits: what the walk writes of them, as operations on bit vectors.
-/
namespace Go.Proofs.Ythoimecljfcjmaa
open Go.RowKit

theorem bv_and (x y : BitVec 32) : bits .and .u32 (x.toNat : Int) (y.toNat : Int) = ((x &&& y).toNat : Int) := by
  rw [u32_and_nat _ _ x.isLt y.isLt, BitVec.toNat_and]
theorem bv_or (x y : BitVec 32) : bits .or .u32 (x.toNat : Int) (y.toNat : Int) = ((x ||| y).toNat : Int) := by
  rw [u32_or_nat _ _ x.isLt y.isLt, BitVec.toNat_or]
theorem bv_xor (x y : BitVec 32) : bits .xor .u32 (x.toNat : Int) (y.toNat : Int) = ((x ^^^ y).toNat : Int) := by
  rw [u32_xor_nat _ _ x.isLt y.isLt, BitVec.toNat_xor]
theorem bv_not (x : BitVec 32) : bits .xor .u32 (4294967295 : Int) (x.toNat : Int) = ((~~~ x).toNat : Int) := by
  have := bv_xor (BitVec.allOnes 32) x
  rw [BitVec.allOnes_xor] at this
  rw [← this]; rfl
theorem bv_add (x y : BitVec 32) : IntKind.u32.wrap ((x.toNat : Int) + (y.toNat : Int)) = ((x + y).toNat : Int) := by
  rw [IntKind.wrap_u32, BitVec.toNat_add]; omega
theorem bv_add4 (x y z u : BitVec 32) : IntKind.u32.wrap (IntKind.u32.wrap (IntKind.u32.wrap ((x.toNat : Int) + (y.toNat : Int)) + (z.toNat : Int)) + (u.toNat : Int)) = ((x + y + z + u).toNat : Int) := by
  rw [bv_add, bv_add, bv_add]
theorem bv_add5 (x y z u v : BitVec 32) : IntKind.u32.wrap (IntKind.u32.wrap (IntKind.u32.wrap (IntKind.u32.wrap ((x.toNat : Int) + (y.toNat : Int)) + (z.toNat : Int)) + (u.toNat : Int)) + (v.toNat : Int)) = ((x + y + z + u + v).toNat : Int) := by
  rw [bv_add, bv_add, bv_add, bv_add]
theorem bv_shr (x : BitVec 32) (n : Nat) : (x.toNat : Int) / 2 ^ n = ((x >>> n).toNat : Int) := by
  rw [BitVec.toNat_ushiftRight, Nat.shiftRight_eq_div_pow]; norm_cast
theorem bv_shl (x : BitVec 32) (n : Nat) : IntKind.u32.wrap ((x.toNat : Int) * 2 ^ n) = ((x <<< n).toNat : Int) := by
  rw [IntKind.wrap_u32, BitVec.toNat_shiftLeft, Nat.shiftLeft_eq, Int.natCast_emod, Int.natCast_mul, Int.natCast_pow]; rfl
theorem bv_shl' (x : BitVec 32) (n : Nat) : ((x.toNat : Int) * 2 ^ n) % 4294967296 = ((x <<< n).toNat : Int) := by
  rw [← bv_shl, IntKind.wrap_u32]
theorem bv_shr3 (x : BitVec 32) : (x.toNat : Int) / (8 : Int) = ((x >>> 3).toNat : Int) := by rw [← bv_shr]; rfl
theorem bv_shr10 (x : BitVec 32) : (x.toNat : Int) / (1024 : Int) = ((x >>> 10).toNat : Int) := by rw [← bv_shr]; rfl

/-- So many bits to the right, going round. -/
def rotr (x : BitVec 32) (n : Nat) : BitVec 32 := x >>> n ||| x <<< (32 - n)
def bsig0 (x : BitVec 32) : BitVec 32 := rotr x 2 ^^^ rotr x 13 ^^^ rotr x 22
def bsig1 (x : BitVec 32) : BitVec 32 := rotr x 6 ^^^ rotr x 11 ^^^ rotr x 25
def ssig0 (x : BitVec 32) : BitVec 32 := rotr x 7 ^^^ rotr x 18 ^^^ x >>> 3
def ssig1 (x : BitVec 32) : BitVec 32 := rotr x 17 ^^^ rotr x 19 ^^^ x >>> 10
def chs (x y z : BitVec 32) : BitVec 32 := x &&& y ^^^ ~~~ x &&& z
def maj (x y z : BitVec 32) : BitVec 32 := x &&& y ^^^ x &&& z ^^^ y &&& z

theorem neg_and (n : Nat) (h1 : 1 ≤ n) (h2 : n ≤ 31) : bits .and .u64 (IntKind.u64.wrap (-(n : Int))) 31 = 32 - (n : Int) := by
  have : n = 1 ∨ n = 2 ∨ n = 3 ∨ n = 4 ∨ n = 5 ∨ n = 6 ∨ n = 7 ∨ n = 8 ∨ n = 9 ∨ n = 10 ∨ n = 11 ∨ n = 12 ∨ n = 13 ∨ n = 14 ∨ n = 15 ∨ n = 16 ∨ n = 17 ∨ n = 18 ∨ n = 19 ∨ n = 20 ∨ n = 21 ∨ n = 22 ∨ n = 23 ∨ n = 24 ∨ n = 25 ∨ n = 26 ∨ n = 27 ∨ n = 28 ∨ n = 29 ∨ n = 30 ∨ n = 31 := by omega
  rcases this with rfl | rfl | rfl | rfl | rfl | rfl | rfl | rfl | rfl | rfl | rfl | rfl | rfl | rfl | rfl | rfl | rfl | rfl | rfl | rfl | rfl | rfl | rfl | rfl | rfl | rfl | rfl | rfl | rfl | rfl | rfl <;> decide +kernel
end Go.Proofs.Ythoimecljfcjmaa

/-
  What the small functions of package sha give, over words of 32 bits.
-/
namespace Go.Proofs.Ythoimecljfcjmaa
open Go.RowKit


set_option maxHeartbeats 400000 in
theorem rot_any (x : BitVec 32) (n : Nat) (h1 : 1 ≤ n) (h2 : n ≤ 31) (w : World) :
    Calls Try.prog 103 #[.int .u32 x.toNat, .int .i64 (-(n : Int))] w fun e w' => e = .returned (.int .u32 (rotr x n).toNat) ∧ w' = w := by
  have hb := neg_and n h1 h2
  go_enter Try.func103, Try.ntmps103
  go_wp2
  go_ret
  refine ⟨ret_int ?_, rfl⟩
  rw [bv_shl', bv_shr, bv_or, show 32 - (32 - n) = n from by omega, BitVec.or_comm]; rfl

set_option maxHeartbeats 400000 in
theorem right_any (x : BitVec 32) (n : Nat) (h1 : 1 ≤ n) (h2 : n ≤ 31) (w : World) :
    Calls Try.prog 101 #[.int .u32 x.toNat, .int .i64 n] w fun e w' => e = .returned (.int .u32 (rotr x n).toNat) ∧ w' = w := by
  go_enter Try.func101, Try.ntmps101
  go_wp2_with (go_at_call 103; refine (rot_any x n h1 h2 _).mono ?_; rintro e w' ⟨rfl, rfl⟩)
  go_ret
  exact ⟨rfl, rfl⟩

set_option maxHeartbeats 400000 in
theorem chs_any (x y z : BitVec 32) (w : World) :
    Calls Try.prog 93 #[.int .u32 x.toNat, .int .u32 y.toNat, .int .u32 z.toNat] w fun e w' => e = .returned (.int .u32 (chs x y z).toNat) ∧ w' = w := by
  have hs : IntKind.u32.signed = false := rfl
  have hm : IntKind.u32.max = 4294967295 := rfl
  go_enter Try.func93, Try.ntmps93
  go_wp2
  go_ret
  refine ⟨ret_int ?_, rfl⟩
  rw [bv_not, bv_and, bv_and, bv_xor]; rfl

set_option maxHeartbeats 400000 in
theorem maj_any (x y z : BitVec 32) (w : World) :
    Calls Try.prog 95 #[.int .u32 x.toNat, .int .u32 y.toNat, .int .u32 z.toNat] w fun e w' => e = .returned (.int .u32 (maj x y z).toNat) ∧ w' = w := by
  go_enter Try.func95, Try.ntmps95
  go_wp2
  go_ret
  refine ⟨ret_int ?_, rfl⟩
  rw [bv_and, bv_and, bv_and, bv_xor, bv_xor]; rfl

theorem right_at (x : BitVec 32) (m : Int) (h1 : 1 ≤ m) (h2 : m ≤ 31) (w : World) :
    Calls Try.prog 101 #[.int .u32 x.toNat, .int .i64 m] w fun e w' => e = .returned (.int .u32 (rotr x m.toNat).toNat) ∧ w' = w := by
  obtain ⟨n, rfl⟩ := Int.eq_ofNat_of_zero_le (show 0 ≤ m by omega)
  exact right_any x n (by omega) (by omega) w

set_option maxHeartbeats 400000 in
theorem bsig1_any (x : BitVec 32) (w : World) :
    Calls Try.prog 92 #[.int .u32 x.toNat] w fun e w' => e = .returned (.int .u32 (bsig1 x).toNat) ∧ w' = w := by
  go_enter Try.func92, Try.ntmps92
  go_wp2_with (go_at_call 101; refine (right_at x _ (by decide) (by decide) _).mono ?_; rintro e w' ⟨rfl, rfl⟩)
  go_ret
  refine ⟨ret_int ?_, rfl⟩
  rw [bv_xor, bv_xor]; rfl

set_option maxHeartbeats 400000 in
theorem bsig0_any (x : BitVec 32) (w : World) :
    Calls Try.prog 94 #[.int .u32 x.toNat] w fun e w' => e = .returned (.int .u32 (bsig0 x).toNat) ∧ w' = w := by
  go_enter Try.func94, Try.ntmps94
  go_wp2_with (go_at_call 101; refine (right_at x _ (by decide) (by decide) _).mono ?_; rintro e w' ⟨rfl, rfl⟩)
  go_ret
  refine ⟨ret_int ?_, rfl⟩
  rw [bv_xor, bv_xor]; rfl

set_option maxHeartbeats 400000 in
theorem ssig0_any (x : BitVec 32) (w : World) :
    Calls Try.prog 96 #[.int .u32 x.toNat] w fun e w' => e = .returned (.int .u32 (ssig0 x).toNat) ∧ w' = w := by
  go_enter Try.func96, Try.ntmps96
  go_wp2_with (go_at_call 101; refine (right_at x _ (by decide) (by decide) _).mono ?_; rintro e w' ⟨rfl, rfl⟩)
  go_ret
  refine ⟨ret_int ?_, rfl⟩
  rw [bv_xor, bv_shr3, bv_xor]; rfl

set_option maxHeartbeats 400000 in
theorem ssig1_any (x : BitVec 32) (w : World) :
    Calls Try.prog 97 #[.int .u32 x.toNat] w fun e w' => e = .returned (.int .u32 (ssig1 x).toNat) ∧ w' = w := by
  go_enter Try.func97, Try.ntmps97
  go_wp2_with (go_at_call 101; refine (right_at x _ (by decide) (by decide) _).mono ?_; rintro e w' ⟨rfl, rfl⟩)
  go_ret
  refine ⟨ret_int ?_, rfl⟩
  rw [bv_xor, bv_shr10, bv_xor]; rfl

end Go.Proofs.Ythoimecljfcjmaa

/-
  Arrays of words that a call itself makes: a block that is known whole.
-/
namespace Go.Proofs.Ythoimecljfcjmaa
open Go.RowKit
variable {P : Program}

/-- Words as the cells of an array. -/
def cw (l : List (BitVec 32)) : List Value := l.map fun x => Value.int .u32 (x.toNat : Int)
theorem cw_length (l : List (BitVec 32)) : (cw l).length = l.length := by simp [cw]
theorem cw_size (l : List (BitVec 32)) : (cw l).toArray.size = l.length := by simp [cw]
theorem cw_one (l : List (BitVec 32)) : (cw l).toArray.all (·.oneCell') = true :=
  Array.all_eq_true_iff_forall_mem.2 fun v hv => by
    simp [cw] at hv; obtain ⟨x, _, rfl⟩ := hv; rfl
theorem cw_get (l : List (BitVec 32)) (j : Nat) : (cw l).toArray[j]? = (l[j]?).map fun x => Value.int .u32 (x.toNat : Int) := by simp [cw]
theorem cw_set (l : List (BitVec 32)) (j : Nat) (x : BitVec 32) : (cw l).toArray.setIfInBounds j (.int .u32 (x.toNat : Int)) = (cw (l.set j x)).toArray := by
  simp [cw, List.map_set]

/-- The block g holds the words l, and no more. -/
def Row (w : World) (g : Nat) (t : TypeId) (l : List (BitVec 32)) : Prop := w.heap[g]? = some (.cells (cw l).toArray t (0, 0))

theorem Row.but {w w' : World} {g g' : Nat} {t : TypeId} {l : List (BitVec 32)} (h : Row w g t l) (k : But g' w w') (hg : g ≠ g') : Row w' g t l := by
  unfold Row at *
  rw [k.block g (Array.getElem?_eq_some_iff.1 h).1 hg]; exact h
theorem Row.lt {w : World} {g : Nat} {t : TypeId} {l : List (BitVec 32)} (h : Row w g t l) : g < w.heap.size := (Array.getElem?_eq_some_iff.1 h).1
theorem Row.below {w w' : World} {g : Nat} {t : TypeId} {l : List (BitVec 32)} (h : Row w g t l) (k : Below w.heap.size w w') : Row w' g t l := by
  have hl := h.lt
  unfold Row at *
  rw [k.block g hl]; exact h
theorem Row.drew {w : World} {g : Nat} {t : TypeId} {l : List (BitVec 32)} (h : Row w g t l) : Row w.drew g t l := h
theorem Row.drewN {w : World} {g : Nat} {t : TypeId} {l : List (BitVec 32)} (h : Row w g t l) (n : Nat) : Row (w.drewN n) g t l := h
theorem Row.cell {w : World} {g : Nat} {t : TypeId} {l : List (BitVec 32)} (h : Row w g t l) (j : Nat) (x : BitVec 32) (hj : l[j]? = some x) :
    w.cell? ⟨g, j, none⟩ = some (.int .u32 (x.toNat : Int)) := by
  rw [cell_of_row w g j _ t (0, 0) h, cw_get, hj]; rfl
theorem Row.frozen {w : World} {g : Nat} {t : TypeId} {l : List (BitVec 32)} (h : Row w g t l) (j : Nat) : w.frozen? ⟨g, j, none⟩ = false := frozen_of_row w g j _ t h
theorem Row.set {w : World} {g : Nat} {t : TypeId} {l : List (BitVec 32)} (h : Row w g t l) (j : Nat) (x : BitVec 32) :
    Row (w.setCell ⟨g, j, none⟩ (.int .u32 (x.toNat : Int))) g t (l.set j x) := by
  unfold Row at *
  rw [setCell_eq_setRow w g j _ t (0, 0) _ h, cw_set, setRow_heap w g _ _ t (0, 0) h]
theorem cell_set_ne (w : World) (b i j : Nat) (v : Value) (h : j ≠ i) : (w.setCell ⟨b, i, none⟩ v).drew.cell? ⟨b, j, none⟩ = w.cell? ⟨b, j, none⟩ :=
  World.cell?_setCell_other w _ _ _ (fun e => h (by injection e with _ e2; exact e2.symm))

/-- A new array. -/
theorem wpList_new {ops : Array Oper} {rest : List Oper} {o : Oper} {a : Act} {w : World} {Q : Exit → Act → World → Prop} (hgd : o.guard = none) (ty : TypeId) (ho : o.op = .alloc ty)
    (l : List (BitVec 32)) (n : Nat) (hz : (P.info? ty).map (fun i => (i.zero, i.size)) = some (some (.agg (cw l).toArray), n))
    (h : ∀ w1, Row w1 w.heap.size ty l → w1.heap.size = w.heap.size + 1 → Below w.heap.size w w1 → wpList P ops Q rest (a.put o.dst (.pointer (some ⟨w.heap.size, 0, none⟩))) w1) :
    wpList P ops Q (o :: rest) a w :=
  wpList_plain hgd fun _ hK => by
    have hr : (Instr.alloc ty true (.tuple #[])).run P w = .ok (.pointer (some ⟨w.heap.size, 0, none⟩)) (w.alloc (.cells (cw l).toArray ty)) := by
      simp [Instr.alloc, (zero_of_info hz).1 w, go_sem, Value.cells]
    unfold Oper.wp execOp
    simp only [ho, Sem.run_bind, hr, Result.andThen_ok]
    exact hK _ _ (h _ (heap_alloc_new _ _) (by simp) ((Below.refl _ _).alloc (Nat.le_refl _) _))

/-- An array that came in, in a block of its own. -/
theorem wpList_boxed {ops : Array Oper} {rest : List Oper} {o : Oper} {a : Act} {w : World} {Q : Exit → Act → World → Prop} (hgd : o.guard = none) (ty : TypeId) (x : Operand) (ho : o.op = .box ty x)
    (l : List (BitVec 32)) (hx : a.eval x = .agg (cw l).toArray)
    (h : ∀ w1, Row w1 w.heap.size ty l → w1.heap.size = w.heap.size + 1 → Below w.heap.size w w1 → wpList P ops Q rest (a.put o.dst (.pointer (some ⟨w.heap.size, 0, none⟩))) w1) :
    wpList P ops Q (o :: rest) a w :=
  wpList_plain hgd fun _ hK => by
    have hr : (Instr.box ty (.agg (cw l).toArray)).run P w = .ok (.pointer (some ⟨w.heap.size, 0, none⟩)) (w.alloc (.cells (cw l).toArray ty)) := by
      simp [Instr.box, go_sem, Value.cells]
    unfold Oper.wp execOp
    simp only [ho, hx, Sem.run_bind, hr, Result.andThen_ok]
    exact hK _ _ (h _ (heap_alloc_new _ _) (by simp) ((Below.refl _ _).alloc (Nat.le_refl _) _))

/-- An array is stored whole. -/
theorem wpList_put {ops : Array Oper} {rest : List Oper} {o : Oper} {a : Act} {w : World} {Q : Exit → Act → World → Prop} (hgd : o.guard = none) (ty : TypeId) (x y : Operand) (ho : o.op = .store ty x y)
    (g : Nat) (l old : List (BitVec 32)) (hx : a.eval x = .pointer (some ⟨g, 0, none⟩)) (hy : a.eval y = .agg (cw l).toArray)
    (t : TypeId) (hg : Row w g t old) (hi : (P.info? ty).map (·.size) = some l.length) (hold : old.length = l.length)
    (h : ∀ w1, Row w1 g t l → w1.heap.size = w.heap.size → But g w w1 → wpList P ops Q rest (a.put o.dst undef) w1) : wpList P ops Q (o :: rest) a w :=
  wpList_store_row hgd ty x y ho g _ hx hy t _ hg (by rw [hi, cw_size]) (by rw [cw_size, cw_size, hold]) (cw_one l)
    (h _ (setRow_heap w g _ _ t (0, 0) hg) (by simp) ⟨rfl, rfl, rfl, by simp, fun k _ hk => setRow_other w g k _ hk⟩)

/-- An array is read whole. -/
theorem wpList_get {ops : Array Oper} {rest : List Oper} {o : Oper} {a : Act} {w : World} {Q : Exit → Act → World → Prop} (hgd : o.guard = none) (ty : TypeId) (x : Operand) (ho : o.op = .load ty x)
    (g : Nat) (l : List (BitVec 32)) (hx : a.eval x = .pointer (some ⟨g, 0, none⟩)) (t : TypeId) (n : Nat) (e : TypeId) (hg : Row w g t l)
    (hu : P.underlying ty = some (.array n e)) (hi : (P.info? ty).map (·.size) = some l.length)
    (h : wpList P ops Q rest (a.put o.dst (.agg (cw l).toArray)) w) : wpList P ops Q (o :: rest) a w :=
  wpList_load_row hgd ty x ho g hx t _ (0, 0) _ hg hu rfl (by rw [hi, cw_size]) h

end Go.Proofs.Ythoimecljfcjmaa

/-
  The tables of the program: the calls that make them.
-/
namespace Go.Proofs.Ythoimecljfcjmaa
open Go.RowKit

/-- The first words. -/
def H0 : List (BitVec 32) := [1779033703, 3144134277, 1013904242, 2773480762, 1359893119, 2600822924, 528734635, 1541459225]
/-- The rounds' constants. -/
def KK : List (BitVec 32) := [1116352408, 1899447441, 3049323471, 3921009573, 961987163, 1508970993, 2453635748, 2870763221, 3624381080, 310598401, 607225278, 1426881987, 1925078388, 2162078206, 2614888103, 3248222580, 3835390401, 4022224774, 264347078, 604807628, 770255983, 1249150122, 1555081692, 1996064986, 2554220882, 2821834349, 2952996808, 3210313671, 3336571891, 3584528711, 113926993, 338241895, 666307205, 773529912, 1294757372, 1396182291, 1695183700, 1986661051, 2177026350, 2456956037, 2730485921, 2820302411, 3259730800, 3345764771, 3516065817, 3600352804, 4094571909, 275423344, 430227734, 506948616, 659060556, 883997877, 958139571, 1322822218, 1537002063, 1747873779, 1955562222, 2024104815, 2227730452, 2361852424, 2428436474, 2756734187, 3204031479, 3329325298]

set_option maxHeartbeats 400000 in
theorem first_any (w : World) :
    Calls Try.prog 42 #[] w fun e w' => e = .returned (.agg (cw H0).toArray) ∧ Below w.heap.size w w' := by
  go_enter Try.func42, Try.ntmps42
  go_wp2
  exact bodyPost_ret (v := .agg (cw H0).toArray) (by simp [results, Try.results42, go_sem]; rfl) rfl ⟨rfl, (Below.refl _ _).alloc (Nat.le_refl _) _⟩

/-- Nothing but zeros. -/
def zeros (n : Nat) : List (BitVec 32) := List.replicate n 0
theorem Try.info63 : (Try.prog.info? 63).map (fun i => (i.zero, i.size)) = some (some (.agg (cw (zeros 64)).toArray), 64) := by kernel_rfl
theorem Try.info61 : (Try.prog.info? 61).map (fun i => (i.zero, i.size)) = some (some (.agg (cw (zeros 8)).toArray), 8) := by kernel_rfl
theorem Try.size63 : (Try.prog.info? 63).map (·.size) = some 64 := (zero_of_info Try.info63).2
theorem Try.size61 : (Try.prog.info? 61).map (·.size) = some 8 := (zero_of_info Try.info61).2
theorem zeros_length (n : Nat) : (zeros n).length = n := by simp [zeros]
theorem KK_length : KK.length = 64 := by decide
theorem H0_length : H0.length = 8 := by decide

theorem wpList_table {ops : Array Oper} {rest : List Oper} {o : Oper} {a : Act} {w : World} {Q : Exit → Act → World → Prop} (hgd : o.guard = none) (t : TypeId) (parts : Array (Nat × Operand)) (ho : o.op = .build t parts)
    (l : List (BitVec 32)) (hf : Try.prog.built t (parts.map fun (i, x) => (i, a.eval x)).toList = some (cw l).toArray)
    (h : wpList Try.prog ops Q rest (a.put o.dst (.agg (cw l).toArray)) w) : wpList Try.prog ops Q (o :: rest) a w :=
  wpList_build hgd t parts ho (by rw [hf]; rfl) (by rw [hf]; exact h)

set_option maxRecDepth 10000 in
set_option maxHeartbeats 400000 in
theorem consts_any (w : World) :
    Calls Try.prog 43 #[] w fun e w' => e = .returned (.agg (cw KK).toArray) ∧ Below w.heap.size w w' := by
  go_enter Try.func43, Try.ntmps43
  go_wp2_with (first
    | (refine wpList_new (P := Try.prog) (by rfl) 63 (by rfl) (zeros 64) 64 Try.info63 ?_; intro w1 hr1 hs1 hb1)
    | (refine wpList_table (by rfl) 63 _ (by rfl) KK (by kernel_rfl) ?_)
    | (refine wpList_put (P := Try.prog) (by rfl) 63 (.tmp 0) (.tmp 1) (by rfl) w.heap.size KK (zeros 64) (by rfl) (by rfl) 63 hr1 (by rw [KK_length]; exact Try.size63) (by rw [KK_length, zeros_length]) ?_; intro w2 hr2 hs2 hb2))
  exact bodyPost_ret (v := .agg (cw KK).toArray) (results_cell_row (fn := Try.f43) Try.results43 _ _ w.heap.size 63 _ (0, 0) _ (by rfl) hr2 Try.underlying63 rfl (by rw [cw_size, KK_length]; exact Try.size63)) rfl
    ⟨rfl, hb1.trans (hb2.below (Nat.le_refl _) (by omega))⟩

end Go.Proofs.Ythoimecljfcjmaa

/-
  What the chapter says of digests, as plain functions over lists of bytes and words of 32 bits.
-/
namespace Go.Proofs.Ythoimecljfcjmaa
open Go.RowKit

def byteAt (l : List UInt8) (k : Nat) : BitVec 32 := BitVec.ofNat 32 (l.getD k 0).toNat
/-- The i-th word of some bytes. -/
def wordAt (l : List UInt8) (i : Nat) : BitVec 32 :=
  byteAt l (4 * i) <<< 24 ||| byteAt l (4 * i + 1) <<< 16 ||| byteAt l (4 * i + 2) <<< 8 ||| byteAt l (4 * i + 3)
/-- The next word behind l. -/
def nextW (l : List (BitVec 32)) : BitVec 32 :=
  l.getD (l.length - 16) 0 + ssig0 (l.getD (l.length - 15) 0) + l.getD (l.length - 7) 0 + ssig1 (l.getD (l.length - 2) 0)
/-- The first k words of a block's rounds. -/
def sch (s : List UInt8) : Nat → List (BitVec 32)
  | 0 => []
  | k + 1 => sch s k ++ [if k < 16 then wordAt s k else nextW (sch s k)]
theorem sch_length (s : List UInt8) (k : Nat) : (sch s k).length = k := by
  induction k with
  | zero => rfl
  | succ k ih => simp [sch, ih]
/-- What the array holds when k words are made. -/
def half (s : List UInt8) (k : Nat) : List (BitVec 32) := sch s k ++ zeros (64 - k)
theorem half_length (s : List UInt8) (k : Nat) (h : k ≤ 64) : (half s k).length = 64 := by simp [half, sch_length, zeros_length]; omega
theorem half_zero (s : List UInt8) : half s 0 = zeros 64 := rfl
theorem half_full (s : List UInt8) : half s 64 = sch s 64 := by simp [half, zeros]
theorem half_get (s : List UInt8) (k j : Nat) (h : j < k) : (half s k)[j]? = some ((sch s k).getD j 0) := by
  simp [half, List.getElem?_append, sch_length, h, List.getD_eq_getElem?_getD]
theorem half_set (s : List UInt8) (k : Nat) (h : k < 64) (x : BitVec 32) (hx : x = if k < 16 then wordAt s k else nextW (sch s k)) : (half s k).set k x = half s (k + 1) := by
  have e : zeros (64 - k) = 0 :: zeros (64 - (k + 1)) := by
    simp only [zeros]; rw [show 64 - k = (64 - (k + 1)) + 1 by omega, List.replicate_succ]
  subst hx
  simp [half, sch, e, sch_length]

theorem bv_byte (b : Nat) : ((b : Int) % 4294967296) = ((BitVec.ofNat 32 b).toNat : Int) := by
  rw [BitVec.toNat_ofNat]; omega
theorem bv_byte_shl (b n : Nat) (m : Int) (hm : m = 2 ^ n) : ((b : Int) % 4294967296 * m % 4294967296) = (((BitVec.ofNat 32 b) <<< n).toNat : Int) := by
  rw [bv_byte, hm, bv_shl']
theorem word_row (s : ByteArray) (k : Nat) (h0 : 4 * k < s.size) (h1 : 4 * k + 1 < s.size) (h2 : 4 * k + 2 < s.size) (h3 : 4 * k + 3 < s.size) :
    bits BinOp.or IntKind.u32 (bits BinOp.or IntKind.u32 (bits BinOp.or IntKind.u32 ((s[4 * k].toNat : Int) % 4294967296 * 16777216 % 4294967296)
      ((s[4 * k + 1].toNat : Int) % 4294967296 * 65536 % 4294967296)) ((s[4 * k + 2].toNat : Int) % 4294967296 * 256 % 4294967296)) ((s[4 * k + 3].toNat : Int) % 4294967296)
    = ((wordAt s.data.toList k).toNat : Int) := by
  rw [bv_byte_shl _ 24 _ (by rfl), bv_byte_shl _ 16 _ (by rfl), bv_byte_shl _ 8 _ (by rfl), bv_byte, bv_or, bv_or, bv_or, byte_get s _ h0, byte_get s _ h1, byte_get s _ h2, byte_get s _ h3]
  rfl

theorem step_row {w wr : World} {g g0 k N B : Nat} {n : Int} {x : BitVec 32} {l z : List (BitVec 32)} (hn : n = (x.toNat : Int)) (hrow : Row wr g 63 l) (hres : Row wr g0 63 z) (hne : g0 ≠ g)
    (hsz : wr.heap.size = N) (hbl : Below B w wr) (hg : B ≤ g) :
    Row (wr.setCell ⟨g, k, none⟩ (.int .u32 n)).drew g 63 (l.set k x) ∧ Row (wr.setCell ⟨g, k, none⟩ (.int .u32 n)).drew g0 63 z ∧ (wr.setCell ⟨g, k, none⟩ (.int .u32 n)).drew.heap.size = N
      ∧ Below B w (wr.setCell ⟨g, k, none⟩ (.int .u32 n)).drew := by
  subst hn
  refine ⟨(hrow.set k x).drew, (hres.but (But.setCell wr g k _) hne).drew, ?_, (hbl.setCell hg _).drew⟩
  rw [← hsz]; simp [World.setCell]

end Go.Proofs.Ythoimecljfcjmaa

/-
  The rounds of one block, as plain functions.
-/
namespace Go.Proofs.Ythoimecljfcjmaa
open Go.RowKit

/-- The eight words. -/
structure St where
  a : BitVec 32
  b : BitVec 32
  c : BitVec 32
  d : BitVec 32
  e : BitVec 32
  f : BitVec 32
  g : BitVec 32
  h : BitVec 32

def St.list (s : St) : List (BitVec 32) := [s.a, s.b, s.c, s.d, s.e, s.f, s.g, s.h]
def St.get (s : St) : Nat → BitVec 32
  | 0 => s.a
  | 1 => s.b
  | 2 => s.c
  | 3 => s.d
  | 4 => s.e
  | 5 => s.f
  | 6 => s.g
  | _ => s.h
theorem St.list_length (s : St) : s.list.length = 8 := rfl
def first : St := ⟨1779033703, 3144134277, 1013904242, 2773480762, 1359893119, 2600822924, 528734635, 1541459225⟩
theorem first_list : first.list = H0 := rfl

def tee (s : St) (k w : BitVec 32) : BitVec 32 := s.h + bsig1 s.e + chs s.e s.f s.g + k + w
/-- One round. -/
def rnd (s : St) (k w : BitVec 32) : St :=
  ⟨tee s k w + (bsig0 s.a + maj s.a s.b s.c), s.a, s.b, s.c, s.d + tee s k w, s.e, s.f, s.g⟩
/-- The first n rounds. -/
def rounds (m : List (BitVec 32)) (s : St) : Nat → St
  | 0 => s
  | n + 1 => rnd (rounds m s n) (KK.getD n 0) (m.getD n 0)
def plus (s t : St) : St := ⟨s.a + t.a, s.b + t.b, s.c + t.c, s.d + t.d, s.e + t.e, s.f + t.f, s.g + t.g, s.h + t.h⟩
/-- A block is mixed in. -/
def comp (s : St) (m : List (BitVec 32)) : St := plus s (rounds m s 64)

/-- The eight words, i places round. -/
def turned (i : Nat) (s : St) : List (BitVec 32) := (List.range 8).map fun p => s.get ((p + i) % 8)
theorem turned_length (i : Nat) (s : St) : (turned i s).length = 8 := by simp [turned]
theorem turned_zero (s : St) : turned 0 s = s.list := rfl
theorem turned_full (s : St) : turned 64 s = s.list := rfl
theorem turned_mod (i : Nat) (s : St) : turned i s = turned (i % 8) s := by
  unfold turned; congr 1; funext p; congr 1; omega
theorem turned_get (i j p : Nat) (s : St) (hp : p < 8) (h : (p + i) % 8 = j) : (turned i s)[p]? = some (s.get j) := by
  simp [turned, List.getElem?_range hp, h]
theorem turned_step (i p3 p7 : Nat) (s : St) (k w x : BitVec 32) (h3 : p3 < 8) (h7 : p7 < 8) (e3 : (p3 + i) % 8 = 3) (e7 : (p7 + i) % 8 = 7)
    (hx : x = tee s k w + bsig0 s.a + maj s.a s.b s.c) : ((turned i s).set p3 (s.d + tee s k w)).set p7 x = turned (i + 1) (rnd s k w) := by
  rw [BitVec.add_assoc] at hx
  rw [turned_mod i, turned_mod (i + 1), show (i + 1) % 8 = (i % 8 + 1) % 8 by omega]
  have hr : i % 8 < 8 := by omega
  have e3' : (p3 + i % 8) % 8 = 3 := by omega
  have e7' : (p7 + i % 8) % 8 = 7 := by omega
  generalize i % 8 = r at hr e3' e7'
  subst hx
  have : r = 0 ∨ r = 1 ∨ r = 2 ∨ r = 3 ∨ r = 4 ∨ r = 5 ∨ r = 6 ∨ r = 7 := by omega
  rcases this with rfl | rfl | rfl | rfl | rfl | rfl | rfl | rfl
  · obtain rfl : p3 = 3 := by omega
    obtain rfl : p7 = 7 := by omega
    rfl
  · obtain rfl : p3 = 2 := by omega
    obtain rfl : p7 = 6 := by omega
    rfl
  · obtain rfl : p3 = 1 := by omega
    obtain rfl : p7 = 5 := by omega
    rfl
  · obtain rfl : p3 = 0 := by omega
    obtain rfl : p7 = 4 := by omega
    rfl
  · obtain rfl : p3 = 7 := by omega
    obtain rfl : p7 = 3 := by omega
    rfl
  · obtain rfl : p3 = 6 := by omega
    obtain rfl : p7 = 2 := by omega
    rfl
  · obtain rfl : p3 = 5 := by omega
    obtain rfl : p7 = 1 := by omega
    rfl
  · obtain rfl : p3 = 4 := by omega
    obtain rfl : p7 = 0 := by omega
    rfl

theorem and7_all : ∀ i : Fin 64, ∀ j : Fin 8, bits .and .i64 ((j.val : Int) - (i.val : Int)) 7 = (((j.val + 64 - i.val) % 8 : Nat) : Int) := by decide +kernel
theorem and7 (i j p : Nat) (hi : i < 64) (hj : j < 8) (hp : p < 8) (h : (p + i) % 8 = j) : bits .and .i64 ((j : Int) - (i : Int)) 7 = (p : Int) := by
  have := and7_all ⟨i, hi⟩ ⟨j, hj⟩
  rw [this]; simp only; omega
theorem place8 (k j : Nat) (hk : k < 64) (hj : j < 8) : ∃ p : Nat, Hid (p < 8 ∧ (p + k) % 8 = j) ∧ bits .and .i64 ((j : Int) - (k : Int)) 7 = (p : Int) ∧ (p : Int) < 8
    ∧ IntKind.i64.wrap ((j : Int) - (k : Int)) = (j : Int) - (k : Int) := by
  have h1 : (j + 64 - k) % 8 < 8 := by omega
  have h2 : ((j + 64 - k) % 8 + k) % 8 = j := by omega
  exact ⟨_, ⟨h1, h2⟩, and7 k j _ hk hj h1 h2, by omega, IntWalk.i64_in _ (by omega)⟩

/-- The words' sum, the first n made. -/
def summed (s t : St) (n : Nat) : List (BitVec 32) := (plus s t).list.take n ++ s.list.drop n
theorem summed_length (s t : St) (n : Nat) (h : n ≤ 8) : (summed s t n).length = 8 := by simp [summed, St.list]; omega
theorem summed_zero (s t : St) : summed s t 0 = s.list := rfl
theorem summed_full (s t : St) : summed s t 8 = (plus s t).list := rfl
theorem summed_get (s t : St) (n : Nat) (h : n < 8) : (summed s t n)[n]? = some (s.get n) := by
  have : n = 0 ∨ n = 1 ∨ n = 2 ∨ n = 3 ∨ n = 4 ∨ n = 5 ∨ n = 6 ∨ n = 7 := by omega
  rcases this with rfl | rfl | rfl | rfl | rfl | rfl | rfl | rfl <;> rfl
theorem list_get (s : St) (n : Nat) (h : n < 8) : s.list[n]? = some (s.get n) := by
  have : n = 0 ∨ n = 1 ∨ n = 2 ∨ n = 3 ∨ n = 4 ∨ n = 5 ∨ n = 6 ∨ n = 7 := by omega
  rcases this with rfl | rfl | rfl | rfl | rfl | rfl | rfl | rfl <;> rfl
theorem summed_set (s t : St) (n : Nat) (h : n < 8) : (summed s t n).set n (s.get n + t.get n) = summed s t (n + 1) := by
  have : n = 0 ∨ n = 1 ∨ n = 2 ∨ n = 3 ∨ n = 4 ∨ n = 5 ∨ n = 6 ∨ n = 7 := by omega
  rcases this with rfl | rfl | rfl | rfl | rfl | rfl | rfl | rfl <;> rfl
theorem num2 (x y : BitVec 32) : ((x.toNat : Int) + (y.toNat : Int)) % 4294967296 = ((x + y).toNat : Int) := by
  rw [BitVec.toNat_add]; omega
theorem num6 (d h s c k m : BitVec 32) : ((d.toNat : Int) + ((h.toNat : Int) + (s.toNat : Int) + (c.toNat : Int) + (k.toNat : Int) + (m.toNat : Int))) % 4294967296 = ((d + (h + s + c + k + m)).toNat : Int) := by
  simp only [BitVec.toNat_add]; omega
theorem num7 (h s c k m x y : BitVec 32) : ((h.toNat : Int) + (s.toNat : Int) + (c.toNat : Int) + (k.toNat : Int) + (m.toNat : Int) + (x.toNat : Int) + (y.toNat : Int)) % 4294967296 = ((h + s + c + k + m + x + y).toNat : Int) := by
  simp only [BitVec.toNat_add]; omega

/-- What the rounds' walk knows of memory. -/
structure MixAt (w : World) (gc : Nat) (m v : List (BitVec 32)) (wr : World) : Prop where
  row : Row wr (w.heap.size + 1) 61 v
  words : Row wr w.heap.size 63 m
  consts : Row wr gc 63 KK
  size : wr.heap.size = w.heap.size + 2
  below : Below w.heap.size w wr
theorem MixAt.drewN {w : World} {gc : Nat} {m v : List (BitVec 32)} {wr : World} (h : MixAt w gc m v wr) (n : Nat) : MixAt w gc m v (wr.drewN n) :=
  ⟨h.row, h.words, h.consts, h.size, ⟨h.below.os, h.below.tape, h.below.output, h.below.size, h.below.block⟩⟩
theorem MixAt.set {w : World} {gc : Nat} {m v : List (BitVec 32)} {wr : World} (h : MixAt w gc m v wr) (hgc : gc < w.heap.size) (j : Nat) (n : Int) (x : BitVec 32) (hn : n = (x.toNat : Int)) :
    MixAt w gc m (v.set j x) (wr.setCell ⟨w.heap.size + 1, j, none⟩ (.int .u32 n)) := by
  subst hn
  exact ⟨h.row.set j x, h.words.but (But.setCell _ _ _ _) (by omega), h.consts.but (But.setCell _ _ _ _) (by omega), by rw [← h.size]; simp [World.setCell], h.below.setCell (by simp) _⟩

end Go.Proofs.Ythoimecljfcjmaa

/-
  What the document's turn gives, over words of 32 bits.
-/
namespace Go.Proofs.Ythoimecljfcjmaa
open Go.RowKit

set_option maxHeartbeats 400000 in
theorem turn_any (x : BitVec 32) (n : Nat) (h1 : 1 ≤ n) (h2 : n ≤ 31) (w : World) :
    Calls Try.prog 77 #[.int .u32 x.toNat, .int .u64 n] w fun e w' => e = .returned (.int .u32 (rotr x n).toNat) ∧ w' = w := by
  go_enter Try.func77, Try.ntmps77
  go_wp2
  go_ret
  refine ⟨ret_int ?_, rfl⟩
  rw [bv_shl', bv_shr, bv_or]; rfl

theorem turn_at (x : BitVec 32) (m : Int) (h1 : 1 ≤ m) (h2 : m ≤ 31) (w : World) :
    Calls Try.prog 77 #[.int .u32 x.toNat, .int .u64 m] w fun e w' => e = .returned (.int .u32 (rotr x m.toNat).toNat) ∧ w' = w := by
  obtain ⟨n, rfl⟩ := Int.eq_ofNat_of_zero_le (show 0 ≤ m by omega)
  exact turn_any x n (by omega) (by omega) w

end Go.Proofs.Ythoimecljfcjmaa

/-
  The document's table: the call that makes it.
-/
namespace Go.Proofs.Ythoimecljfcjmaa
open Go.RowKit

set_option maxRecDepth 10000 in
set_option maxHeartbeats 400000 in
theorem table_any (w : World) :
    Calls Try.prog 76 #[] w fun e w' => e = .returned (.agg (cw KK).toArray) ∧ Below w.heap.size w w' := by
  go_enter Try.func76, Try.ntmps76
  go_wp2_with (first
    | (refine wpList_new (P := Try.prog) (by rfl) 63 (by rfl) (zeros 64) 64 Try.info63 ?_; intro w1 hr1 hs1 hb1)
    | (refine wpList_table (by rfl) 63 _ (by rfl) KK (by kernel_rfl) ?_)
    | (refine wpList_put (P := Try.prog) (by rfl) 63 (.tmp 0) (.tmp 1) (by rfl) w.heap.size KK (zeros 64) (by rfl) (by rfl) 63 hr1 (by rw [KK_length]; exact Try.size63) (by rw [KK_length, zeros_length]) ?_; intro w2 hr2 hs2 hb2))
  exact bodyPost_ret (v := .agg (cw KK).toArray) (results_cell_row (fn := Try.f76) Try.results76 _ _ w.heap.size 63 _ (0, 0) _ (by rfl) hr2 Try.underlying63 rfl (by rw [cw_size, KK_length]; exact Try.size63)) rfl
    ⟨rfl, hb1.trans (hb2.below (Nat.le_refl _) (by omega))⟩

end Go.Proofs.Ythoimecljfcjmaa

/-
  A reader of bytes in memory: a block of two cells, the text that is left and whether it is bad (package codec's, the document's).
-/
namespace Go.Proofs.Ythoimecljfcjmaa
open Go.RowKit

/-- The reader at block b: s is left; bad or not. -/
def Rd (t : TypeId) (w : World) (b : Nat) (s : ByteArray) (bad : Bool) : Prop := w.heap[b]? = some (.cells #[.string s, .bool bad] t (0, 0))
variable {t : TypeId} {w w' : World} {b : Nat} {s : ByteArray} {bad : Bool}
theorem Rd.lt (h : Rd t w b s bad) : b < w.heap.size := (Array.getElem?_eq_some_iff.1 h).1
theorem Rd.rest (h : Rd t w b s bad) : w.cell? ⟨b, 0, none⟩ = some (.string s) := by rw [cell_of_row w b 0 _ t (0, 0) h]; rfl
theorem Rd.isbad (h : Rd t w b s bad) : w.cell? ⟨b, 1, none⟩ = some (.bool bad) := by rw [cell_of_row w b 1 _ t (0, 0) h]; rfl
theorem Rd.frozen (h : Rd t w b s bad) (j : Nat) : w.frozen? ⟨b, j, none⟩ = false := frozen_of_row w b j _ t h
theorem Rd.below (h : Rd t w b s bad) (k : Below w.heap.size w w') : Rd t w' b s bad := by
  have hl := h.lt
  unfold Rd at *
  rw [k.block b hl]; exact h
theorem Rd.but {g : Nat} (h : Rd t w b s bad) (k : But g w w') (hg : b ≠ g) : Rd t w' b s bad := by
  have hl := h.lt
  unfold Rd at *
  rw [k.block b hl hg]; exact h
theorem Rd.drew (h : Rd t w b s bad) : Rd t w.drew b s bad := h
theorem Rd.drewN (h : Rd t w b s bad) (n : Nat) : Rd t (w.drewN n) b s bad := h
theorem Rd.setRest (h : Rd t w b s bad) (s' : ByteArray) : Rd t (w.setCell ⟨b, 0, none⟩ (.string s')) b s' bad := by
  unfold Rd at *
  rw [setCell_eq_setRow w b 0 _ t (0, 0) _ h, setRow_heap w b _ _ t (0, 0) h]; rfl
theorem Rd.setBad (h : Rd t w b s bad) (c : Bool) : Rd t (w.setCell ⟨b, 1, none⟩ (.bool c)) b s c := by
  unfold Rd at *
  rw [setCell_eq_setRow w b 1 _ t (0, 0) _ h, setRow_heap w b _ _ t (0, 0) h]; rfl
theorem Rd.new (t : TypeId) (w : World) (s : ByteArray) (bad : Bool) : Rd t (w.alloc (.cells #[.string s, .bool bad] t)) w.heap.size s bad := heap_alloc_new _ _

theorem ext_rest (s : ByteArray) (n : Nat) : (s.extract n s.size).data.toList = s.data.toList.drop n := by
  rw [extract_list, List.take_of_length_le]; simp

theorem val_take (l : List UInt8) (k : Nat) (h : k < l.length) : val (l.take (k + 1)) = val (l.take k) * 256 + l[k].toNat := by
  rw [List.take_add_one, List.getElem?_eq_getElem h]; exact val_snoc _ _
theorem val_take_lt (l : List UInt8) (k : Nat) (h : k < 8) : val (l.take k) < 72057594037927936 := by
  have h1 := val_lt (l.take k)
  have h2 : 256 ^ (l.take k).length ≤ 256 ^ 7 := Nat.pow_le_pow_right (by omega) (by rw [List.length_take]; omega)
  have h3 : (256 : Nat) ^ 7 = 72057594037927936 := by decide
  omega
theorem wrap64_sgn (n : Nat) : wrap64 (n : Int) = sgn n := by unfold sgn wrap64; rw [IntKind.wrap_i64]
theorem or_byte (n b : Nat) (hn : n < 72057594037927936) (hb : b < 256) : bits .or .u64 ((n : Int) * 256) (b : Int) = ((n * 256 + b : Nat) : Int) := by
  have e : (n : Int) * 256 = ((n * 256 : Nat) : Int) := by omega
  rw [e, u64_or_nat _ _ (by omega) (by omega), nat_join 8 (n * 256) b (by omega) (by omega)]

/-- The reader at block b, as the chapter has it. -/
def At (t : TypeId) (w : World) (b : Nat) (r : (List UInt8 × Bool)) : Prop := ∃ s : ByteArray, s.data.toList = r.1 ∧ Rd t w b s r.2
theorem At.below {t : TypeId} {w w' : World} {b : Nat} {r : (List UInt8 × Bool)} (h : At t w b r) (k : Below w.heap.size w w') : At t w' b r := by
  obtain ⟨s, h1, h2⟩ := h; exact ⟨s, h1, h2.below k⟩
theorem At.but {t : TypeId} {w w' : World} {b g : Nat} {r : (List UInt8 × Bool)} (h : At t w b r) (k : But g w w') (hg : b ≠ g) : At t w' b r := by
  obtain ⟨s, h1, h2⟩ := h; exact ⟨s, h1, h2.but k hg⟩
theorem At.lt {t : TypeId} {w : World} {b : Nat} {r : (List UInt8 × Bool)} (h : At t w b r) : b < w.heap.size := by
  obtain ⟨s, _, h2⟩ := h; exact h2.lt

theorem At.drew {t : TypeId} {w : World} {b : Nat} {r : (List UInt8 × Bool)} (h : At t w b r) : At t w.drew b r := h
theorem ext_first (s : ByteArray) (k : Nat) : s.extract 0 k = ⟨(s.data.toList.take k).toArray⟩ := by
  apply ByteArray.ext; rw [← Array.toList_inj, extract_list]; simp


end Go.Proofs.Ythoimecljfcjmaa
