/-
  Chapter 3 on plain data: a number's eight bytes, and what a reader of bytes answers.
-/
import Derived.Test.YtiepkablapjpmaaBase
import Derived.Laws.BitsAllLaws
namespace Go.Proofs.Ytiepkablapjpmaa
open Go.RowKit

/-- The first k of a number's eight bytes, the highest first. -/
def be (u : Nat) : Nat → List UInt8
  | 0 => []
  | k + 1 => be u k ++ [UInt8.ofNat (u / 2 ^ (56 - 8 * k))]
theorem be_length (u k : Nat) : (be u k).length = k := by
  induction k with
  | zero => rfl
  | succ k ih => simp [be, ih]
/-- The 64 bits of v. -/
def word (v : Int) : Nat := (v % 18446744073709551616).toNat
theorem word_lt (v : Int) : word v < 18446744073709551616 := by unfold word; omega
theorem word_cast (v : Int) : ((word v : Nat) : Int) = v % 18446744073709551616 := by unfold word; omega
/-- Num: eight bytes. -/
def num8 (v : Int) : List UInt8 := be (word v) 8
theorem num8_length (v : Int) : (num8 v).length = 8 := be_length _ _

/-- Bytes as a number. -/
def val : List UInt8 → Nat := List.foldl (fun a b => a * 256 + b.toNat) 0
theorem val_nil : val [] = 0 := rfl
theorem val_snoc (l : List UInt8) (b : UInt8) : val (l ++ [b]) = val l * 256 + b.toNat := by simp [val]
theorem val_from (l : List UInt8) : ∀ a : Nat, List.foldl (fun a (b : UInt8) => a * 256 + b.toNat) a l < (a + 1) * 256 ^ l.length := by
  induction l with
  | nil => intro a; simp
  | cons b l ih =>
    intro a
    have h := b.toNat_lt
    have h1 := ih (a * 256 + b.toNat)
    have h2 : (a * 256 + b.toNat + 1) * 256 ^ l.length ≤ ((a + 1) * 256) * 256 ^ l.length := Nat.mul_le_mul_right _ (by omega)
    rw [List.foldl_cons, List.length_cons, Nat.pow_succ]
    calc _ < _ := h1
      _ ≤ _ := h2
      _ = _ := by rw [Nat.mul_assoc, Nat.mul_comm 256]
theorem val_lt (l : List UInt8) : val l < 256 ^ l.length := by
  have := val_from l 0; simpa [val] using this
theorem val_be (u k : Nat) (hk : k ≤ 8) (hu : u < 18446744073709551616) : val (be u k) = u / 2 ^ (64 - 8 * k) := by
  induction k with
  | zero => simp [be, val]; omega
  | succ k ih =>
    rw [be, val_snoc, ih (by omega), UInt8.toNat_ofNat']
    have e : 64 - 8 * k = (56 - 8 * k) + 8 := by omega
    have e2 : 64 - 8 * (k + 1) = 56 - 8 * k := by omega
    rw [e, e2, Nat.pow_add, ← Nat.div_div_eq_div_mul]
    generalize u / 2 ^ (56 - 8 * k) = q
    omega
/-- 64 bits as an int. -/
def sgn (n : Nat) : Int := IntKind.i64.wrap (n : Int)
theorem sgn_eq (n : Nat) : sgn n = (if n % 18446744073709551616 < 9223372036854775808 then ((n % 18446744073709551616 : Nat) : Int) else ((n % 18446744073709551616 : Nat) : Int) - 18446744073709551616) := by
  have e : (n : Int) % 18446744073709551616 = ((n % 18446744073709551616 : Nat) : Int) := by omega
  have hw : IntKind.i64.wrap (n : Int) = if 9223372036854775808 ≤ (n : Int) % 18446744073709551616 then (n : Int) % 18446744073709551616 - 18446744073709551616 else (n : Int) % 18446744073709551616 := by
    simp [IntKind.wrap, IntKind.bits, IntKind.signed]
  unfold sgn
  rw [hw, e]; split <;> split <;> omega
theorem sgn_word (v : Int) (h0 : -9223372036854775808 ≤ v) (h1 : v ≤ 9223372036854775807) : sgn (word v) = v := by
  have := word_cast v
  rw [sgn_eq]; split <;> omega
theorem sgn_range (n : Nat) : -9223372036854775808 ≤ sgn n ∧ sgn n ≤ 9223372036854775807 := by rw [sgn_eq]; split <;> omega
theorem val_num8 (v : Int) (h0 : -9223372036854775808 ≤ v) (h1 : v ≤ 9223372036854775807) : sgn (val (num8 v)) = v := by
  rw [num8, val_be _ _ (by omega) (word_lt v)]; simp [sgn_word v h0 h1]

/- What a reader is: the bytes that are left, and whether it is bad. -/
/-- Num: the number, and the reader behind it. -/
def numV (l : List UInt8) : Int := if l.length < 8 then 0 else sgn (val (l.take 8))
def numS (r : (List UInt8 × Bool)) : (List UInt8 × Bool) := if r.1.length < 8 then ([], true) else (r.1.drop 8, r.2)
theorem numV_range (l : List UInt8) : -9223372036854775808 ≤ numV l ∧ numV l ≤ 9223372036854775807 := by
  unfold numV; split
  · omega
  · exact sgn_range _
/-- Count. -/
def cntV (l : List UInt8) (m : Int) : Int := if numV l < 0 ∨ m < numV l then 0 else numV l
def cntS (r : (List UInt8 × Bool)) (m : Int) : (List UInt8 × Bool) := if numV r.1 < 0 ∨ m < numV r.1 then ([], true) else numS r
theorem cntV_range (l : List UInt8) (m : Int) : 0 ≤ cntV l m ∧ cntV l m ≤ 9223372036854775807 := by
  have := numV_range l
  unfold cntV; split <;> omega
/-- Text. -/
def txtV (r : (List UInt8 × Bool)) (m : Int) : List UInt8 := if ((cntS r m).1.length : Int) < cntV r.1 m then [] else (cntS r m).1.take (cntV r.1 m).toNat
def txtS (r : (List UInt8 × Bool)) (m : Int) : (List UInt8 × Bool) := if ((cntS r m).1.length : Int) < cntV r.1 m then ([], true) else ((cntS r m).1.drop (cntV r.1 m).toNat, (cntS r m).2)

theorem num_le (r : (List UInt8 × Bool)) : (numS r).1.length ≤ r.1.length := by unfold numS; split <;> simp
theorem cnt_le (r : (List UInt8 × Bool)) (m : Int) : (cntS r m).1.length ≤ r.1.length := by
  unfold cntS; split
  · simp
  · exact num_le r
theorem txt_le (r : (List UInt8 × Bool)) (m : Int) : (txtS r m).1.length ≤ r.1.length := by
  have := cnt_le r m
  unfold txtS; split
  · simp
  · simp; omega

/-- Once it is bad nothing is left. -/
def Fine (r : (List UInt8 × Bool)) : Prop := r.2 = true → r.1 = []
theorem fine_num (r : (List UInt8 × Bool)) (h : Fine r) : Fine (numS r) := by
  intro hb; unfold numS at *; split at hb
  · simp_all
  · rename_i h1; simp_all [Fine]
theorem fine_cnt (r : (List UInt8 × Bool)) (m : Int) (h : Fine r) : Fine (cntS r m) := by
  intro hb; unfold cntS at *; split at hb
  · simp_all
  · rename_i h1; rw [if_neg h1]; exact fine_num r h hb
theorem fine_txt (r : (List UInt8 × Bool)) (m : Int) (h : Fine r) : Fine (txtS r m) := by
  intro hb; unfold txtS at *; split at hb
  · simp_all
  · rename_i h1; rw [if_neg h1]; simp; rw [fine_cnt r m h hb]; simp

/-- What is written is read. -/
theorem numV_of (v : Int) (h0 : -9223372036854775808 ≤ v) (h1 : v ≤ 9223372036854775807) (t : List UInt8) : numV (num8 v ++ t) = v := by
  have hl := num8_length v
  unfold numV
  rw [if_neg (by rw [List.length_append]; omega), List.take_append_of_le_length (by omega), List.take_of_length_le (by omega), val_num8 v h0 h1]
theorem numS_of (v : Int) (t : List UInt8) (b : Bool) : numS (num8 v ++ t, b) = (t, b) := by
  have hl := num8_length v
  unfold numS
  rw [if_neg (by simp only [List.length_append]; omega)]
  simp only [List.drop_append_of_le_length (show 8 ≤ (num8 v).length by omega), List.drop_of_length_le (show (num8 v).length ≤ 8 by omega), List.nil_append]
theorem cntV_of (n : Nat) (m : Int) (t : List UInt8) (h : (n : Int) ≤ m) (hm : m ≤ 9223372036854775807) : cntV (num8 (n : Int) ++ t) m = n := by
  unfold cntV
  rw [numV_of _ (by omega) (by omega), if_neg (by omega)]
theorem cntS_of (n : Nat) (m : Int) (t : List UInt8) (b : Bool) (h : (n : Int) ≤ m) (hm : m ≤ 9223372036854775807) : cntS (num8 (n : Int) ++ t, b) m = (t, b) := by
  unfold cntS
  simp only
  rw [numV_of _ (by omega) (by omega), if_neg (by omega), numS_of]
/-- Text: how many bytes, and they. -/
def text8 (l : List UInt8) : List UInt8 := num8 (l.length : Int) ++ l
theorem text8_length (l : List UInt8) : (text8 l).length = 8 + l.length := by simp [text8, num8_length]
theorem txtV_of (l : List UInt8) (m : Int) (t : List UInt8) (b : Bool) (h : (l.length : Int) ≤ m) (hm : m ≤ 9223372036854775807) : txtV (text8 l ++ t, b) m = l := by
  unfold txtV text8
  simp only [List.append_assoc]
  rw [cntV_of _ _ _ h hm, cntS_of _ _ _ _ h hm]
  simp only
  rw [if_neg (by rw [List.length_append]; omega)]
  simp
theorem txtS_of (l : List UInt8) (m : Int) (t : List UInt8) (b : Bool) (h : (l.length : Int) ≤ m) (hm : m ≤ 9223372036854775807) : txtS (text8 l ++ t, b) m = (t, b) := by
  unfold txtS text8
  simp only [List.append_assoc]
  rw [cntV_of _ _ _ h hm, cntS_of _ _ _ _ h hm]
  simp only
  rw [if_neg (by rw [List.length_append]; omega)]
  simp
/-- What is more than the most, or less than nothing, is bad. -/
theorem cnt_over (v m : Int) (t : List UInt8) (b : Bool) (h0 : -9223372036854775808 ≤ v) (h1 : v ≤ 9223372036854775807) (h : v < 0 ∨ m < v) : cntV (num8 v ++ t) m = 0 ∧ cntS (num8 v ++ t, b) m = ([], true) := by
  unfold cntV cntS
  simp only
  rw [numV_of _ h0 h1, if_pos h, if_pos h]; exact ⟨rfl, rfl⟩
theorem txt_over (l : List UInt8) (m : Int) (t : List UInt8) (b : Bool) (h : m < (l.length : Int)) (hl : (l.length : Int) ≤ 9223372036854775807) : txtV (text8 l ++ t, b) m = [] ∧ txtS (text8 l ++ t, b) m = ([], true) := by
  obtain ⟨h1, h2⟩ := cnt_over (l.length : Int) m (l ++ t) b (by omega) hl (Or.inr h)
  unfold txtV txtS text8
  simp only [List.append_assoc]
  rw [h1, h2]
  constructor <;> rfl
theorem numV_nil : numV [] = 0 := rfl
theorem numS_nil (b : Bool) : numS ([], b) = ([], true) := rfl
theorem numV_one (v : Int) (h0 : -9223372036854775808 ≤ v) (h1 : v ≤ 9223372036854775807) : numV (num8 v) = v := by
  have := numV_of v h0 h1 []; rwa [List.append_nil] at this
theorem numS_one (v : Int) (b : Bool) : numS (num8 v, b) = ([], b) := by
  have := numS_of v [] b; rwa [List.append_nil] at this
end Go.Proofs.Ytiepkablapjpmaa
