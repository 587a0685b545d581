/-
  The rounds of one block, as plain functions.
-/
import Derived.Test.YthdnldbkpllciaaZ02
import Derived.Test.YthdnldbkpllciaaZ00
import Derived.Laws.BitsAllLaws
namespace Go.Proofs.Ythdnldbkpllciaa
open Go.RowKit

/-- The eight words. -/
structure St where
  a : BitVec 32
  b : BitVec 32
  c : BitVec 32
  d : BitVec 32
  e : BitVec 32
  f : BitVec 32
  g : BitVec 32
  h : BitVec 32

def St.list (s : St) : List (BitVec 32) := [s.a, s.b, s.c, s.d, s.e, s.f, s.g, s.h]
def St.get (s : St) : Nat → BitVec 32
  | 0 => s.a
  | 1 => s.b
  | 2 => s.c
  | 3 => s.d
  | 4 => s.e
  | 5 => s.f
  | 6 => s.g
  | _ => s.h
theorem St.list_length (s : St) : s.list.length = 8 := rfl
def first : St := ⟨1779033703, 3144134277, 1013904242, 2773480762, 1359893119, 2600822924, 528734635, 1541459225⟩
theorem first_list : first.list = H0 := rfl

def tee (s : St) (k w : BitVec 32) : BitVec 32 := s.h + bsig1 s.e + chs s.e s.f s.g + k + w
/-- One round. -/
def rnd (s : St) (k w : BitVec 32) : St :=
  ⟨tee s k w + (bsig0 s.a + maj s.a s.b s.c), s.a, s.b, s.c, s.d + tee s k w, s.e, s.f, s.g⟩
/-- The first n rounds. -/
def rounds (m : List (BitVec 32)) (s : St) : Nat → St
  | 0 => s
  | n + 1 => rnd (rounds m s n) (KK.getD n 0) (m.getD n 0)
def plus (s t : St) : St := ⟨s.a + t.a, s.b + t.b, s.c + t.c, s.d + t.d, s.e + t.e, s.f + t.f, s.g + t.g, s.h + t.h⟩
/-- A block is mixed in. -/
def comp (s : St) (m : List (BitVec 32)) : St := plus s (rounds m s 64)

/-- The eight words, i places round. -/
def turned (i : Nat) (s : St) : List (BitVec 32) := (List.range 8).map fun p => s.get ((p + i) % 8)
theorem turned_length (i : Nat) (s : St) : (turned i s).length = 8 := by simp [turned]
theorem turned_zero (s : St) : turned 0 s = s.list := rfl
theorem turned_full (s : St) : turned 64 s = s.list := rfl
theorem turned_mod (i : Nat) (s : St) : turned i s = turned (i % 8) s := by
  unfold turned; congr 1; funext p; congr 1; omega
theorem turned_get (i j p : Nat) (s : St) (hp : p < 8) (h : (p + i) % 8 = j) : (turned i s)[p]? = some (s.get j) := by
  simp [turned, List.getElem?_range hp, h]
theorem turned_step (i p3 p7 : Nat) (s : St) (k w x : BitVec 32) (h3 : p3 < 8) (h7 : p7 < 8) (e3 : (p3 + i) % 8 = 3) (e7 : (p7 + i) % 8 = 7)
    (hx : x = tee s k w + bsig0 s.a + maj s.a s.b s.c) : ((turned i s).set p3 (s.d + tee s k w)).set p7 x = turned (i + 1) (rnd s k w) := by
  rw [BitVec.add_assoc] at hx
  rw [turned_mod i, turned_mod (i + 1), show (i + 1) % 8 = (i % 8 + 1) % 8 by omega]
  have hr : i % 8 < 8 := by omega
  have e3' : (p3 + i % 8) % 8 = 3 := by omega
  have e7' : (p7 + i % 8) % 8 = 7 := by omega
  generalize i % 8 = r at hr e3' e7'
  subst hx
  have : r = 0 ∨ r = 1 ∨ r = 2 ∨ r = 3 ∨ r = 4 ∨ r = 5 ∨ r = 6 ∨ r = 7 := by omega
  rcases this with rfl | rfl | rfl | rfl | rfl | rfl | rfl | rfl
  · obtain rfl : p3 = 3 := by omega
    obtain rfl : p7 = 7 := by omega
    rfl
  · obtain rfl : p3 = 2 := by omega
    obtain rfl : p7 = 6 := by omega
    rfl
  · obtain rfl : p3 = 1 := by omega
    obtain rfl : p7 = 5 := by omega
    rfl
  · obtain rfl : p3 = 0 := by omega
    obtain rfl : p7 = 4 := by omega
    rfl
  · obtain rfl : p3 = 7 := by omega
    obtain rfl : p7 = 3 := by omega
    rfl
  · obtain rfl : p3 = 6 := by omega
    obtain rfl : p7 = 2 := by omega
    rfl
  · obtain rfl : p3 = 5 := by omega
    obtain rfl : p7 = 1 := by omega
    rfl
  · obtain rfl : p3 = 4 := by omega
    obtain rfl : p7 = 0 := by omega
    rfl

theorem and7_all : ∀ i : Fin 64, ∀ j : Fin 8, bits .and .i64 ((j.val : Int) - (i.val : Int)) 7 = (((j.val + 64 - i.val) % 8 : Nat) : Int) := by decide +kernel
theorem and7 (i j p : Nat) (hi : i < 64) (hj : j < 8) (hp : p < 8) (h : (p + i) % 8 = j) : bits .and .i64 ((j : Int) - (i : Int)) 7 = (p : Int) := by
  have := and7_all ⟨i, hi⟩ ⟨j, hj⟩
  rw [this]; simp only; omega
theorem place8 (k j : Nat) (hk : k < 64) (hj : j < 8) : ∃ p : Nat, Hid (p < 8 ∧ (p + k) % 8 = j) ∧ bits .and .i64 ((j : Int) - (k : Int)) 7 = (p : Int) ∧ (p : Int) < 8
    ∧ IntKind.i64.wrap ((j : Int) - (k : Int)) = (j : Int) - (k : Int) := by
  have h1 : (j + 64 - k) % 8 < 8 := by omega
  have h2 : ((j + 64 - k) % 8 + k) % 8 = j := by omega
  exact ⟨_, ⟨h1, h2⟩, and7 k j _ hk hj h1 h2, by omega, IntWalk.i64_in _ (by omega)⟩

/-- The words' sum, the first n made. -/
def summed (s t : St) (n : Nat) : List (BitVec 32) := (plus s t).list.take n ++ s.list.drop n
theorem summed_length (s t : St) (n : Nat) (h : n ≤ 8) : (summed s t n).length = 8 := by simp [summed, St.list]; omega
theorem summed_zero (s t : St) : summed s t 0 = s.list := rfl
theorem summed_full (s t : St) : summed s t 8 = (plus s t).list := rfl
theorem summed_get (s t : St) (n : Nat) (h : n < 8) : (summed s t n)[n]? = some (s.get n) := by
  have : n = 0 ∨ n = 1 ∨ n = 2 ∨ n = 3 ∨ n = 4 ∨ n = 5 ∨ n = 6 ∨ n = 7 := by omega
  rcases this with rfl | rfl | rfl | rfl | rfl | rfl | rfl | rfl <;> rfl
theorem list_get (s : St) (n : Nat) (h : n < 8) : s.list[n]? = some (s.get n) := by
  have : n = 0 ∨ n = 1 ∨ n = 2 ∨ n = 3 ∨ n = 4 ∨ n = 5 ∨ n = 6 ∨ n = 7 := by omega
  rcases this with rfl | rfl | rfl | rfl | rfl | rfl | rfl | rfl <;> rfl
theorem summed_set (s t : St) (n : Nat) (h : n < 8) : (summed s t n).set n (s.get n + t.get n) = summed s t (n + 1) := by
  have : n = 0 ∨ n = 1 ∨ n = 2 ∨ n = 3 ∨ n = 4 ∨ n = 5 ∨ n = 6 ∨ n = 7 := by omega
  rcases this with rfl | rfl | rfl | rfl | rfl | rfl | rfl | rfl <;> rfl
theorem num2 (x y : BitVec 32) : ((x.toNat : Int) + (y.toNat : Int)) % 4294967296 = ((x + y).toNat : Int) := by
  rw [BitVec.toNat_add]; omega
theorem num6 (d h s c k m : BitVec 32) : ((d.toNat : Int) + ((h.toNat : Int) + (s.toNat : Int) + (c.toNat : Int) + (k.toNat : Int) + (m.toNat : Int))) % 4294967296 = ((d + (h + s + c + k + m)).toNat : Int) := by
  simp only [BitVec.toNat_add]; omega
theorem num7 (h s c k m x y : BitVec 32) : ((h.toNat : Int) + (s.toNat : Int) + (c.toNat : Int) + (k.toNat : Int) + (m.toNat : Int) + (x.toNat : Int) + (y.toNat : Int)) % 4294967296 = ((h + s + c + k + m + x + y).toNat : Int) := by
  simp only [BitVec.toNat_add]; omega

/-- What the rounds' walk knows of memory. -/
structure MixAt (w : World) (gc : Nat) (m v : List (BitVec 32)) (wr : World) : Prop where
  row : Row wr (w.heap.size + 1) 85 v
  words : Row wr w.heap.size 108 m
  consts : Row wr gc 108 KK
  size : wr.heap.size = w.heap.size + 2
  below : Below w.heap.size w wr
theorem MixAt.drewN {w : World} {gc : Nat} {m v : List (BitVec 32)} {wr : World} (h : MixAt w gc m v wr) (n : Nat) : MixAt w gc m v (wr.drewN n) :=
  ⟨h.row, h.words, h.consts, h.size, ⟨h.below.os, h.below.tape, h.below.output, h.below.size, h.below.block⟩⟩
theorem MixAt.set {w : World} {gc : Nat} {m v : List (BitVec 32)} {wr : World} (h : MixAt w gc m v wr) (hgc : gc < w.heap.size) (j : Nat) (n : Int) (x : BitVec 32) (hn : n = (x.toNat : Int)) :
    MixAt w gc m (v.set j x) (wr.setCell ⟨w.heap.size + 1, j, none⟩ (.int .u32 n)) := by
  subst hn
  exact ⟨h.row.set j x, h.words.but (But.setCell _ _ _ _) (by omega), h.consts.but (But.setCell _ _ _ _) (by omega), by rw [← h.size]; simp [World.setCell], h.below.setCell (by simp) _⟩

end Go.Proofs.Ythdnldbkpllciaa

/-
  What the document's turn gives, over words of 32 bits.
-/
namespace Go.Proofs.Ythdnldbkpllciaa
open Go.RowKit

set_option maxHeartbeats 400000 in
theorem turn_any (x : BitVec 32) (n : Nat) (h1 : 1 ≤ n) (h2 : n ≤ 31) (w : World) :
    Calls Try.prog 89 #[.int .u32 x.toNat, .int .u64 n] w fun e w' => e = .returned (.int .u32 (rotr x n).toNat) ∧ w' = w := by
  go_enter Try.func89, Try.ntmps89
  go_wp2
  go_ret
  refine ⟨ret_int ?_, rfl⟩
  rw [bv_shl', bv_shr, bv_or]; rfl

theorem turn_at (x : BitVec 32) (m : Int) (h1 : 1 ≤ m) (h2 : m ≤ 31) (w : World) :
    Calls Try.prog 89 #[.int .u32 x.toNat, .int .u64 m] w fun e w' => e = .returned (.int .u32 (rotr x m.toNat).toNat) ∧ w' = w := by
  obtain ⟨n, rfl⟩ := Int.eq_ofNat_of_zero_le (show 0 ≤ m by omega)
  exact turn_any x n (by omega) (by omega) w

end Go.Proofs.Ythdnldbkpllciaa

/-
  The document's table: the call that makes it.
-/
namespace Go.Proofs.Ythdnldbkpllciaa
open Go.RowKit

set_option maxRecDepth 10000 in
set_option maxHeartbeats 400000 in
theorem table_any (w : World) :
    Calls Try.prog 88 #[] w fun e w' => e = .returned (.agg (cw KK).toArray) ∧ Below w.heap.size w w' := by
  go_enter Try.func88, Try.ntmps88
  go_wp2_with (first
    | (refine wpList_new (P := Try.prog) (by rfl) 108 (by rfl) (zeros 64) 64 Try.info108 ?_; intro w1 hr1 hs1 hb1)
    | (refine wpList_table (by rfl) 108 _ (by rfl) KK (by kernel_rfl) ?_)
    | (refine wpList_put (P := Try.prog) (by rfl) 108 (.tmp 0) (.tmp 1) (by rfl) w.heap.size KK (zeros 64) (by rfl) (by rfl) 108 hr1 (by rw [KK_length]; exact Try.size108) (by rw [KK_length, zeros_length]) ?_; intro w2 hr2 hs2 hb2))
  exact bodyPost_ret (v := .agg (cw KK).toArray) (results_cell_row (fn := Try.f88) Try.results88 _ _ w.heap.size 108 _ (0, 0) _ (by rfl) hr2 Try.underlying108 rfl (by rw [cw_size, KK_length]; exact Try.size108)) rfl
    ⟨rfl, hb1.trans (hb2.below (Nat.le_refl _) (by omega))⟩

end Go.Proofs.Ythdnldbkpllciaa

/-
  Chapter 3 on plain data: a number's eight bytes, and what a reader of bytes answers.
-/
namespace Go.Proofs.Ythdnldbkpllciaa
open Go.RowKit

/-- The first k of a number's eight bytes, the highest first. -/
def be (u : Nat) : Nat → List UInt8
  | 0 => []
  | k + 1 => be u k ++ [UInt8.ofNat (u / 2 ^ (56 - 8 * k))]
theorem be_length (u k : Nat) : (be u k).length = k := by
  induction k with
  | zero => rfl
  | succ k ih => simp [be, ih]
/-- The 64 bits of v. -/
def word (v : Int) : Nat := (v % 18446744073709551616).toNat
theorem word_lt (v : Int) : word v < 18446744073709551616 := by unfold word; omega
theorem word_cast (v : Int) : ((word v : Nat) : Int) = v % 18446744073709551616 := by unfold word; omega
/-- Num: eight bytes. -/
def num8 (v : Int) : List UInt8 := be (word v) 8
theorem num8_length (v : Int) : (num8 v).length = 8 := be_length _ _

/-- Bytes as a number. -/
def val : List UInt8 → Nat := List.foldl (fun a b => a * 256 + b.toNat) 0
theorem val_nil : val [] = 0 := rfl
theorem val_snoc (l : List UInt8) (b : UInt8) : val (l ++ [b]) = val l * 256 + b.toNat := by simp [val]
theorem val_from (l : List UInt8) : ∀ a : Nat, List.foldl (fun a (b : UInt8) => a * 256 + b.toNat) a l < (a + 1) * 256 ^ l.length := by
  induction l with
  | nil => intro a; simp
  | cons b l ih =>
    intro a
    have h := b.toNat_lt
    have h1 := ih (a * 256 + b.toNat)
    have h2 : (a * 256 + b.toNat + 1) * 256 ^ l.length ≤ ((a + 1) * 256) * 256 ^ l.length := Nat.mul_le_mul_right _ (by omega)
    rw [List.foldl_cons, List.length_cons, Nat.pow_succ]
    calc _ < _ := h1
      _ ≤ _ := h2
      _ = _ := by rw [Nat.mul_assoc, Nat.mul_comm 256]
theorem val_lt (l : List UInt8) : val l < 256 ^ l.length := by
  have := val_from l 0; simpa [val] using this
theorem val_be (u k : Nat) (hk : k ≤ 8) (hu : u < 18446744073709551616) : val (be u k) = u / 2 ^ (64 - 8 * k) := by
  induction k with
  | zero => simp [be, val]; omega
  | succ k ih =>
    rw [be, val_snoc, ih (by omega), UInt8.toNat_ofNat']
    have e : 64 - 8 * k = (56 - 8 * k) + 8 := by omega
    have e2 : 64 - 8 * (k + 1) = 56 - 8 * k := by omega
    rw [e, e2, Nat.pow_add, ← Nat.div_div_eq_div_mul]
    generalize u / 2 ^ (56 - 8 * k) = q
    omega
/-- 64 bits as an int. -/
def sgn (n : Nat) : Int := IntKind.i64.wrap (n : Int)
theorem sgn_eq (n : Nat) : sgn n = (if n % 18446744073709551616 < 9223372036854775808 then ((n % 18446744073709551616 : Nat) : Int) else ((n % 18446744073709551616 : Nat) : Int) - 18446744073709551616) := by
  have e : (n : Int) % 18446744073709551616 = ((n % 18446744073709551616 : Nat) : Int) := by omega
  have hw : IntKind.i64.wrap (n : Int) = if 9223372036854775808 ≤ (n : Int) % 18446744073709551616 then (n : Int) % 18446744073709551616 - 18446744073709551616 else (n : Int) % 18446744073709551616 := by
    simp [IntKind.wrap, IntKind.bits, IntKind.signed]
  unfold sgn
  rw [hw, e]; split <;> split <;> omega
theorem sgn_word (v : Int) (h0 : -9223372036854775808 ≤ v) (h1 : v ≤ 9223372036854775807) : sgn (word v) = v := by
  have := word_cast v
  rw [sgn_eq]; split <;> omega
theorem sgn_range (n : Nat) : -9223372036854775808 ≤ sgn n ∧ sgn n ≤ 9223372036854775807 := by rw [sgn_eq]; split <;> omega
theorem val_num8 (v : Int) (h0 : -9223372036854775808 ≤ v) (h1 : v ≤ 9223372036854775807) : sgn (val (num8 v)) = v := by
  rw [num8, val_be _ _ (by omega) (word_lt v)]; simp [sgn_word v h0 h1]

/- What a reader is: the bytes that are left, and whether it is bad. -/
/-- Num: the number, and the reader behind it. -/
def numV (l : List UInt8) : Int := if l.length < 8 then 0 else sgn (val (l.take 8))
def numS (r : (List UInt8 × Bool)) : (List UInt8 × Bool) := if r.1.length < 8 then ([], true) else (r.1.drop 8, r.2)
theorem numV_range (l : List UInt8) : -9223372036854775808 ≤ numV l ∧ numV l ≤ 9223372036854775807 := by
  unfold numV; split
  · omega
  · exact sgn_range _
/-- Count. -/
def cntV (l : List UInt8) (m : Int) : Int := if numV l < 0 ∨ m < numV l then 0 else numV l
def cntS (r : (List UInt8 × Bool)) (m : Int) : (List UInt8 × Bool) := if numV r.1 < 0 ∨ m < numV r.1 then ([], true) else numS r
theorem cntV_range (l : List UInt8) (m : Int) : 0 ≤ cntV l m ∧ cntV l m ≤ 9223372036854775807 := by
  have := numV_range l
  unfold cntV; split <;> omega
/-- Text. -/
def txtV (r : (List UInt8 × Bool)) (m : Int) : List UInt8 := if ((cntS r m).1.length : Int) < cntV r.1 m then [] else (cntS r m).1.take (cntV r.1 m).toNat
def txtS (r : (List UInt8 × Bool)) (m : Int) : (List UInt8 × Bool) := if ((cntS r m).1.length : Int) < cntV r.1 m then ([], true) else ((cntS r m).1.drop (cntV r.1 m).toNat, (cntS r m).2)

theorem num_le (r : (List UInt8 × Bool)) : (numS r).1.length ≤ r.1.length := by unfold numS; split <;> simp
theorem cnt_le (r : (List UInt8 × Bool)) (m : Int) : (cntS r m).1.length ≤ r.1.length := by
  unfold cntS; split
  · simp
  · exact num_le r
theorem txt_le (r : (List UInt8 × Bool)) (m : Int) : (txtS r m).1.length ≤ r.1.length := by
  have := cnt_le r m
  unfold txtS; split
  · simp
  · simp; omega

/-- Once it is bad nothing is left. -/
def Fine (r : (List UInt8 × Bool)) : Prop := r.2 = true → r.1 = []
theorem fine_num (r : (List UInt8 × Bool)) (h : Fine r) : Fine (numS r) := by
  intro hb; unfold numS at *; split at hb
  · simp_all
  · rename_i h1; simp_all [Fine]
theorem fine_cnt (r : (List UInt8 × Bool)) (m : Int) (h : Fine r) : Fine (cntS r m) := by
  intro hb; unfold cntS at *; split at hb
  · simp_all
  · rename_i h1; rw [if_neg h1]; exact fine_num r h hb
theorem fine_txt (r : (List UInt8 × Bool)) (m : Int) (h : Fine r) : Fine (txtS r m) := by
  intro hb; unfold txtS at *; split at hb
  · simp_all
  · rename_i h1; rw [if_neg h1]; simp; rw [fine_cnt r m h hb]; simp

/-- What is written is read. -/
theorem numV_of (v : Int) (h0 : -9223372036854775808 ≤ v) (h1 : v ≤ 9223372036854775807) (t : List UInt8) : numV (num8 v ++ t) = v := by
  have hl := num8_length v
  unfold numV
  rw [if_neg (by rw [List.length_append]; omega), List.take_append_of_le_length (by omega), List.take_of_length_le (by omega), val_num8 v h0 h1]
theorem numS_of (v : Int) (t : List UInt8) (b : Bool) : numS (num8 v ++ t, b) = (t, b) := by
  have hl := num8_length v
  unfold numS
  rw [if_neg (by simp only [List.length_append]; omega)]
  simp only [List.drop_append_of_le_length (show 8 ≤ (num8 v).length by omega), List.drop_of_length_le (show (num8 v).length ≤ 8 by omega), List.nil_append]
theorem cntV_of (n : Nat) (m : Int) (t : List UInt8) (h : (n : Int) ≤ m) (hm : m ≤ 9223372036854775807) : cntV (num8 (n : Int) ++ t) m = n := by
  unfold cntV
  rw [numV_of _ (by omega) (by omega), if_neg (by omega)]
theorem cntS_of (n : Nat) (m : Int) (t : List UInt8) (b : Bool) (h : (n : Int) ≤ m) (hm : m ≤ 9223372036854775807) : cntS (num8 (n : Int) ++ t, b) m = (t, b) := by
  unfold cntS
  simp only
  rw [numV_of _ (by omega) (by omega), if_neg (by omega), numS_of]
/-- Text: how many bytes, and they. -/
def text8 (l : List UInt8) : List UInt8 := num8 (l.length : Int) ++ l
theorem text8_length (l : List UInt8) : (text8 l).length = 8 + l.length := by simp [text8, num8_length]
theorem txtV_of (l : List UInt8) (m : Int) (t : List UInt8) (b : Bool) (h : (l.length : Int) ≤ m) (hm : m ≤ 9223372036854775807) : txtV (text8 l ++ t, b) m = l := by
  unfold txtV text8
  simp only [List.append_assoc]
  rw [cntV_of _ _ _ h hm, cntS_of _ _ _ _ h hm]
  simp only
  rw [if_neg (by rw [List.length_append]; omega)]
  simp
theorem txtS_of (l : List UInt8) (m : Int) (t : List UInt8) (b : Bool) (h : (l.length : Int) ≤ m) (hm : m ≤ 9223372036854775807) : txtS (text8 l ++ t, b) m = (t, b) := by
  unfold txtS text8
  simp only [List.append_assoc]
  rw [cntV_of _ _ _ h hm, cntS_of _ _ _ _ h hm]
  simp only
  rw [if_neg (by rw [List.length_append]; omega)]
  simp
/-- What is more than the most, or less than nothing, is bad. -/
theorem cnt_over (v m : Int) (t : List UInt8) (b : Bool) (h0 : -9223372036854775808 ≤ v) (h1 : v ≤ 9223372036854775807) (h : v < 0 ∨ m < v) : cntV (num8 v ++ t) m = 0 ∧ cntS (num8 v ++ t, b) m = ([], true) := by
  unfold cntV cntS
  simp only
  rw [numV_of _ h0 h1, if_pos h, if_pos h]; exact ⟨rfl, rfl⟩
theorem txt_over (l : List UInt8) (m : Int) (t : List UInt8) (b : Bool) (h : m < (l.length : Int)) (hl : (l.length : Int) ≤ 9223372036854775807) : txtV (text8 l ++ t, b) m = [] ∧ txtS (text8 l ++ t, b) m = ([], true) := by
  obtain ⟨h1, h2⟩ := cnt_over (l.length : Int) m (l ++ t) b (by omega) hl (Or.inr h)
  unfold txtV txtS text8
  simp only [List.append_assoc]
  rw [h1, h2]
  constructor <;> rfl
theorem numV_nil : numV [] = 0 := rfl
theorem numS_nil (b : Bool) : numS ([], b) = ([], true) := rfl
theorem numV_one (v : Int) (h0 : -9223372036854775808 ≤ v) (h1 : v ≤ 9223372036854775807) : numV (num8 v) = v := by
  have := numV_of v h0 h1 []; rwa [List.append_nil] at this
theorem numS_one (v : Int) (b : Bool) : numS (num8 v, b) = ([], b) := by
  have := numS_of v [] b; rwa [List.append_nil] at this
end Go.Proofs.Ythdnldbkpllciaa

/-
  A reader of bytes in memory: a block of two cells, the text that is left and whether it is bad (package codec's, the document's).
-/
namespace Go.Proofs.Ythdnldbkpllciaa
open Go.RowKit

/-- The reader at block b: s is left; bad or not. -/
def Rd (t : TypeId) (w : World) (b : Nat) (s : ByteArray) (bad : Bool) : Prop := w.heap[b]? = some (.cells #[.string s, .bool bad] t (0, 0))
variable {t : TypeId} {w w' : World} {b : Nat} {s : ByteArray} {bad : Bool}
theorem Rd.lt (h : Rd t w b s bad) : b < w.heap.size := (Array.getElem?_eq_some_iff.1 h).1
theorem Rd.rest (h : Rd t w b s bad) : w.cell? ⟨b, 0, none⟩ = some (.string s) := by rw [cell_of_row w b 0 _ t (0, 0) h]; rfl
theorem Rd.isbad (h : Rd t w b s bad) : w.cell? ⟨b, 1, none⟩ = some (.bool bad) := by rw [cell_of_row w b 1 _ t (0, 0) h]; rfl
theorem Rd.frozen (h : Rd t w b s bad) (j : Nat) : w.frozen? ⟨b, j, none⟩ = false := frozen_of_row w b j _ t h
theorem Rd.below (h : Rd t w b s bad) (k : Below w.heap.size w w') : Rd t w' b s bad := by
  have hl := h.lt
  unfold Rd at *
  rw [k.block b hl]; exact h
theorem Rd.but {g : Nat} (h : Rd t w b s bad) (k : But g w w') (hg : b ≠ g) : Rd t w' b s bad := by
  have hl := h.lt
  unfold Rd at *
  rw [k.block b hl hg]; exact h
theorem Rd.drew (h : Rd t w b s bad) : Rd t w.drew b s bad := h
theorem Rd.drewN (h : Rd t w b s bad) (n : Nat) : Rd t (w.drewN n) b s bad := h
theorem Rd.setRest (h : Rd t w b s bad) (s' : ByteArray) : Rd t (w.setCell ⟨b, 0, none⟩ (.string s')) b s' bad := by
  unfold Rd at *
  rw [setCell_eq_setRow w b 0 _ t (0, 0) _ h, setRow_heap w b _ _ t (0, 0) h]; rfl
theorem Rd.setBad (h : Rd t w b s bad) (c : Bool) : Rd t (w.setCell ⟨b, 1, none⟩ (.bool c)) b s c := by
  unfold Rd at *
  rw [setCell_eq_setRow w b 1 _ t (0, 0) _ h, setRow_heap w b _ _ t (0, 0) h]; rfl
theorem Rd.new (t : TypeId) (w : World) (s : ByteArray) (bad : Bool) : Rd t (w.alloc (.cells #[.string s, .bool bad] t)) w.heap.size s bad := heap_alloc_new _ _

theorem ext_rest (s : ByteArray) (n : Nat) : (s.extract n s.size).data.toList = s.data.toList.drop n := by
  rw [extract_list, List.take_of_length_le]; simp

theorem val_take (l : List UInt8) (k : Nat) (h : k < l.length) : val (l.take (k + 1)) = val (l.take k) * 256 + l[k].toNat := by
  rw [List.take_add_one, List.getElem?_eq_getElem h]; exact val_snoc _ _
theorem val_take_lt (l : List UInt8) (k : Nat) (h : k < 8) : val (l.take k) < 72057594037927936 := by
  have h1 := val_lt (l.take k)
  have h2 : 256 ^ (l.take k).length ≤ 256 ^ 7 := Nat.pow_le_pow_right (by omega) (by rw [List.length_take]; omega)
  have h3 : (256 : Nat) ^ 7 = 72057594037927936 := by decide
  omega
theorem wrap64_sgn (n : Nat) : wrap64 (n : Int) = sgn n := by unfold sgn wrap64; rw [IntKind.wrap_i64]
theorem or_byte (n b : Nat) (hn : n < 72057594037927936) (hb : b < 256) : bits .or .u64 ((n : Int) * 256) (b : Int) = ((n * 256 + b : Nat) : Int) := by
  have e : (n : Int) * 256 = ((n * 256 : Nat) : Int) := by omega
  rw [e, u64_or_nat _ _ (by omega) (by omega), nat_join 8 (n * 256) b (by omega) (by omega)]

/-- The reader at block b, as the chapter has it. -/
def At (t : TypeId) (w : World) (b : Nat) (r : (List UInt8 × Bool)) : Prop := ∃ s : ByteArray, s.data.toList = r.1 ∧ Rd t w b s r.2
theorem At.below {t : TypeId} {w w' : World} {b : Nat} {r : (List UInt8 × Bool)} (h : At t w b r) (k : Below w.heap.size w w') : At t w' b r := by
  obtain ⟨s, h1, h2⟩ := h; exact ⟨s, h1, h2.below k⟩
theorem At.but {t : TypeId} {w w' : World} {b g : Nat} {r : (List UInt8 × Bool)} (h : At t w b r) (k : But g w w') (hg : b ≠ g) : At t w' b r := by
  obtain ⟨s, h1, h2⟩ := h; exact ⟨s, h1, h2.but k hg⟩
theorem At.lt {t : TypeId} {w : World} {b : Nat} {r : (List UInt8 × Bool)} (h : At t w b r) : b < w.heap.size := by
  obtain ⟨s, _, h2⟩ := h; exact h2.lt

theorem At.drew {t : TypeId} {w : World} {b : Nat} {r : (List UInt8 × Bool)} (h : At t w b r) : At t w.drew b r := h
theorem ext_first (s : ByteArray) (k : Nat) : s.extract 0 k = ⟨(s.data.toList.take k).toArray⟩ := by
  apply ByteArray.ext; rw [← Array.toList_inj, extract_list]; simp


end Go.Proofs.Ythdnldbkpllciaa
