/-
  What the chapter says of digests, as plain functions over lists of bytes and words of 32 bits.
-/
import Derived.Test.YtccaaaifhiigcaaZ08
namespace Go.Proofs.Ytccaaaifhiigcaa
open Go.RowKit

def byteAt (l : List UInt8) (k : Nat) : BitVec 32 := BitVec.ofNat 32 (l.getD k 0).toNat
/-- The i-th word of some bytes. -/
def wordAt (l : List UInt8) (i : Nat) : BitVec 32 :=
  byteAt l (4 * i) <<< 24 ||| byteAt l (4 * i + 1) <<< 16 ||| byteAt l (4 * i + 2) <<< 8 ||| byteAt l (4 * i + 3)
/-- The next word behind l. -/
def nextW (l : List (BitVec 32)) : BitVec 32 :=
  l.getD (l.length - 16) 0 + ssig0 (l.getD (l.length - 15) 0) + l.getD (l.length - 7) 0 + ssig1 (l.getD (l.length - 2) 0)
/-- The first k words of a block's rounds. -/
def sch (s : List UInt8) : Nat → List (BitVec 32)
  | 0 => []
  | k + 1 => sch s k ++ [if k < 16 then wordAt s k else nextW (sch s k)]
theorem sch_length (s : List UInt8) (k : Nat) : (sch s k).length = k := by
  induction k with
  | zero => rfl
  | succ k ih => simp [sch, ih]
/-- What the array holds when k words are made. -/
def half (s : List UInt8) (k : Nat) : List (BitVec 32) := sch s k ++ zeros (64 - k)
theorem half_length (s : List UInt8) (k : Nat) (h : k ≤ 64) : (half s k).length = 64 := by simp [half, sch_length, zeros_length]; omega
theorem half_zero (s : List UInt8) : half s 0 = zeros 64 := rfl
theorem half_full (s : List UInt8) : half s 64 = sch s 64 := by simp [half, zeros]
theorem half_get (s : List UInt8) (k j : Nat) (h : j < k) : (half s k)[j]? = some ((sch s k).getD j 0) := by
  simp [half, List.getElem?_append, sch_length, h, List.getD_eq_getElem?_getD]
theorem half_set (s : List UInt8) (k : Nat) (h : k < 64) (x : BitVec 32) (hx : x = if k < 16 then wordAt s k else nextW (sch s k)) : (half s k).set k x = half s (k + 1) := by
  have e : zeros (64 - k) = 0 :: zeros (64 - (k + 1)) := by
    simp only [zeros]; rw [show 64 - k = (64 - (k + 1)) + 1 by omega, List.replicate_succ]
  subst hx
  simp [half, sch, e, sch_length]

theorem bv_byte (b : Nat) : ((b : Int) % 4294967296) = ((BitVec.ofNat 32 b).toNat : Int) := by
  rw [BitVec.toNat_ofNat]; omega
theorem bv_byte_shl (b n : Nat) (m : Int) (hm : m = 2 ^ n) : ((b : Int) % 4294967296 * m % 4294967296) = (((BitVec.ofNat 32 b) <<< n).toNat : Int) := by
  rw [bv_byte, hm, bv_shl']
theorem word_row (s : ByteArray) (k : Nat) (h0 : 4 * k < s.size) (h1 : 4 * k + 1 < s.size) (h2 : 4 * k + 2 < s.size) (h3 : 4 * k + 3 < s.size) :
    bits BinOp.or IntKind.u32 (bits BinOp.or IntKind.u32 (bits BinOp.or IntKind.u32 ((s[4 * k].toNat : Int) % 4294967296 * 16777216 % 4294967296)
      ((s[4 * k + 1].toNat : Int) % 4294967296 * 65536 % 4294967296)) ((s[4 * k + 2].toNat : Int) % 4294967296 * 256 % 4294967296)) ((s[4 * k + 3].toNat : Int) % 4294967296)
    = ((wordAt s.data.toList k).toNat : Int) := by
  rw [bv_byte_shl _ 24 _ (by rfl), bv_byte_shl _ 16 _ (by rfl), bv_byte_shl _ 8 _ (by rfl), bv_byte, bv_or, bv_or, bv_or, byte_get s _ h0, byte_get s _ h1, byte_get s _ h2, byte_get s _ h3]
  rfl

theorem step_row {w wr : World} {g g0 k N B : Nat} {n : Int} {x : BitVec 32} {l z : List (BitVec 32)} (hn : n = (x.toNat : Int)) (hrow : Row wr g 82 l) (hres : Row wr g0 82 z) (hne : g0 ≠ g)
    (hsz : wr.heap.size = N) (hbl : Below B w wr) (hg : B ≤ g) :
    Row (wr.setCell ⟨g, k, none⟩ (.int .u32 n)).drew g 82 (l.set k x) ∧ Row (wr.setCell ⟨g, k, none⟩ (.int .u32 n)).drew g0 82 z ∧ (wr.setCell ⟨g, k, none⟩ (.int .u32 n)).drew.heap.size = N
      ∧ Below B w (wr.setCell ⟨g, k, none⟩ (.int .u32 n)).drew := by
  subst hn
  refine ⟨(hrow.set k x).drew, (hres.but (But.setCell wr g k _) hne).drew, ?_, (hbl.setCell hg _).drew⟩
  rw [← hsz]; simp [World.setCell]

end Go.Proofs.Ytccaaaifhiigcaa

/-
  The rounds of one block, as plain functions.
-/
namespace Go.Proofs.Ytccaaaifhiigcaa
open Go.RowKit

/-- The eight words. -/
structure St where
  a : BitVec 32
  b : BitVec 32
  c : BitVec 32
  d : BitVec 32
  e : BitVec 32
  f : BitVec 32
  g : BitVec 32
  h : BitVec 32

def St.list (s : St) : List (BitVec 32) := [s.a, s.b, s.c, s.d, s.e, s.f, s.g, s.h]
def St.get (s : St) : Nat → BitVec 32
  | 0 => s.a
  | 1 => s.b
  | 2 => s.c
  | 3 => s.d
  | 4 => s.e
  | 5 => s.f
  | 6 => s.g
  | _ => s.h
theorem St.list_length (s : St) : s.list.length = 8 := rfl
def first : St := ⟨1779033703, 3144134277, 1013904242, 2773480762, 1359893119, 2600822924, 528734635, 1541459225⟩
theorem first_list : first.list = H0 := rfl

def tee (s : St) (k w : BitVec 32) : BitVec 32 := s.h + bsig1 s.e + chs s.e s.f s.g + k + w
/-- One round. -/
def rnd (s : St) (k w : BitVec 32) : St :=
  ⟨tee s k w + (bsig0 s.a + maj s.a s.b s.c), s.a, s.b, s.c, s.d + tee s k w, s.e, s.f, s.g⟩
/-- The first n rounds. -/
def rounds (m : List (BitVec 32)) (s : St) : Nat → St
  | 0 => s
  | n + 1 => rnd (rounds m s n) (KK.getD n 0) (m.getD n 0)
def plus (s t : St) : St := ⟨s.a + t.a, s.b + t.b, s.c + t.c, s.d + t.d, s.e + t.e, s.f + t.f, s.g + t.g, s.h + t.h⟩
/-- A block is mixed in. -/
def comp (s : St) (m : List (BitVec 32)) : St := plus s (rounds m s 64)

/-- The eight words, i places round. -/
def turned (i : Nat) (s : St) : List (BitVec 32) := (List.range 8).map fun p => s.get ((p + i) % 8)
theorem turned_length (i : Nat) (s : St) : (turned i s).length = 8 := by simp [turned]
theorem turned_zero (s : St) : turned 0 s = s.list := rfl
theorem turned_full (s : St) : turned 64 s = s.list := rfl
theorem turned_mod (i : Nat) (s : St) : turned i s = turned (i % 8) s := by
  unfold turned; congr 1; funext p; congr 1; omega
theorem turned_get (i j p : Nat) (s : St) (hp : p < 8) (h : (p + i) % 8 = j) : (turned i s)[p]? = some (s.get j) := by
  simp [turned, List.getElem?_range hp, h]
theorem turned_step (i p3 p7 : Nat) (s : St) (k w x : BitVec 32) (h3 : p3 < 8) (h7 : p7 < 8) (e3 : (p3 + i) % 8 = 3) (e7 : (p7 + i) % 8 = 7)
    (hx : x = tee s k w + bsig0 s.a + maj s.a s.b s.c) : ((turned i s).set p3 (s.d + tee s k w)).set p7 x = turned (i + 1) (rnd s k w) := by
  rw [BitVec.add_assoc] at hx
  rw [turned_mod i, turned_mod (i + 1), show (i + 1) % 8 = (i % 8 + 1) % 8 by omega]
  have hr : i % 8 < 8 := by omega
  have e3' : (p3 + i % 8) % 8 = 3 := by omega
  have e7' : (p7 + i % 8) % 8 = 7 := by omega
  generalize i % 8 = r at hr e3' e7'
  subst hx
  have : r = 0 ∨ r = 1 ∨ r = 2 ∨ r = 3 ∨ r = 4 ∨ r = 5 ∨ r = 6 ∨ r = 7 := by omega
  rcases this with rfl | rfl | rfl | rfl | rfl | rfl | rfl | rfl
  · obtain rfl : p3 = 3 := by omega
    obtain rfl : p7 = 7 := by omega
    rfl
  · obtain rfl : p3 = 2 := by omega
    obtain rfl : p7 = 6 := by omega
    rfl
  · obtain rfl : p3 = 1 := by omega
    obtain rfl : p7 = 5 := by omega
    rfl
  · obtain rfl : p3 = 0 := by omega
    obtain rfl : p7 = 4 := by omega
    rfl
  · obtain rfl : p3 = 7 := by omega
    obtain rfl : p7 = 3 := by omega
    rfl
  · obtain rfl : p3 = 6 := by omega
    obtain rfl : p7 = 2 := by omega
    rfl
  · obtain rfl : p3 = 5 := by omega
    obtain rfl : p7 = 1 := by omega
    rfl
  · obtain rfl : p3 = 4 := by omega
    obtain rfl : p7 = 0 := by omega
    rfl

theorem and7_all : ∀ i : Fin 64, ∀ j : Fin 8, bits .and .i64 ((j.val : Int) - (i.val : Int)) 7 = (((j.val + 64 - i.val) % 8 : Nat) : Int) := by decide +kernel
theorem and7 (i j p : Nat) (hi : i < 64) (hj : j < 8) (hp : p < 8) (h : (p + i) % 8 = j) : bits .and .i64 ((j : Int) - (i : Int)) 7 = (p : Int) := by
  have := and7_all ⟨i, hi⟩ ⟨j, hj⟩
  rw [this]; simp only; omega
theorem place8 (k j : Nat) (hk : k < 64) (hj : j < 8) : ∃ p : Nat, Hid (p < 8 ∧ (p + k) % 8 = j) ∧ bits .and .i64 ((j : Int) - (k : Int)) 7 = (p : Int) ∧ (p : Int) < 8
    ∧ IntKind.i64.wrap ((j : Int) - (k : Int)) = (j : Int) - (k : Int) := by
  have h1 : (j + 64 - k) % 8 < 8 := by omega
  have h2 : ((j + 64 - k) % 8 + k) % 8 = j := by omega
  exact ⟨_, ⟨h1, h2⟩, and7 k j _ hk hj h1 h2, by omega, IntWalk.i64_in _ (by omega)⟩

/-- The words' sum, the first n made. -/
def summed (s t : St) (n : Nat) : List (BitVec 32) := (plus s t).list.take n ++ s.list.drop n
theorem summed_length (s t : St) (n : Nat) (h : n ≤ 8) : (summed s t n).length = 8 := by simp [summed, St.list]; omega
theorem summed_zero (s t : St) : summed s t 0 = s.list := rfl
theorem summed_full (s t : St) : summed s t 8 = (plus s t).list := rfl
theorem summed_get (s t : St) (n : Nat) (h : n < 8) : (summed s t n)[n]? = some (s.get n) := by
  have : n = 0 ∨ n = 1 ∨ n = 2 ∨ n = 3 ∨ n = 4 ∨ n = 5 ∨ n = 6 ∨ n = 7 := by omega
  rcases this with rfl | rfl | rfl | rfl | rfl | rfl | rfl | rfl <;> rfl
theorem list_get (s : St) (n : Nat) (h : n < 8) : s.list[n]? = some (s.get n) := by
  have : n = 0 ∨ n = 1 ∨ n = 2 ∨ n = 3 ∨ n = 4 ∨ n = 5 ∨ n = 6 ∨ n = 7 := by omega
  rcases this with rfl | rfl | rfl | rfl | rfl | rfl | rfl | rfl <;> rfl
theorem summed_set (s t : St) (n : Nat) (h : n < 8) : (summed s t n).set n (s.get n + t.get n) = summed s t (n + 1) := by
  have : n = 0 ∨ n = 1 ∨ n = 2 ∨ n = 3 ∨ n = 4 ∨ n = 5 ∨ n = 6 ∨ n = 7 := by omega
  rcases this with rfl | rfl | rfl | rfl | rfl | rfl | rfl | rfl <;> rfl
theorem num2 (x y : BitVec 32) : ((x.toNat : Int) + (y.toNat : Int)) % 4294967296 = ((x + y).toNat : Int) := by
  rw [BitVec.toNat_add]; omega
theorem num6 (d h s c k m : BitVec 32) : ((d.toNat : Int) + ((h.toNat : Int) + (s.toNat : Int) + (c.toNat : Int) + (k.toNat : Int) + (m.toNat : Int))) % 4294967296 = ((d + (h + s + c + k + m)).toNat : Int) := by
  simp only [BitVec.toNat_add]; omega
theorem num7 (h s c k m x y : BitVec 32) : ((h.toNat : Int) + (s.toNat : Int) + (c.toNat : Int) + (k.toNat : Int) + (m.toNat : Int) + (x.toNat : Int) + (y.toNat : Int)) % 4294967296 = ((h + s + c + k + m + x + y).toNat : Int) := by
  simp only [BitVec.toNat_add]; omega

/-- What the rounds' walk knows of memory. -/
structure MixAt (w : World) (gc : Nat) (m v : List (BitVec 32)) (wr : World) : Prop where
  row : Row wr (w.heap.size + 1) 80 v
  words : Row wr w.heap.size 82 m
  consts : Row wr gc 82 KK
  size : wr.heap.size = w.heap.size + 2
  below : Below w.heap.size w wr
theorem MixAt.drewN {w : World} {gc : Nat} {m v : List (BitVec 32)} {wr : World} (h : MixAt w gc m v wr) (n : Nat) : MixAt w gc m v (wr.drewN n) :=
  ⟨h.row, h.words, h.consts, h.size, ⟨h.below.os, h.below.tape, h.below.output, h.below.size, h.below.block⟩⟩
theorem MixAt.set {w : World} {gc : Nat} {m v : List (BitVec 32)} {wr : World} (h : MixAt w gc m v wr) (hgc : gc < w.heap.size) (j : Nat) (n : Int) (x : BitVec 32) (hn : n = (x.toNat : Int)) :
    MixAt w gc m (v.set j x) (wr.setCell ⟨w.heap.size + 1, j, none⟩ (.int .u32 n)) := by
  subst hn
  exact ⟨h.row.set j x, h.words.but (But.setCell _ _ _ _) (by omega), h.consts.but (But.setCell _ _ _ _) (by omega), by rw [← h.size]; simp [World.setCell], h.below.setCell (by simp) _⟩

end Go.Proofs.Ytccaaaifhiigcaa

/-
  What the document's turn gives, over words of 32 bits.
-/
namespace Go.Proofs.Ytccaaaifhiigcaa
open Go.RowKit

set_option maxHeartbeats 400000 in
theorem turn_any (x : BitVec 32) (n : Nat) (h1 : 1 ≤ n) (h2 : n ≤ 31) (w : World) :
    Calls Try.prog 106 #[.int .u32 x.toNat, .int .u64 n] w fun e w' => e = .returned (.int .u32 (rotr x n).toNat) ∧ w' = w := by
  go_enter Try.func106, Try.ntmps106
  go_wp2
  go_ret
  refine ⟨ret_int ?_, rfl⟩
  rw [bv_shl', bv_shr, bv_or]; rfl

theorem turn_at (x : BitVec 32) (m : Int) (h1 : 1 ≤ m) (h2 : m ≤ 31) (w : World) :
    Calls Try.prog 106 #[.int .u32 x.toNat, .int .u64 m] w fun e w' => e = .returned (.int .u32 (rotr x m.toNat).toNat) ∧ w' = w := by
  obtain ⟨n, rfl⟩ := Int.eq_ofNat_of_zero_le (show 0 ≤ m by omega)
  exact turn_any x n (by omega) (by omega) w

end Go.Proofs.Ytccaaaifhiigcaa

/-
  The document's table: the call that makes it.
-/
namespace Go.Proofs.Ytccaaaifhiigcaa
open Go.RowKit

set_option maxRecDepth 10000 in
set_option maxHeartbeats 400000 in
theorem table_any (w : World) :
    Calls Try.prog 105 #[] w fun e w' => e = .returned (.agg (cw KK).toArray) ∧ Below w.heap.size w w' := by
  go_enter Try.func105, Try.ntmps105
  go_wp2_with (first
    | (refine wpList_new (P := Try.prog) (by rfl) 82 (by rfl) (zeros 64) 64 Try.info82 ?_; intro w1 hr1 hs1 hb1)
    | (refine wpList_table (by rfl) 82 _ (by rfl) KK (by kernel_rfl) ?_)
    | (refine wpList_put (P := Try.prog) (by rfl) 82 (.tmp 0) (.tmp 1) (by rfl) w.heap.size KK (zeros 64) (by rfl) (by rfl) 82 hr1 (by rw [KK_length]; exact Try.size82) (by rw [KK_length, zeros_length]) ?_; intro w2 hr2 hs2 hb2))
  exact bodyPost_ret (v := .agg (cw KK).toArray) (results_cell_row (fn := Try.f105) Try.results105 _ _ w.heap.size 82 _ (0, 0) _ (by rfl) hr2 Try.underlying82 rfl (by rw [cw_size, KK_length]; exact Try.size82)) rfl
    ⟨rfl, hb1.trans (hb2.below (Nat.le_refl _) (by omega))⟩

end Go.Proofs.Ytccaaaifhiigcaa

/-
  A reader of bytes in memory: a block of two cells, the text that is left and whether it is bad (package codec's, the document's).
-/
namespace Go.Proofs.Ytccaaaifhiigcaa
open Go.RowKit

/-- The reader at block b: s is left; bad or not. -/
def Rd (t : TypeId) (w : World) (b : Nat) (s : ByteArray) (bad : Bool) : Prop := w.heap[b]? = some (.cells #[.string s, .bool bad] t (0, 0))
variable {t : TypeId} {w w' : World} {b : Nat} {s : ByteArray} {bad : Bool}
theorem Rd.lt (h : Rd t w b s bad) : b < w.heap.size := (Array.getElem?_eq_some_iff.1 h).1
theorem Rd.rest (h : Rd t w b s bad) : w.cell? ⟨b, 0, none⟩ = some (.string s) := by rw [cell_of_row w b 0 _ t (0, 0) h]; rfl
theorem Rd.isbad (h : Rd t w b s bad) : w.cell? ⟨b, 1, none⟩ = some (.bool bad) := by rw [cell_of_row w b 1 _ t (0, 0) h]; rfl
theorem Rd.frozen (h : Rd t w b s bad) (j : Nat) : w.frozen? ⟨b, j, none⟩ = false := frozen_of_row w b j _ t h
theorem Rd.below (h : Rd t w b s bad) (k : Below w.heap.size w w') : Rd t w' b s bad := by
  have hl := h.lt
  unfold Rd at *
  rw [k.block b hl]; exact h
theorem Rd.but {g : Nat} (h : Rd t w b s bad) (k : But g w w') (hg : b ≠ g) : Rd t w' b s bad := by
  have hl := h.lt
  unfold Rd at *
  rw [k.block b hl hg]; exact h
theorem Rd.drew (h : Rd t w b s bad) : Rd t w.drew b s bad := h
theorem Rd.drewN (h : Rd t w b s bad) (n : Nat) : Rd t (w.drewN n) b s bad := h
theorem Rd.setRest (h : Rd t w b s bad) (s' : ByteArray) : Rd t (w.setCell ⟨b, 0, none⟩ (.string s')) b s' bad := by
  unfold Rd at *
  rw [setCell_eq_setRow w b 0 _ t (0, 0) _ h, setRow_heap w b _ _ t (0, 0) h]; rfl
theorem Rd.setBad (h : Rd t w b s bad) (c : Bool) : Rd t (w.setCell ⟨b, 1, none⟩ (.bool c)) b s c := by
  unfold Rd at *
  rw [setCell_eq_setRow w b 1 _ t (0, 0) _ h, setRow_heap w b _ _ t (0, 0) h]; rfl
theorem Rd.new (t : TypeId) (w : World) (s : ByteArray) (bad : Bool) : Rd t (w.alloc (.cells #[.string s, .bool bad] t)) w.heap.size s bad := heap_alloc_new _ _

theorem ext_rest (s : ByteArray) (n : Nat) : (s.extract n s.size).data.toList = s.data.toList.drop n := by
  rw [extract_list, List.take_of_length_le]; simp

theorem val_take (l : List UInt8) (k : Nat) (h : k < l.length) : val (l.take (k + 1)) = val (l.take k) * 256 + l[k].toNat := by
  rw [List.take_add_one, List.getElem?_eq_getElem h]; exact val_snoc _ _
theorem val_take_lt (l : List UInt8) (k : Nat) (h : k < 8) : val (l.take k) < 72057594037927936 := by
  have h1 := val_lt (l.take k)
  have h2 : 256 ^ (l.take k).length ≤ 256 ^ 7 := Nat.pow_le_pow_right (by omega) (by rw [List.length_take]; omega)
  have h3 : (256 : Nat) ^ 7 = 72057594037927936 := by decide
  omega
theorem wrap64_sgn (n : Nat) : wrap64 (n : Int) = sgn n := by unfold sgn wrap64; rw [IntKind.wrap_i64]
theorem or_byte (n b : Nat) (hn : n < 72057594037927936) (hb : b < 256) : bits .or .u64 ((n : Int) * 256) (b : Int) = ((n * 256 + b : Nat) : Int) := by
  have e : (n : Int) * 256 = ((n * 256 : Nat) : Int) := by omega
  rw [e, u64_or_nat _ _ (by omega) (by omega), nat_join 8 (n * 256) b (by omega) (by omega)]

/-- The reader at block b, as the chapter has it. -/
def At (t : TypeId) (w : World) (b : Nat) (r : (List UInt8 × Bool)) : Prop := ∃ s : ByteArray, s.data.toList = r.1 ∧ Rd t w b s r.2
theorem At.below {t : TypeId} {w w' : World} {b : Nat} {r : (List UInt8 × Bool)} (h : At t w b r) (k : Below w.heap.size w w') : At t w' b r := by
  obtain ⟨s, h1, h2⟩ := h; exact ⟨s, h1, h2.below k⟩
theorem At.but {t : TypeId} {w w' : World} {b g : Nat} {r : (List UInt8 × Bool)} (h : At t w b r) (k : But g w w') (hg : b ≠ g) : At t w' b r := by
  obtain ⟨s, h1, h2⟩ := h; exact ⟨s, h1, h2.but k hg⟩
theorem At.lt {t : TypeId} {w : World} {b : Nat} {r : (List UInt8 × Bool)} (h : At t w b r) : b < w.heap.size := by
  obtain ⟨s, _, h2⟩ := h; exact h2.lt

theorem At.drew {t : TypeId} {w : World} {b : Nat} {r : (List UInt8 × Bool)} (h : At t w b r) : At t w.drew b r := h
theorem ext_first (s : ByteArray) (k : Nat) : s.extract 0 k = ⟨(s.data.toList.take k).toArray⟩ := by
  apply ByteArray.ext; rw [← Array.toList_inj, extract_list]; simp


end Go.Proofs.Ytccaaaifhiigcaa
