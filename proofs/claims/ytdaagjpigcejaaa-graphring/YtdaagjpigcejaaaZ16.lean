/-
  The rounds of one block, as plain functions.
-/
import Derived.Test.YtdaagjpigcejaaaZ15
namespace Go.Proofs.Ytdaagjpigcejaaa
open Go.RowKit

/-- The eight words. -/
structure St where
  a : BitVec 32
  b : BitVec 32
  c : BitVec 32
  d : BitVec 32
  e : BitVec 32
  f : BitVec 32
  g : BitVec 32
  h : BitVec 32

def St.list (s : St) : List (BitVec 32) := [s.a, s.b, s.c, s.d, s.e, s.f, s.g, s.h]
def St.get (s : St) : Nat → BitVec 32
  | 0 => s.a
  | 1 => s.b
  | 2 => s.c
  | 3 => s.d
  | 4 => s.e
  | 5 => s.f
  | 6 => s.g
  | _ => s.h
theorem St.list_length (s : St) : s.list.length = 8 := rfl
def first : St := ⟨1779033703, 3144134277, 1013904242, 2773480762, 1359893119, 2600822924, 528734635, 1541459225⟩
theorem first_list : first.list = H0 := rfl

def tee (s : St) (k w : BitVec 32) : BitVec 32 := s.h + bsig1 s.e + chs s.e s.f s.g + k + w
/-- One round. -/
def rnd (s : St) (k w : BitVec 32) : St :=
  ⟨tee s k w + (bsig0 s.a + maj s.a s.b s.c), s.a, s.b, s.c, s.d + tee s k w, s.e, s.f, s.g⟩
/-- The first n rounds. -/
def rounds (m : List (BitVec 32)) (s : St) : Nat → St
  | 0 => s
  | n + 1 => rnd (rounds m s n) (KK.getD n 0) (m.getD n 0)
def plus (s t : St) : St := ⟨s.a + t.a, s.b + t.b, s.c + t.c, s.d + t.d, s.e + t.e, s.f + t.f, s.g + t.g, s.h + t.h⟩
/-- A block is mixed in. -/
def comp (s : St) (m : List (BitVec 32)) : St := plus s (rounds m s 64)

/-- The eight words, i places round. -/
def turned (i : Nat) (s : St) : List (BitVec 32) := (List.range 8).map fun p => s.get ((p + i) % 8)
theorem turned_length (i : Nat) (s : St) : (turned i s).length = 8 := by simp [turned]
theorem turned_zero (s : St) : turned 0 s = s.list := rfl
theorem turned_full (s : St) : turned 64 s = s.list := rfl
theorem turned_mod (i : Nat) (s : St) : turned i s = turned (i % 8) s := by
  unfold turned; congr 1; funext p; congr 1; omega
theorem turned_get (i j p : Nat) (s : St) (hp : p < 8) (h : (p + i) % 8 = j) : (turned i s)[p]? = some (s.get j) := by
  simp [turned, List.getElem?_range hp, h]
theorem turned_step (i p3 p7 : Nat) (s : St) (k w x : BitVec 32) (h3 : p3 < 8) (h7 : p7 < 8) (e3 : (p3 + i) % 8 = 3) (e7 : (p7 + i) % 8 = 7)
    (hx : x = tee s k w + bsig0 s.a + maj s.a s.b s.c) : ((turned i s).set p3 (s.d + tee s k w)).set p7 x = turned (i + 1) (rnd s k w) := by
  rw [BitVec.add_assoc] at hx
  rw [turned_mod i, turned_mod (i + 1), show (i + 1) % 8 = (i % 8 + 1) % 8 by omega]
  have hr : i % 8 < 8 := by omega
  have e3' : (p3 + i % 8) % 8 = 3 := by omega
  have e7' : (p7 + i % 8) % 8 = 7 := by omega
  generalize i % 8 = r at hr e3' e7'
  subst hx
  have : r = 0 ∨ r = 1 ∨ r = 2 ∨ r = 3 ∨ r = 4 ∨ r = 5 ∨ r = 6 ∨ r = 7 := by omega
  rcases this with rfl | rfl | rfl | rfl | rfl | rfl | rfl | rfl
  · obtain rfl : p3 = 3 := by omega
    obtain rfl : p7 = 7 := by omega
    rfl
  · obtain rfl : p3 = 2 := by omega
    obtain rfl : p7 = 6 := by omega
    rfl
  · obtain rfl : p3 = 1 := by omega
    obtain rfl : p7 = 5 := by omega
    rfl
  · obtain rfl : p3 = 0 := by omega
    obtain rfl : p7 = 4 := by omega
    rfl
  · obtain rfl : p3 = 7 := by omega
    obtain rfl : p7 = 3 := by omega
    rfl
  · obtain rfl : p3 = 6 := by omega
    obtain rfl : p7 = 2 := by omega
    rfl
  · obtain rfl : p3 = 5 := by omega
    obtain rfl : p7 = 1 := by omega
    rfl
  · obtain rfl : p3 = 4 := by omega
    obtain rfl : p7 = 0 := by omega
    rfl

theorem and7_all : ∀ i : Fin 64, ∀ j : Fin 8, bits .and .i64 ((j.val : Int) - (i.val : Int)) 7 = (((j.val + 64 - i.val) % 8 : Nat) : Int) := by decide +kernel
theorem and7 (i j p : Nat) (hi : i < 64) (hj : j < 8) (hp : p < 8) (h : (p + i) % 8 = j) : bits .and .i64 ((j : Int) - (i : Int)) 7 = (p : Int) := by
  have := and7_all ⟨i, hi⟩ ⟨j, hj⟩
  rw [this]; simp only; omega
theorem place8 (k j : Nat) (hk : k < 64) (hj : j < 8) : ∃ p : Nat, Hid (p < 8 ∧ (p + k) % 8 = j) ∧ bits .and .i64 ((j : Int) - (k : Int)) 7 = (p : Int) ∧ (p : Int) < 8
    ∧ IntKind.i64.wrap ((j : Int) - (k : Int)) = (j : Int) - (k : Int) := by
  have h1 : (j + 64 - k) % 8 < 8 := by omega
  have h2 : ((j + 64 - k) % 8 + k) % 8 = j := by omega
  exact ⟨_, ⟨h1, h2⟩, and7 k j _ hk hj h1 h2, by omega, IntWalk.i64_in _ (by omega)⟩

/-- The words' sum, the first n made. -/
def summed (s t : St) (n : Nat) : List (BitVec 32) := (plus s t).list.take n ++ s.list.drop n
theorem summed_length (s t : St) (n : Nat) (h : n ≤ 8) : (summed s t n).length = 8 := by simp [summed, St.list]; omega
theorem summed_zero (s t : St) : summed s t 0 = s.list := rfl
theorem summed_full (s t : St) : summed s t 8 = (plus s t).list := rfl
theorem summed_get (s t : St) (n : Nat) (h : n < 8) : (summed s t n)[n]? = some (s.get n) := by
  have : n = 0 ∨ n = 1 ∨ n = 2 ∨ n = 3 ∨ n = 4 ∨ n = 5 ∨ n = 6 ∨ n = 7 := by omega
  rcases this with rfl | rfl | rfl | rfl | rfl | rfl | rfl | rfl <;> rfl
theorem list_get (s : St) (n : Nat) (h : n < 8) : s.list[n]? = some (s.get n) := by
  have : n = 0 ∨ n = 1 ∨ n = 2 ∨ n = 3 ∨ n = 4 ∨ n = 5 ∨ n = 6 ∨ n = 7 := by omega
  rcases this with rfl | rfl | rfl | rfl | rfl | rfl | rfl | rfl <;> rfl
theorem summed_set (s t : St) (n : Nat) (h : n < 8) : (summed s t n).set n (s.get n + t.get n) = summed s t (n + 1) := by
  have : n = 0 ∨ n = 1 ∨ n = 2 ∨ n = 3 ∨ n = 4 ∨ n = 5 ∨ n = 6 ∨ n = 7 := by omega
  rcases this with rfl | rfl | rfl | rfl | rfl | rfl | rfl | rfl <;> rfl
theorem num2 (x y : BitVec 32) : ((x.toNat : Int) + (y.toNat : Int)) % 4294967296 = ((x + y).toNat : Int) := by
  rw [BitVec.toNat_add]; omega
theorem num6 (d h s c k m : BitVec 32) : ((d.toNat : Int) + ((h.toNat : Int) + (s.toNat : Int) + (c.toNat : Int) + (k.toNat : Int) + (m.toNat : Int))) % 4294967296 = ((d + (h + s + c + k + m)).toNat : Int) := by
  simp only [BitVec.toNat_add]; omega
theorem num7 (h s c k m x y : BitVec 32) : ((h.toNat : Int) + (s.toNat : Int) + (c.toNat : Int) + (k.toNat : Int) + (m.toNat : Int) + (x.toNat : Int) + (y.toNat : Int)) % 4294967296 = ((h + s + c + k + m + x + y).toNat : Int) := by
  simp only [BitVec.toNat_add]; omega

/-- What the rounds' walk knows of memory. -/
structure MixAt (w : World) (gc : Nat) (m v : List (BitVec 32)) (wr : World) : Prop where
  row : Row wr (w.heap.size + 1) 66 v
  words : Row wr w.heap.size 79 m
  consts : Row wr gc 79 KK
  size : wr.heap.size = w.heap.size + 2
  below : Below w.heap.size w wr
theorem MixAt.drewN {w : World} {gc : Nat} {m v : List (BitVec 32)} {wr : World} (h : MixAt w gc m v wr) (n : Nat) : MixAt w gc m v (wr.drewN n) :=
  ⟨h.row, h.words, h.consts, h.size, ⟨h.below.os, h.below.tape, h.below.output, h.below.size, h.below.block⟩⟩
theorem MixAt.set {w : World} {gc : Nat} {m v : List (BitVec 32)} {wr : World} (h : MixAt w gc m v wr) (hgc : gc < w.heap.size) (j : Nat) (n : Int) (x : BitVec 32) (hn : n = (x.toNat : Int)) :
    MixAt w gc m (v.set j x) (wr.setCell ⟨w.heap.size + 1, j, none⟩ (.int .u32 n)) := by
  subst hn
  exact ⟨h.row.set j x, h.words.but (But.setCell _ _ _ _) (by omega), h.consts.but (But.setCell _ _ _ _) (by omega), by rw [← h.size]; simp [World.setCell], h.below.setCell (by simp) _⟩

end Go.Proofs.Ytdaagjpigcejaaa

/-
  What the document's turn gives, over words of 32 bits.
-/
namespace Go.Proofs.Ytdaagjpigcejaaa
open Go.RowKit

set_option maxHeartbeats 400000 in
theorem turn_any (x : BitVec 32) (n : Nat) (h1 : 1 ≤ n) (h2 : n ≤ 31) (w : World) :
    Calls Try.prog 74 #[.int .u32 x.toNat, .int .u64 n] w fun e w' => e = .returned (.int .u32 (rotr x n).toNat) ∧ w' = w := by
  go_enter Try.func74, Try.ntmps74
  go_wp2
  go_ret
  refine ⟨ret_int ?_, rfl⟩
  rw [bv_shl', bv_shr, bv_or]; rfl

theorem turn_at (x : BitVec 32) (m : Int) (h1 : 1 ≤ m) (h2 : m ≤ 31) (w : World) :
    Calls Try.prog 74 #[.int .u32 x.toNat, .int .u64 m] w fun e w' => e = .returned (.int .u32 (rotr x m.toNat).toNat) ∧ w' = w := by
  obtain ⟨n, rfl⟩ := Int.eq_ofNat_of_zero_le (show 0 ≤ m by omega)
  exact turn_any x n (by omega) (by omega) w

end Go.Proofs.Ytdaagjpigcejaaa
