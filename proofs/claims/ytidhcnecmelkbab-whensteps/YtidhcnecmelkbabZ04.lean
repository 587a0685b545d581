/-
  The tables of the program: the calls that make them.
-/
import Derived.Test.YtidhcnecmelkbabZ03
namespace Go.Proofs.Ytidhcnecmelkbab
open Go.RowKit

/-- The first words. -/
def H0 : List (BitVec 32) := [1779033703, 3144134277, 1013904242, 2773480762, 1359893119, 2600822924, 528734635, 1541459225]
/-- The rounds' constants. -/
def KK : List (BitVec 32) := [1116352408, 1899447441, 3049323471, 3921009573, 961987163, 1508970993, 2453635748, 2870763221, 3624381080, 310598401, 607225278, 1426881987, 1925078388, 2162078206, 2614888103, 3248222580, 3835390401, 4022224774, 264347078, 604807628, 770255983, 1249150122, 1555081692, 1996064986, 2554220882, 2821834349, 2952996808, 3210313671, 3336571891, 3584528711, 113926993, 338241895, 666307205, 773529912, 1294757372, 1396182291, 1695183700, 1986661051, 2177026350, 2456956037, 2730485921, 2820302411, 3259730800, 3345764771, 3516065817, 3600352804, 4094571909, 275423344, 430227734, 506948616, 659060556, 883997877, 958139571, 1322822218, 1537002063, 1747873779, 1955562222, 2024104815, 2227730452, 2361852424, 2428436474, 2756734187, 3204031479, 3329325298]

/-- Nothing but zeros. -/
def zeros (n : Nat) : List (BitVec 32) := List.replicate n 0
theorem Try.info84 : (Try.prog.info? 84).map (fun i => (i.zero, i.size)) = some (some (.agg (cw (zeros 64)).toArray), 64) := by kernel_rfl
theorem Try.info72 : (Try.prog.info? 72).map (fun i => (i.zero, i.size)) = some (some (.agg (cw (zeros 8)).toArray), 8) := by kernel_rfl
theorem Try.size84 : (Try.prog.info? 84).map (·.size) = some 64 := (zero_of_info Try.info84).2
theorem Try.size72 : (Try.prog.info? 72).map (·.size) = some 8 := (zero_of_info Try.info72).2
theorem zeros_length (n : Nat) : (zeros n).length = n := by simp [zeros]
theorem KK_length : KK.length = 64 := by decide
theorem H0_length : H0.length = 8 := by decide

theorem wpList_table {ops : Array Oper} {rest : List Oper} {o : Oper} {a : Act} {w : World} {Q : Exit → Act → World → Prop} (hgd : o.guard = none) (t : TypeId) (parts : Array (Nat × Operand)) (ho : o.op = .build t parts)
    (l : List (BitVec 32)) (hf : Try.prog.built t (parts.map fun (i, x) => (i, a.eval x)).toList = some (cw l).toArray)
    (h : wpList Try.prog ops Q rest (a.put o.dst (.agg (cw l).toArray)) w) : wpList Try.prog ops Q (o :: rest) a w :=
  wpList_build hgd t parts ho (by rw [hf]; rfl) (by rw [hf]; exact h)

end Go.Proofs.Ytidhcnecmelkbab

/-
  What the chapter says of digests, as plain functions over lists of bytes and words of 32 bits.
-/
namespace Go.Proofs.Ytidhcnecmelkbab
open Go.RowKit

def byteAt (l : List UInt8) (k : Nat) : BitVec 32 := BitVec.ofNat 32 (l.getD k 0).toNat
/-- The i-th word of some bytes. -/
def wordAt (l : List UInt8) (i : Nat) : BitVec 32 :=
  byteAt l (4 * i) <<< 24 ||| byteAt l (4 * i + 1) <<< 16 ||| byteAt l (4 * i + 2) <<< 8 ||| byteAt l (4 * i + 3)
/-- The next word behind l. -/
def nextW (l : List (BitVec 32)) : BitVec 32 :=
  l.getD (l.length - 16) 0 + ssig0 (l.getD (l.length - 15) 0) + l.getD (l.length - 7) 0 + ssig1 (l.getD (l.length - 2) 0)
/-- The first k words of a block's rounds. -/
def sch (s : List UInt8) : Nat → List (BitVec 32)
  | 0 => []
  | k + 1 => sch s k ++ [if k < 16 then wordAt s k else nextW (sch s k)]
theorem sch_length (s : List UInt8) (k : Nat) : (sch s k).length = k := by
  induction k with
  | zero => rfl
  | succ k ih => simp [sch, ih]
/-- What the array holds when k words are made. -/
def half (s : List UInt8) (k : Nat) : List (BitVec 32) := sch s k ++ zeros (64 - k)
theorem half_length (s : List UInt8) (k : Nat) (h : k ≤ 64) : (half s k).length = 64 := by simp [half, sch_length, zeros_length]; omega
theorem half_zero (s : List UInt8) : half s 0 = zeros 64 := rfl
theorem half_full (s : List UInt8) : half s 64 = sch s 64 := by simp [half, zeros]
theorem half_get (s : List UInt8) (k j : Nat) (h : j < k) : (half s k)[j]? = some ((sch s k).getD j 0) := by
  simp [half, List.getElem?_append, sch_length, h, List.getD_eq_getElem?_getD]
theorem half_set (s : List UInt8) (k : Nat) (h : k < 64) (x : BitVec 32) (hx : x = if k < 16 then wordAt s k else nextW (sch s k)) : (half s k).set k x = half s (k + 1) := by
  have e : zeros (64 - k) = 0 :: zeros (64 - (k + 1)) := by
    simp only [zeros]; rw [show 64 - k = (64 - (k + 1)) + 1 by omega, List.replicate_succ]
  subst hx
  simp [half, sch, e, sch_length]

theorem bv_byte (b : Nat) : ((b : Int) % 4294967296) = ((BitVec.ofNat 32 b).toNat : Int) := by
  rw [BitVec.toNat_ofNat]; omega
theorem bv_byte_shl (b n : Nat) (m : Int) (hm : m = 2 ^ n) : ((b : Int) % 4294967296 * m % 4294967296) = (((BitVec.ofNat 32 b) <<< n).toNat : Int) := by
  rw [bv_byte, hm, bv_shl']
theorem word_row (s : ByteArray) (k : Nat) (h0 : 4 * k < s.size) (h1 : 4 * k + 1 < s.size) (h2 : 4 * k + 2 < s.size) (h3 : 4 * k + 3 < s.size) :
    bits BinOp.or IntKind.u32 (bits BinOp.or IntKind.u32 (bits BinOp.or IntKind.u32 ((s[4 * k].toNat : Int) % 4294967296 * 16777216 % 4294967296)
      ((s[4 * k + 1].toNat : Int) % 4294967296 * 65536 % 4294967296)) ((s[4 * k + 2].toNat : Int) % 4294967296 * 256 % 4294967296)) ((s[4 * k + 3].toNat : Int) % 4294967296)
    = ((wordAt s.data.toList k).toNat : Int) := by
  rw [bv_byte_shl _ 24 _ (by rfl), bv_byte_shl _ 16 _ (by rfl), bv_byte_shl _ 8 _ (by rfl), bv_byte, bv_or, bv_or, bv_or, byte_get s _ h0, byte_get s _ h1, byte_get s _ h2, byte_get s _ h3]
  rfl

theorem step_row {w wr : World} {g g0 k N B : Nat} {n : Int} {x : BitVec 32} {l z : List (BitVec 32)} (hn : n = (x.toNat : Int)) (hrow : Row wr g 84 l) (hres : Row wr g0 84 z) (hne : g0 ≠ g)
    (hsz : wr.heap.size = N) (hbl : Below B w wr) (hg : B ≤ g) :
    Row (wr.setCell ⟨g, k, none⟩ (.int .u32 n)).drew g 84 (l.set k x) ∧ Row (wr.setCell ⟨g, k, none⟩ (.int .u32 n)).drew g0 84 z ∧ (wr.setCell ⟨g, k, none⟩ (.int .u32 n)).drew.heap.size = N
      ∧ Below B w (wr.setCell ⟨g, k, none⟩ (.int .u32 n)).drew := by
  subst hn
  refine ⟨(hrow.set k x).drew, (hres.but (But.setCell wr g k _) hne).drew, ?_, (hbl.setCell hg _).drew⟩
  rw [← hsz]; simp [World.setCell]

end Go.Proofs.Ytidhcnecmelkbab
