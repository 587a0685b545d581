/-
  What the small functions of package sha give, over words of 32 bits.
-/
import Derived.Test.YthdnldbkpllciaaRows
import Derived.Test.YthdnldbkpllciaaBits
import Derived.Test.YthdnldbkpllciaaZ00
import Derived.WalkSpells
import Derived.WalkLawsBesides
import Derived.Deep.WholeRow
import Derived.Laws.Tables
namespace Go.Proofs.Ythdnldbkpllciaa
open Go.RowKit

end Go.Proofs.Ythdnldbkpllciaa

/-
  Arrays of words that a call itself makes: a block that is known whole.
-/
namespace Go.Proofs.Ythdnldbkpllciaa
open Go.RowKit
variable {P : Program}

/-- Words as the cells of an array. -/
def cw (l : List (BitVec 32)) : List Value := l.map fun x => Value.int .u32 (x.toNat : Int)
theorem cw_length (l : List (BitVec 32)) : (cw l).length = l.length := by simp [cw]
theorem cw_size (l : List (BitVec 32)) : (cw l).toArray.size = l.length := by simp [cw]
theorem cw_one (l : List (BitVec 32)) : (cw l).toArray.all (·.oneCell') = true :=
  Array.all_eq_true_iff_forall_mem.2 fun v hv => by
    simp [cw] at hv; obtain ⟨x, _, rfl⟩ := hv; rfl
theorem cw_get (l : List (BitVec 32)) (j : Nat) : (cw l).toArray[j]? = (l[j]?).map fun x => Value.int .u32 (x.toNat : Int) := by simp [cw]
theorem cw_set (l : List (BitVec 32)) (j : Nat) (x : BitVec 32) : (cw l).toArray.setIfInBounds j (.int .u32 (x.toNat : Int)) = (cw (l.set j x)).toArray := by
  simp [cw, List.map_set]

/-- The block g holds the words l, and no more. -/
def Row (w : World) (g : Nat) (t : TypeId) (l : List (BitVec 32)) : Prop := w.heap[g]? = some (.cells (cw l).toArray t (0, 0))

theorem Row.but {w w' : World} {g g' : Nat} {t : TypeId} {l : List (BitVec 32)} (h : Row w g t l) (k : But g' w w') (hg : g ≠ g') : Row w' g t l := by
  unfold Row at *
  rw [k.block g (Array.getElem?_eq_some_iff.1 h).1 hg]; exact h
theorem Row.lt {w : World} {g : Nat} {t : TypeId} {l : List (BitVec 32)} (h : Row w g t l) : g < w.heap.size := (Array.getElem?_eq_some_iff.1 h).1
theorem Row.below {w w' : World} {g : Nat} {t : TypeId} {l : List (BitVec 32)} (h : Row w g t l) (k : Below w.heap.size w w') : Row w' g t l := by
  have hl := h.lt
  unfold Row at *
  rw [k.block g hl]; exact h
theorem Row.drew {w : World} {g : Nat} {t : TypeId} {l : List (BitVec 32)} (h : Row w g t l) : Row w.drew g t l := h
theorem Row.drewN {w : World} {g : Nat} {t : TypeId} {l : List (BitVec 32)} (h : Row w g t l) (n : Nat) : Row (w.drewN n) g t l := h
theorem Row.cell {w : World} {g : Nat} {t : TypeId} {l : List (BitVec 32)} (h : Row w g t l) (j : Nat) (x : BitVec 32) (hj : l[j]? = some x) :
    w.cell? ⟨g, j, none⟩ = some (.int .u32 (x.toNat : Int)) := by
  rw [cell_of_row w g j _ t (0, 0) h, cw_get, hj]; rfl
theorem Row.frozen {w : World} {g : Nat} {t : TypeId} {l : List (BitVec 32)} (h : Row w g t l) (j : Nat) : w.frozen? ⟨g, j, none⟩ = false := frozen_of_row w g j _ t h
theorem Row.set {w : World} {g : Nat} {t : TypeId} {l : List (BitVec 32)} (h : Row w g t l) (j : Nat) (x : BitVec 32) :
    Row (w.setCell ⟨g, j, none⟩ (.int .u32 (x.toNat : Int))) g t (l.set j x) := by
  unfold Row at *
  rw [setCell_eq_setRow w g j _ t (0, 0) _ h, cw_set, setRow_heap w g _ _ t (0, 0) h]
theorem cell_set_ne (w : World) (b i j : Nat) (v : Value) (h : j ≠ i) : (w.setCell ⟨b, i, none⟩ v).drew.cell? ⟨b, j, none⟩ = w.cell? ⟨b, j, none⟩ :=
  World.cell?_setCell_other w _ _ _ (fun e => h (by injection e with _ e2; exact e2.symm))

/-- A new array. -/
theorem wpList_new {ops : Array Oper} {rest : List Oper} {o : Oper} {a : Act} {w : World} {Q : Exit → Act → World → Prop} (hgd : o.guard = none) (ty : TypeId) (ho : o.op = .alloc ty)
    (l : List (BitVec 32)) (n : Nat) (hz : (P.info? ty).map (fun i => (i.zero, i.size)) = some (some (.agg (cw l).toArray), n))
    (h : ∀ w1, Row w1 w.heap.size ty l → w1.heap.size = w.heap.size + 1 → Below w.heap.size w w1 → wpList P ops Q rest (a.put o.dst (.pointer (some ⟨w.heap.size, 0, none⟩))) w1) :
    wpList P ops Q (o :: rest) a w :=
  wpList_plain hgd fun _ hK => by
    have hr : (Instr.alloc ty true (.tuple #[])).run P w = .ok (.pointer (some ⟨w.heap.size, 0, none⟩)) (w.alloc (.cells (cw l).toArray ty)) := by
      simp [Instr.alloc, (zero_of_info hz).1 w, go_sem, Value.cells]
    unfold Oper.wp execOp
    simp only [ho, Sem.run_bind, hr, Result.andThen_ok]
    exact hK _ _ (h _ (heap_alloc_new _ _) (by simp) ((Below.refl _ _).alloc (Nat.le_refl _) _))

/-- An array that came in, in a block of its own. -/
theorem wpList_boxed {ops : Array Oper} {rest : List Oper} {o : Oper} {a : Act} {w : World} {Q : Exit → Act → World → Prop} (hgd : o.guard = none) (ty : TypeId) (x : Operand) (ho : o.op = .box ty x)
    (l : List (BitVec 32)) (hx : a.eval x = .agg (cw l).toArray)
    (h : ∀ w1, Row w1 w.heap.size ty l → w1.heap.size = w.heap.size + 1 → Below w.heap.size w w1 → wpList P ops Q rest (a.put o.dst (.pointer (some ⟨w.heap.size, 0, none⟩))) w1) :
    wpList P ops Q (o :: rest) a w :=
  wpList_plain hgd fun _ hK => by
    have hr : (Instr.box ty (.agg (cw l).toArray)).run P w = .ok (.pointer (some ⟨w.heap.size, 0, none⟩)) (w.alloc (.cells (cw l).toArray ty)) := by
      simp [Instr.box, go_sem, Value.cells]
    unfold Oper.wp execOp
    simp only [ho, hx, Sem.run_bind, hr, Result.andThen_ok]
    exact hK _ _ (h _ (heap_alloc_new _ _) (by simp) ((Below.refl _ _).alloc (Nat.le_refl _) _))

/-- An array is stored whole. -/
theorem wpList_put {ops : Array Oper} {rest : List Oper} {o : Oper} {a : Act} {w : World} {Q : Exit → Act → World → Prop} (hgd : o.guard = none) (ty : TypeId) (x y : Operand) (ho : o.op = .store ty x y)
    (g : Nat) (l old : List (BitVec 32)) (hx : a.eval x = .pointer (some ⟨g, 0, none⟩)) (hy : a.eval y = .agg (cw l).toArray)
    (t : TypeId) (hg : Row w g t old) (hi : (P.info? ty).map (·.size) = some l.length) (hold : old.length = l.length)
    (h : ∀ w1, Row w1 g t l → w1.heap.size = w.heap.size → But g w w1 → wpList P ops Q rest (a.put o.dst undef) w1) : wpList P ops Q (o :: rest) a w :=
  wpList_store_row hgd ty x y ho g _ hx hy t _ hg (by rw [hi, cw_size]) (by rw [cw_size, cw_size, hold]) (cw_one l)
    (h _ (setRow_heap w g _ _ t (0, 0) hg) (by simp) ⟨rfl, rfl, rfl, by simp, fun k _ hk => setRow_other w g k _ hk⟩)

/-- An array is read whole. -/
theorem wpList_get {ops : Array Oper} {rest : List Oper} {o : Oper} {a : Act} {w : World} {Q : Exit → Act → World → Prop} (hgd : o.guard = none) (ty : TypeId) (x : Operand) (ho : o.op = .load ty x)
    (g : Nat) (l : List (BitVec 32)) (hx : a.eval x = .pointer (some ⟨g, 0, none⟩)) (t : TypeId) (n : Nat) (e : TypeId) (hg : Row w g t l)
    (hu : P.underlying ty = some (.array n e)) (hi : (P.info? ty).map (·.size) = some l.length)
    (h : wpList P ops Q rest (a.put o.dst (.agg (cw l).toArray)) w) : wpList P ops Q (o :: rest) a w :=
  wpList_load_row hgd ty x ho g hx t _ (0, 0) _ hg hu rfl (by rw [hi, cw_size]) h

end Go.Proofs.Ythdnldbkpllciaa

/-
  The tables of the program: the calls that make them.
-/
namespace Go.Proofs.Ythdnldbkpllciaa
open Go.RowKit


/-- The first words. -/
def H0 : List (BitVec 32) := [1779033703, 3144134277, 1013904242, 2773480762, 1359893119, 2600822924, 528734635, 1541459225]
/-- The rounds' constants. -/
def KK : List (BitVec 32) := [1116352408, 1899447441, 3049323471, 3921009573, 961987163, 1508970993, 2453635748, 2870763221, 3624381080, 310598401, 607225278, 1426881987, 1925078388, 2162078206, 2614888103, 3248222580, 3835390401, 4022224774, 264347078, 604807628, 770255983, 1249150122, 1555081692, 1996064986, 2554220882, 2821834349, 2952996808, 3210313671, 3336571891, 3584528711, 113926993, 338241895, 666307205, 773529912, 1294757372, 1396182291, 1695183700, 1986661051, 2177026350, 2456956037, 2730485921, 2820302411, 3259730800, 3345764771, 3516065817, 3600352804, 4094571909, 275423344, 430227734, 506948616, 659060556, 883997877, 958139571, 1322822218, 1537002063, 1747873779, 1955562222, 2024104815, 2227730452, 2361852424, 2428436474, 2756734187, 3204031479, 3329325298]

/-- Nothing but zeros. -/
def zeros (n : Nat) : List (BitVec 32) := List.replicate n 0
theorem Try.info108 : (Try.prog.info? 108).map (fun i => (i.zero, i.size)) = some (some (.agg (cw (zeros 64)).toArray), 64) := by kernel_rfl
theorem Try.info85 : (Try.prog.info? 85).map (fun i => (i.zero, i.size)) = some (some (.agg (cw (zeros 8)).toArray), 8) := by kernel_rfl
theorem Try.size108 : (Try.prog.info? 108).map (·.size) = some 64 := (zero_of_info Try.info108).2
theorem Try.size85 : (Try.prog.info? 85).map (·.size) = some 8 := (zero_of_info Try.info85).2
theorem zeros_length (n : Nat) : (zeros n).length = n := by simp [zeros]
theorem KK_length : KK.length = 64 := by decide
theorem H0_length : H0.length = 8 := by decide

theorem wpList_table {ops : Array Oper} {rest : List Oper} {o : Oper} {a : Act} {w : World} {Q : Exit → Act → World → Prop} (hgd : o.guard = none) (t : TypeId) (parts : Array (Nat × Operand)) (ho : o.op = .build t parts)
    (l : List (BitVec 32)) (hf : Try.prog.built t (parts.map fun (i, x) => (i, a.eval x)).toList = some (cw l).toArray)
    (h : wpList Try.prog ops Q rest (a.put o.dst (.agg (cw l).toArray)) w) : wpList Try.prog ops Q (o :: rest) a w :=
  wpList_build hgd t parts ho (by rw [hf]; rfl) (by rw [hf]; exact h)

end Go.Proofs.Ythdnldbkpllciaa

/-
  What the chapter says of digests, as plain functions over lists of bytes and words of 32 bits.
-/
namespace Go.Proofs.Ythdnldbkpllciaa
open Go.RowKit

def byteAt (l : List UInt8) (k : Nat) : BitVec 32 := BitVec.ofNat 32 (l.getD k 0).toNat
/-- The i-th word of some bytes. -/
def wordAt (l : List UInt8) (i : Nat) : BitVec 32 :=
  byteAt l (4 * i) <<< 24 ||| byteAt l (4 * i + 1) <<< 16 ||| byteAt l (4 * i + 2) <<< 8 ||| byteAt l (4 * i + 3)
/-- The next word behind l. -/
def nextW (l : List (BitVec 32)) : BitVec 32 :=
  l.getD (l.length - 16) 0 + ssig0 (l.getD (l.length - 15) 0) + l.getD (l.length - 7) 0 + ssig1 (l.getD (l.length - 2) 0)
/-- The first k words of a block's rounds. -/
def sch (s : List UInt8) : Nat → List (BitVec 32)
  | 0 => []
  | k + 1 => sch s k ++ [if k < 16 then wordAt s k else nextW (sch s k)]
theorem sch_length (s : List UInt8) (k : Nat) : (sch s k).length = k := by
  induction k with
  | zero => rfl
  | succ k ih => simp [sch, ih]
/-- What the array holds when k words are made. -/
def half (s : List UInt8) (k : Nat) : List (BitVec 32) := sch s k ++ zeros (64 - k)
theorem half_length (s : List UInt8) (k : Nat) (h : k ≤ 64) : (half s k).length = 64 := by simp [half, sch_length, zeros_length]; omega
theorem half_zero (s : List UInt8) : half s 0 = zeros 64 := rfl
theorem half_full (s : List UInt8) : half s 64 = sch s 64 := by simp [half, zeros]
theorem half_get (s : List UInt8) (k j : Nat) (h : j < k) : (half s k)[j]? = some ((sch s k).getD j 0) := by
  simp [half, List.getElem?_append, sch_length, h, List.getD_eq_getElem?_getD]
theorem half_set (s : List UInt8) (k : Nat) (h : k < 64) (x : BitVec 32) (hx : x = if k < 16 then wordAt s k else nextW (sch s k)) : (half s k).set k x = half s (k + 1) := by
  have e : zeros (64 - k) = 0 :: zeros (64 - (k + 1)) := by
    simp only [zeros]; rw [show 64 - k = (64 - (k + 1)) + 1 by omega, List.replicate_succ]
  subst hx
  simp [half, sch, e, sch_length]

theorem bv_byte (b : Nat) : ((b : Int) % 4294967296) = ((BitVec.ofNat 32 b).toNat : Int) := by
  rw [BitVec.toNat_ofNat]; omega
theorem bv_byte_shl (b n : Nat) (m : Int) (hm : m = 2 ^ n) : ((b : Int) % 4294967296 * m % 4294967296) = (((BitVec.ofNat 32 b) <<< n).toNat : Int) := by
  rw [bv_byte, hm, bv_shl']
theorem word_row (s : ByteArray) (k : Nat) (h0 : 4 * k < s.size) (h1 : 4 * k + 1 < s.size) (h2 : 4 * k + 2 < s.size) (h3 : 4 * k + 3 < s.size) :
    bits BinOp.or IntKind.u32 (bits BinOp.or IntKind.u32 (bits BinOp.or IntKind.u32 ((s[4 * k].toNat : Int) % 4294967296 * 16777216 % 4294967296)
      ((s[4 * k + 1].toNat : Int) % 4294967296 * 65536 % 4294967296)) ((s[4 * k + 2].toNat : Int) % 4294967296 * 256 % 4294967296)) ((s[4 * k + 3].toNat : Int) % 4294967296)
    = ((wordAt s.data.toList k).toNat : Int) := by
  rw [bv_byte_shl _ 24 _ (by rfl), bv_byte_shl _ 16 _ (by rfl), bv_byte_shl _ 8 _ (by rfl), bv_byte, bv_or, bv_or, bv_or, byte_get s _ h0, byte_get s _ h1, byte_get s _ h2, byte_get s _ h3]
  rfl

theorem step_row {w wr : World} {g g0 k N B : Nat} {n : Int} {x : BitVec 32} {l z : List (BitVec 32)} (hn : n = (x.toNat : Int)) (hrow : Row wr g 108 l) (hres : Row wr g0 108 z) (hne : g0 ≠ g)
    (hsz : wr.heap.size = N) (hbl : Below B w wr) (hg : B ≤ g) :
    Row (wr.setCell ⟨g, k, none⟩ (.int .u32 n)).drew g 108 (l.set k x) ∧ Row (wr.setCell ⟨g, k, none⟩ (.int .u32 n)).drew g0 108 z ∧ (wr.setCell ⟨g, k, none⟩ (.int .u32 n)).drew.heap.size = N
      ∧ Below B w (wr.setCell ⟨g, k, none⟩ (.int .u32 n)).drew := by
  subst hn
  refine ⟨(hrow.set k x).drew, (hres.but (But.setCell wr g k _) hne).drew, ?_, (hbl.setCell hg _).drew⟩
  rw [← hsz]; simp [World.setCell]

end Go.Proofs.Ythdnldbkpllciaa
