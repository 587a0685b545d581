/-
  What the small functions of package sha give, over words of 32 bits.
-/
import Derived.Test.YtccaaaifhiigcaaRows
import Derived.Test.YtccaaaifhiigcaaZ08
import Derived.Test.YtccaaaifhiigcaaZ00
import Derived.WalkSpells
import Derived.WalkLawsBesides
import Derived.Deep.WholeRow
import Derived.Laws.Tables
namespace Go.Proofs.Ytccaaaifhiigcaa
open Go.RowKit


set_option maxHeartbeats 400000 in
theorem rot_any (x : BitVec 32) (n : Nat) (h1 : 1 ≤ n) (h2 : n ≤ 31) (w : World) :
    Calls Try.prog 119 #[.int .u32 x.toNat, .int .i64 (-(n : Int))] w fun e w' => e = .returned (.int .u32 (rotr x n).toNat) ∧ w' = w := by
  have hb := neg_and n h1 h2
  go_enter Try.func119, Try.ntmps119
  go_wp2
  go_ret
  refine ⟨ret_int ?_, rfl⟩
  rw [bv_shl', bv_shr, bv_or, show 32 - (32 - n) = n from by omega, BitVec.or_comm]; rfl

set_option maxHeartbeats 400000 in
theorem right_any (x : BitVec 32) (n : Nat) (h1 : 1 ≤ n) (h2 : n ≤ 31) (w : World) :
    Calls Try.prog 117 #[.int .u32 x.toNat, .int .i64 n] w fun e w' => e = .returned (.int .u32 (rotr x n).toNat) ∧ w' = w := by
  go_enter Try.func117, Try.ntmps117
  go_wp2_with (go_at_call 119; refine (rot_any x n h1 h2 _).mono ?_; rintro e w' ⟨rfl, rfl⟩)
  go_ret
  exact ⟨rfl, rfl⟩

set_option maxHeartbeats 400000 in
theorem chs_any (x y z : BitVec 32) (w : World) :
    Calls Try.prog 110 #[.int .u32 x.toNat, .int .u32 y.toNat, .int .u32 z.toNat] w fun e w' => e = .returned (.int .u32 (chs x y z).toNat) ∧ w' = w := by
  have hs : IntKind.u32.signed = false := rfl
  have hm : IntKind.u32.max = 4294967295 := rfl
  go_enter Try.func110, Try.ntmps110
  go_wp2
  go_ret
  refine ⟨ret_int ?_, rfl⟩
  rw [bv_not, bv_and, bv_and, bv_xor]; rfl

set_option maxHeartbeats 400000 in
theorem maj_any (x y z : BitVec 32) (w : World) :
    Calls Try.prog 112 #[.int .u32 x.toNat, .int .u32 y.toNat, .int .u32 z.toNat] w fun e w' => e = .returned (.int .u32 (maj x y z).toNat) ∧ w' = w := by
  go_enter Try.func112, Try.ntmps112
  go_wp2
  go_ret
  refine ⟨ret_int ?_, rfl⟩
  rw [bv_and, bv_and, bv_and, bv_xor, bv_xor]; rfl

theorem right_at (x : BitVec 32) (m : Int) (h1 : 1 ≤ m) (h2 : m ≤ 31) (w : World) :
    Calls Try.prog 117 #[.int .u32 x.toNat, .int .i64 m] w fun e w' => e = .returned (.int .u32 (rotr x m.toNat).toNat) ∧ w' = w := by
  obtain ⟨n, rfl⟩ := Int.eq_ofNat_of_zero_le (show 0 ≤ m by omega)
  exact right_any x n (by omega) (by omega) w

set_option maxHeartbeats 400000 in
theorem bsig1_any (x : BitVec 32) (w : World) :
    Calls Try.prog 109 #[.int .u32 x.toNat] w fun e w' => e = .returned (.int .u32 (bsig1 x).toNat) ∧ w' = w := by
  go_enter Try.func109, Try.ntmps109
  go_wp2_with (go_at_call 117; refine (right_at x _ (by decide) (by decide) _).mono ?_; rintro e w' ⟨rfl, rfl⟩)
  go_ret
  refine ⟨ret_int ?_, rfl⟩
  rw [bv_xor, bv_xor]; rfl

set_option maxHeartbeats 400000 in
theorem bsig0_any (x : BitVec 32) (w : World) :
    Calls Try.prog 111 #[.int .u32 x.toNat] w fun e w' => e = .returned (.int .u32 (bsig0 x).toNat) ∧ w' = w := by
  go_enter Try.func111, Try.ntmps111
  go_wp2_with (go_at_call 117; refine (right_at x _ (by decide) (by decide) _).mono ?_; rintro e w' ⟨rfl, rfl⟩)
  go_ret
  refine ⟨ret_int ?_, rfl⟩
  rw [bv_xor, bv_xor]; rfl

set_option maxHeartbeats 400000 in
theorem ssig0_any (x : BitVec 32) (w : World) :
    Calls Try.prog 113 #[.int .u32 x.toNat] w fun e w' => e = .returned (.int .u32 (ssig0 x).toNat) ∧ w' = w := by
  go_enter Try.func113, Try.ntmps113
  go_wp2_with (go_at_call 117; refine (right_at x _ (by decide) (by decide) _).mono ?_; rintro e w' ⟨rfl, rfl⟩)
  go_ret
  refine ⟨ret_int ?_, rfl⟩
  rw [bv_xor, bv_shr3, bv_xor]; rfl

set_option maxHeartbeats 400000 in
theorem ssig1_any (x : BitVec 32) (w : World) :
    Calls Try.prog 114 #[.int .u32 x.toNat] w fun e w' => e = .returned (.int .u32 (ssig1 x).toNat) ∧ w' = w := by
  go_enter Try.func114, Try.ntmps114
  go_wp2_with (go_at_call 117; refine (right_at x _ (by decide) (by decide) _).mono ?_; rintro e w' ⟨rfl, rfl⟩)
  go_ret
  refine ⟨ret_int ?_, rfl⟩
  rw [bv_xor, bv_shr10, bv_xor]; rfl

end Go.Proofs.Ytccaaaifhiigcaa

/-
  Arrays of words that a call itself makes: a block that is known whole.
-/
namespace Go.Proofs.Ytccaaaifhiigcaa
open Go.RowKit
variable {P : Program}

/-- Words as the cells of an array. -/
def cw (l : List (BitVec 32)) : List Value := l.map fun x => Value.int .u32 (x.toNat : Int)
theorem cw_length (l : List (BitVec 32)) : (cw l).length = l.length := by simp [cw]
theorem cw_size (l : List (BitVec 32)) : (cw l).toArray.size = l.length := by simp [cw]
theorem cw_one (l : List (BitVec 32)) : (cw l).toArray.all (·.oneCell') = true :=
  Array.all_eq_true_iff_forall_mem.2 fun v hv => by
    simp [cw] at hv; obtain ⟨x, _, rfl⟩ := hv; rfl
theorem cw_get (l : List (BitVec 32)) (j : Nat) : (cw l).toArray[j]? = (l[j]?).map fun x => Value.int .u32 (x.toNat : Int) := by simp [cw]
theorem cw_set (l : List (BitVec 32)) (j : Nat) (x : BitVec 32) : (cw l).toArray.setIfInBounds j (.int .u32 (x.toNat : Int)) = (cw (l.set j x)).toArray := by
  simp [cw, List.map_set]

/-- The block g holds the words l, and no more. -/
def Row (w : World) (g : Nat) (t : TypeId) (l : List (BitVec 32)) : Prop := w.heap[g]? = some (.cells (cw l).toArray t (0, 0))

theorem Row.but {w w' : World} {g g' : Nat} {t : TypeId} {l : List (BitVec 32)} (h : Row w g t l) (k : But g' w w') (hg : g ≠ g') : Row w' g t l := by
  unfold Row at *
  rw [k.block g (Array.getElem?_eq_some_iff.1 h).1 hg]; exact h
theorem Row.lt {w : World} {g : Nat} {t : TypeId} {l : List (BitVec 32)} (h : Row w g t l) : g < w.heap.size := (Array.getElem?_eq_some_iff.1 h).1
theorem Row.below {w w' : World} {g : Nat} {t : TypeId} {l : List (BitVec 32)} (h : Row w g t l) (k : Below w.heap.size w w') : Row w' g t l := by
  have hl := h.lt
  unfold Row at *
  rw [k.block g hl]; exact h
theorem Row.drew {w : World} {g : Nat} {t : TypeId} {l : List (BitVec 32)} (h : Row w g t l) : Row w.drew g t l := h
theorem Row.drewN {w : World} {g : Nat} {t : TypeId} {l : List (BitVec 32)} (h : Row w g t l) (n : Nat) : Row (w.drewN n) g t l := h
theorem Row.cell {w : World} {g : Nat} {t : TypeId} {l : List (BitVec 32)} (h : Row w g t l) (j : Nat) (x : BitVec 32) (hj : l[j]? = some x) :
    w.cell? ⟨g, j, none⟩ = some (.int .u32 (x.toNat : Int)) := by
  rw [cell_of_row w g j _ t (0, 0) h, cw_get, hj]; rfl
theorem Row.frozen {w : World} {g : Nat} {t : TypeId} {l : List (BitVec 32)} (h : Row w g t l) (j : Nat) : w.frozen? ⟨g, j, none⟩ = false := frozen_of_row w g j _ t h
theorem Row.set {w : World} {g : Nat} {t : TypeId} {l : List (BitVec 32)} (h : Row w g t l) (j : Nat) (x : BitVec 32) :
    Row (w.setCell ⟨g, j, none⟩ (.int .u32 (x.toNat : Int))) g t (l.set j x) := by
  unfold Row at *
  rw [setCell_eq_setRow w g j _ t (0, 0) _ h, cw_set, setRow_heap w g _ _ t (0, 0) h]
theorem cell_set_ne (w : World) (b i j : Nat) (v : Value) (h : j ≠ i) : (w.setCell ⟨b, i, none⟩ v).drew.cell? ⟨b, j, none⟩ = w.cell? ⟨b, j, none⟩ :=
  World.cell?_setCell_other w _ _ _ (fun e => h (by injection e with _ e2; exact e2.symm))

/-- A new array. -/
theorem wpList_new {ops : Array Oper} {rest : List Oper} {o : Oper} {a : Act} {w : World} {Q : Exit → Act → World → Prop} (hgd : o.guard = none) (ty : TypeId) (ho : o.op = .alloc ty)
    (l : List (BitVec 32)) (n : Nat) (hz : (P.info? ty).map (fun i => (i.zero, i.size)) = some (some (.agg (cw l).toArray), n))
    (h : ∀ w1, Row w1 w.heap.size ty l → w1.heap.size = w.heap.size + 1 → Below w.heap.size w w1 → wpList P ops Q rest (a.put o.dst (.pointer (some ⟨w.heap.size, 0, none⟩))) w1) :
    wpList P ops Q (o :: rest) a w :=
  wpList_plain hgd fun _ hK => by
    have hr : (Instr.alloc ty true (.tuple #[])).run P w = .ok (.pointer (some ⟨w.heap.size, 0, none⟩)) (w.alloc (.cells (cw l).toArray ty)) := by
      simp [Instr.alloc, (zero_of_info hz).1 w, go_sem, Value.cells]
    unfold Oper.wp execOp
    simp only [ho, Sem.run_bind, hr, Result.andThen_ok]
    exact hK _ _ (h _ (heap_alloc_new _ _) (by simp) ((Below.refl _ _).alloc (Nat.le_refl _) _))

/-- An array that came in, in a block of its own. -/
theorem wpList_boxed {ops : Array Oper} {rest : List Oper} {o : Oper} {a : Act} {w : World} {Q : Exit → Act → World → Prop} (hgd : o.guard = none) (ty : TypeId) (x : Operand) (ho : o.op = .box ty x)
    (l : List (BitVec 32)) (hx : a.eval x = .agg (cw l).toArray)
    (h : ∀ w1, Row w1 w.heap.size ty l → w1.heap.size = w.heap.size + 1 → Below w.heap.size w w1 → wpList P ops Q rest (a.put o.dst (.pointer (some ⟨w.heap.size, 0, none⟩))) w1) :
    wpList P ops Q (o :: rest) a w :=
  wpList_plain hgd fun _ hK => by
    have hr : (Instr.box ty (.agg (cw l).toArray)).run P w = .ok (.pointer (some ⟨w.heap.size, 0, none⟩)) (w.alloc (.cells (cw l).toArray ty)) := by
      simp [Instr.box, go_sem, Value.cells]
    unfold Oper.wp execOp
    simp only [ho, hx, Sem.run_bind, hr, Result.andThen_ok]
    exact hK _ _ (h _ (heap_alloc_new _ _) (by simp) ((Below.refl _ _).alloc (Nat.le_refl _) _))

/-- An array is stored whole. -/
theorem wpList_put {ops : Array Oper} {rest : List Oper} {o : Oper} {a : Act} {w : World} {Q : Exit → Act → World → Prop} (hgd : o.guard = none) (ty : TypeId) (x y : Operand) (ho : o.op = .store ty x y)
    (g : Nat) (l old : List (BitVec 32)) (hx : a.eval x = .pointer (some ⟨g, 0, none⟩)) (hy : a.eval y = .agg (cw l).toArray)
    (t : TypeId) (hg : Row w g t old) (hi : (P.info? ty).map (·.size) = some l.length) (hold : old.length = l.length)
    (h : ∀ w1, Row w1 g t l → w1.heap.size = w.heap.size → But g w w1 → wpList P ops Q rest (a.put o.dst undef) w1) : wpList P ops Q (o :: rest) a w :=
  wpList_store_row hgd ty x y ho g _ hx hy t _ hg (by rw [hi, cw_size]) (by rw [cw_size, cw_size, hold]) (cw_one l)
    (h _ (setRow_heap w g _ _ t (0, 0) hg) (by simp) ⟨rfl, rfl, rfl, by simp, fun k _ hk => setRow_other w g k _ hk⟩)

/-- An array is read whole. -/
theorem wpList_get {ops : Array Oper} {rest : List Oper} {o : Oper} {a : Act} {w : World} {Q : Exit → Act → World → Prop} (hgd : o.guard = none) (ty : TypeId) (x : Operand) (ho : o.op = .load ty x)
    (g : Nat) (l : List (BitVec 32)) (hx : a.eval x = .pointer (some ⟨g, 0, none⟩)) (t : TypeId) (n : Nat) (e : TypeId) (hg : Row w g t l)
    (hu : P.underlying ty = some (.array n e)) (hi : (P.info? ty).map (·.size) = some l.length)
    (h : wpList P ops Q rest (a.put o.dst (.agg (cw l).toArray)) w) : wpList P ops Q (o :: rest) a w :=
  wpList_load_row hgd ty x ho g hx t _ (0, 0) _ hg hu rfl (by rw [hi, cw_size]) h

end Go.Proofs.Ytccaaaifhiigcaa

/-
  The tables of the program: the calls that make them.
-/
namespace Go.Proofs.Ytccaaaifhiigcaa
open Go.RowKit

/-- The first words. -/
def H0 : List (BitVec 32) := [1779033703, 3144134277, 1013904242, 2773480762, 1359893119, 2600822924, 528734635, 1541459225]
/-- The rounds' constants. -/
def KK : List (BitVec 32) := [1116352408, 1899447441, 3049323471, 3921009573, 961987163, 1508970993, 2453635748, 2870763221, 3624381080, 310598401, 607225278, 1426881987, 1925078388, 2162078206, 2614888103, 3248222580, 3835390401, 4022224774, 264347078, 604807628, 770255983, 1249150122, 1555081692, 1996064986, 2554220882, 2821834349, 2952996808, 3210313671, 3336571891, 3584528711, 113926993, 338241895, 666307205, 773529912, 1294757372, 1396182291, 1695183700, 1986661051, 2177026350, 2456956037, 2730485921, 2820302411, 3259730800, 3345764771, 3516065817, 3600352804, 4094571909, 275423344, 430227734, 506948616, 659060556, 883997877, 958139571, 1322822218, 1537002063, 1747873779, 1955562222, 2024104815, 2227730452, 2361852424, 2428436474, 2756734187, 3204031479, 3329325298]

set_option maxHeartbeats 400000 in
theorem first_any (w : World) :
    Calls Try.prog 58 #[] w fun e w' => e = .returned (.agg (cw H0).toArray) ∧ Below w.heap.size w w' := by
  go_enter Try.func58, Try.ntmps58
  go_wp2
  exact bodyPost_ret (v := .agg (cw H0).toArray) (by simp [results, Try.results58, go_sem]; rfl) rfl ⟨rfl, (Below.refl _ _).alloc (Nat.le_refl _) _⟩

/-- Nothing but zeros. -/
def zeros (n : Nat) : List (BitVec 32) := List.replicate n 0
theorem Try.info82 : (Try.prog.info? 82).map (fun i => (i.zero, i.size)) = some (some (.agg (cw (zeros 64)).toArray), 64) := by kernel_rfl
theorem Try.info80 : (Try.prog.info? 80).map (fun i => (i.zero, i.size)) = some (some (.agg (cw (zeros 8)).toArray), 8) := by kernel_rfl
theorem Try.size82 : (Try.prog.info? 82).map (·.size) = some 64 := (zero_of_info Try.info82).2
theorem Try.size80 : (Try.prog.info? 80).map (·.size) = some 8 := (zero_of_info Try.info80).2
theorem zeros_length (n : Nat) : (zeros n).length = n := by simp [zeros]
theorem KK_length : KK.length = 64 := by decide
theorem H0_length : H0.length = 8 := by decide

theorem wpList_table {ops : Array Oper} {rest : List Oper} {o : Oper} {a : Act} {w : World} {Q : Exit → Act → World → Prop} (hgd : o.guard = none) (t : TypeId) (parts : Array (Nat × Operand)) (ho : o.op = .build t parts)
    (l : List (BitVec 32)) (hf : Try.prog.built t (parts.map fun (i, x) => (i, a.eval x)).toList = some (cw l).toArray)
    (h : wpList Try.prog ops Q rest (a.put o.dst (.agg (cw l).toArray)) w) : wpList Try.prog ops Q (o :: rest) a w :=
  wpList_build hgd t parts ho (by rw [hf]; rfl) (by rw [hf]; exact h)

set_option maxRecDepth 10000 in
set_option maxHeartbeats 400000 in
theorem consts_any (w : World) :
    Calls Try.prog 59 #[] w fun e w' => e = .returned (.agg (cw KK).toArray) ∧ Below w.heap.size w w' := by
  go_enter Try.func59, Try.ntmps59
  go_wp2_with (first
    | (refine wpList_new (P := Try.prog) (by rfl) 82 (by rfl) (zeros 64) 64 Try.info82 ?_; intro w1 hr1 hs1 hb1)
    | (refine wpList_table (by rfl) 82 _ (by rfl) KK (by kernel_rfl) ?_)
    | (refine wpList_put (P := Try.prog) (by rfl) 82 (.tmp 0) (.tmp 1) (by rfl) w.heap.size KK (zeros 64) (by rfl) (by rfl) 82 hr1 (by rw [KK_length]; exact Try.size82) (by rw [KK_length, zeros_length]) ?_; intro w2 hr2 hs2 hb2))
  exact bodyPost_ret (v := .agg (cw KK).toArray) (results_cell_row (fn := Try.f59) Try.results59 _ _ w.heap.size 82 _ (0, 0) _ (by rfl) hr2 Try.underlying82 rfl (by rw [cw_size, KK_length]; exact Try.size82)) rfl
    ⟨rfl, hb1.trans (hb2.below (Nat.le_refl _) (by omega))⟩

end Go.Proofs.Ytccaaaifhiigcaa
