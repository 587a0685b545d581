/-
  What the small functions of package sha give, over words of 32 bits.
-/
import Derived.Test.YtidhcnecmelkbabRows
import Derived.Test.YtidhcnecmelkbabBits
import Derived.Test.YtidhcnecmelkbabBase
import Derived.WalkSpells
import Derived.WalkLawsBesides
import Derived.Deep.WholeRow
import Derived.Laws.Tables
namespace Go.Proofs.Ytidhcnecmelkbab
open Go.RowKit
end Go.Proofs.Ytidhcnecmelkbab

/-
  Arrays of words that a call itself makes: a block that is known whole.
-/
namespace Go.Proofs.Ytidhcnecmelkbab
open Go.RowKit
variable {P : Program}

/-- Words as the cells of an array. -/
def cw (l : List (BitVec 32)) : List Value := l.map fun x => Value.int .u32 (x.toNat : Int)
theorem cw_length (l : List (BitVec 32)) : (cw l).length = l.length := by simp [cw]
theorem cw_size (l : List (BitVec 32)) : (cw l).toArray.size = l.length := by simp [cw]
theorem cw_one (l : List (BitVec 32)) : (cw l).toArray.all (·.oneCell') = true :=
  Array.all_eq_true_iff_forall_mem.2 fun v hv => by
    simp [cw] at hv; obtain ⟨x, _, rfl⟩ := hv; rfl
theorem cw_get (l : List (BitVec 32)) (j : Nat) : (cw l).toArray[j]? = (l[j]?).map fun x => Value.int .u32 (x.toNat : Int) := by simp [cw]
theorem cw_set (l : List (BitVec 32)) (j : Nat) (x : BitVec 32) : (cw l).toArray.setIfInBounds j (.int .u32 (x.toNat : Int)) = (cw (l.set j x)).toArray := by
  simp [cw, List.map_set]

/-- The block g holds the words l, and no more. -/
def Row (w : World) (g : Nat) (t : TypeId) (l : List (BitVec 32)) : Prop := w.heap[g]? = some (.cells (cw l).toArray t (0, 0))

theorem Row.but {w w' : World} {g g' : Nat} {t : TypeId} {l : List (BitVec 32)} (h : Row w g t l) (k : But g' w w') (hg : g ≠ g') : Row w' g t l := by
  unfold Row at *
  rw [k.block g (Array.getElem?_eq_some_iff.1 h).1 hg]; exact h
theorem Row.lt {w : World} {g : Nat} {t : TypeId} {l : List (BitVec 32)} (h : Row w g t l) : g < w.heap.size := (Array.getElem?_eq_some_iff.1 h).1
theorem Row.below {w w' : World} {g : Nat} {t : TypeId} {l : List (BitVec 32)} (h : Row w g t l) (k : Below w.heap.size w w') : Row w' g t l := by
  have hl := h.lt
  unfold Row at *
  rw [k.block g hl]; exact h
theorem Row.drew {w : World} {g : Nat} {t : TypeId} {l : List (BitVec 32)} (h : Row w g t l) : Row w.drew g t l := h
theorem Row.drewN {w : World} {g : Nat} {t : TypeId} {l : List (BitVec 32)} (h : Row w g t l) (n : Nat) : Row (w.drewN n) g t l := h
theorem Row.cell {w : World} {g : Nat} {t : TypeId} {l : List (BitVec 32)} (h : Row w g t l) (j : Nat) (x : BitVec 32) (hj : l[j]? = some x) :
    w.cell? ⟨g, j, none⟩ = some (.int .u32 (x.toNat : Int)) := by
  rw [cell_of_row w g j _ t (0, 0) h, cw_get, hj]; rfl
theorem Row.frozen {w : World} {g : Nat} {t : TypeId} {l : List (BitVec 32)} (h : Row w g t l) (j : Nat) : w.frozen? ⟨g, j, none⟩ = false := frozen_of_row w g j _ t h
theorem Row.set {w : World} {g : Nat} {t : TypeId} {l : List (BitVec 32)} (h : Row w g t l) (j : Nat) (x : BitVec 32) :
    Row (w.setCell ⟨g, j, none⟩ (.int .u32 (x.toNat : Int))) g t (l.set j x) := by
  unfold Row at *
  rw [setCell_eq_setRow w g j _ t (0, 0) _ h, cw_set, setRow_heap w g _ _ t (0, 0) h]
theorem cell_set_ne (w : World) (b i j : Nat) (v : Value) (h : j ≠ i) : (w.setCell ⟨b, i, none⟩ v).drew.cell? ⟨b, j, none⟩ = w.cell? ⟨b, j, none⟩ :=
  World.cell?_setCell_other w _ _ _ (fun e => h (by injection e with _ e2; exact e2.symm))

/-- A new array. -/
theorem wpList_new {ops : Array Oper} {rest : List Oper} {o : Oper} {a : Act} {w : World} {Q : Exit → Act → World → Prop} (hgd : o.guard = none) (ty : TypeId) (ho : o.op = .alloc ty)
    (l : List (BitVec 32)) (n : Nat) (hz : (P.info? ty).map (fun i => (i.zero, i.size)) = some (some (.agg (cw l).toArray), n))
    (h : ∀ w1, Row w1 w.heap.size ty l → w1.heap.size = w.heap.size + 1 → Below w.heap.size w w1 → wpList P ops Q rest (a.put o.dst (.pointer (some ⟨w.heap.size, 0, none⟩))) w1) :
    wpList P ops Q (o :: rest) a w :=
  wpList_plain hgd fun _ hK => by
    have hr : (Instr.alloc ty true (.tuple #[])).run P w = .ok (.pointer (some ⟨w.heap.size, 0, none⟩)) (w.alloc (.cells (cw l).toArray ty)) := by
      simp [Instr.alloc, (zero_of_info hz).1 w, go_sem, Value.cells]
    unfold Oper.wp execOp
    simp only [ho, Sem.run_bind, hr, Result.andThen_ok]
    exact hK _ _ (h _ (heap_alloc_new _ _) (by simp) ((Below.refl _ _).alloc (Nat.le_refl _) _))

/-- An array that came in, in a block of its own. -/
theorem wpList_boxed {ops : Array Oper} {rest : List Oper} {o : Oper} {a : Act} {w : World} {Q : Exit → Act → World → Prop} (hgd : o.guard = none) (ty : TypeId) (x : Operand) (ho : o.op = .box ty x)
    (l : List (BitVec 32)) (hx : a.eval x = .agg (cw l).toArray)
    (h : ∀ w1, Row w1 w.heap.size ty l → w1.heap.size = w.heap.size + 1 → Below w.heap.size w w1 → wpList P ops Q rest (a.put o.dst (.pointer (some ⟨w.heap.size, 0, none⟩))) w1) :
    wpList P ops Q (o :: rest) a w :=
  wpList_plain hgd fun _ hK => by
    have hr : (Instr.box ty (.agg (cw l).toArray)).run P w = .ok (.pointer (some ⟨w.heap.size, 0, none⟩)) (w.alloc (.cells (cw l).toArray ty)) := by
      simp [Instr.box, go_sem, Value.cells]
    unfold Oper.wp execOp
    simp only [ho, hx, Sem.run_bind, hr, Result.andThen_ok]
    exact hK _ _ (h _ (heap_alloc_new _ _) (by simp) ((Below.refl _ _).alloc (Nat.le_refl _) _))

/-- An array is stored whole. -/
theorem wpList_put {ops : Array Oper} {rest : List Oper} {o : Oper} {a : Act} {w : World} {Q : Exit → Act → World → Prop} (hgd : o.guard = none) (ty : TypeId) (x y : Operand) (ho : o.op = .store ty x y)
    (g : Nat) (l old : List (BitVec 32)) (hx : a.eval x = .pointer (some ⟨g, 0, none⟩)) (hy : a.eval y = .agg (cw l).toArray)
    (t : TypeId) (hg : Row w g t old) (hi : (P.info? ty).map (·.size) = some l.length) (hold : old.length = l.length)
    (h : ∀ w1, Row w1 g t l → w1.heap.size = w.heap.size → But g w w1 → wpList P ops Q rest (a.put o.dst undef) w1) : wpList P ops Q (o :: rest) a w :=
  wpList_store_row hgd ty x y ho g _ hx hy t _ hg (by rw [hi, cw_size]) (by rw [cw_size, cw_size, hold]) (cw_one l)
    (h _ (setRow_heap w g _ _ t (0, 0) hg) (by simp) ⟨rfl, rfl, rfl, by simp, fun k _ hk => setRow_other w g k _ hk⟩)

/-- An array is read whole. -/
theorem wpList_get {ops : Array Oper} {rest : List Oper} {o : Oper} {a : Act} {w : World} {Q : Exit → Act → World → Prop} (hgd : o.guard = none) (ty : TypeId) (x : Operand) (ho : o.op = .load ty x)
    (g : Nat) (l : List (BitVec 32)) (hx : a.eval x = .pointer (some ⟨g, 0, none⟩)) (t : TypeId) (n : Nat) (e : TypeId) (hg : Row w g t l)
    (hu : P.underlying ty = some (.array n e)) (hi : (P.info? ty).map (·.size) = some l.length)
    (h : wpList P ops Q rest (a.put o.dst (.agg (cw l).toArray)) w) : wpList P ops Q (o :: rest) a w :=
  wpList_load_row hgd ty x ho g hx t _ (0, 0) _ hg hu rfl (by rw [hi, cw_size]) h

end Go.Proofs.Ytidhcnecmelkbab
