/-
  Slices that a call makes at their full length and writes item by item.
-/
import Derived.Test.YthoimecljfcjmaaSpRows
import Derived.Laws.MakeOwn
import Derived.Laws.CopyRow
import Derived.Laws.Tables
namespace Go.Proofs.Ythoimecljfcjmaa
open Go.RowKit

/-- The block g holds these cells. -/
def Cells (w : World) (g : Nat) (t : TypeId) (l : List Value) : Prop := w.heap[g]? = some (.cells l.toArray t (0, 0))
theorem Cells.but {w w' : World} {g k : Nat} {t : TypeId} {l : List Value} (h : Cells w g t l) (b : But k w w') (hk : g ≠ k) : Cells w' g t l := by
  have hl := (Array.getElem?_eq_some_iff.1 h).1
  unfold Cells at *
  rw [b.block g hl hk]; exact h
theorem Cells.below {w w' : World} {g : Nat} {t : TypeId} {l : List Value} (h : Cells w g t l) (b : Below w.heap.size w w') : Cells w' g t l := by
  have hl := (Array.getElem?_eq_some_iff.1 h).1
  unfold Cells at *
  rw [b.block g hl]; exact h
theorem Cells.lt {w : World} {g : Nat} {t : TypeId} {l : List Value} (h : Cells w g t l) : g < w.heap.size := (Array.getElem?_eq_some_iff.1 h).1
theorem Cells.at {w : World} {g : Nat} {t : TypeId} {l : List Value} (h : Cells w g t l) (i : Nat) : w.cell? ⟨g, i, none⟩ = l[i]? := by
  rw [cell_of_row w g i _ t (0, 0) h]; simp

/-- make([]T, n). -/
theorem wpList_made {st e : TypeId} {size bytes : Nat} {z : Value} (ht : Try.prog.underlying st = some (.slice e)) (hinfo : (Try.prog.info? e).map (fun i => (i.zero, i.size, i.bytes)) = some (some z, size, bytes)) (hby : bytes ≤ 100)
    {ops : Array Oper} {rest : List Oper} {o : Oper} {a : Act} {w : World} {Q : Exit → Act → World → Prop} (hgd : o.guard = none) (x c : Operand) (ho : o.op = Op.makeSlice st x c)
    (n : Nat) (hx : a.eval x = .int .i64 (n : Int)) (hc : a.eval c = .int .i64 (n : Int)) (hn : n ≤ 100000)
    (h : ∀ w1 M, M.length = n * size → Cells w1 w.heap.size e M → w1.heap.size = w.heap.size + 1 → Below w.heap.size w w1 → wpList Try.prog ops Q rest (a.put o.dst (.slice (some ⟨w.heap.size, 0, none⟩) n n)) w1) : wpList Try.prog ops Q (o :: rest) a w :=
  wpList_plain hgd fun _ hK => by
    obtain ⟨i0, hi, hz0, hz1, hz2⟩ := info_parts hinfo
    have hnb : n * bytes ≤ n * 100 := Nat.mul_le_mul_left _ hby
    have hbb : (bytes : Int) * (n : Int) = ((n * bytes : Nat) : Int) := by rw [Nat.mul_comm]; simp
    have hr := run_make (P := Try.prog) w st e i0 z ht hi hz0 .i64 .i64 (n : Int) (n : Int) (by omega) (by omega) (by rw [hz2, hbb]; omega) (by omega)
    have hM : (madeCells z.cells (((n : Nat) : Int).toNat * i0.size)).size = n * size := by rw [size_madeCells, hz1]; simp
    unfold Oper.wp execOp
    simp only [ho, hx, hc, Sem.run_bind, hr, Result.andThen_ok]
    refine hK _ _ ?_
    have hh := heap_alloc_new w (.cells (madeCells z.cells (((n : Nat) : Int).toNat * i0.size)) e)
    have := h _ (madeCells z.cells (((n : Nat) : Int).toNat * i0.size)).toList (by rw [Array.length_toList, hM]) (by unfold Cells; rw [Array.toArray_toList]; exact hh) (by simp) ((Below.refl _ _).alloc (Nat.le_refl _) _)
    simpa using this

/-- A value of several cells is written into a row. -/
theorem wpList_splice {ops : Array Oper} {rest : List Oper} {o : Oper} {a : Act} {w : World} {Q : Exit → Act → World → Prop} (hgd : o.guard = none) (ty : TypeId) (x y : Operand) (ho : o.op = .store ty x y)
    (g off : Nat) (vs : Array Value) (v : Value) (hx : a.eval x = .pointer (some ⟨g, off, none⟩)) (hy : a.eval y = v) (hv : v.cells = vs)
    (t : TypeId) (old : List Value) (hg : Cells w g t old) (hi : (Try.prog.info? ty).map (·.size) = some vs.size) (hold : off + vs.size ≤ old.length) (h1 : ∀ u ∈ vs.toList, u.oneCell' = true)
    (h : ∀ w1, Cells w1 g t (old.take off ++ vs.toList ++ old.drop (off + vs.size)) → w1.heap.size = w.heap.size → But g w w1 → wpList Try.prog ops Q rest (a.put o.dst undef) w1) : wpList Try.prog ops Q (o :: rest) a w :=
  wpList_plain hgd fun _ hK => by
    have hs := run_storeCells_at (P := Try.prog) g off t vs.toList 0 old.toArray w hg (by simp; omega) h1
    have hst : (storeVar ty ⟨g, off, none⟩ v).run Try.prog w = .ok () (w.setRow g (old.take off ++ vs.toList ++ old.drop (off + vs.size)).toArray) := by
      cases hq : Try.prog.info? ty with
      | none => simp [hq] at hi
      | some i =>
        have hsz : i.size = vs.size := by simpa [hq] using hi
        simp only [Nat.add_zero, Array.length_toList] at hs
        simp [storeVar, sizeOf, typeInfo, hq, hv, hsz, hs]
    unfold Oper.wp execOp
    simp only [ho, hx, hy, Instr.storeAt, Instr.sureAddr, Sem.run_bind, Sem.run_pure, Result.andThen_ok, hst]
    refine hK _ _ (h _ ?_ (by simp) ⟨rfl, rfl, rfl, by simp, fun k _ hk => setRow_other w g k _ hk⟩)
    have := setRow_heap w g _ (old.take off ++ vs.toList ++ old.drop (off + vs.size)).toArray t (0, 0) hg
    simpa [Cells] using this

end Go.Proofs.Ythoimecljfcjmaa
