/-
  slices.Grow of nothing, slices.Concat of two: at numbers and texts.
-/
import Derived.Test.YthdnldbkpllciaaZ14
import Derived.Test.YthdnldbkpllciaaZ17
import Derived.Lib.AppendZeros
import Derived.Laws.AppendOwnNone
import Derived.Handy
namespace Go.Proofs.Ythdnldbkpllciaa
open Go.RowKit


theorem row_fresh {w : World} {e : TypeId} {size : Nat} (cs : Array Value) (n cap : Nat) (hs : cs.size = cap * size) (hm : cap ≤ maxLen) (hn : n ≤ cap) : (w.alloc (.cells cs e)).ownsRow w.heap.size e size (.slice (some ⟨w.heap.size, 0, none⟩) n cap) n (cs.toList.take (n * size)) := by
  refine ⟨?_, .inr ⟨w.heap.size, cap, cs, rfl, Nat.le_refl _, heap_alloc_new _ _, hn, hm, hs, rfl⟩⟩
  rw [List.length_take, Array.length_toList, hs]
  exact Nat.min_eq_left (Nat.mul_le_mul_right _ hn)
theorem Ints.cellsC {w : World} {b o n : Nat} {l : List Int} (h : Ints w (some ⟨b, o, none⟩) n l) : ∀ j u, (l.map (Value.int .i64))[j]? = some u → w.cell? ((⟨b, o, none⟩ : Addr).add j) = some u := by
  intro j u hu
  have hj : j < l.length := by have := (List.getElem?_eq_some_iff.1 hu).1; rw [List.length_map] at this; exact this
  rw [Go.WideShapes.add_plain, h.get j (by have := h.1; omega)]
  rw [List.getElem?_map, List.getElem?_eq_getElem hj] at hu
  rw [List.getD_eq_getElem?_getD, List.getElem?_eq_getElem hj]
  exact hu
theorem Strs.cellsC {w : World} {b o n : Nat} {l : List ByteArray} (h : Strs w (some ⟨b, o, none⟩) n l) : ∀ j u, (l.map Value.string)[j]? = some u → w.cell? ((⟨b, o, none⟩ : Addr).add j) = some u := by
  intro j u hu
  have hj : j < l.length := by have := (List.getElem?_eq_some_iff.1 hu).1; rw [List.length_map] at this; exact this
  rw [Go.WideShapes.add_plain, h.get j (by have := h.1; omega)]
  rw [List.getElem?_map, List.getElem?_eq_getElem hj] at hu
  rw [List.getD_eq_getElem?_getD, List.getElem?_eq_getElem hj]
  exact hu

end Go.Proofs.Ythdnldbkpllciaa
