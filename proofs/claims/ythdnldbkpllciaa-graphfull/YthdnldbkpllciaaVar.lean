/-
  Swaps as values and in variables.
-/
import Derived.Test.YthdnldbkpllciaaZ26
namespace Go.Proofs.Ythdnldbkpllciaa
open Go.RowKit

/-- Seven cells. -/
def Seven (cs : Array Value) : Prop := cs.size = 7 ∧ ∀ u ∈ cs.toList, u.oneCell' = true
/-- A variable of this value. -/
def SvAt (w : World) (g : Nat) (cs : Array Value) : Prop := w.heap[g]? = some (.cells cs 27 (0, 0))
theorem SvAt.below {w w' : World} {g : Nat} {cs : Array Value} (h : SvAt w g cs) (hb : Below w.heap.size w w') : SvAt w' g cs := by
  unfold SvAt at *
  rw [hb.block g (Array.getElem?_eq_some_iff.1 h).1]; exact h
theorem SvAt.but {w w' : World} {g k : Nat} {cs : Array Value} (h : SvAt w g cs) (hb : But k w w') (hg : g ≠ k) : SvAt w' g cs := by
  unfold SvAt at *
  rw [hb.block g (Array.getElem?_eq_some_iff.1 h).1 hg]; exact h
theorem SvAt.lt {w : World} {g : Nat} {cs : Array Value} (h : SvAt w g cs) : g < w.heap.size := (Array.getElem?_eq_some_iff.1 h).1
theorem SpecW.seven {w : World} {v : Value} {s : SpecM} (h : SpecW w v s) : ∃ cs, v = .agg cs ∧ Seven cs := by
  obtain ⟨a1, a2, a3, a4, c1, c2, c3, c4, rfl, _⟩ := h
  refine ⟨_, rfl, rfl, fun u hu => ?_⟩
  simp [cells7] at hu
  rcases hu with rfl | rfl | rfl | rfl | rfl | rfl | rfl <;> rfl
theorem seven_list {cs : Array Value} (h : Seven cs) : ∃ l : List Value, l.length = 7 ∧ cs = l.toArray := ⟨cs.toList, by simp [h.1], by simp⟩

/-- 'var x Spec = v'. -/
theorem wpList_varS {ops : Array Oper} {rest : List Oper} {o1 o2 : Oper} {a : Act} {w : World} {Q : Exit → Act → World → Prop} (hg1 : o1.guard = none) (hg2 : o2.guard = none) (ho1 : o1.op = .alloc 27) (x y : Operand) (ho2 : o2.op = .store 27 x y)
    (cs : Array Value) (hx : (a.put o1.dst (.pointer (some ⟨w.heap.size, 0, none⟩))).eval x = .pointer (some ⟨w.heap.size, 0, none⟩)) (hy : (a.put o1.dst (.pointer (some ⟨w.heap.size, 0, none⟩))).eval y = .agg cs) (h7 : Seven cs)
    (h : ∀ w1, SvAt w1 w.heap.size cs → w1.heap.size = w.heap.size + 1 → Below w.heap.size w w1 → wpList Try.prog ops Q rest ((a.put o1.dst (.pointer (some ⟨w.heap.size, 0, none⟩))).put o2.dst undef) w1) :
    wpList Try.prog ops Q (o1 :: o2 :: rest) a w :=
  wpList_plain hg1 fun _ hK => by
    have hr : (Instr.alloc 27 true (.tuple #[])).run Try.prog w = .ok (.pointer (some ⟨w.heap.size, 0, none⟩)) (w.alloc (.cells #[Value.string ⟨#[]⟩, Value.slice none 0 0, Value.slice none 0 0, Value.slice none 0 0, Value.slice none 0 0, Value.int IntKind.i64 0, Value.int IntKind.i64 0] 27)) := by
      have hz : (Try.prog.info? 27).map (fun i => (i.zero, i.size)) = some (some (.agg #[Value.string ⟨#[]⟩, Value.slice none 0 0, Value.slice none 0 0, Value.slice none 0 0, Value.slice none 0 0, Value.int IntKind.i64 0, Value.int IntKind.i64 0]), 7) := by kernel_rfl
      simp [Instr.alloc, (zero_of_info hz).1 w, go_sem, Value.cells]
    unfold Oper.wp execOp
    simp only [ho1, Sem.run_bind, hr, Result.andThen_ok]
    refine hK _ _ ?_
    refine wpList_splice hg2 27 x y ho2 w.heap.size 0 cs _ hx hy rfl 27 [.string ⟨#[]⟩, .slice none 0 0, .slice none 0 0, .slice none 0 0, .slice none 0 0, .int .i64 0, .int .i64 0] (heap_alloc_new _ _) (by rw [h7.1]; exact sizeSpecK) (by rw [h7.1]; simp) h7.2 ?_
    intro w1 hc hz hb
    refine h w1 ?_ (by rw [hz]; simp) ?_
    · unfold Cells at hc
      unfold SvAt
      rw [hc, h7.1]; simp
    · have hal : Below w.heap.size w (w.alloc (.cells #[Value.string ⟨#[]⟩, Value.slice none 0 0, Value.slice none 0 0, Value.slice none 0 0, Value.slice none 0 0, Value.int IntKind.i64 0, Value.int IntKind.i64 0] 27)) := (Below.refl _ _).alloc (Nat.le_refl _) _
      exact hal.trans (hb.below (Nat.le_refl _) hal.size)
/-- A swap is read of a variable. -/
theorem wpList_loadV {ops : Array Oper} {rest : List Oper} {o : Oper} {a : Act} {w : World} {Q : Exit → Act → World → Prop} (hw : Region.wanted o (yielded ops a.tmps) = true) (x : Operand) (ho : o.op = .load 27 x)
    (g : Nat) (cs : Array Value) (hx : a.eval x = .pointer (some ⟨g, 0, none⟩)) (hg : SvAt w g cs) (h7 : Seven cs)
    (h : wpList Try.prog ops Q rest (a.put o.dst (.agg cs)) w) : wpList Try.prog ops Q (o :: rest) a w :=
  wpList_step fun K hK => by
    rw [if_pos hw]
    unfold Oper.wp execOp
    simp only [ho, hx, Instr.loadAt, Instr.sureAddr, Sem.run_bind, Sem.run_pure, Result.andThen_ok, run_loadVar_row w g 27 27 cs (0, 0) (.struct _) hg Try.underlying27 rfl (by rw [h7.1]; exact sizeSpecK)]
    exact hK _ _ h
/-- A swap is written into a variable. -/
theorem wpList_storeV {ops : Array Oper} {rest : List Oper} {o : Oper} {a : Act} {w : World} {Q : Exit → Act → World → Prop} (hgd : o.guard = none) (x y : Operand) (ho : o.op = .store 27 x y)
    (g : Nat) (cs old : Array Value) (hx : a.eval x = .pointer (some ⟨g, 0, none⟩)) (hy : a.eval y = .agg cs) (hg : SvAt w g old) (h7 : Seven cs) (h7' : Seven old)
    (h : ∀ w1, SvAt w1 g cs → w1.heap.size = w.heap.size → But g w w1 → wpList Try.prog ops Q rest (a.put o.dst undef) w1) : wpList Try.prog ops Q (o :: rest) a w := by
  refine wpList_splice hgd 27 x y ho g 0 cs _ hx hy rfl 27 old.toList (by unfold Cells; rw [Array.toArray_toList]; exact hg) (by rw [h7.1]; exact sizeSpecK) (by rw [h7.1, Array.length_toList, h7'.1]; omega) h7.2 ?_
  intro w1 hc hz hb
  refine h w1 ?_ hz hb
  unfold Cells at hc
  unfold SvAt
  rw [hc]
  congr 2
  rw [h7.1, List.drop_of_length_le (by rw [Array.length_toList, h7'.1]; omega)]
  simp

end Go.Proofs.Ythdnldbkpllciaa
