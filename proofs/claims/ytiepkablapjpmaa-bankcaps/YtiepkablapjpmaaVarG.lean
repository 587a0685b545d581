/-
  Variables of any struct type: made, read, written whole or a field; results that lie in them.
-/
import Derived.Test.YtiepkablapjpmaaSpMk
import Derived.Test.YtiepkablapjpmaaRegPair
namespace Go.Proofs.Ytiepkablapjpmaa
open Go.RowKit

/-- A variable of the type t at the block g. -/
def VAt (w : World) (t : TypeId) (g : Nat) (cs : Array Value) : Prop := w.heap[g]? = some (.cells cs t (0, 0))
theorem VAt.lt {w : World} {t : TypeId} {g : Nat} {cs : Array Value} (h : VAt w t g cs) : g < w.heap.size := (Array.getElem?_eq_some_iff.1 h).1
theorem VAt.below {B : Nat} {w w' : World} {t : TypeId} {g : Nat} {cs : Array Value} (h : VAt w t g cs) (hb : Below B w w') (hg : g < B) : VAt w' t g cs := by
  unfold VAt at *
  rw [hb.block g hg]; exact h
theorem VAt.on {w w' : World} {t : TypeId} {g : Nat} {cs : Array Value} (h : VAt w t g cs) (hb : Below w.heap.size w w') : VAt w' t g cs := h.below hb h.lt
theorem VAt.but {w w' : World} {t : TypeId} {g k : Nat} {cs : Array Value} (h : VAt w t g cs) (hb : But k w w') (hg : g ≠ k) : VAt w' t g cs := by
  unfold VAt at *
  rw [hb.block g (Array.getElem?_eq_some_iff.1 h).1 hg]; exact h
theorem VAt.cell {w : World} {t : TypeId} {g : Nat} {cs : Array Value} (h : VAt w t g cs) (i : Nat) : w.cell? ⟨g, i, none⟩ = cs[i]? := cell_of_row w g i cs t (0, 0) h

theorem wpList_allocG {ops : Array Oper} {rest : List Oper} {o : Oper} {a : Act} {w : World} {Q : Exit → Act → World → Prop} (hgd : o.guard = none) (ty : TypeId) (ho : o.op = .alloc ty) (n : Nat) (cs : Array Value)
    (hz : (Try.prog.info? ty).map (fun i => (i.zero, i.size)) = some (some (.agg cs), n))
    (h : ∀ w1, VAt w1 ty w.heap.size cs → w1.heap.size = w.heap.size + 1 → Below w.heap.size w w1 → wpList Try.prog ops Q rest (a.put o.dst (.pointer (some ⟨w.heap.size, 0, none⟩))) w1) : wpList Try.prog ops Q (o :: rest) a w :=
  wpList_plain hgd fun _ hK => by
    have hr : (Instr.alloc ty true (.tuple #[])).run Try.prog w = .ok (.pointer (some ⟨w.heap.size, 0, none⟩)) (w.alloc (.cells cs ty)) := by
      simp [Instr.alloc, (zero_of_info hz).1 w, go_sem, Value.cells]
    unfold Oper.wp execOp
    simp only [ho, Sem.run_bind, hr, Result.andThen_ok]
    exact hK _ _ (h _ (heap_alloc_new _ _) (by simp) ((Below.refl _ _).alloc (Nat.le_refl _) _))
theorem wpList_loadG {ops : Array Oper} {rest : List Oper} {o : Oper} {a : Act} {w : World} {Q : Exit → Act → World → Prop} (hw : Region.wanted o (yielded ops a.tmps) = true) (ty : TypeId) (x : Operand) (ho : o.op = .load ty x)
    (d : Array Field) (hu : Try.prog.underlying ty = some (.struct d)) (g : Nat) (cs : Array Value) (hx : a.eval x = .pointer (some ⟨g, 0, none⟩)) (hg : VAt w ty g cs) (hi : (Try.prog.info? ty).map (·.size) = some cs.size)
    (h : wpList Try.prog ops Q rest (a.put o.dst (.agg cs)) w) : wpList Try.prog ops Q (o :: rest) a w :=
  wpList_step fun K hK => by
    rw [if_pos hw]
    unfold Oper.wp execOp
    simp only [ho, hx, Instr.loadAt, Instr.sureAddr, Sem.run_bind, Sem.run_pure, Result.andThen_ok, run_loadVar_row w g ty ty cs (0, 0) (.struct d) hg hu rfl hi]
    exact hK _ _ h
theorem yields_loadG {ops : Array Oper} {o : Oper} {a : Act} {S : World → Prop} (hw : Region.wanted o (yielded ops a.tmps) = true) (ty : TypeId) (x : Operand) (ho : o.op = .load ty x)
    (d : Array Field) (hu : Try.prog.underlying ty = some (.struct d)) (g : Nat) (cs : Array Value) (hx : a.eval x = .pointer (some ⟨g, 0, none⟩)) (hi : (Try.prog.info? ty).map (·.size) = some cs.size) (hS : ∀ W, S W → VAt W ty g cs) : YieldsIf Try.prog ops S o (.agg cs) a :=
  .inl ⟨hw, fun W hW => by
    unfold execOp
    simp only [ho, hx, Instr.loadAt, Instr.sureAddr, Sem.run_bind, Sem.run_pure, Result.andThen_ok, run_loadVar_row W g ty ty cs (0, 0) (.struct d) (hS W hW) hu rfl hi]⟩
/-- A store at a place of a variable: of one cell, of several, of all. -/
theorem step_storeG {ops : Array Oper} {o : Oper} {a : Act} {w : World} {K : Act → World → Prop} {Q : Exit → Act → World → Prop} {E : Prop} (hw : Region.wanted o (yielded ops a.tmps) = true) (ty : TypeId) (x y : Operand) (ho : o.op = .store ty x y)
    (t : TypeId) (g off : Nat) (vs : Array Value) (v : Value) (old cs : Array Value) (hx : a.eval x = .pointer (some ⟨g, off, none⟩)) (hy : a.eval y = v) (hv : v.cells = vs)
    (hg : VAt w t g old) (hi : (Try.prog.info? ty).map (·.size) = some vs.size) (hold : off + vs.size ≤ old.size) (h1 : ∀ u ∈ vs.toList, u.oneCell' = true) (hcs : cs = (old.toList.take off ++ vs.toList ++ old.toList.drop (off + vs.size)).toArray)
    (h : ∀ w1, VAt w1 t g cs → w1.heap.size = w.heap.size → But g w w1 → K (a.put o.dst undef) w1) : if Region.wanted o (yielded ops a.tmps) = true then Oper.wp Try.prog o a w K Q else E := by
  rw [if_pos hw]
  have hs := run_storeCells_at (P := Try.prog) g off t vs.toList 0 old w hg (by simp; omega) h1
  have hst : (storeVar ty ⟨g, off, none⟩ v).run Try.prog w = .ok () (w.setRow g cs) := by
    cases hq : Try.prog.info? ty with
    | none => simp [hq] at hi
    | some i =>
      have hsz : i.size = vs.size := by simpa [hq] using hi
      simp only [Nat.add_zero, Array.length_toList] at hs
      rw [← hcs] at hs
      simp [storeVar, sizeOf, typeInfo, hq, hv, hsz, hs]
  unfold Oper.wp execOp
  simp only [ho, hx, hy, Instr.storeAt, Instr.sureAddr, Sem.run_bind, Sem.run_pure, Result.andThen_ok, hst]
  exact h _ (setRow_heap w g old cs _ (0, 0) hg) (by simp) ⟨rfl, rfl, rfl, by simp, fun k _ hk => setRow_other w g k _ hk⟩
theorem wpList_storeG {ops : Array Oper} {rest : List Oper} {o : Oper} {a : Act} {w : World} {Q : Exit → Act → World → Prop} (hgd : o.guard = none) (ty : TypeId) (x y : Operand) (ho : o.op = .store ty x y)
    (t : TypeId) (g off : Nat) (vs : Array Value) (v : Value) (old cs : Array Value) (hx : a.eval x = .pointer (some ⟨g, off, none⟩)) (hy : a.eval y = v) (hv : v.cells = vs)
    (hg : VAt w t g old) (hi : (Try.prog.info? ty).map (·.size) = some vs.size) (hold : off + vs.size ≤ old.size) (h1 : ∀ u ∈ vs.toList, u.oneCell' = true) (hcs : cs = (old.toList.take off ++ vs.toList ++ old.toList.drop (off + vs.size)).toArray)
    (h : ∀ w1, VAt w1 t g cs → w1.heap.size = w.heap.size → But g w w1 → wpList Try.prog ops Q rest (a.put o.dst undef) w1) : wpList Try.prog ops Q (o :: rest) a w :=
  wpList_step fun _ hK => step_storeG (by unfold Region.wanted; rw [hgd]) ty x y ho t g off vs v old cs hx hy hv hg hi hold h1 hcs (fun w1 h2 h3 h4 => hK _ _ (h w1 h2 h3 h4))
/-- The whole of it is written. -/
theorem wpList_wholeG {ops : Array Oper} {rest : List Oper} {o : Oper} {a : Act} {w : World} {Q : Exit → Act → World → Prop} (hgd : o.guard = none) (ty : TypeId) (x y : Operand) (ho : o.op = .store ty x y)
    (g : Nat) (old cs : Array Value) (hx : a.eval x = .pointer (some ⟨g, 0, none⟩)) (hy : a.eval y = .agg cs)
    (hg : VAt w ty g old) (hi : (Try.prog.info? ty).map (·.size) = some cs.size) (hold : cs.size = old.size) (h1 : ∀ u ∈ cs.toList, u.oneCell' = true)
    (h : ∀ w1, VAt w1 ty g cs → w1.heap.size = w.heap.size → But g w w1 → wpList Try.prog ops Q rest (a.put o.dst undef) w1) : wpList Try.prog ops Q (o :: rest) a w :=
  wpList_storeG hgd ty x y ho ty g 0 cs _ old cs hx hy rfl hg hi (by omega) h1 (by
    have hd : old.toList.drop (0 + cs.size) = [] := List.drop_eq_nil_of_le (by simp [hold])
    rw [hd, List.take_zero, List.nil_append, List.append_nil, Array.toArray_toList]) h
theorem results_cell {fn : Func} {p : Tmp} {ty : TypeId} (h : fn.results = #[.cell p ty]) (tmps : Array Value) (w : World) (g : Nat) (cs : Array Value) (d : Array Field)
    (hp : tmps.getD p undef = .pointer (some ⟨g, 0, none⟩)) (hg : VAt w ty g cs)
    (hu : Try.prog.underlying ty = some (.struct d)) (hi : (Try.prog.info? ty).map (·.size) = some cs.size) :
    (results fn tmps).run Try.prog w = .ok (.agg cs) w := by
  have hp' : tmps[p]?.getD undef = .pointer (some ⟨g, 0, none⟩) := by simpa using hp
  simp [results, h, hp', asAddr, run_loadVar_row w g ty ty cs (0, 0) (.struct d) hg hu rfl hi]
theorem results_cell_slot {fn : Func} {p q : Tmp} {ty : TypeId} (h : fn.results = #[.cell p ty, .tmp q]) (tmps : Array Value) (w : World) (g : Nat) (cs : Array Value) (d : Array Field) (x : Value)
    (hp : tmps.getD p undef = .pointer (some ⟨g, 0, none⟩)) (hq : tmps.getD q undef = x) (hg : VAt w ty g cs)
    (hu : Try.prog.underlying ty = some (.struct d)) (hi : (Try.prog.info? ty).map (·.size) = some cs.size) :
    (results fn tmps).run Try.prog w = .ok (.tuple #[.agg cs, x]) w := by
  have hp' : tmps[p]?.getD undef = .pointer (some ⟨g, 0, none⟩) := by simpa using hp
  have hq' : tmps[q]?.getD undef = x := by simpa using hq
  simp [results, h, hp', hq', asAddr, run_loadVar_row w g ty ty cs (0, 0) (.struct d) hg hu rfl hi]

end Go.Proofs.Ytiepkablapjpmaa
