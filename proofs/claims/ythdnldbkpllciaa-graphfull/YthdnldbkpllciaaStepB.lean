/-
  append of a row that lies in memory, in a region that draws its order.
-/
import Derived.Test.YthdnldbkpllciaaSpRows
import Derived.Test.YthdnldbkpllciaaHkCat
import Derived.Test.YthdnldbkpllciaaSpMk
namespace Go.Proofs.Ythdnldbkpllciaa
open Go.RowKit

theorem step_appR {st e : TypeId} {size bytes : Nat} {z : Value} (ht : Try.prog.underlying st = some (.slice e)) (hinfo : (Try.prog.info? e).map (fun i => (i.zero, i.size, i.bytes)) = some (some z, size, bytes)) (hzs : z.cells.size = size) (hsz : 0 < size) (hby : bytes ≤ 100)
    {ops : Array Oper} {o : Oper} {a : Act} {K : Act → World → Prop} {Q : Exit → Act → World → Prop} {E : Prop} (w : World) (hgd : o.guard = none) (s x : Operand)
    (ho : o.op = .call { callee := .builtin .append, args := #[s, x], argTypes := #[st, st] })
    (B : Nat) (v : Value) (n : Nat) (xs : List Value) (hs : a.eval s = v) (hown : w.ownsRow B e size v n xs) (ad : Addr) (m c : Nat) (news : List Value) (hx : a.eval x = .slice (some ad) m c)
    (hl : news.length = m * size) (hnews : ∀ j u, news[j]? = some u → w.cell? (ad.add j) = some u) (h1 : ∀ u ∈ news, u.oneCell' = true) (hn : n + m ≤ 1000000) (hB : B ≤ w.heap.size)
    (h : ∀ v' w', w'.ownsRow B e size v' (n + m) (xs ++ news) → w.grownBy w' v.ownBlock → K (a.put o.dst v') w') :
    if Region.wanted o (yielded ops a.tmps) = true then Oper.wp Try.prog o a w K Q else E := by
  obtain ⟨i0, hi, hz0, hz1, hz2⟩ := info_parts hinfo
  have hw : Region.wanted o (yielded ops a.tmps) = true := by simp [Region.wanted, hgd]
  rw [if_pos hw]
  exact wp_append_own _ s x st ho B e i0 z size bytes ht hi hz0 hz1 hz2 hzs hsz v n xs hs hown ad m c news hx hl hnews h1 (by unfold maxLen; omega) (by have : (n + m) * bytes ≤ (n + m) * 100 := Nat.mul_le_mul_left _ hby; omega) hB
    (fun v' w' h2 h3 _ => h v' w' h2 h3)
/-- A row's cells, whatever the addresses. -/
theorem Strs.news {w : World} {ad : Addr} {l : List ByteArray} (h : Strs w (some ad) l.length l) : (∀ j u, (l.map Value.string)[j]? = some u → w.cell? (ad.add j) = some u) ∧ (l.map Value.string).length = l.length * 1 ∧ ∀ u ∈ l.map Value.string, u.oneCell' = true := by
  refine ⟨fun j u hu => ?_, by rw [List.length_map, Nat.mul_one], fun u hu => ?_⟩
  · have hj : j < l.length := by have := (List.getElem?_eq_some_iff.1 hu).1; rw [List.length_map] at this; exact this
    obtain ⟨b, o, h', _⟩ := h.2.2.2 j hj
    injection h' with h'
    subst h'
    exact Strs.cellsC h j u hu
  · obtain ⟨x, _, rfl⟩ := List.mem_map.1 hu
    rfl
theorem Ints.news {w : World} {ad : Addr} {l : List Int} (h : Ints w (some ad) l.length l) : (∀ j u, (l.map (Value.int .i64))[j]? = some u → w.cell? (ad.add j) = some u) ∧ (l.map (Value.int .i64)).length = l.length * 1 ∧ ∀ u ∈ l.map (Value.int .i64), u.oneCell' = true := by
  refine ⟨fun j u hu => ?_, by rw [List.length_map, Nat.mul_one], fun u hu => ?_⟩
  · have hj : j < l.length := by have := (List.getElem?_eq_some_iff.1 hu).1; rw [List.length_map] at this; exact this
    obtain ⟨b, o, h', _⟩ := h.2.2.2 j hj
    injection h' with h'
    subst h'
    exact Ints.cellsC h j u hu
  · obtain ⟨x, _, rfl⟩ := List.mem_map.1 hu
    rfl
/-- A store into a row of cells. -/
theorem step_splice {ops : Array Oper} {o : Oper} {a : Act} {w : World} {K : Act → World → Prop} {Q : Exit → Act → World → Prop} {E : Prop} (hgd : o.guard = none) (ty : TypeId) (x y : Operand) (ho : o.op = .store ty x y)
    (g off : Nat) (vs : Array Value) (v : Value) (hx : a.eval x = .pointer (some ⟨g, off, none⟩)) (hy : a.eval y = v) (hv : v.cells = vs)
    (t : TypeId) (old : List Value) (hg : Cells w g t old) (hi : (Try.prog.info? ty).map (·.size) = some vs.size) (hold : off + vs.size ≤ old.length) (h1 : ∀ u ∈ vs.toList, u.oneCell' = true)
    (h : ∀ w1, Cells w1 g t (old.take off ++ vs.toList ++ old.drop (off + vs.size)) → w1.heap.size = w.heap.size → But g w w1 → K (a.put o.dst undef) w1) : if Region.wanted o (yielded ops a.tmps) = true then Oper.wp Try.prog o a w K Q else E := by
  have hw : Region.wanted o (yielded ops a.tmps) = true := by simp [Region.wanted, hgd]
  rw [if_pos hw]
  have hs := run_storeCells_at (P := Try.prog) g off t vs.toList 0 old.toArray w hg (by simp; omega) h1
  have hst : (storeVar ty ⟨g, off, none⟩ v).run Try.prog w = .ok () (w.setRow g (old.take off ++ vs.toList ++ old.drop (off + vs.size)).toArray) := by
    cases hq : Try.prog.info? ty with
    | none => simp [hq] at hi
    | some i =>
      have hsz : i.size = vs.size := by simpa [hq] using hi
      simp only [Nat.add_zero, Array.length_toList] at hs
      simp [storeVar, sizeOf, typeInfo, hq, hv, hsz, hs]
  unfold Oper.wp execOp
  simp only [ho, hx, hy, Instr.storeAt, Instr.sureAddr, Sem.run_bind, Sem.run_pure, Result.andThen_ok, hst]
  refine h _ ?_ (by simp) ⟨rfl, rfl, rfl, by simp, fun k _ hk => setRow_other w g k _ hk⟩
  have := setRow_heap w g _ (old.take off ++ vs.toList ++ old.drop (off + vs.size)).toArray t (0, 0) hg
  simpa [Cells] using this

end Go.Proofs.Ythdnldbkpllciaa
