/-
  Slices of bytes that begin as a text's bytes and are appended to.
-/
import Derived.Test.YthoimecljfcjmaaZ04
import Derived.ArgAppend
import Derived.Laws.IdiomCopy
namespace Go.Proofs.Ythoimecljfcjmaa
open Go.RowKit

/-- The slice v, in a block from B on, holds the bytes l; all its room may be written. -/
def Hold (w : World) (B : Nat) (v : Value) (l : List UInt8) : Prop := ∃ g cap, v = .slice (some ⟨g, 0, none⟩) l.length cap ∧ B ≤ g ∧ l.length ≤ cap ∧
  (∀ j u, (cb l)[j]? = some u → w.cell? ⟨g, j, none⟩ = some u) ∧ (∀ j, j < cap → (w.cell? ⟨g, j, none⟩).isSome = true ∧ w.frozen? ⟨g, j, none⟩ = false)

theorem below_setCells {B g : Nat} (hg : B ≤ g) : ∀ (vs : List Value) (o : Nat) (a w : World), Below B a w → Below B a (w.setCells g o vs)
  | [], _, _, _, h => h
  | v :: r, o, a, _, h => below_setCells hg r (o + 1) a _ (h.setCell (p := ⟨g, o, none⟩) hg v)
theorem isSome_setCells (w : World) (g o : Nat) (vs : List Value) (x : Addr) (h : (w.cell? x).isSome = true) : ((w.setCells g o vs).cell? x).isSome = true := by
  induction vs generalizing o w with
  | nil => exact h
  | cons v r ih =>
    refine ih _ _ ?_
    by_cases e : (⟨g, o, none⟩ : Addr) = x
    · subst e; rw [World.cell?_setCell_same' w _ v h]; rfl
    · rw [World.cell?_setCell_other w _ _ _ e]; exact h

theorem Hold.alloc {w : World} {B : Nat} {v : Value} {l : List UInt8} (h : Hold w B v l) (o : Obj) : Hold (w.alloc o) B v l := by
  obtain ⟨g, cap, hv, hB, hc, h1, h2⟩ := h
  refine ⟨g, cap, hv, hB, hc, fun j u hj => ?_, fun j hj => ?_⟩
  · have := h1 j u hj
    rw [World.cell?_alloc_lt _ _ _ (World.block_lt_of_cell? w _ this)]; exact this
  · obtain ⟨u, hu⟩ := Option.isSome_iff_exists.1 (h2 j hj).1
    have hb := World.block_lt_of_cell? w _ hu
    exact ⟨by rw [World.cell?_alloc_lt _ _ _ hb, hu]; rfl, by rw [World.frozen?_alloc_past _ _ _ hb]; exact (h2 j hj).2⟩

theorem Hold.of_own {w : World} {B : Nat} {v : Value} {l : List UInt8} (h : Own w B v l) (hne : l ≠ []) : Hold w B v l := by
  obtain ⟨h1, ⟨rfl, h0⟩ | ⟨g, cap, cur, rfl, hb, hg, hr1, hr2, hr3, hr4⟩⟩ := h
  · exact absurd (List.length_eq_zero_iff.1 h0) hne
  · refine ⟨g, cap, rfl, hb, hr1, fun j u hj => ?_, fun j hj => ⟨?_, frozen_of_row w g j cur 5 hg⟩⟩
    · rw [cell_of_row w g j cur 5 (0, 0) hg]
      have hj' : j < l.length := by have := (List.getElem?_eq_some_iff.1 hj).1; rwa [cb_length] at this
      rw [← hr4, List.getElem?_take, if_pos (by omega)] at hj
      simpa using hj
    · rw [cell_of_row w g j cur 5 (0, 0) hg, Array.getElem?_eq_getElem (by omega)]; rfl

/-- append of bytes that are written out. -/
theorem wpList_on {ops : Array Oper} {rest : List Oper} {o : Oper} {a : Act} (w : World) (arr : Array Value) {Q : Exit → Act → World → Prop} (hgd : o.guard = none) (s x : Operand)
    (ho : o.op = .call { callee := .builtin .append, args := #[s, x], argTypes := #[34, 34] })
    (B : Nat) (v : Value) (l : List UInt8) (hs : a.eval s = v) (hown : Hold w B v l) (news : List UInt8) (n : Nat) (hn : news.length = n) (hn0 : 0 < n) (hx : a.eval x = .slice (some ⟨w.heap.size, 0, none⟩) n n)
    (harr : arr = (cb news).toArray) (hlen : l.length + n ≤ 1099511627776) (hB : B ≤ w.heap.size)
    (h : ∀ v' w', Hold w' B v' (l ++ news) → Below B w w' → wpList Try.prog ops Q rest (a.put o.dst v') w') : wpList Try.prog ops Q (o :: rest) a (w.alloc (.cells arr 5)) := by
  obtain ⟨i0, hi, hz0, hz1, hz2⟩ := info_parts Try.info5
  subst hn
  have hB1 : Below B w (w.alloc (.cells arr 5)) := (Below.refl B w).alloc hB _
  have hold := hown.alloc (.cells arr 5)
  obtain ⟨g, cap, hv, hBg, hcap, h1, h2⟩ := hold
  refine wpList_append_arg _ hgd s x 34 ho 5 i0 (.int .u8 0) 1 1 Try.underlying34 hi hz0 hz1 hz2 rfl (by decide) g 0 l.length cap (cb l) (by rw [hs, hv]) (by rw [cb_length]; omega)
    (fun j u hj => by rw [Nat.zero_add]; exact h1 j u hj) ⟨w.heap.size, 0, none⟩ news.length _ (cb news) hx (by rw [cb_length]; omega)
    (fun j u hj => ?_) (cb_one news) (fun hr j hj => ?_) (by unfold maxLen; omega) (by omega) (fun hr => ?_) (fun _ v' w' hw' hg' => ?_)
  · rw [show (⟨w.heap.size, 0, none⟩ : Addr).add j = ⟨w.heap.size, j, none⟩ by unfold Addr.add; split <;> simp_all, harr, World.cell?_alloc_new]; simpa using hj
  · rw [cb_length] at hj
    simp only [Nat.zero_add, Nat.mul_one]
    exact h2 _ (by omega)
  · simp only [Nat.zero_add, Nat.mul_one]
    refine h _ _ ⟨g, cap, by rw [List.length_append], hBg, by rw [List.length_append]; omega, fun j u hj => ?_, fun j hj => ?_⟩ (below_setCells hBg _ _ _ _ hB1)
    · rw [cb_append, List.getElem?_append, cb_length] at hj
      by_cases hjl : j < l.length
      · rw [if_pos hjl] at hj
        rw [World.cell?_setCells_out _ _ _ _ _ (fun _ _ => .inl hjl)]
        exact h1 j u hj
      · rw [if_neg hjl] at hj
        have hj2 := (List.getElem?_eq_some_iff.1 hj).1
        have := World.cell?_setCells_in g (cb news) l.length (w.alloc (.cells arr 5)) (fun q hq => by rw [cb_length] at hq; exact (h2 _ (by omega)).1) (j - l.length) hj2
        rw [show l.length + (j - l.length) = j by omega] at this
        rw [this]
        exact hj ▸ (List.getElem?_eq_getElem hj2).symm
    · exact ⟨isSome_setCells _ _ _ _ _ (h2 j hj).1, by rw [World.frozen?_setCells]; exact (h2 j hj).2⟩
  · have hb2 : Below B w w' := hB1.trans ((Below.refl B _).grown hg' (by simp; omega) (fun k hk => by cases hk))
    have ho' : Own w' (w.alloc (.cells arr 5)).heap.size v' (l ++ news) := by unfold Own; rw [List.length_append, cb_append]; exact hw'
    have hne : l ++ news ≠ [] := fun e => by have := congrArg List.length e; rw [List.length_append, List.length_nil] at this; omega
    obtain ⟨g', cap', q1, q2, q3, q4, q5⟩ := Hold.of_own ho' hne
    exact h _ _ ⟨g', cap', q1, by simp at q2; omega, q3, q4, q5⟩ hb2

/-- []byte(s). -/
theorem wpList_bytes {ops : Array Oper} {rest : List Oper} {o : Oper} {a : Act} {w : World} {Q : Exit → Act → World → Prop} (hgd : o.guard = none) (x : Operand) (ho : o.op = .convert 9 34 x)
    (s : ByteArray) (hx : a.eval x = .string s)
    (h : ∀ v' w', Hold w' w.heap.size v' s.data.toList → Below w.heap.size w w' → wpList Try.prog ops Q rest (a.put o.dst v') w') : wpList Try.prog ops Q (o :: rest) a w :=
  wpList_plain hgd fun _ hK => by
    have hr := run_bytes_of_string (P := Try.prog) w 9 34 5 s Try.underlying9 Try.underlying34 Try.underlying5
    have hge := grownCap_ge w s.size 0 5
    generalize grownCap w s.size 0 5 = C at hr hge
    have hsz : (bytesRow s C).size = C := by
      unfold bytesRow
      have : s.data.size = s.size := rfl
      simp [this]; omega
    have hrow : (w.drew.alloc (.cells (bytesRow s C) 5 ((bytesRow s C).size, (bytesRow s C).size + 1))).heap[w.heap.size]? = some (.cells (bytesRow s C) 5 ((bytesRow s C).size, (bytesRow s C).size + 1)) := heap_alloc_new w.drew _
    unfold Oper.wp execOp
    simp only [ho, hx, Sem.run_bind, hr, Result.andThen_ok]
    refine hK _ _ (h _ _ ⟨w.heap.size, C, by simp, Nat.le_refl _, by simpa using hge, fun j u hj => ?_, fun j hj => ⟨?_, ?_⟩⟩ ((Below.refl _ w).drew.alloc (Nat.le_refl _) _))
    · rw [cell_of_row _ _ j _ 5 _ hrow]
      have hj' : j < s.size := by have := (List.getElem?_eq_some_iff.1 hj).1; rw [cb_length] at this; simpa using this
      have hj2 : j < s.data.size := hj'
      unfold bytesRow
      rw [Array.getElem?_append_left (by simpa using hj2)]
      simpa [cb] using hj
    · rw [cell_of_row _ _ j _ 5 _ hrow, Array.getElem?_eq_getElem (by omega)]; rfl
    · unfold World.frozen?
      rw [hrow]
      simp; omega

/-- string(b). -/
theorem wpList_told {ops : Array Oper} {rest : List Oper} {o : Oper} {a : Act} {w : World} {Q : Exit → Act → World → Prop} (hgd : o.guard = none) (x : Operand) (ho : o.op = .convert 34 9 x)
    (B : Nat) (v : Value) (l : List UInt8) (hx : a.eval x = v) (hown : Hold w B v l)
    (h : wpList Try.prog ops Q rest (a.put o.dst (.string ⟨l.toArray⟩)) w) : wpList Try.prog ops Q (o :: rest) a w :=
  wpList_plain hgd fun _ hK => by
    obtain ⟨g, cap, hv, _, _, h1, _⟩ := hown
    subst hv
    have hr := run_convert_bytes_back (P := Try.prog) w 34 9 5 ⟨g, 0, none⟩ cap l Try.underlying34 Try.underlying5 Try.underlying9 (fun j hj => by
      rw [show (⟨g, 0, none⟩ : Addr).add j = ⟨g, j, none⟩ by unfold Addr.add; split <;> simp_all]
      exact h1 j _ (by simp [cb, hj]))
    unfold Oper.wp execOp
    simp only [ho, hx, Sem.run_bind, hr, Result.andThen_ok]
    exact hK _ _ h

end Go.Proofs.Ythoimecljfcjmaa
