/-
  Slices of ints and of texts among the arguments: what a walk is told of them.
-/
import Derived.Test.YtiepkablapjpmaaBase
import Derived.OpenShut
namespace Go.Proofs.Ytiepkablapjpmaa
open Go.RowKit

/-- The slice at a, of n ints, holds l. -/
def Ints (w : World) (a : Option Addr) (n : Nat) (l : List Int) : Prop :=
  l.length = n ∧ n ≤ maxLen ∧ (∀ j, j < n → -9223372036854775808 ≤ l.getD j 0 ∧ l.getD j 0 ≤ 9223372036854775807) ∧ ∀ j, j < n → ∃ b o, a = some ⟨b, o, none⟩ ∧ w.cell? ⟨b, o + j, none⟩ = some (.int .i64 (l.getD j 0))
/-- The slice at a, of n texts, holds l. -/
def Strs (w : World) (a : Option Addr) (n : Nat) (l : List ByteArray) : Prop :=
  l.length = n ∧ n ≤ maxLen ∧ (∀ j, j < n → (l.getD j ByteArray.empty).size ≤ maxLen) ∧ ∀ j, j < n → ∃ b o, a = some ⟨b, o, none⟩ ∧ w.cell? ⟨b, o + j, none⟩ = some (.string (l.getD j ByteArray.empty))

theorem take_getD {α : Type} (l : List α) (n j : Nat) (d : α) (h : j < n) : (l.take n).getD j d = l.getD j d := by
  simp [List.getD_eq_getElem?_getD, h]
theorem getD_mem {α : Type} (l : List α) (j : Nat) (d : α) (h : j < l.length) : l.getD j d ∈ l := by
  rw [List.getD_eq_getElem?_getD, List.getElem?_eq_getElem h]; exact List.getElem_mem h
theorem ints_nil (w : World) : Ints w none 0 [] := ⟨rfl, by unfold maxLen; omega, fun j h => absurd h (by omega), fun j h => absurd h (by omega)⟩
theorem strs_nil (w : World) : Strs w none 0 [] := ⟨rfl, by unfold maxLen; omega, fun j h => absurd h (by omega), fun j h => absurd h (by omega)⟩
theorem ints_row {w : World} {x : Addr} {n c : Nat} {zs : List Int} (hl : n ≤ c) (hm : c ≤ maxLen) (hz : zs.length = c) (hc : ∀ i, i < zs.length → w.cell? (x.add i) = some (.int .i64 (zs.getD i 0))) (hw : ∀ v ∈ zs, (Lit.int .i64 v).wf = true) : Ints w (some x) n (zs.take n) := by
  refine ⟨by rw [List.length_take]; omega, by omega, fun j hj => ?_, fun j hj => ?_⟩
  · rw [take_getD _ _ _ _ hj]; exact wf_i64 (hw _ (getD_mem _ _ _ (by omega)))
  · obtain ⟨b, o, rfl, h⟩ := ints_at hc (by omega)
    exact ⟨b, o, rfl, by rw [take_getD _ _ _ _ hj]; exact h j (by omega)⟩
theorem strs_row {w : World} {x : Addr} {n c : Nat} {zs : List ByteArray} (hl : n ≤ c) (hm : c ≤ maxLen) (hz : zs.length = c) (hc : ∀ i, i < zs.length → w.cell? (x.add i) = some (.string (zs.getD i ByteArray.empty))) (hw : ∀ v ∈ zs, v.size ≤ maxLen) : Strs w (some x) n (zs.take n) := by
  refine ⟨by rw [List.length_take]; omega, by omega, fun j hj => ?_, fun j hj => ?_⟩
  · rw [take_getD _ _ _ _ hj]; exact hw _ (getD_mem _ _ _ (by omega))
  · obtain ⟨b, off, spot⟩ := x
    have h0 := hc j (by omega)
    have hspot : spot = none := by simpa [Addr.add] using World.cell?_spot (hc 0 (by omega))
    subst hspot
    exact ⟨b, off, rfl, by rw [take_getD _ _ _ _ hj, ← Go.WideShapes.add_plain]; exact h0⟩
theorem Ints.at {w w' : World} {a : Option Addr} {n : Nat} {l : List Int} (h : Ints w a n l) (hb : Below w.heap.size w w') (j : Nat) (hj : j < n) : ∃ b o, a = some ⟨b, o, none⟩ ∧ w'.cell? ⟨b, o + j, none⟩ = some (.int .i64 (l.getD j 0)) := by
  obtain ⟨b, o, h1, h2⟩ := h.2.2.2 j hj
  exact ⟨b, o, h1, by rw [hb.cell (block_lt_of_cell h2)]; exact h2⟩
theorem Strs.at {w w' : World} {a : Option Addr} {n : Nat} {l : List ByteArray} (h : Strs w a n l) (hb : Below w.heap.size w w') (j : Nat) (hj : j < n) : ∃ b o, a = some ⟨b, o, none⟩ ∧ w'.cell? ⟨b, o + j, none⟩ = some (.string (l.getD j ByteArray.empty)) := by
  obtain ⟨b, o, h1, h2⟩ := h.2.2.2 j hj
  exact ⟨b, o, h1, by rw [hb.cell (block_lt_of_cell h2)]; exact h2⟩

theorem Ints.lt {w : World} {b o n : Nat} {l : List Int} (h : Ints w (some ⟨b, o, none⟩) n l) (hn : 0 < n) : b < w.heap.size := by
  obtain ⟨b', o', h1, h2⟩ := h.2.2.2 0 hn
  injection h1 with h1; injection h1 with h1
  rw [h1]; exact block_lt_of_cell h2
theorem Strs.lt {w : World} {b o n : Nat} {l : List ByteArray} (h : Strs w (some ⟨b, o, none⟩) n l) (hn : 0 < n) : b < w.heap.size := by
  obtain ⟨b', o', h1, h2⟩ := h.2.2.2 0 hn
  injection h1 with h1; injection h1 with h1
  rw [h1]; exact block_lt_of_cell h2

theorem Ints.get {w : World} {b o n : Nat} {l : List Int} (h : Ints w (some ⟨b, o, none⟩) n l) (j : Nat) (hj : j < n) : w.cell? ⟨b, o + j, none⟩ = some (.int .i64 (l.getD j 0)) := by
  obtain ⟨b', o', h1, h2⟩ := h.2.2.2 j hj
  injection h1 with h1; injection h1 with h1 h3
  rw [h1, h3]; exact h2
theorem Strs.get {w : World} {b o n : Nat} {l : List ByteArray} (h : Strs w (some ⟨b, o, none⟩) n l) (j : Nat) (hj : j < n) : w.cell? ⟨b, o + j, none⟩ = some (.string (l.getD j ByteArray.empty)) := by
  obtain ⟨b', o', h1, h2⟩ := h.2.2.2 j hj
  injection h1 with h1; injection h1 with h1 h3
  rw [h1, h3]; exact h2

end Go.Proofs.Ytiepkablapjpmaa
