/-
  Package codec's Reader: a block of two cells, the text that is left and whether it is bad.
-/
import Derived.Test.YtaoefgljonmeeaaCodNum
namespace Go.Proofs.Ytaoefgljonmeeaa
open Go.RowKit

/-- The reader at block b: s is left; bad or not. -/
def Rd (t : TypeId) (w : World) (b : Nat) (s : ByteArray) (bad : Bool) : Prop := w.heap[b]? = some (.cells #[.string s, .bool bad] t (0, 0))
variable {t : TypeId} {w w' : World} {b : Nat} {s : ByteArray} {bad : Bool}
theorem Rd.lt (h : Rd t w b s bad) : b < w.heap.size := (Array.getElem?_eq_some_iff.1 h).1
theorem Rd.rest (h : Rd t w b s bad) : w.cell? ⟨b, 0, none⟩ = some (.string s) := by rw [cell_of_row w b 0 _ t (0, 0) h]; rfl
theorem Rd.isbad (h : Rd t w b s bad) : w.cell? ⟨b, 1, none⟩ = some (.bool bad) := by rw [cell_of_row w b 1 _ t (0, 0) h]; rfl
theorem Rd.frozen (h : Rd t w b s bad) (j : Nat) : w.frozen? ⟨b, j, none⟩ = false := frozen_of_row w b j _ t h
theorem Rd.below (h : Rd t w b s bad) (k : Below w.heap.size w w') : Rd t w' b s bad := by
  have hl := h.lt
  unfold Rd at *
  rw [k.block b hl]; exact h
theorem Rd.but {g : Nat} (h : Rd t w b s bad) (k : But g w w') (hg : b ≠ g) : Rd t w' b s bad := by
  have hl := h.lt
  unfold Rd at *
  rw [k.block b hl hg]; exact h
theorem Rd.drew (h : Rd t w b s bad) : Rd t w.drew b s bad := h
theorem Rd.drewN (h : Rd t w b s bad) (n : Nat) : Rd t (w.drewN n) b s bad := h
theorem Rd.setRest (h : Rd t w b s bad) (s' : ByteArray) : Rd t (w.setCell ⟨b, 0, none⟩ (.string s')) b s' bad := by
  unfold Rd at *
  rw [setCell_eq_setRow w b 0 _ t (0, 0) _ h, setRow_heap w b _ _ t (0, 0) h]; rfl
theorem Rd.setBad (h : Rd t w b s bad) (c : Bool) : Rd t (w.setCell ⟨b, 1, none⟩ (.bool c)) b s c := by
  unfold Rd at *
  rw [setCell_eq_setRow w b 1 _ t (0, 0) _ h, setRow_heap w b _ _ t (0, 0) h]; rfl
theorem Rd.new (t : TypeId) (w : World) (s : ByteArray) (bad : Bool) : Rd t (w.alloc (.cells #[.string s, .bool bad] t)) w.heap.size s bad := heap_alloc_new _ _

theorem ext_rest (s : ByteArray) (n : Nat) : (s.extract n s.size).data.toList = s.data.toList.drop n := by
  rw [extract_list, List.take_of_length_le]; simp

set_option maxHeartbeats 400000 in
theorem new_any (s : ByteArray) (w : World) :
    Calls Try.prog 8 #[.string s] w fun e w' => e = .returned (.pointer (some ⟨w.heap.size, 0, none⟩)) ∧ Rd 42 w' w.heap.size s false ∧ w'.heap.size = w.heap.size + 1 ∧ Below w.heap.size w w' := by
  go_enter Try.func8, Try.ntmps8
  go_wp2
  go_ret
  exact ⟨rfl, Rd.new _ _ _ _, by simp, (Below.refl _ _).alloc (Nat.le_refl _) _⟩

set_option maxHeartbeats 400000 in
theorem left_any (h : Rd t w b s bad) :
    Calls Try.prog 17 #[.pointer (some ⟨b, 0, none⟩)] w fun e w' => e = .returned (.int .i64 (s.size : Int)) ∧ w' = w := by
  have h0 := h.rest
  clear h
  go_enter Try.func17, Try.ntmps17
  go_wp2
  go_ret
  trivial

set_option maxHeartbeats 400000 in
theorem bad_any (h : Rd t w b s bad) :
    Calls Try.prog 16 #[.pointer (some ⟨b, 0, none⟩)] w fun e w' => e = .returned (.bool bad) ∧ w' = w := by
  have h0 := h.isbad
  clear h
  go_enter Try.func16, Try.ntmps16
  go_wp2
  go_ret
  trivial

set_option maxHeartbeats 400000 in
theorem fail_any (h : Rd t w b s bad) :
    Calls Try.prog 20 #[.pointer (some ⟨b, 0, none⟩)] w fun e w' => e = .returned (.tuple #[]) ∧ Rd t w' b ⟨#[]⟩ true ∧ But b w w' ∧ w'.heap.size = w.heap.size := by
  have h0 := h.rest
  have h1 := h.isbad
  have f0 := h.frozen 0
  have f1 := h.frozen 1
  go_enter Try.func20, Try.ntmps20
  go_wp2
  go_end0
  exact ⟨rfl, (h.setRest _).setBad _, (But.setCell _ _ _ _).trans (But.setCell _ _ _ _), by simp [World.setCell]⟩

set_option maxHeartbeats 400000 in
theorem next_any (h : Rd t w b s bad) (h0 : 0 < s.size) :
    Calls Try.prog 22 #[.pointer (some ⟨b, 0, none⟩)] w fun e w' => e = .returned (.int .u8 (s[0].toNat : Int)) ∧ Rd t w' b (s.extract 1 s.size) bad ∧ But b w w' ∧ w'.heap.size = w.heap.size := by
  have r0 := h.rest
  have f0 := h.frozen 0
  have h1 : (0 : Int) < (s.size : Int) := by omega
  have h2 : (1 : Int) ≤ (s.size : Int) := by omega
  go_enter Try.func22, Try.ntmps22
  go_wp2
  go_ret
  exact ⟨rfl, h.setRest _, But.setCell _ _ _ _, by simp [World.setCell]⟩

end Go.Proofs.Ytaoefgljonmeeaa
