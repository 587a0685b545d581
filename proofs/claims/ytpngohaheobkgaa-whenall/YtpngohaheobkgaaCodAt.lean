/-
  A reader of bytes in memory: a block of two cells, the text that is left and whether it is bad (package codec's, the document's).
-/
import Derived.Test.YtpngohaheobkgaaCod
namespace Go.Proofs.Ytpngohaheobkgaa
open Go.RowKit

/-- The reader at block b: s is left; bad or not. -/
def Rd (t : TypeId) (w : World) (b : Nat) (s : ByteArray) (bad : Bool) : Prop := w.heap[b]? = some (.cells #[.string s, .bool bad] t (0, 0))
variable {t : TypeId} {w w' : World} {b : Nat} {s : ByteArray} {bad : Bool}
theorem Rd.lt (h : Rd t w b s bad) : b < w.heap.size := (Array.getElem?_eq_some_iff.1 h).1
theorem Rd.rest (h : Rd t w b s bad) : w.cell? ⟨b, 0, none⟩ = some (.string s) := by rw [cell_of_row w b 0 _ t (0, 0) h]; rfl
theorem Rd.isbad (h : Rd t w b s bad) : w.cell? ⟨b, 1, none⟩ = some (.bool bad) := by rw [cell_of_row w b 1 _ t (0, 0) h]; rfl
theorem Rd.frozen (h : Rd t w b s bad) (j : Nat) : w.frozen? ⟨b, j, none⟩ = false := frozen_of_row w b j _ t h
theorem Rd.below (h : Rd t w b s bad) (k : Below w.heap.size w w') : Rd t w' b s bad := by
  have hl := h.lt
  unfold Rd at *
  rw [k.block b hl]; exact h
theorem Rd.but {g : Nat} (h : Rd t w b s bad) (k : But g w w') (hg : b ≠ g) : Rd t w' b s bad := by
  have hl := h.lt
  unfold Rd at *
  rw [k.block b hl hg]; exact h
theorem Rd.drew (h : Rd t w b s bad) : Rd t w.drew b s bad := h
theorem Rd.drewN (h : Rd t w b s bad) (n : Nat) : Rd t (w.drewN n) b s bad := h
theorem Rd.setRest (h : Rd t w b s bad) (s' : ByteArray) : Rd t (w.setCell ⟨b, 0, none⟩ (.string s')) b s' bad := by
  unfold Rd at *
  rw [setCell_eq_setRow w b 0 _ t (0, 0) _ h, setRow_heap w b _ _ t (0, 0) h]; rfl
theorem Rd.setBad (h : Rd t w b s bad) (c : Bool) : Rd t (w.setCell ⟨b, 1, none⟩ (.bool c)) b s c := by
  unfold Rd at *
  rw [setCell_eq_setRow w b 1 _ t (0, 0) _ h, setRow_heap w b _ _ t (0, 0) h]; rfl
theorem Rd.new (t : TypeId) (w : World) (s : ByteArray) (bad : Bool) : Rd t (w.alloc (.cells #[.string s, .bool bad] t)) w.heap.size s bad := heap_alloc_new _ _

theorem ext_rest (s : ByteArray) (n : Nat) : (s.extract n s.size).data.toList = s.data.toList.drop n := by
  rw [extract_list, List.take_of_length_le]; simp

theorem val_take (l : List UInt8) (k : Nat) (h : k < l.length) : val (l.take (k + 1)) = val (l.take k) * 256 + l[k].toNat := by
  rw [List.take_add_one, List.getElem?_eq_getElem h]; exact val_snoc _ _
theorem val_take_lt (l : List UInt8) (k : Nat) (h : k < 8) : val (l.take k) < 72057594037927936 := by
  have h1 := val_lt (l.take k)
  have h2 : 256 ^ (l.take k).length ≤ 256 ^ 7 := Nat.pow_le_pow_right (by omega) (by rw [List.length_take]; omega)
  have h3 : (256 : Nat) ^ 7 = 72057594037927936 := by decide
  omega
theorem wrap64_sgn (n : Nat) : wrap64 (n : Int) = sgn n := by unfold sgn wrap64; rw [IntKind.wrap_i64]
theorem or_byte (n b : Nat) (hn : n < 72057594037927936) (hb : b < 256) : bits .or .u64 ((n : Int) * 256) (b : Int) = ((n * 256 + b : Nat) : Int) := by
  have e : (n : Int) * 256 = ((n * 256 : Nat) : Int) := by omega
  rw [e, u64_or_nat _ _ (by omega) (by omega), nat_join 8 (n * 256) b (by omega) (by omega)]

/-- The reader at block b, as the chapter has it. -/
def At (t : TypeId) (w : World) (b : Nat) (r : (List UInt8 × Bool)) : Prop := ∃ s : ByteArray, s.data.toList = r.1 ∧ Rd t w b s r.2
theorem At.below {t : TypeId} {w w' : World} {b : Nat} {r : (List UInt8 × Bool)} (h : At t w b r) (k : Below w.heap.size w w') : At t w' b r := by
  obtain ⟨s, h1, h2⟩ := h; exact ⟨s, h1, h2.below k⟩
theorem At.but {t : TypeId} {w w' : World} {b g : Nat} {r : (List UInt8 × Bool)} (h : At t w b r) (k : But g w w') (hg : b ≠ g) : At t w' b r := by
  obtain ⟨s, h1, h2⟩ := h; exact ⟨s, h1, h2.but k hg⟩
theorem At.lt {t : TypeId} {w : World} {b : Nat} {r : (List UInt8 × Bool)} (h : At t w b r) : b < w.heap.size := by
  obtain ⟨s, _, h2⟩ := h; exact h2.lt

theorem At.drew {t : TypeId} {w : World} {b : Nat} {r : (List UInt8 × Bool)} (h : At t w b r) : At t w.drew b r := h
theorem ext_first (s : ByteArray) (k : Nat) : s.extract 0 k = ⟨(s.data.toList.take k).toArray⟩ := by
  apply ByteArray.ext; rw [← Array.toList_inj, extract_list]; simp


end Go.Proofs.Ytpngohaheobkgaa
