/-
  The program's readList at numbers and texts.
-/
import Derived.Test.YtccaaaifhiigcaaSpMk
import Derived.Test.YtccaaaifhiigcaaZ10
import Derived.Test.YtccaaaifhiigcaaZ39
import Derived.Deep.RegionHeld3
import Derived.Deep.CutBlock
import Derived.Deep.CutRange
import Derived.Handy
namespace Go.Proofs.Ytccaaaifhiigcaa
open Go.RowKit


/-- Rows that a call has made, from block B on. -/
def IRow (w : World) (B : Nat) (v : Value) (l : List Int) : Prop := ∃ g, B ≤ g ∧ v = .slice (some ⟨g, 0, none⟩) l.length l.length ∧ Cells w g 3 (l.map (Value.int .i64))
def SRow (w : World) (B : Nat) (v : Value) (l : List ByteArray) : Prop := ∃ g, B ≤ g ∧ v = .slice (some ⟨g, 0, none⟩) l.length l.length ∧ Cells w g 9 (l.map Value.string)
theorem IRow.but {w w' : World} {B k : Nat} {v : Value} {l : List Int} (h : IRow w B v l) (b : But k w w') (hk : k < B) : IRow w' B v l := by
  obtain ⟨g, h1, h2, h3⟩ := h; exact ⟨g, h1, h2, h3.but b (by omega)⟩
theorem SRow.but {w w' : World} {B k : Nat} {v : Value} {l : List ByteArray} (h : SRow w B v l) (b : But k w w') (hk : k < B) : SRow w' B v l := by
  obtain ⟨g, h1, h2, h3⟩ := h; exact ⟨g, h1, h2, h3.but b (by omega)⟩
theorem IRow.below {w w' : World} {B : Nat} {v : Value} {l : List Int} (h : IRow w B v l) (b : Below w.heap.size w w') : IRow w' B v l := by
  obtain ⟨g, h1, h2, h3⟩ := h; exact ⟨g, h1, h2, h3.below b⟩
theorem SRow.below {w w' : World} {B : Nat} {v : Value} {l : List ByteArray} (h : SRow w B v l) (b : Below w.heap.size w w') : SRow w' B v l := by
  obtain ⟨g, h1, h2, h3⟩ := h; exact ⟨g, h1, h2, h3.below b⟩
theorem SRow.mono {w : World} {B C : Nat} {v : Value} {l : List ByteArray} (h : SRow w B v l) (hC : C ≤ B) : SRow w C v l := by
  obtain ⟨g, h1, h2, h3⟩ := h; exact ⟨g, by omega, h2, h3⟩
theorem splice_next {α : Type} (done rest : List α) (new : List α) (off m : Nat) (ho : off = done.length) (hm : m = new.length) : (done ++ rest).take off ++ new ++ (done ++ rest).drop (off + m) = done ++ new ++ rest.drop m := by
  subst ho
  rw [List.take_left', List.drop_append, List.drop_of_length_le (by omega)]
  · simp
  · rfl

end Go.Proofs.Ytccaaaifhiigcaa

/-
  The program's readParty, readArc, and readList at them.
-/
namespace Go.Proofs.Ytccaaaifhiigcaa
open Go.RowKit


def PRow2 (w : World) (B : Nat) (v : Value) (l : List PartyM) : Prop := ∃ g ks, B ≤ g ∧ v = .slice (some ⟨g, 0, none⟩) l.length l.length ∧ ks.length = l.length ∧ Cells w g 47 (pcells l ks) ∧ ∀ j, j < l.length → SRow w (g + 1) (ks.getD j undef) (l.getD j noParty).keys
def ARow (w : World) (B : Nat) (v : Value) (l : List ArcM) : Prop := ∃ g, B ≤ g ∧ v = .slice (some ⟨g, 0, none⟩) l.length l.length ∧ Cells w g 63 (l.flatMap acells)
theorem PRow2.but {w w' : World} {B k : Nat} {v : Value} {l : List PartyM} (h : PRow2 w B v l) (b : But k w w') (hk : k < B) : PRow2 w' B v l := by
  obtain ⟨g, ks, h1, h2, h3, h4, h5⟩ := h; exact ⟨g, ks, h1, h2, h3, h4.but b (by omega), fun j hj => (h5 j hj).but b (by omega)⟩
theorem PRow2.below {w w' : World} {B : Nat} {v : Value} {l : List PartyM} (h : PRow2 w B v l) (b : Below w.heap.size w w') : PRow2 w' B v l := by
  obtain ⟨g, ks, h1, h2, h3, h4, h5⟩ := h; exact ⟨g, ks, h1, h2, h3, h4.below b, fun j hj => (h5 j hj).below b⟩
theorem ARow.but {w w' : World} {B k : Nat} {v : Value} {l : List ArcM} (h : ARow w B v l) (b : But k w w') (hk : k < B) : ARow w' B v l := by
  obtain ⟨g, h1, h2, h3⟩ := h; exact ⟨g, h1, h2, h3.but b (by omega)⟩
theorem ARow.below {w w' : World} {B : Nat} {v : Value} {l : List ArcM} (h : ARow w B v l) (b : Below w.heap.size w w') : ARow w' B v l := by
  obtain ⟨g, h1, h2, h3⟩ := h; exact ⟨g, h1, h2, h3.below b⟩
theorem pcells_length (l : List PartyM) (ks : List Value) (h : ks.length = l.length) : (pcells l ks).length = l.length * 2 := by
  unfold pcells
  induction l generalizing ks with
  | nil => simp
  | cons p l ih =>
    cases ks with
    | nil => simp at h
    | cons k ks =>
      have h9 := ih ks (by simpa using h)
      rw [List.zipWith_cons_cons, List.flatten_cons, List.length_append, h9, List.length_cons]
      simp; omega
theorem acells_length (l : List ArcM) : (l.flatMap acells).length = l.length * 5 := by
  induction l with
  | nil => rfl
  | cons a l ih => rw [List.flatMap_cons, List.length_append, ih, List.length_cons]; simp [acells]; omega
/-- What is done to a block of one's own leaves all else. -/
theorem But.own {b g : Nat} {w a c : World} (h : But b w a) (k : But g a c) (hg : w.heap.size ≤ g) : But b w c :=
  ⟨k.os.trans h.os, k.tape.trans h.tape, k.output.trans h.output, Nat.le_trans h.size k.size, fun i hi hib => (k.block i (Nat.lt_of_lt_of_le hi h.size) (by omega)).trans (h.block i hi hib)⟩
theorem sizeParty : (Try.prog.info? 47).map (·.size) = some 2 := by kernel_rfl
theorem sizeArc : (Try.prog.info? 63).map (·.size) = some 5 := by kernel_rfl

theorem getD_left {α : Type} (l : List α) (x : α) (d : α) (i : Nat) (h : i < l.length) : (l ++ [x]).getD i d = l.getD i d := by
  simp [List.getD_eq_getElem?_getD, List.getElem?_append, h]
theorem getD_last {α : Type} (l : List α) (x : α) (d : α) (i : Nat) (h : i = l.length) : (l ++ [x]).getD i d = x := by
  simp [List.getD_eq_getElem?_getD, h]

end Go.Proofs.Ytccaaaifhiigcaa
