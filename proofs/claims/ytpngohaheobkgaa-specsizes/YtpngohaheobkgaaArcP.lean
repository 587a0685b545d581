/-
  The statements' arcs by numbers, on plain data.
-/
import Derived.Test.YtpngohaheobkgaaSpRowP
namespace Go.Proofs.Ytpngohaheobkgaa
open Go.RowKit

def gold : ByteArray := ⟨#[103, 111, 108, 100]⟩
def salt : ByteArray := ⟨#[115, 97, 108, 116]⟩
def bareArc (a b : Nat) : ArcM := ⟨a, b, 0, ⟨#[]⟩, 0⟩
/-- A ring's first j arcs. -/
def ringL (n : Nat) : Nat → List ArcM
  | 0 => []
  | j + 1 => ringL n j ++ [bareArc j ((j + 1) % n)]
theorem ringL_len (n j : Nat) : (ringL n j).length = j := by
  induction j with
  | zero => rfl
  | succ j ih => rw [ringL, List.length_append, ih]; rfl
/-- One pair. -/
def pairF (n a b : Nat) (q : List ArcM × Nat) : List ArcM × Nat :=
  if a = b ∨ b = (a + 1) % n then q else (if q.2 % 2 = 1 ∧ q.1.length < 8 then q.1 ++ [bareArc a b] else q.1, q.2 / 2)
def fillB (n a : Nat) : Nat → (List ArcM × Nat) → List ArcM × Nat
  | 0, q => q
  | b + 1, q => pairF n a b (fillB n a b q)
def fillA (n : Nat) : Nat → (List ArcM × Nat) → List ArcM × Nat
  | 0, q => q
  | a + 1, q => fillB n a n (fillA n a q)
theorem pairF_len (n a b : Nat) (q : List ArcM × Nat) (h : q.1.length ≤ 8) : (pairF n a b q).1.length ≤ 8 := by
  unfold pairF
  split
  · exact h
  · simp only
    split
    · rename_i h1; rw [List.length_append]; simp; omega
    · exact h
theorem fillB_len (n a b : Nat) (q : List ArcM × Nat) (h : q.1.length ≤ 8) : (fillB n a b q).1.length ≤ 8 := by
  induction b with
  | zero => exact h
  | succ b ih => exact pairF_len _ _ _ _ ih
theorem fillA_len (n a : Nat) (q : List ArcM × Nat) (h : q.1.length ≤ 8) : (fillA n a q).1.length ≤ 8 := by
  induction a with
  | zero => exact h
  | succ a ih => exact fillB_len _ _ _ _ ih
theorem pairF_bits (n a b : Nat) (q : List ArcM × Nat) : (pairF n a b q).2 ≤ q.2 := by
  unfold pairF
  split
  · exact Nat.le_refl _
  · exact Nat.div_le_self _ _
theorem fillB_bits (n a b : Nat) (q : List ArcM × Nat) : (fillB n a b q).2 ≤ q.2 := by
  induction b with
  | zero => exact Nat.le_refl _
  | succ b ih => exact Nat.le_trans (pairF_bits _ _ _ _) ih
theorem fillA_bits (n a : Nat) (q : List ArcM × Nat) : (fillA n a q).2 ≤ q.2 := by
  induction a with
  | zero => exact Nat.le_refl _
  | succ a ih => exact Nat.le_trans (fillB_bits _ _ _ _) ih
/-- An arc's ledger, asset, amount by its place. -/
def deck (bits ledgers i : Nat) (a : ArcM) : ArcM :=
  { a with ledger := (((i + ledgers) % (1 + ledgers % 3) : Nat) : Int), asset := if (i + bits) % 2 = 0 then gold else salt, amount := ((1 + (7 * i + ledgers) % 20 : Nat) : Int) }
def decked (bits ledgers : Nat) (l : List ArcM) (j : Nat) : List ArcM := (l.take j).mapIdx (deck bits ledgers) ++ l.drop j
def arcsP (n bits ledgers : Nat) : List ArcM :=
  let q := fillA n n (ringL n n, bits)
  q.1.mapIdx (deck q.2 ledgers)
theorem decked_zero (bits ledgers : Nat) (l : List ArcM) : decked bits ledgers l 0 = l := by simp [decked]
theorem decked_all (bits ledgers : Nat) (l : List ArcM) : decked bits ledgers l l.length = l.mapIdx (deck bits ledgers) := by simp [decked]
theorem decked_len (bits ledgers : Nat) (l : List ArcM) (j : Nat) : (decked bits ledgers l j).length = l.length := by simp [decked]; omega
theorem decked_at (bits ledgers : Nat) (l : List ArcM) (j : Nat) (hj : j < l.length) : (decked bits ledgers l j).getD j noArc = l.getD j noArc := by
  unfold decked
  rw [List.getD_eq_getElem?_getD, List.getElem?_append_right (by simp; omega)]
  simp [List.getD_eq_getElem?_getD, Nat.min_eq_left (Nat.le_of_lt hj)]
theorem decked_succ (bits ledgers : Nat) (l : List ArcM) (j : Nat) (hj : j < l.length) : decked bits ledgers l (j + 1) = (decked bits ledgers l j).set j (deck bits ledgers j (l.getD j noArc)) := by
  apply List.ext_getElem?
  intro i
  rw [List.getElem?_set]
  unfold decked
  by_cases h1 : i < j
  · rw [if_neg (by omega), List.getElem?_append_left (by simp; omega), List.getElem?_append_left (by simp; omega)]
    simp [List.getElem?_mapIdx, h1, show i < j + 1 by omega]
  · by_cases h2 : i = j
    · subst h2
      rw [if_pos rfl, if_pos (by simp; omega), List.getElem?_append_left (by simp; omega)]
      simp [List.getElem?_mapIdx, List.getD_eq_getElem?_getD, List.getElem?_eq_getElem hj]
    · rw [if_neg (by omega), List.getElem?_append_right (by simp; omega), List.getElem?_append_right (by simp; omega)]
      simp
      congr 1
      omega
/-- One arc of a row, its five cells written. -/
theorem acells_set (l : List ArcM) (j : Nat) (hj : j < l.length) (a : ArcM) (hs : a.src = (l.getD j noArc).src) (hd : a.dst = (l.getD j noArc).dst) :
    (l.set j a).flatMap acells = (((l.flatMap acells).set (j * 5 + 2) (.int .i64 a.ledger)).set (j * 5 + 3) (.string a.asset)).set (j * 5 + 4) (.int .i64 a.amount) := by
  induction l generalizing j with
  | nil => simp at hj
  | cons x l ih =>
    cases j with
    | zero => simp [acells] at *; exact ⟨hs, hd⟩
    | succ j =>
      have h9 := ih j (by simpa using hj) (by simpa using hs) (by simpa using hd)
      rw [List.set_cons_succ, List.flatMap_cons, List.flatMap_cons, h9]
      have e2 : (j + 1) * 5 + 2 = (j * 5 + 2) + 1 + 1 + 1 + 1 + 1 := by omega
      have e3 : (j + 1) * 5 + 3 = (j * 5 + 3) + 1 + 1 + 1 + 1 + 1 := by omega
      have e4 : (j + 1) * 5 + 4 = (j * 5 + 4) + 1 + 1 + 1 + 1 + 1 := by omega
      rw [e2, e3, e4]
      simp [acells]

end Go.Proofs.Ytpngohaheobkgaa
