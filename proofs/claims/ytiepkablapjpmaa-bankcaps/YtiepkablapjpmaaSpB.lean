/-
  Swaps as bytes, on plain data.
-/
import Derived.Test.YtiepkablapjpmaaCod
import Derived.Test.YtiepkablapjpmaaSp
namespace Go.Proofs.Ytiepkablapjpmaa
open Go.RowKit

/-- How many, and they. -/
def numsB (l : List Int) : List UInt8 := num8 (l.length : Int) ++ l.flatMap num8
def textsB (l : List ByteArray) : List UInt8 := num8 (l.length : Int) ++ l.flatMap (fun t => text8 t.data.toList)
theorem take_flat {α : Type} (f : α → List UInt8) (l : List α) (d : α) (j : Nat) (h : j < l.length) : (l.take (j + 1)).flatMap f = (l.take j).flatMap f ++ f (l.getD j d) := by
  rw [List.take_add_one, List.getElem?_eq_getElem h, List.flatMap_append, List.getD_eq_getElem?_getD, List.getElem?_eq_getElem h]; simp

/-- P4.2: a party, an arc, a swap as bytes. -/
def partyB (p : PartyM) : List UInt8 := text8 p.acc.data.toList ++ textsB p.keys
def arcB (a : ArcM) : List UInt8 := num8 a.src ++ num8 a.dst ++ num8 a.ledger ++ text8 a.asset.data.toList ++ num8 a.amount
def specB (s : SpecM) : List UInt8 := text8 s.id.data.toList ++ num8 (s.parties.length : Int) ++ s.parties.flatMap partyB ++ num8 (s.arcs.length : Int) ++ s.arcs.flatMap arcB ++ numsB s.leaders ++ textsB s.locks ++ num8 s.start ++ num8 s.delta

theorem bytes_of (l : List UInt8) (y : ByteArray) (h : y.data.toList = l) : y = ⟨l.toArray⟩ := by rw [← h]
theorem flat_le {α : Type} (f : α → List UInt8) (l : List α) (m : Nat) (h : ∀ x ∈ l, (f x).length ≤ m) : (l.flatMap f).length ≤ m * l.length := by
  induction l with
  | nil => simp
  | cons x l ih =>
    have h1 := h x (by simp)
    have h2 := ih (fun y hy => h y (by simp [hy]))
    rw [List.flatMap_cons, List.length_append, List.length_cons, Nat.mul_add]; omega
theorem textsB_le (l : List ByteArray) (m : Nat) (h : ∀ j, j < l.length → (l.getD j ByteArray.empty).size ≤ m) : (textsB l).length ≤ 8 + (8 + m) * l.length := by
  unfold textsB
  rw [List.length_append, num8_length]
  have := flat_le (fun t : ByteArray => text8 t.data.toList) l (8 + m) (fun x hx => by
    obtain ⟨j, hj, e⟩ := List.getElem_of_mem hx
    have := h j hj
    rw [List.getD_eq_getElem?_getD, List.getElem?_eq_getElem hj] at this
    rw [text8_length, len_list, ← e]
    exact Nat.add_le_add_left this 8)
  omega
theorem numsB_length (l : List Int) : (numsB l).length = 8 + 8 * l.length := by
  unfold numsB
  rw [List.length_append, num8_length]
  induction l with
  | nil => rfl
  | cons x l ih =>
    rw [List.flatMap_cons, List.length_append, num8_length, List.length_cons]; omega

end Go.Proofs.Ytiepkablapjpmaa
