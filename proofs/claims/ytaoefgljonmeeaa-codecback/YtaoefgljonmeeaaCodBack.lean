/-
  Numbers and texts one behind the other, as bytes; what a reader of them, whole or cut, comes to.
-/
import Derived.Test.YtaoefgljonmeeaaCod
namespace Go.Proofs.Ytaoefgljonmeeaa
open Go.RowKit

/-- What the place i gives: a number, a text, each if there is one. -/
def piece (l1 : List Int) (l2 : List ByteArray) (i : Nat) : List UInt8 :=
  (if i < l1.length then num8 (l1.getD i 0) else []) ++ (if i < l2.length then text8 (l2.getD i ByteArray.empty).data.toList else [])
/-- The first k places; those from k on, n of them. -/
def whole (l1 : List Int) (l2 : List ByteArray) (k : Nat) : List UInt8 := (List.range k).flatMap (piece l1 l2)
def onward (l1 : List Int) (l2 : List ByteArray) (k n : Nat) : List UInt8 := (List.range' k n).flatMap (piece l1 l2)
theorem whole_zero (l1 : List Int) (l2 : List ByteArray) : whole l1 l2 0 = [] := rfl
theorem whole_succ (l1 : List Int) (l2 : List ByteArray) (k : Nat) : whole l1 l2 (k + 1) = whole l1 l2 k ++ piece l1 l2 k := by
  simp [whole, List.range_succ]
theorem onward_all (l1 : List Int) (l2 : List ByteArray) (n : Nat) : onward l1 l2 0 n = whole l1 l2 n := by
  simp [whole, onward, List.range_eq_range']
theorem onward_none (l1 : List Int) (l2 : List ByteArray) (k : Nat) : onward l1 l2 k 0 = [] := rfl
theorem onward_succ (l1 : List Int) (l2 : List ByteArray) (k n : Nat) : onward l1 l2 k (n + 1) = piece l1 l2 k ++ onward l1 l2 (k + 1) n := by
  simp [onward, List.range'_succ]
theorem piece_ne (l1 : List Int) (l2 : List ByteArray) (i : Nat) (h : i < l1.length ∨ i < l2.length) : piece l1 l2 i ≠ [] := by
  intro e
  have := congrArg List.length e
  unfold piece at this
  rw [List.length_append] at this
  rcases h with h | h
  · rw [if_pos h, num8_length, List.length_nil] at this; omega
  · rw [if_pos h, text8_length, List.length_nil] at this; omega
theorem piece_both (l1 : List Int) (l2 : List ByteArray) (i : Nat) (h1 : i < l1.length) (h2 : i < l2.length) : piece l1 l2 i = num8 (l1.getD i 0) ++ text8 (l2.getD i ByteArray.empty).data.toList := by
  unfold piece; rw [if_pos h1, if_pos h2]
theorem piece_num (l1 : List Int) (l2 : List ByteArray) (i : Nat) (h1 : i < l1.length) (h2 : ¬ i < l2.length) : piece l1 l2 i = num8 (l1.getD i 0) := by
  unfold piece; rw [if_pos h1, if_neg h2, List.append_nil]
theorem piece_text (l1 : List Int) (l2 : List ByteArray) (i : Nat) (h1 : ¬ i < l1.length) (h2 : i < l2.length) : piece l1 l2 i = text8 (l2.getD i ByteArray.empty).data.toList := by
  unfold piece; rw [if_neg h1, if_pos h2, List.nil_append]
theorem whole_ne (l1 : List Int) (l2 : List ByteArray) (n : Nat) (hn : 0 < n) (h : 0 < l1.length ∨ 0 < l2.length) : whole l1 l2 n ≠ [] := by
  obtain ⟨m, rfl⟩ : ∃ m, n = m + 1 := ⟨n - 1, by omega⟩
  rw [← onward_all, onward_succ]
  exact fun e => piece_ne l1 l2 0 h (List.append_eq_nil_iff.1 e).1

/-- A reader of the beginning of l alone: bad, or there is less than l left. -/
def Cut (r : (List UInt8 × Bool)) (l : List UInt8) : Prop := r = ([], true) ∨ (r.2 = false ∧ ∃ q, q ≠ [] ∧ r.1 ++ q = l)
theorem cut_take (l : List UInt8) (p : Nat) (h : p < l.length) : Cut (l.take p, false) l :=
  .inr ⟨rfl, l.drop p, fun e => by have := congrArg List.length e; rw [List.length_drop, List.length_nil] at this; omega, List.take_append_drop p l⟩
theorem cut_none (r : (List UInt8 × Bool)) (h : Cut r []) : r = ([], true) := by
  rcases h with h | ⟨_, q, hq, e⟩
  · exact h
  · exact absurd (List.append_eq_nil_iff.1 e).2 hq
theorem numS_bad : numS ([], true) = ([], true) := rfl
theorem cntS_bad (m : Int) : cntS ([], true) m = ([], true) := by
  unfold cntS; split
  · rfl
  · rfl
theorem cntV_bad (m : Int) : cntV [] m = 0 := by
  unfold cntV; split <;> rfl
theorem txtS_bad (m : Int) : txtS ([], true) m = ([], true) := by
  unfold txtS
  simp only [cntV_bad, cntS_bad]
  rfl
/-- Two lists that are one: the shorter opens the longer. -/
theorem front_of {p q a t : List UInt8} (e : p ++ q = a ++ t) (h : a.length ≤ p.length) : ∃ p', p = a ++ p' ∧ p' ++ q = t := by
  obtain ⟨c, h1, h2⟩ | ⟨c, h1, h2⟩ := List.append_eq_append_iff.1 e
  · have : c = [] := by
      have := congrArg List.length h1
      rw [List.length_append] at this
      exact List.length_eq_zero_iff.1 (by omega)
    subst this
    exact ⟨[], by simpa using h1.symm, by simpa using h2⟩
  · exact ⟨c, h1, h2.symm⟩
theorem cut_num (r : (List UInt8 × Bool)) (v : Int) (t : List UInt8) (h : Cut r (num8 v ++ t)) : Cut (numS r) t := by
  rcases h with h | ⟨h1, q, hq, e⟩
  · rw [h, numS_bad]; exact .inl rfl
  · obtain ⟨l, b⟩ := r
    subst h1
    have h8 := num8_length v
    by_cases hl : l.length < 8
    · unfold numS; rw [if_pos hl]; exact .inl rfl
    · obtain ⟨p', h1, h2⟩ := front_of e (by show (num8 v).length ≤ l.length; omega)
      have h1' : l = num8 v ++ p' := h1
      rw [h1', numS_of]
      exact .inr ⟨rfl, q, hq, h2⟩
theorem cut_txt (r : (List UInt8 × Bool)) (x t : List UInt8) (m : Int) (hx : (x.length : Int) ≤ m) (hm : m ≤ 9223372036854775807) (h : Cut r (text8 x ++ t)) : Cut (txtS r m) t := by
  rcases h with h | ⟨h1, q, hq, e⟩
  · rw [h, txtS_bad]; exact .inl rfl
  · obtain ⟨l, b⟩ := r
    subst h1
    have h8 := num8_length (x.length : Int)
    have e' : l ++ q = num8 (x.length : Int) ++ (x ++ t) := by rw [← List.append_assoc]; exact e
    by_cases hl : l.length < 8
    · have hn : numV l = 0 := by unfold numV; rw [if_pos hl]
      have hS : numS (l, false) = ([], true) := by unfold numS; rw [if_pos hl]
      have hc : cntV l m = 0 := by unfold cntV; rw [hn]; split <;> rfl
      have hcs : cntS (l, false) m = ([], true) := by
        unfold cntS; split
        · rfl
        · exact hS
      unfold txtS
      simp only [hc, hcs]
      exact .inl rfl
    · obtain ⟨p', h1, h2⟩ := front_of e' (by omega)
      subst h1
      by_cases hl2 : p'.length < x.length
      · unfold txtS
        simp only
        rw [cntV_of _ _ _ hx hm, cntS_of _ _ _ _ hx hm, if_pos (by show ((p'.length : Nat) : Int) < _; omega)]
        exact .inl rfl
      · obtain ⟨p2, h3, h4⟩ := front_of h2 (by omega)
        subst h3
        rw [← List.append_assoc, show num8 (x.length : Int) ++ x = text8 x from rfl, txtS_of _ _ _ _ hx hm]
        exact .inr ⟨rfl, q, hq, h4⟩

end Go.Proofs.Ytaoefgljonmeeaa
