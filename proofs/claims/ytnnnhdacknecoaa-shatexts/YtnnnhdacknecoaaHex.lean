/-
  Package sha's Hex.
-/
import Derived.Test.YtnnnhdacknecoaaBuf
import Derived.Test.YtnnnhdacknecoaaSpec
import Derived.Deep.RegionHeld3
import Derived.Deep.DrawnRows
namespace Go.Proofs.Ytnnnhdacknecoaa
open Go.RowKit
attribute [local go_sem ↓] Go.wp_at_zero Go.wp_at_succ

def digits : ByteArray := ⟨#[48, 49, 50, 51, 52, 53, 54, 55, 56, 57, 97, 98, 99, 100, 101, 102]⟩
def digit (n : Nat) : UInt8 := digits.data.toList.getD n 0
/-- A byte as two digits of sixteen. -/
def two (b : UInt8) : List UInt8 := [digit (b.toNat / 16), digit (b.toNat % 16)]
def hexOf (l : List UInt8) : List UInt8 := l.flatMap two
theorem hexOf_length (l : List UInt8) : (hexOf l).length = 2 * l.length := by
  induction l with
  | nil => rfl
  | cons x l ih => simp [hexOf, two] at *; omega
theorem hexOf_snoc (l : List UInt8) (k : Nat) (h : k < l.length) : hexOf (l.take (k + 1)) = hexOf (l.take k) ++ two l[k] := by
  rw [List.take_add_one, List.getElem?_eq_getElem h, hexOf, List.flatMap_append]; simp [hexOf]
theorem low4 (b : UInt8) : bits .and .u8 (b.toNat : Int) 15 = (b.toNat : Int) % 16 := by
  have h := b.toNat_lt
  have e : b.toNat &&& 15 = b.toNat % 16 := Nat.and_two_pow_sub_one_eq_mod b.toNat 4
  have := u8_and_nat b.toNat 15 (by omega) (by omega)
  rw [show ((15 : Nat) : Int) = 15 from rfl] at this
  rw [this, e]; omega
theorem two_row (b : UInt8) (h1 : ((b.toNat : Int) / 16).toNat < digits.size) (h2 : ((b.toNat : Int) % 16).toNat < digits.size) :
    #[Value.int IntKind.u8 ((digits[((b.toNat : Int) / 16).toNat]'h1).toNat : Int), Value.int IntKind.u8 ((digits[((b.toNat : Int) % 16).toNat]'h2).toNat : Int)] = (cb (two b)).toArray := by
  rw [byte_get digits _ h1, byte_get digits _ h2]
  have e1 : ((b.toNat : Int) / 16).toNat = b.toNat / 16 := by omega
  have e2 : ((b.toNat : Int) % 16).toNat = b.toNat % 16 := by omega
  rw [e1, e2]; rfl
theorem two_at (s : ByteArray) (k : Nat) (h : k < s.size) : hexOf (s.data.toList.take k) ++ two s[k] = hexOf (s.data.toList.take (k + 1)) := by
  have h' : k < s.data.toList.length := by simpa using h
  rw [hexOf_snoc _ _ h']; rfl

set_option maxRecDepth 10000 in
set_option maxHeartbeats 1000000 in
theorem hex_any (s : ByteArray) (hs : s.size ≤ 1099511627) (w : World) :
    Calls Try.prog 13 #[.string s] w fun e w' => e = .returned (.string ⟨(hexOf s.data.toList).toArray⟩) ∧ Below w.heap.size w w' := by
  go_enter Try.func13, Try.ntmps13
  go_wp2_with (at_make; refine wpList_buf (by rfl) _ _ (by rfl) w.heap.size _ (2 * s.size) (by rfl) (by rfl) (by omega) (by omega) (Nat.le_refl _) ?_; intro v2 w2 hown2 hb2)
  go_loopw [3, 11] (fun v i wr => ∃ k : Nat, k ≤ s.size ∧ i = .int .i64 k ∧ Own wr w.heap.size v (hexOf (s.data.toList.take k)) ∧ Below w.heap.size w wr) (fun _ i _ => s.size - (intOf i).toNat)
  case atStart => exact ⟨0, by omega, rfl, hown2, hb2⟩
  case round =>
    clear hown2 hb2
    obtain ⟨k, hk, rfl, hown, hb⟩ := hrel
    by_cases hlt : k < s.size
    · obtain ⟨L, hL⟩ : ∃ L, L = hexOf (s.data.toList.take k) := ⟨_, rfl⟩
      have hl2 : L.length + 2 ≤ 1099511627776 := by rw [hL, hexOf_length]; simp; omega
      rw [← hL] at hown
      have HL : Hid (L = hexOf (s.data.toList.take k)) := hL
      clear hL
      have k0 : (0 : Int) ≤ (k : Int) := by omega
      have k1 : (k : Int) < (s.size : Int) := by omega
      have hn := s[k].toNat_lt
      have q0 : (0 : Int) ≤ (s[k].toNat : Int) / 16 := by omega
      have q1 : (s[k].toNat : Int) / 16 < 16 := by omega
      have r0 : (0 : Int) ≤ (s[k].toNat : Int) % 16 := by omega
      have r1 : (s[k].toNat : Int) % 16 < 16 := by omega
      have ha := low4 s[k]
      go_wp2
      go_region_held3 (fun _ => True) (trivial)
        ((refine step_lit wr _ (by rfl) (.tmp 14) (.tmp 25) (by rfl) w.heap.size _ L (by rfl) hown (two s[k]) 2 rfl (by rfl) (two_row s[k] _ _) hl2 hb.size ?_; intro v4 w4 hown4 hb4))
      all_goals
        go_wp2
        go_roundw
        case rel =>
          rw [HL.out, two_at s k hlt] at hown4
          exact ⟨k + 1, by omega, by go_num, hown4, hb.trans hb4⟩
        case measure => simp [intOf]; omega
    · have hk8 : k = s.size := by omega
      rw [hk8, List.take_of_length_le (by simp)] at hown
      clear hk8
      go_wp2_with (refine wpList_said (by rfl) (.tmp 28) (by rfl) w.heap.size _ _ (by rfl) hown ?_)
      go_ret
      exact ⟨rfl, hb⟩

end Go.Proofs.Ytnnnhdacknecoaa
