/-
  Digits, accounts of numbers below a hundred.
-/
import Derived.Test.YtiepkablapjpmaaLw
import Derived.BigQuiet
import Derived.Deep.QuietTactic
namespace Go.Proofs.Ytiepkablapjpmaa
open Go.RowKit

def dg (n : Nat) : ByteArray := if n < 10 then ten.extract n (n + 1) else ten.extract (n / 10) (n / 10 + 1) ++ ten.extract (n % 10) (n % 10 + 1)
def acN (n : Nat) : ByteArray := ⟨#[112, 97, 114, 116, 121]⟩ ++ dg n
theorem ten_size (k : Nat) (h : k < 10) : (ten.extract k (k + 1)).size = 1 := by
  have : k = 0 ∨ k = 1 ∨ k = 2 ∨ k = 3 ∨ k = 4 ∨ k = 5 ∨ k = 6 ∨ k = 7 ∨ k = 8 ∨ k = 9 := by omega
  rcases this with rfl | rfl | rfl | rfl | rfl | rfl | rfl | rfl | rfl | rfl <;> rfl
set_option maxRecDepth 10000 in
set_option maxHeartbeats 1000000 in
theorem digits_two (n : Nat) (h10 : 10 ≤ n) (hn : n < 100) (w : World) : Calls Try.prog 16 #[.int .i64 (n : Int)] w fun e w' => e = .returned (.string (ten.extract (n / 10) (n / 10 + 1) ++ ten.extract (n % 10) (n % 10 + 1))) ∧ Drew w w' := by
  obtain ⟨q, hq, hq1⟩ : ∃ q : Nat, (n : Int) / 10 = (q : Int) ∧ n / 10 = q := ⟨n / 10, by omega, rfl⟩
  obtain ⟨r, hr, hr1⟩ : ∃ r : Nat, (n : Int) % 10 = (r : Int) ∧ n % 10 = r := ⟨n % 10, by omega, rfl⟩
  rw [hq1, hr1]
  have hq9 : q < 10 := by omega
  have hr9 : r < 10 := by omega
  have hX : (⟨#[48, 49, 50, 51, 52, 53, 54, 55, 56, 57]⟩ : ByteArray).extract r (r + 1) = ten.extract r (r + 1) := rfl
  have HD := hide (digits_small q hq9)
  obtain ⟨dq, hdq⟩ : ∃ dq, ten.extract q (q + 1) = dq := ⟨_, rfl⟩
  obtain ⟨dr, hdr⟩ : ∃ dr, ten.extract r (r + 1) = dr := ⟨_, rfl⟩
  have z1 : (dq.size : Int) = 1 := by rw [← hdq, ten_size q hq9]; rfl
  have z2 : (dr.size : Int) = 1 := by rw [← hdr, ten_size r hr9]; rfl
  have z3 : ¬ 9223372036854775807 < dq.size + dr.size := by omega
  rw [hdq] at HD ⊢
  rw [hdr] at hX ⊢
  have h0 : ¬ (n : Int) ≤ -10 := by omega
  have h1 : ¬ (n : Int) < 0 := by omega
  have h2 : ¬ (n : Int) < 10 := by omega
  have h4 : (r : Int) + 1 ≤ 10 := by omega
  have h5 : (0 : Int) ≤ (r : Int) := by omega
  have h6 : (r : Int) ≤ (r : Int) + 1 := by omega
  have hn9 : (n : Int) < 100 := by omega
  have hw1 : IntKind.i64.wrap ((r : Int) + 1) = ((r + 1 : Nat) : Int) := by rw [IntWalk.i64_in _ (by omega)]; omega
  clear hq1 hr1 hdq hdr
  go_enter Try.func16, Try.ntmps16
  go_wp2
  go_quiet ((go_at_call 16; exact Calls.quiet_of_same (HD.out _)))
  go_wp2
  go_ret
  exact ⟨rfl, nq, rfl⟩
theorem digits_any (n : Nat) (hn : n < 100) (w : World) : Calls Try.prog 16 #[.int .i64 (n : Int)] w fun e w' => e = .returned (.string (dg n)) ∧ Drew w w' := by
  unfold dg
  by_cases h : n < 10
  · rw [if_pos h]
    refine (digits_small n h w).mono ?_
    rintro e w' ⟨rfl, hw⟩
    exact ⟨rfl, by rw [hw]; exact Drew.refl _⟩
  · rw [if_neg h]
    exact digits_two n (by omega) hn w
theorem dg_size (n : Nat) (hn : n < 100) : (dg n).size ≤ 2 := by
  unfold dg
  split
  · rw [ten_size n (by omega)]; omega
  · rw [ByteArray.size_append, ten_size _ (by omega), ten_size _ (by omega)]; omega
set_option maxHeartbeats 1000000 in
theorem account_any (n : Nat) (hn : n < 100) (w : World) : Calls Try.prog 15 #[.int .i64 (n : Int)] w fun e w' => e = .returned (.string (acN n)) ∧ Drew w w' := by
  have HD := hide (digits_any n hn)
  have hz := dg_size n hn
  unfold acN
  obtain ⟨d, hd⟩ : ∃ d, dg n = d := ⟨_, rfl⟩
  rw [hd] at HD hz ⊢
  have hs' : (ByteArray.size ⟨#[112, 97, 114, 116, 121]⟩ : Int) = 5 := rfl
  have z3 : ¬ 9223372036854775807 < (5 : Int) + (d.size : Int) := by omega
  clear hd
  go_enter Try.func15, Try.ntmps15
  go_wp2_with fail
  refine (HD.out _).mono ?_
  rintro e w1 ⟨rfl, hw1⟩
  replace hw1 := hide hw1
  go_wp2
  go_ret
  exact ⟨rfl, hw1.out⟩

end Go.Proofs.Ytiepkablapjpmaa
