/-
  The statements' own small texts: digits, seeds, secrets, accounts of small numbers.
-/
import Derived.Test.YtiepkablapjpmaaBase
namespace Go.Proofs.Ytiepkablapjpmaa
open Go.RowKit


def ten : ByteArray := ⟨#[48, 49, 50, 51, 52, 53, 54, 55, 56, 57]⟩
set_option maxHeartbeats 400000 in
theorem digits_small (n : Nat) (hn : n < 10) (w : World) : Calls Try.prog 16 #[.int .i64 (n : Int)] w fun e w' => e = .returned (.string (ten.extract n (n + 1))) ∧ w' = w := by
  have h0 : ¬ (n : Int) ≤ -10 := by omega
  have h1 : ¬ (n : Int) < 0 := by omega
  have h2 : (n : Int) < 10 := by omega
  have h3 : (n : Int) + 1 ≤ 10 := by omega
  have hs : ByteArray.size ⟨#[48, 49, 50, 51, 52, 53, 54, 55, 56, 57]⟩ = 10 := rfl
  go_enter Try.func16, Try.ntmps16
  go_wp2
  go_ret
  exact ⟨rfl, rfl⟩

theorem digits_ex (n : Nat) (hn : n < 10) : ∃ d : ByteArray, d.data.toList = [UInt8.ofNat (48 + n)] ∧ d.size = 1 ∧ ∀ w, Calls Try.prog 16 #[.int .i64 (n : Int)] w fun e w' => e = .returned (.string d) ∧ w' = w := by
  refine ⟨ten.extract n (n + 1), ?_, ?_, digits_small n hn⟩
  · have : n = 0 ∨ n = 1 ∨ n = 2 ∨ n = 3 ∨ n = 4 ∨ n = 5 ∨ n = 6 ∨ n = 7 ∨ n = 8 ∨ n = 9 := by omega
    rcases this with rfl | rfl | rfl | rfl | rfl | rfl | rfl | rfl | rfl | rfl <;> rfl
  · have : n = 0 ∨ n = 1 ∨ n = 2 ∨ n = 3 ∨ n = 4 ∨ n = 5 ∨ n = 6 ∨ n = 7 ∨ n = 8 ∨ n = 9 := by omega
    rcases this with rfl | rfl | rfl | rfl | rfl | rfl | rfl | rfl | rfl | rfl <;> rfl

theorem account_ex (n : Nat) (hn : n < 10) : ∃ d : ByteArray, d.data.toList = [112, 97, 114, 116, 121, UInt8.ofNat (48 + n)] ∧ d.size = 6 ∧ ∀ w, Calls Try.prog 15 #[.int .i64 (n : Int)] w fun e w' => e = .returned (.string d) ∧ w' = w := by
  obtain ⟨d, hd, hs, HD⟩ := digits_ex n hn
  refine ⟨⟨#[112, 97, 114, 116, 121]⟩ ++ d, by rw [add_list, hd]; rfl, by rw [ByteArray.size_append, hs]; rfl, fun w => ?_⟩
  have hs' : (ByteArray.size ⟨#[112, 97, 114, 116, 121]⟩ : Int) = 5 := rfl
  have hd' : (d.size : Int) = 1 := by omega
  clear hd
  go_enter Try.func15, Try.ntmps15
  go_wp2_with (go_at_call 16; refine (HD _).mono ?_; rintro e w0 ⟨rfl, hw0⟩; subst w0)
  go_ret
  exact ⟨rfl, rfl⟩
end Go.Proofs.Ytiepkablapjpmaa
