/-
  The statements' own small texts: digits, seeds, secrets, accounts of small numbers.
-/
import Derived.Test.YtpngohaheobkgaaBase
namespace Go.Proofs.Ytpngohaheobkgaa
open Go.RowKit

def ten : ByteArray := ⟨#[48, 49, 50, 51, 52, 53, 54, 55, 56, 57]⟩
set_option maxHeartbeats 400000 in
theorem digits_small (n : Nat) (hn : n < 10) (w : World) : Calls Try.prog 96 #[.int .i64 (n : Int)] w fun e w' => e = .returned (.string (ten.extract n (n + 1))) ∧ w' = w := by
  have h0 : ¬ (n : Int) ≤ -10 := by omega
  have h1 : ¬ (n : Int) < 0 := by omega
  have h2 : (n : Int) < 10 := by omega
  have h3 : (n : Int) + 1 ≤ 10 := by omega
  have hs : ByteArray.size ⟨#[48, 49, 50, 51, 52, 53, 54, 55, 56, 57]⟩ = 10 := rfl
  go_enter Try.func96, Try.ntmps96
  go_wp2
  go_ret
  exact ⟨rfl, rfl⟩

theorem digits_ex (n : Nat) (hn : n < 10) : ∃ d : ByteArray, d.data.toList = [UInt8.ofNat (48 + n)] ∧ d.size = 1 ∧ ∀ w, Calls Try.prog 96 #[.int .i64 (n : Int)] w fun e w' => e = .returned (.string d) ∧ w' = w := by
  refine ⟨ten.extract n (n + 1), ?_, ?_, digits_small n hn⟩
  · have : n = 0 ∨ n = 1 ∨ n = 2 ∨ n = 3 ∨ n = 4 ∨ n = 5 ∨ n = 6 ∨ n = 7 ∨ n = 8 ∨ n = 9 := by omega
    rcases this with rfl | rfl | rfl | rfl | rfl | rfl | rfl | rfl | rfl | rfl <;> rfl
  · have : n = 0 ∨ n = 1 ∨ n = 2 ∨ n = 3 ∨ n = 4 ∨ n = 5 ∨ n = 6 ∨ n = 7 ∨ n = 8 ∨ n = 9 := by omega
    rcases this with rfl | rfl | rfl | rfl | rfl | rfl | rfl | rfl | rfl | rfl <;> rfl

theorem account_ex (n : Nat) (hn : n < 10) : ∃ d : ByteArray, d.data.toList = [112, 97, 114, 116, 121, UInt8.ofNat (48 + n)] ∧ d.size = 6 ∧ ∀ w, Calls Try.prog 56 #[.int .i64 (n : Int)] w fun e w' => e = .returned (.string d) ∧ w' = w := by
  obtain ⟨d, hd, hs, HD⟩ := digits_ex n hn
  refine ⟨⟨#[112, 97, 114, 116, 121]⟩ ++ d, by rw [add_list, hd]; rfl, by rw [ByteArray.size_append, hs]; rfl, fun w => ?_⟩
  have hs' : (ByteArray.size ⟨#[112, 97, 114, 116, 121]⟩ : Int) = 5 := rfl
  have hd' : (d.size : Int) = 1 := by omega
  clear hd
  go_enter Try.func56, Try.ntmps56
  go_wp2_with (go_at_call 96; refine (HD _).mono ?_; rintro e w0 ⟨rfl, hw0⟩; subst w0)
  go_ret
  exact ⟨rfl, rfl⟩
theorem seed_ex (n : Nat) (hn : n < 10) : ∃ d : ByteArray, d.data.toList = [115, 101, 101, 100, UInt8.ofNat (48 + n)] ∧ d.size = 5 ∧ ∀ w, Calls Try.prog 64 #[.int .i64 (n : Int)] w fun e w' => e = .returned (.string d) ∧ w' = w := by
  obtain ⟨d, hd, hs, HD⟩ := digits_ex n hn
  refine ⟨⟨#[115, 101, 101, 100]⟩ ++ d, by rw [add_list, hd]; rfl, by rw [ByteArray.size_append, hs]; rfl, fun w => ?_⟩
  have hs' : (ByteArray.size ⟨#[115, 101, 101, 100]⟩ : Int) = 4 := rfl
  have hd' : (d.size : Int) = 1 := by omega
  clear hd
  go_enter Try.func64, Try.ntmps64
  go_wp2_with (go_at_call 96; refine (HD _).mono ?_; rintro e w0 ⟨rfl, hw0⟩; subst w0)
  go_ret
  exact ⟨rfl, rfl⟩
theorem secret_ex (n : Nat) (hn : n < 10) : ∃ d : ByteArray, d.data.toList = [115, 101, 99, 114, 101, 116, UInt8.ofNat (48 + n)] ∧ d.size = 7 ∧ ∀ w, Calls Try.prog 62 #[.int .i64 (n : Int)] w fun e w' => e = .returned (.string d) ∧ w' = w := by
  obtain ⟨d, hd, hs, HD⟩ := digits_ex n hn
  refine ⟨⟨#[115, 101, 99, 114, 101, 116]⟩ ++ d, by rw [add_list, hd]; rfl, by rw [ByteArray.size_append, hs]; rfl, fun w => ?_⟩
  have hs' : (ByteArray.size ⟨#[115, 101, 99, 114, 101, 116]⟩ : Int) = 6 := rfl
  have hd' : (d.size : Int) = 1 := by omega
  clear hd
  go_enter Try.func62, Try.ntmps62
  go_wp2_with (go_at_call 96; refine (HD _).mono ?_; rintro e w0 ⟨rfl, hw0⟩; subst w0)
  go_ret
  exact ⟨rfl, rfl⟩

end Go.Proofs.Ytpngohaheobkgaa

/-
  The statements' Place: any number as one from 0 to n - 1.
-/
namespace Go.Proofs.Ytpngohaheobkgaa
open Go.RowKit

theorem tmod_bound (v n : Int) (h0 : 1 ≤ n) : -n < v.tmod n ∧ v.tmod n < n := by
  have h := Int.natAbs_tmod v n
  have h2 : v.natAbs % n.natAbs < n.natAbs := Nat.mod_lt _ (by omega)
  omega

set_option maxHeartbeats 400000 in
theorem place_any (v n : Int) (h0 : 1 ≤ n) (h1 : n ≤ 4398046511104) (w : World) :
    Calls Try.prog 22 #[.int .i64 v, .int .i64 n] w fun e w' => ∃ k : Nat, (k : Int) < n ∧ e = .returned (.int .i64 (k : Int)) ∧ w' = w := by
  have hb := tmod_bound v n h0
  obtain ⟨b0, b1⟩ := hb
  by_cases hneg : v.tmod n < 0
  · go_enter Try.func22, Try.ntmps22
    go_wp2
    go_ret
    exact ⟨(v.tmod n + n).toNat, by omega, ret_int (by omega), rfl⟩
  · go_enter Try.func22, Try.ntmps22
    go_wp2
    go_ret
    exact ⟨(v.tmod n).toNat, by omega, ret_int (by omega), rfl⟩

/-- The same with the answer as a letter. -/
theorem place_ex (v n : Int) (h0 : 1 ≤ n) (h1 : n ≤ 4398046511104) : ∃ k : Nat, (k : Int) < n ∧ ∀ w, Calls Try.prog 22 #[.int .i64 v, .int .i64 n] w fun e w' => e = .returned (.int .i64 (k : Int)) ∧ w' = w := by
  obtain ⟨b0, b1⟩ := tmod_bound v n h0
  by_cases hneg : v.tmod n < 0
  · refine ⟨(v.tmod n + n).toNat, by omega, fun w => ?_⟩
    go_enter Try.func22, Try.ntmps22
    go_wp2
    go_ret
    exact ⟨ret_int (by omega), rfl⟩
  · refine ⟨(v.tmod n).toNat, by omega, fun w => ?_⟩
    go_enter Try.func22, Try.ntmps22
    go_wp2
    go_ret
    exact ⟨ret_int (by omega), rfl⟩

end Go.Proofs.Ytpngohaheobkgaa
