/-
  The statements' Place: any number as one from 0 to n - 1.
-/
import Derived.Test.YtiepkablapjpmaaBase
namespace Go.Proofs.Ytiepkablapjpmaa
open Go.RowKit

theorem tmod_bound (v n : Int) (h0 : 1 ≤ n) : -n < v.tmod n ∧ v.tmod n < n := by
  have h := Int.natAbs_tmod v n
  have h2 : v.natAbs % n.natAbs < n.natAbs := Nat.mod_lt _ (by omega)
  omega

set_option maxHeartbeats 400000 in
theorem place_any (v n : Int) (h0 : 1 ≤ n) (h1 : n ≤ 4398046511104) (w : World) :
    Calls Try.prog 10 #[.int .i64 v, .int .i64 n] w fun e w' => ∃ k : Nat, (k : Int) < n ∧ e = .returned (.int .i64 (k : Int)) ∧ w' = w := by
  have hb := tmod_bound v n h0
  obtain ⟨b0, b1⟩ := hb
  by_cases hneg : v.tmod n < 0
  · go_enter Try.func10, Try.ntmps10
    go_wp2
    go_ret
    exact ⟨(v.tmod n + n).toNat, by omega, ret_int (by omega), rfl⟩
  · go_enter Try.func10, Try.ntmps10
    go_wp2
    go_ret
    exact ⟨(v.tmod n).toNat, by omega, ret_int (by omega), rfl⟩

/-- The same with the answer as a letter. -/
theorem place_ex (v n : Int) (h0 : 1 ≤ n) (h1 : n ≤ 4398046511104) : ∃ k : Nat, (k : Int) < n ∧ ∀ w, Calls Try.prog 10 #[.int .i64 v, .int .i64 n] w fun e w' => e = .returned (.int .i64 (k : Int)) ∧ w' = w := by
  obtain ⟨b0, b1⟩ := tmod_bound v n h0
  by_cases hneg : v.tmod n < 0
  · refine ⟨(v.tmod n + n).toNat, by omega, fun w => ?_⟩
    go_enter Try.func10, Try.ntmps10
    go_wp2
    go_ret
    exact ⟨ret_int (by omega), rfl⟩
  · refine ⟨(v.tmod n).toNat, by omega, fun w => ?_⟩
    go_enter Try.func10, Try.ntmps10
    go_wp2
    go_ret
    exact ⟨ret_int (by omega), rfl⟩

end Go.Proofs.Ytiepkablapjpmaa
