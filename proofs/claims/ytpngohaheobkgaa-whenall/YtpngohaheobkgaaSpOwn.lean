/-
  The program's Check of chapter 4: within, isName, isParty, digestsFit.
-/
import Derived.Test.YtpngohaheobkgaaSp
namespace Go.Proofs.Ytpngohaheobkgaa
open Go.RowKit

theorem told_congr {p q : Prop} (h : p ↔ q) : told p = told q := by
  by_cases hp : p
  · rw [told_yes hp, told_yes (h.1 hp)]
  · rw [told_no hp, told_no (fun k => hp (h.2 k))]

set_option maxHeartbeats 400000 in
theorem within_any (v a b : Int) (w : World) : Calls Try.prog 44 #[.int .i64 v, .int .i64 a, .int .i64 b] w fun e w' => e = .returned (.bool (told (a ≤ v ∧ v ≤ b))) ∧ w' = w := by
  obtain ⟨r, hr⟩ : ∃ r, told (a ≤ v ∧ v ≤ b) = r := ⟨_, rfl⟩
  have HR : Hid (told (a ≤ v ∧ v ≤ b) = r) := hr
  rw [hr]
  clear hr
  by_cases h1 : a ≤ v
  · by_cases h2 : v ≤ b
    · go_enter Try.func44, Try.ntmps44
      go_wp2
      go_ret
      exact ⟨ret_bool (by rw [← HR.out, told_yes ⟨h1, h2⟩]), rfl⟩
    · go_enter Try.func44, Try.ntmps44
      go_wp2
      go_ret
      exact ⟨ret_bool (by rw [← HR.out, told_no (fun h => by omega)]), rfl⟩
  · go_enter Try.func44, Try.ntmps44
    go_wp2
    go_ret
    exact ⟨ret_bool (by rw [← HR.out, told_no (fun h => by have := h.1; omega)]), rfl⟩

set_option maxHeartbeats 400000 in
theorem isname_any (s : ByteArray) (w : World) : Calls Try.prog 43 #[.string s] w fun e w' => e = .returned (.bool (told (nameOk s))) ∧ w' = w := by
  have HW := within_any (s.size : Int) 1 16 w
  rw [told_congr (q := nameOk s) (by unfold nameOk; omega)] at HW
  generalize told (nameOk s) = r at HW ⊢
  go_enter Try.func43, Try.ntmps43
  go_wp2_with fail
  refine HW.mono ?_
  rintro e w0 ⟨rfl, hw0⟩
  subst w0
  go_wp2
  go_ret
  exact ⟨rfl, rfl⟩

set_option maxHeartbeats 400000 in
theorem isparty_any {w : World} {a1 a2 a3 a4 : Option Addr} {c1 c2 c3 c4 : Nat} {s : SpecM} (hs : s.parties.length ≤ maxLen) (v : Int) :
    Calls Try.prog 77 #[.agg (cells7 a1 a2 a3 a4 c1 c2 c3 c4 s), .int .i64 v] w fun e w' => e = .returned (.bool (told (0 ≤ v ∧ v < (s.parties.length : Int)))) ∧ Below w.heap.size w w' := by
  have HW := fun W => within_any v 0 ((s.parties.length : Int) - 1) W
  simp only [told_congr (p := 0 ≤ v ∧ v ≤ (s.parties.length : Int) - 1) (q := 0 ≤ v ∧ v < (s.parties.length : Int)) (by omega)] at HW
  generalize told (0 ≤ v ∧ v < (s.parties.length : Int)) = r at HW ⊢
  unfold maxLen at hs
  generalize hg : w.heap.size = g
  go_enter Try.func77, Try.ntmps77
  go_wp2_with ((with_reducible refine wpList_at ?_); refine wpList_boxv (by rfl) 27 (.tmp 0) (by rfl) _ (by rfl) ?_; rw [hg]; intro w1 hg1 hz1 hb1; obtain ⟨q0, q1, q2, q3, q4, q5, q6⟩ := cells7_at hg1)
  refine (HW w1).mono ?_
  rintro e w0 ⟨rfl, hw0⟩
  subst w0
  go_wp2
  go_ret
  exact ⟨rfl, hb1⟩

def digestsOk (l : List ByteArray) (n : Nat) (z : Nat) : Prop := l.length = n ∧ ∀ k, k < l.length → (l.getD k ByteArray.empty).size = z

set_option maxHeartbeats 400000 in
theorem digests_any {w : World} {a : Option Addr} {c : Nat} {l : List ByteArray} (hl : Strs w a l.length l) (n z : Nat) (hn : n ≤ maxLen) :
    Calls Try.prog 74 #[.slice a l.length c, .int .i64 n, .int .i64 z] w fun e w' => e = .returned (.bool (told (digestsOk l n z))) ∧ w' = w := by
  obtain ⟨r, hr⟩ : ∃ r, told (digestsOk l n z) = r := ⟨_, rfl⟩
  have HR : Hid (told (digestsOk l n z) = r) := hr
  rw [hr]
  clear hr
  have hm := hl.2.1
  unfold maxLen at hm hn
  have HL : Hid (Strs w a l.length l) := hl
  clear hl
  by_cases h1 : l.length ≠ n
  · have h1' : ((l.length : Int) != (n : Int)) = true := nat_ne h1
    go_enter Try.func74, Try.ntmps74
    go_wp2
    go_ret
    exact ⟨ret_bool (by rw [← HR.out, told_no (fun h => by have := h.1; omega)]), rfl⟩
  have h1e : l.length = n := by omega
  have h1' : ((l.length : Int) != (n : Int)) = false := nat_same h1e
  go_enter Try.func74, Try.ntmps74
  go_wp2
  go_loopw [15] (fun i wr => ∃ k : Nat, k ≤ l.length ∧ i = .int .i64 k ∧ Hid (∀ j, j < k → (l.getD j ByteArray.empty).size = z) ∧ wr = w) (fun i _ => l.length - (intOf i).toNat)
  case atStart => exact ⟨0, by omega, rfl, fun j hj => absurd hj (by omega), rfl⟩
  case round =>
    obtain ⟨i, hi, rfl, HO, rfl⟩ := hrel
    by_cases hlt : i < l.length
    · have i1 : (i : Int) < (l.length : Int) := by omega
      obtain ⟨b, o, rfl, d⟩ := HL.out.2.2.2 i hlt
      obtain ⟨x, hx⟩ : ∃ x, l.getD i ByteArray.empty = x := ⟨_, rfl⟩
      rw [hx] at d
      have HX : Hid (l.getD i ByteArray.empty = x) := hx
      clear hx
      by_cases x1 : x.size ≠ z
      · have x1' : ((x.size : Int) != (z : Int)) = true := nat_ne x1
        go_wp2
        go_ret
        exact ⟨ret_bool (by rw [← HR.out, told_no (fun h => x1 (by rw [← HX.out]; exact h.2 i hlt))]), rfl⟩
      have x1e : x.size = z := by omega
      have x1' : ((x.size : Int) != (z : Int)) = false := nat_same x1e
      go_wp2
      go_roundw
      case rel =>
        refine ⟨i + 1, by omega, by go_num, fun j hj => ?_, trivial⟩
        by_cases hj' : j < i
        · exact HO.out j hj'
        · have : j = i := by omega
          subst this; rw [HX.out]; exact x1e
      case measure => simp [intOf]; omega
    · have i1 : ¬ (i : Int) < (l.length : Int) := by omega
      go_wp2
      go_ret
      exact ⟨ret_bool (by rw [← HR.out, told_yes ⟨h1e, fun k hk => HO.out k (by omega)⟩]), rfl⟩

end Go.Proofs.Ytpngohaheobkgaa
