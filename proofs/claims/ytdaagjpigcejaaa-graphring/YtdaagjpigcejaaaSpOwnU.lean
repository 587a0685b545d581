/-
  The program's unlike, at numbers, parties, arcs.
-/
import Derived.Test.YtdaagjpigcejaaaZ02
import Derived.BigQuiet
import Derived.Deep.QuietTactic
import Derived.Deep.RegionHeld3
import Derived.Handy
import Derived.Deep.CutBlock
import Derived.Deep.CutRange
namespace Go.Proofs.Ytdaagjpigcejaaa
open Go.RowKit

def unlikeOk {α : Type} (n : Nat) (f : Nat → α) : Prop := ∀ i, i < n → ∀ k, k < i → f k ≠ f i

set_option maxHeartbeats 400000 in
theorem mark_int (v : Int) (w : World) : Calls Try.prog 68 #[.int .i64 v] w fun e w' => e = .returned (.int .i64 v) ∧ w' = w := by
  go_enter Try.func68, Try.ntmps68
  go_wp2
  go_ret
  exact ⟨rfl, rfl⟩

set_option maxHeartbeats 400000 in
theorem mark_party (x : ByteArray) (a : Option Addr) (n c : Nat) (w : World) : Calls Try.prog 65 #[.agg #[.string x, .slice a n c]] w fun e w' => e = .returned (.string x) ∧ Below w.heap.size w w' := by
  go_enter Try.func65, Try.ntmps65
  go_wp2
  go_ret
  exact ⟨rfl, (Below.refl _ _).alloc (Nat.le_refl _) _⟩

set_option maxHeartbeats 400000 in
theorem mark_arc (f t l m : Int) (x : ByteArray) (w : World) : Calls Try.prog 71 #[.agg #[.int .i64 f, .int .i64 t, .int .i64 l, .string x, .int .i64 m]] w fun e w' => e = .returned (.agg #[.int .i64 f, .int .i64 t]) ∧ Below w.heap.size w w' := by
  go_enter Try.func71, Try.ntmps71
  go_wp2
  go_returns
  exact ⟨rfl, ((Below.refl _ _).alloc (Nat.le_refl _) _).alloc (by simp) _⟩

set_option maxRecDepth 10000 in
set_option maxHeartbeats 1000000 in
theorem unlike_int {w : World} {a : Option Addr} {c : Nat} {l : List Int} (h : Ints w a l.length l) (hc : l.length ≤ c) (hcm : c ≤ maxLen) :
    Calls Try.prog 67 #[.slice a l.length c, .func (.func 68) #[] #[]] w fun e w' => e = .returned (.bool (told (unlikeOk l.length (fun i => l.getD i 0)))) ∧ w' = w := by
  obtain ⟨r, hr⟩ : ∃ r, told (unlikeOk l.length (fun i => l.getD i 0)) = r := ⟨_, rfl⟩
  have HR : Hid (told (unlikeOk l.length (fun i => l.getD i 0)) = r) := hr
  rw [hr]
  clear hr
  have HL : Hid (Ints w a l.length l) := h
  unfold maxLen at hcm
  have HM : Hid (∀ v W, Calls Try.prog 68 #[.int .i64 v] W fun e w' => e = .returned (.int .i64 v) ∧ w' = W) := fun v W => mark_int v W
  clear h
  go_enter Try.func67, Try.ntmps67
  go_wp2
  go_loopw [11] (fun i wr => ∃ k : Nat, k ≤ l.length ∧ i = .int .i64 k ∧ Hid (∀ i, i < k → ∀ j, j < i → l.getD j 0 ≠ l.getD i 0) ∧ wr = w) (fun i _ => l.length - (intOf i).toNat)
  case atStart => exact ⟨0, by omega, rfl, fun j hj => absurd hj (by omega), rfl⟩
  case round =>
    obtain ⟨i, hi, rfl, HO, rfl⟩ := hrel
    by_cases hlt : i < l.length
    · have i1 : (i : Int) < (l.length : Int) := by omega
      obtain ⟨b, o, rfl, d⟩ := HL.out.2.2.2 i hlt
      obtain ⟨x, hx⟩ : ∃ x, l.getD i 0 = x := ⟨_, rfl⟩
      rw [hx] at d
      have HX : Hid (l.getD i 0 = x) := hx
      clear hx
      have ic : ¬ ((c : Int) < (i : Int)) := by omega
      go_wp2
      go_loopw [20] (fun k ws => ∃ j : Nat, j ≤ i ∧ k = .int .i64 j ∧ Hid (∀ m, m < j → l.getD m 0 ≠ x) ∧ ws = wr) (fun k _ => i - (intOf k).toNat)
      case atStart => exact ⟨0, by omega, rfl, fun j hj => absurd hj (by omega), rfl⟩
      case round =>
        clear d
        obtain ⟨j, hj, rfl, HJ, rfl⟩ := hrel
        by_cases hjt : j < i
        · have j1 : (j : Int) < (i : Int) := by omega
          have d := HL.out.get j (by omega)
          obtain ⟨y, hy⟩ : ∃ y, l.getD j 0 = y := ⟨_, rfl⟩
          rw [hy] at d
          have HY : Hid (l.getD j 0 = y) := hy
          clear hy
          go_wp2_with fail
          refine (HM.out y _).mono ?_
          rintro e w0 ⟨rfl, hw0⟩
          subst w0
          go_wp2_with fail
          refine (HM.out x _).mono ?_
          rintro e w0 ⟨rfl, hw0⟩
          subst w0
          by_cases hxy : y = x
          · have hxy' : (y == x) = true := by rw [beq_iff_eq]; exact hxy
            go_wp2
            go_ret
            exact ⟨ret_bool (by rw [← HR.out, told_no (fun h => h i hlt j hjt (by show l.getD j 0 = l.getD i 0; rw [HX.out, HY.out, hxy]))]), rfl⟩
          · have hxy' : (y == x) = false := by rw [beq_eq_false_iff_ne]; exact hxy
            go_wp2
            go_roundw
            case rel =>
              refine ⟨j + 1, by omega, by go_num, fun m hm => ?_, trivial⟩
              by_cases hm' : m < j
              · exact HJ.out m hm'
              · have : m = j := by omega
                subst this; rw [HY.out]; exact hxy
            case measure => simp [intOf]; omega
        · have j1 : ¬ (j : Int) < (i : Int) := by omega
          have he : j = i := by omega
          go_wp2
          go_roundw
          case rel =>
            refine ⟨i + 1, by omega, by go_num, fun m hm k hk => ?_, trivial⟩
            by_cases hm' : m < i
            · exact HO.out m hm' k hk
            · have : m = i := by omega
              subst this; rw [HX.out]; exact HJ.out k (by omega)
          case measure => simp [intOf]; omega
    · have i1 : ¬ (i : Int) < (l.length : Int) := by omega
      go_wp2
      go_ret
      exact ⟨ret_bool (by rw [← HR.out, told_yes (p := unlikeOk l.length (fun i => l.getD i 0)) (fun m hm k hk => HO.out m (by omega) k hk)]), rfl⟩

end Go.Proofs.Ytdaagjpigcejaaa
