/-
  Chapter 6's own example (awake); the walk of WhenNone.
-/
import Derived.Test.YtpngohaheobkgaaWh3
import Derived.Test.YtpngohaheobkgaaZ00
import Derived.Test.YtpngohaheobkgaaSpQ
namespace Go.Proofs.Ytpngohaheobkgaa
open Go.RowKit

theorem noSpec_bad6 : ¬ specOk noSpec := fun h => by have : 1 ≤ (0 : Nat) := h.1.1; omega
theorem end_none (w : World) : Calls Try.prog 14 #[.agg #[.string ⟨#[]⟩, .slice none 0 0, .slice none 0 0, .slice none 0 0, .slice none 0 0, .int .i64 0, .int .i64 0]] w fun e w' => e = .returned (.int .i64 0) ∧ Below w.heap.size w w' :=
  when_end (no_spec w) (by decide) 0 (fun h => absurd h noSpec_bad6) (fun _ => rfl)
theorem ring_np (n : Nat) (st de : Int) : (ringM n st de).parties.length = n := by
  show (withKeys (accs n) 1).length = n
  rw [withKeys_len, accs_len]

set_option maxRecDepth 10000 in
set_option maxHeartbeats 2000000 in
theorem awake6_any (w : World) : Calls Try.prog 9 #[] w fun e w' => e = .returned (.bool true) ∧ Below w.heap.size w w' := by
  obtain ⟨S, hS, hok⟩ : ∃ S, S = ringM 3 10 5 ∧ specOk S := ⟨_, rfl, ring_ok 3 (by omega) (by omega) 10 5 (by omega) (by omega) (by omega) (by omega)⟩
  have HR : ∀ W, Calls Try.prog 28 #[.int .i64 3, .int .i64 10, .int .i64 5] W fun e w' => ∃ v, e = .returned v ∧ OwnSpec w' W.heap.size v S ∧ Below W.heap.size W w' := fun W => by rw [hS]; exact ring_any 3 (by omega) (by omega) 10 5 W
  have hsane := SaneS.of_ok hok
  have hn : S.parties.length = 3 := by rw [hS, ring_np]
  have hT : [25, 30, 35] = tableL S := by unfold tableL; rw [hn, hS]; unfold deadM; simp only [ring_np]; rfl
  have hE : (40 : Int) = endM S := by unfold endM; rw [hn, hS]; rfl
  have hD : (30 : Int) = deadM S 2 := by unfold deadM; rw [hn, hS]; rfl
  have hL : (35 : Int) = deadM S (S.parties.length : Int) := by unfold deadM; rw [hn, hS]; rfl
  have HTab : Hid (∀ W v, SpecW W v S → Calls Try.prog 17 #[v] W fun e w' => ∃ a c, e = .returned (.slice a 3 c) ∧ Ints w' a 3 [25, 30, 35] ∧ Below W.heap.size W w') := fun W v hv => when_table hv [25, 30, 35] (fun _ => hT) (fun h => absurd hok h)
  have HEnd : Hid (∀ W v, SpecW W v S → Calls Try.prog 14 #[v] W fun e w' => e = .returned (.int .i64 40) ∧ Below W.heap.size W w') := fun W v hv => when_end hv (by omega) 40 (fun _ => hE) (fun h => absurd hok h)
  have HLast : Hid (∀ W v, SpecW W v S → Calls Try.prog 12 #[v] W fun e w' => e = .returned (.int .i64 35) ∧ Below W.heap.size W w') := fun W v hv => when_last hv 35 (fun _ => hL) (fun h => absurd hok h)
  have HDead : Hid (∀ W v, SpecW W v S → Calls Try.prog 10 #[v, .int .i64 2] W fun e w' => e = .returned (.int .i64 30) ∧ Below W.heap.size W w') := fun W v hv => when_dead hv 2 30 (fun _ => hD) (fun h => absurd hok h)
  clear hS hn hT hE hD hL
  go_enter Try.func9, Try.ntmps9
  go_wp2_with fail
  refine (HR _).mono ?_
  rintro e w1 ⟨v, rfl, hO1, hb1⟩
  have hW1 := hO1.wide hsane
  obtain ⟨cs, rfl, h7⟩ := hW1.seven
  clear hO1 HR
  go_wp2_with (first
    | ((with_reducible refine wpList_at ?_); refine wpList_varS (by rfl) (by rfl) (by rfl) (.tmp 1) (.tmp 3) (by rfl) cs (by rfl) (by rfl) h7 ?_; intro w2 hv2 hz2 hb2)
    | ((with_reducible refine wpList_at ?_); refine wpList_loadV (by rfl) (.tmp 1) (by rfl) _ cs (by rfl) hv2 h7 ?_))
  have hW2 := hW1.below hb2
  have hB2 := below_then hb1 hb2
  generalize w1.heap.size = g1 at hv2 hz2 ⊢
  refine (HTab.out _ _ hW2).mono ?_
  rintro e w3 ⟨a, c, rfl, hI3, hb3⟩
  have hB3 := below_then hB2 hb3
  have hW3 := hW2.below hb3
  have hv3 := hv2.below hb3
  obtain ⟨b, o, rfl, i0⟩ := hI3.2.2.2 0 (by omega)
  obtain ⟨b', o', hbo, i2⟩ := hI3.2.2.2 2 (by omega)
  injection hbo with hbo
  injection hbo with hbo1 hbo2
  subst hbo1 hbo2
  have i0' : w3.cell? ⟨b, o, none⟩ = some (.int .i64 25) := i0
  have i2' : w3.cell? ⟨b, o + 2, none⟩ = some (.int .i64 35) := i2
  clear hI3 i0 i2 hW2 hv2 hz2 hb1 hb2 hB2 HTab hW1 hb3
  go_wp2_with ((with_reducible refine wpList_at ?_); refine wpList_loadV (by rfl) (.tmp 1) (by rfl) _ cs (by rfl) hv3 h7 ?_)
  refine (HEnd.out _ _ hW3).mono ?_
  rintro e w4 ⟨rfl, hb4⟩
  have hB4 := below_then hB3 hb4
  have hW4 := hW3.below hb4
  have hv4 := hv3.below hb4
  clear i0' i2' hW3 hv3 hB3 hb4 HEnd
  go_wp2_with ((with_reducible refine wpList_at ?_); refine wpList_loadV (by rfl) (.tmp 1) (by rfl) _ cs (by rfl) hv4 h7 ?_)
  refine (HLast.out _ _ hW4).mono ?_
  rintro e w5 ⟨rfl, hb5⟩
  have hB5 := below_then hB4 hb5
  have hW5 := hW4.below hb5
  have hv5 := hv4.below hb5
  clear hW4 hv4 hB4 hb5 HLast
  go_wp2_with ((with_reducible refine wpList_at ?_); refine wpList_loadV (by rfl) (.tmp 1) (by rfl) _ cs (by rfl) hv5 h7 ?_)
  refine (HDead.out _ _ hW5).mono ?_
  rintro e w6 ⟨rfl, hb6⟩
  have hB6 := below_then hB5 hb6
  clear hW5 hv5 hB5 hb6 HDead
  go_wp2_with fail
  refine (end_none _).mono ?_
  rintro e w7 ⟨rfl, hb7⟩
  have hB7 := below_then hB6 hb7
  go_wp2
  go_ret
  exact ⟨rfl, hB7⟩

end Go.Proofs.Ytpngohaheobkgaa
