/-
  The walk of GraphApart.
-/
import Derived.Test.YtdaagjpigcejaaaGrApart1
namespace Go.Proofs.Ytdaagjpigcejaaa
open Go.RowKit

set_option maxRecDepth 10000 in
set_option maxHeartbeats 4000000 in
theorem apart_any (a0 : Int) (_h0 : (Lit.int .i64 a0).wf = true) (w : World) : Calls Try.prog 5 #[.int .i64 a0] w fun e w' => e = .returned (.bool true) ∧ Below w.heap.size w w' := by
  obtain ⟨h, hh, HP0⟩ := place_ex a0 4 (by omega) (by omega)
  obtain ⟨S, hS, hok⟩ : ∃ S, S = ringM 4 5 6 ∧ specOk S := ⟨_, rfl, ring_ok 4 (by omega) (by omega) _ _ (by omega) (by omega) (by omega) (by omega)⟩
  have HR : ∀ W, Calls Try.prog 9 #[.int .i64 4, .int .i64 5, .int .i64 6] W fun e w' => ∃ v, e = .returned v ∧ OwnSpec w' W.heap.size v S ∧ Below W.heap.size W w' := fun W => by rw [hS]; exact ring_any 4 (by omega) (by omega) 5 6 W
  have HK : Hid (∀ A, arcsFine 4 A → specOk { S with arcs := A } ∧ ({ S with arcs := A } : SpecM).parties.length = 4 ∧ S.leaders = [0]) := fun A hA => by
    rw [hS]
    exact ⟨keyed_ok ringId 4 1 A [0] 5 6 (by unfold nameOk; decide) (by omega) (by omega) hA rfl (by omega) (by omega) (fun i hi => by
      have hi0 : i = 0 := by omega
      subst hi0
      exact ⟨by simp, by simp, fun k hk => absurd hk (by omega)⟩) (by omega) (by omega) (by omega) (by omega), ring_np5 4 5 6, rfl⟩
  clear hS hok _h0
  replace HR := hide HR
  replace HP0 := hide HP0
  have HAW : Hid (∀ W, Calls Try.prog 13 #[] W fun e w' => e = .returned (.bool true) ∧ Below W.heap.size W w') := awake5_any
  obtain ⟨g0, hg0⟩ : ∃ g, w.heap.size = g := ⟨_, rfl⟩
  rw [hg0]
  go_enter Try.func5, Try.ntmps5
  go_wp2_with fail
  refine (HR.out _).mono ?_
  rintro e w1 ⟨v, rfl, hO1, hb1⟩
  rw [hg0] at hO1 hb1
  obtain ⟨v1, v2, v3, v4, rfl, hP1, hA1, hI1, hK1⟩ := hO1
  have h7 : ∀ u, u.oneCell' = true → Seven (scells S.id v1 u v3 v4 S.start S.delta) := fun u hu => by
    refine ⟨rfl, fun x hx => ?_⟩
    simp [scells] at hx
    obtain ⟨_, _, hP1', _⟩ := hP1
    rcases hx with rfl | rfl | rfl | rfl | rfl | rfl | rfl
    · rfl
    · exact own_one hP1'
    · exact hu
    · exact own_one hI1
    · exact own_one hK1
    · rfl
    · rfl
  have h72 := h7 v2 (own_one hA1)
  go_wp2_with ((with_reducible refine wpList_at ?_); refine wpList_varS (by rfl) (by rfl) (by rfl) (.tmp 3) (.tmp 6) (by rfl) _ (by rfl) (by rfl) h72 ?_; intro w2 hv2 hz2 hb2)
  obtain ⟨g, hg⟩ : ∃ g, w1.heap.size = g := ⟨_, rfl⟩
  rw [hg] at hv2 hz2 ⊢
  have hgg : g0 ≤ g := by have := hb1.size; omega
  have hS2 : SAt w2 g S.id v1 v2 v3 v4 S.start S.delta := hv2
  have hB2 : Below g0 w w2 := hb1.trans (hb2.mono (by omega))
  have hP2 := hP1.below hb2
  have hI2 : OwnI w2 g0 v3 S.leaders := own_below hI1 hb2
  have hK2 := hK1.below hb2
  have h7' := hide h7
  clear hP1 hA1 hI1 hK1 hb1 hb2 hg h7 h72 HR hv2 hz2
  refine (HP0.out _).mono ?_
  rintro e w0 ⟨rfl, hw0⟩
  subst w0
  clear HP0
  have hcase : h = 0 ∨ h = 1 ∨ h = 2 ∨ h = 3 := by omega
  rcases hcase with rfl | rfl | rfl | rfl
  · have hal : Below w2.heap.size w2 (w2.alloc (.cells #[.int .i64 0, .int .i64 1, .int .i64 1, .int .i64 0, .int .i64 2, .int .i64 3, .int .i64 3, .int .i64 2] 3)) := (Below.refl _ _).alloc (Nat.le_refl _) _
    have hI : Ints (w2.alloc (.cells #[.int .i64 0, .int .i64 1, .int .i64 1, .int .i64 0, .int .i64 2, .int .i64 3, .int .i64 3, .int .i64 2] 3)) (some ⟨w2.heap.size, 0, none⟩) 8 [0, 1, 1, 0, 2, 3, 3, 2] := lit_ints (l := [0, 1, 1, 0, 2, 3, 3, 2]) (t := 3) (heap_alloc_new _ _) (by simp) (by decide)
    have HA := apart1_any (hS2.below hal) (some ⟨w2.heap.size, 0, none⟩) 8 8 4 [0, 1, 1, 0, 2, 3, 3, 2] hI rfl (by omega) (fun b o e => by injection e with e; injection e with e; have := hS2.lt; omega)
    replace HA := hide HA
    clear hI
    replace hal := hide hal
    go_wp2_with fail
    refine HA.out.mono ?_
    rintro e w5 ⟨⟨r, rfl⟩, u, hS5, hA5, hb5⟩
    have hSa := hS2.below hal.out
    have hP5 := (hP2.below hal.out).but hb5 hSa (by decide) (by decide)
    have hI5 : OwnI w5 g0 v3 S.leaders := World.ownsRow.kept (own_below hI2 hal.out) hb5.grown (row_apart (own_below hI2 hal.out) hSa (by decide))
    have hK5 := (hK2.below hal.out).but hb5 hSa (by decide)
    have hsz := hB2.size
    have hsa := hal.out.size
    have hB5 : Below g0 w w5 := (hB2.trans (hal.out.mono (by omega))).trans (hb5.below hgg (by omega))
    obtain ⟨hok, hn, hL⟩ := HK.out (pairsA [0, 1, 1, 0, 2, 3, 3, 2] 4) (@of_decide_eq_true _ (arcsFineDec _ _) (by decide +kernel))
    have hO5 : OwnSpec w5 g0 (.agg (scells S.id v1 u v3 v4 S.start S.delta)) { S with arcs := pairsA [0, 1, 1, 0, 2, 3, 3, 2] 4 } := ⟨v1, u, v3, v4, rfl, hP5, base_row hA5 (by omega), hI5, hK5⟩
    have hW5 := hO5.wide (SaneS.of_ok hok)
    have h75 := h7'.out u (own_one hA5)
    have r1 : strM { S with arcs := pairsA [0, 1, 1, 0, 2, 3, 3, 2] 4 } = false := by rw [strong_reckoned hok, hn]; show strongP 4 (pairsA [0, 1, 1, 0, 2, 3, 3, 2] 4) = _; decide +kernel
    have r2 : validM { S with arcs := pairsA [0, 1, 1, 0, 2, 3, 3, 2] 4 } = false := by rw [valid_reckoned hok, hn]; show (strongP 4 (pairsA [0, 1, 1, 0, 2, 3, 3, 2] 4) && fbP 4 (pairsA [0, 1, 1, 0, 2, 3, 3, 2] 4) S.leaders) = _; rw [hL]; decide +kernel
    have r3 : fbkM { S with arcs := pairsA [0, 1, 1, 0, 2, 3, 3, 2] 4 } = false := by rw [fb_reckoned hok, hn]; show fbP 4 (pairsA [0, 1, 1, 0, 2, 3, 3, 2] 4) S.leaders = _; rw [hL]; decide +kernel
    generalize ({ S with arcs := pairsA [0, 1, 1, 0, 2, 3, 3, 2] 4 } : SpecM) = S5 at hW5 r1 r2 r3
    have HA1 : Hid (∀ W, Below w5.heap.size w5 W → Calls Try.prog 11 #[.agg (scells S.id v1 u v3 v4 S.start S.delta)] W fun e w' => e = .returned (.bool false) ∧ Below W.heap.size W w') := fun W hW => by have h9 := pstrong_any (hW5.below hW); rw [r1] at h9; exact h9
    have HA2 : Hid (∀ W, Below w5.heap.size w5 W → Calls Try.prog 14 #[.agg (scells S.id v1 u v3 v4 S.start S.delta)] W fun e w' => e = .returned (.bool false) ∧ Below W.heap.size W w') := fun W hW => by have h9 := pvalid_any (hW5.below hW); rw [r2] at h9; exact h9
    have HA3 : Hid (∀ W, Below w5.heap.size w5 W → Calls Try.prog 12 #[.agg (scells S.id v1 u v3 v4 S.start S.delta)] W fun e w' => e = .returned (.bool false) ∧ Below W.heap.size W w') := fun W hW => by have h9 := pfeedback_any (hW5.below hW); rw [r3] at h9; exact h9
    have hv5 : SvAt w5 g (scells S.id v1 u v3 v4 S.start S.delta) := hS5
    clear hW5 hO5 r1 r2 r3 hok hn hL hP5 hI5 hK5 hA5 hS5 hb5 hSa HA hal hsz hsa hP2 hI2 hK2 hS2 hB2 HK h7'
    generalize scells S.id v1 u v3 v4 S.start S.delta = cs at hv5 h75 HA1 HA2 HA3
    have hR0 := Below.refl w5.heap.size w5
    go_wp2_with ((with_reducible refine wpList_at ?_); refine wpList_loadV (by rfl) (.tmp 3) (by rfl) _ cs (by rfl) hv5 h75 ?_)
    refine (HA1.out _ hR0).mono ?_
    rintro e w6 ⟨rfl, hb6⟩
    have hR6 := below_then hR0 hb6
    have hv6 := hv5.below hR6
    clear hb6 HA1
    go_wp2_with ((with_reducible refine wpList_at ?_); refine wpList_loadV (by rfl) (.tmp 3) (by rfl) _ cs (by rfl) hv6 h75 ?_)
    refine (HA2.out _ hR6).mono ?_
    rintro e w7 ⟨rfl, hb7⟩
    have hR7 := below_then hR6 hb7
    have hv7 := hv5.below hR7
    clear hb7 hv6 hR6 HA2
    go_wp2_with ((with_reducible refine wpList_at ?_); refine wpList_loadV (by rfl) (.tmp 3) (by rfl) _ cs (by rfl) hv7 h75 ?_)
    refine (HA3.out _ hR7).mono ?_
    rintro e w8 ⟨rfl, hb8⟩
    have hR8 := below_then hR7 hb8
    clear hb8 hv7 hR7 HA3
    go_wp2_with fail
    refine (HAW.out _).mono ?_
    rintro e w9 ⟨rfl, hb9⟩
    have hR9 := below_then hR8 hb9
    go_wp2
    go_ret
    exact ⟨rfl, hB5.trans (hR9.mono (by have := hB5.size; have := hv5.lt; omega))⟩
  · have hal : Below w2.heap.size w2 (w2.alloc (.cells #[.int .i64 0, .int .i64 1, .int .i64 1, .int .i64 2, .int .i64 2, .int .i64 0] 3)) := (Below.refl _ _).alloc (Nat.le_refl _) _
    have hI : Ints (w2.alloc (.cells #[.int .i64 0, .int .i64 1, .int .i64 1, .int .i64 2, .int .i64 2, .int .i64 0] 3)) (some ⟨w2.heap.size, 0, none⟩) 6 [0, 1, 1, 2, 2, 0] := lit_ints (l := [0, 1, 1, 2, 2, 0]) (t := 3) (heap_alloc_new _ _) (by simp) (by decide)
    have HA := apart1_any (hS2.below hal) (some ⟨w2.heap.size, 0, none⟩) 6 6 3 [0, 1, 1, 2, 2, 0] hI rfl (by omega) (fun b o e => by injection e with e; injection e with e; have := hS2.lt; omega)
    replace HA := hide HA
    clear hI
    replace hal := hide hal
    go_wp2_with fail
    refine HA.out.mono ?_
    rintro e w5 ⟨⟨r, rfl⟩, u, hS5, hA5, hb5⟩
    have hSa := hS2.below hal.out
    have hP5 := (hP2.below hal.out).but hb5 hSa (by decide) (by decide)
    have hI5 : OwnI w5 g0 v3 S.leaders := World.ownsRow.kept (own_below hI2 hal.out) hb5.grown (row_apart (own_below hI2 hal.out) hSa (by decide))
    have hK5 := (hK2.below hal.out).but hb5 hSa (by decide)
    have hsz := hB2.size
    have hsa := hal.out.size
    have hB5 : Below g0 w w5 := (hB2.trans (hal.out.mono (by omega))).trans (hb5.below hgg (by omega))
    obtain ⟨hok, hn, hL⟩ := HK.out (pairsA [0, 1, 1, 2, 2, 0] 3) (@of_decide_eq_true _ (arcsFineDec _ _) (by decide +kernel))
    have hO5 : OwnSpec w5 g0 (.agg (scells S.id v1 u v3 v4 S.start S.delta)) { S with arcs := pairsA [0, 1, 1, 2, 2, 0] 3 } := ⟨v1, u, v3, v4, rfl, hP5, base_row hA5 (by omega), hI5, hK5⟩
    have hW5 := hO5.wide (SaneS.of_ok hok)
    have h75 := h7'.out u (own_one hA5)
    have r1 : strM { S with arcs := pairsA [0, 1, 1, 2, 2, 0] 3 } = false := by rw [strong_reckoned hok, hn]; show strongP 4 (pairsA [0, 1, 1, 2, 2, 0] 3) = _; decide +kernel
    have r2 : validM { S with arcs := pairsA [0, 1, 1, 2, 2, 0] 3 } = false := by rw [valid_reckoned hok, hn]; show (strongP 4 (pairsA [0, 1, 1, 2, 2, 0] 3) && fbP 4 (pairsA [0, 1, 1, 2, 2, 0] 3) S.leaders) = _; rw [hL]; decide +kernel
    have r3 : fbkM { S with arcs := pairsA [0, 1, 1, 2, 2, 0] 3 } = true := by rw [fb_reckoned hok, hn]; show fbP 4 (pairsA [0, 1, 1, 2, 2, 0] 3) S.leaders = _; rw [hL]; decide +kernel
    generalize ({ S with arcs := pairsA [0, 1, 1, 2, 2, 0] 3 } : SpecM) = S5 at hW5 r1 r2 r3
    have HA1 : Hid (∀ W, Below w5.heap.size w5 W → Calls Try.prog 11 #[.agg (scells S.id v1 u v3 v4 S.start S.delta)] W fun e w' => e = .returned (.bool false) ∧ Below W.heap.size W w') := fun W hW => by have h9 := pstrong_any (hW5.below hW); rw [r1] at h9; exact h9
    have HA2 : Hid (∀ W, Below w5.heap.size w5 W → Calls Try.prog 14 #[.agg (scells S.id v1 u v3 v4 S.start S.delta)] W fun e w' => e = .returned (.bool false) ∧ Below W.heap.size W w') := fun W hW => by have h9 := pvalid_any (hW5.below hW); rw [r2] at h9; exact h9
    have HA3 : Hid (∀ W, Below w5.heap.size w5 W → Calls Try.prog 12 #[.agg (scells S.id v1 u v3 v4 S.start S.delta)] W fun e w' => e = .returned (.bool true) ∧ Below W.heap.size W w') := fun W hW => by have h9 := pfeedback_any (hW5.below hW); rw [r3] at h9; exact h9
    have hv5 : SvAt w5 g (scells S.id v1 u v3 v4 S.start S.delta) := hS5
    clear hW5 hO5 r1 r2 r3 hok hn hL hP5 hI5 hK5 hA5 hS5 hb5 hSa HA hal hsz hsa hP2 hI2 hK2 hS2 hB2 HK h7'
    generalize scells S.id v1 u v3 v4 S.start S.delta = cs at hv5 h75 HA1 HA2 HA3
    have hR0 := Below.refl w5.heap.size w5
    go_wp2_with ((with_reducible refine wpList_at ?_); refine wpList_loadV (by rfl) (.tmp 3) (by rfl) _ cs (by rfl) hv5 h75 ?_)
    refine (HA1.out _ hR0).mono ?_
    rintro e w6 ⟨rfl, hb6⟩
    have hR6 := below_then hR0 hb6
    have hv6 := hv5.below hR6
    clear hb6 HA1
    go_wp2_with ((with_reducible refine wpList_at ?_); refine wpList_loadV (by rfl) (.tmp 3) (by rfl) _ cs (by rfl) hv6 h75 ?_)
    refine (HA2.out _ hR6).mono ?_
    rintro e w7 ⟨rfl, hb7⟩
    have hR7 := below_then hR6 hb7
    have hv7 := hv5.below hR7
    clear hb7 hv6 hR6 HA2
    go_wp2_with ((with_reducible refine wpList_at ?_); refine wpList_loadV (by rfl) (.tmp 3) (by rfl) _ cs (by rfl) hv7 h75 ?_)
    refine (HA3.out _ hR7).mono ?_
    rintro e w8 ⟨rfl, hb8⟩
    have hR8 := below_then hR7 hb8
    clear hb8 hv7 hR7 HA3
    go_wp2_with fail
    refine (HAW.out _).mono ?_
    rintro e w9 ⟨rfl, hb9⟩
    have hR9 := below_then hR8 hb9
    go_wp2
    go_ret
    exact ⟨rfl, hB5.trans (hR9.mono (by have := hB5.size; have := hv5.lt; omega))⟩
  · have hal : Below w2.heap.size w2 (w2.alloc (.cells #[.int .i64 0, .int .i64 1, .int .i64 1, .int .i64 2, .int .i64 2, .int .i64 3, .int .i64 3, .int .i64 1] 3)) := (Below.refl _ _).alloc (Nat.le_refl _) _
    have hI : Ints (w2.alloc (.cells #[.int .i64 0, .int .i64 1, .int .i64 1, .int .i64 2, .int .i64 2, .int .i64 3, .int .i64 3, .int .i64 1] 3)) (some ⟨w2.heap.size, 0, none⟩) 8 [0, 1, 1, 2, 2, 3, 3, 1] := lit_ints (l := [0, 1, 1, 2, 2, 3, 3, 1]) (t := 3) (heap_alloc_new _ _) (by simp) (by decide)
    have HA := apart1_any (hS2.below hal) (some ⟨w2.heap.size, 0, none⟩) 8 8 4 [0, 1, 1, 2, 2, 3, 3, 1] hI rfl (by omega) (fun b o e => by injection e with e; injection e with e; have := hS2.lt; omega)
    replace HA := hide HA
    clear hI
    replace hal := hide hal
    go_wp2_with fail
    refine HA.out.mono ?_
    rintro e w5 ⟨⟨r, rfl⟩, u, hS5, hA5, hb5⟩
    have hSa := hS2.below hal.out
    have hP5 := (hP2.below hal.out).but hb5 hSa (by decide) (by decide)
    have hI5 : OwnI w5 g0 v3 S.leaders := World.ownsRow.kept (own_below hI2 hal.out) hb5.grown (row_apart (own_below hI2 hal.out) hSa (by decide))
    have hK5 := (hK2.below hal.out).but hb5 hSa (by decide)
    have hsz := hB2.size
    have hsa := hal.out.size
    have hB5 : Below g0 w w5 := (hB2.trans (hal.out.mono (by omega))).trans (hb5.below hgg (by omega))
    obtain ⟨hok, hn, hL⟩ := HK.out (pairsA [0, 1, 1, 2, 2, 3, 3, 1] 4) (@of_decide_eq_true _ (arcsFineDec _ _) (by decide +kernel))
    have hO5 : OwnSpec w5 g0 (.agg (scells S.id v1 u v3 v4 S.start S.delta)) { S with arcs := pairsA [0, 1, 1, 2, 2, 3, 3, 1] 4 } := ⟨v1, u, v3, v4, rfl, hP5, base_row hA5 (by omega), hI5, hK5⟩
    have hW5 := hO5.wide (SaneS.of_ok hok)
    have h75 := h7'.out u (own_one hA5)
    have r1 : strM { S with arcs := pairsA [0, 1, 1, 2, 2, 3, 3, 1] 4 } = false := by rw [strong_reckoned hok, hn]; show strongP 4 (pairsA [0, 1, 1, 2, 2, 3, 3, 1] 4) = _; decide +kernel
    have r2 : validM { S with arcs := pairsA [0, 1, 1, 2, 2, 3, 3, 1] 4 } = false := by rw [valid_reckoned hok, hn]; show (strongP 4 (pairsA [0, 1, 1, 2, 2, 3, 3, 1] 4) && fbP 4 (pairsA [0, 1, 1, 2, 2, 3, 3, 1] 4) S.leaders) = _; rw [hL]; decide +kernel
    have r3 : fbkM { S with arcs := pairsA [0, 1, 1, 2, 2, 3, 3, 1] 4 } = false := by rw [fb_reckoned hok, hn]; show fbP 4 (pairsA [0, 1, 1, 2, 2, 3, 3, 1] 4) S.leaders = _; rw [hL]; decide +kernel
    generalize ({ S with arcs := pairsA [0, 1, 1, 2, 2, 3, 3, 1] 4 } : SpecM) = S5 at hW5 r1 r2 r3
    have HA1 : Hid (∀ W, Below w5.heap.size w5 W → Calls Try.prog 11 #[.agg (scells S.id v1 u v3 v4 S.start S.delta)] W fun e w' => e = .returned (.bool false) ∧ Below W.heap.size W w') := fun W hW => by have h9 := pstrong_any (hW5.below hW); rw [r1] at h9; exact h9
    have HA2 : Hid (∀ W, Below w5.heap.size w5 W → Calls Try.prog 14 #[.agg (scells S.id v1 u v3 v4 S.start S.delta)] W fun e w' => e = .returned (.bool false) ∧ Below W.heap.size W w') := fun W hW => by have h9 := pvalid_any (hW5.below hW); rw [r2] at h9; exact h9
    have HA3 : Hid (∀ W, Below w5.heap.size w5 W → Calls Try.prog 12 #[.agg (scells S.id v1 u v3 v4 S.start S.delta)] W fun e w' => e = .returned (.bool false) ∧ Below W.heap.size W w') := fun W hW => by have h9 := pfeedback_any (hW5.below hW); rw [r3] at h9; exact h9
    have hv5 : SvAt w5 g (scells S.id v1 u v3 v4 S.start S.delta) := hS5
    clear hW5 hO5 r1 r2 r3 hok hn hL hP5 hI5 hK5 hA5 hS5 hb5 hSa HA hal hsz hsa hP2 hI2 hK2 hS2 hB2 HK h7'
    generalize scells S.id v1 u v3 v4 S.start S.delta = cs at hv5 h75 HA1 HA2 HA3
    have hR0 := Below.refl w5.heap.size w5
    go_wp2_with ((with_reducible refine wpList_at ?_); refine wpList_loadV (by rfl) (.tmp 3) (by rfl) _ cs (by rfl) hv5 h75 ?_)
    refine (HA1.out _ hR0).mono ?_
    rintro e w6 ⟨rfl, hb6⟩
    have hR6 := below_then hR0 hb6
    have hv6 := hv5.below hR6
    clear hb6 HA1
    go_wp2_with ((with_reducible refine wpList_at ?_); refine wpList_loadV (by rfl) (.tmp 3) (by rfl) _ cs (by rfl) hv6 h75 ?_)
    refine (HA2.out _ hR6).mono ?_
    rintro e w7 ⟨rfl, hb7⟩
    have hR7 := below_then hR6 hb7
    have hv7 := hv5.below hR7
    clear hb7 hv6 hR6 HA2
    go_wp2_with ((with_reducible refine wpList_at ?_); refine wpList_loadV (by rfl) (.tmp 3) (by rfl) _ cs (by rfl) hv7 h75 ?_)
    refine (HA3.out _ hR7).mono ?_
    rintro e w8 ⟨rfl, hb8⟩
    have hR8 := below_then hR7 hb8
    clear hb8 hv7 hR7 HA3
    go_wp2_with fail
    refine (HAW.out _).mono ?_
    rintro e w9 ⟨rfl, hb9⟩
    have hR9 := below_then hR8 hb9
    go_wp2
    go_ret
    exact ⟨rfl, hB5.trans (hR9.mono (by have := hB5.size; have := hv5.lt; omega))⟩
  · have hal : Below w2.heap.size w2 (w2.alloc (.cells #[.int .i64 0, .int .i64 1, .int .i64 1, .int .i64 2, .int .i64 2, .int .i64 3, .int .i64 3, .int .i64 0, .int .i64 2, .int .i64 0] 3)) := (Below.refl _ _).alloc (Nat.le_refl _) _
    have hI : Ints (w2.alloc (.cells #[.int .i64 0, .int .i64 1, .int .i64 1, .int .i64 2, .int .i64 2, .int .i64 3, .int .i64 3, .int .i64 0, .int .i64 2, .int .i64 0] 3)) (some ⟨w2.heap.size, 0, none⟩) 10 [0, 1, 1, 2, 2, 3, 3, 0, 2, 0] := lit_ints (l := [0, 1, 1, 2, 2, 3, 3, 0, 2, 0]) (t := 3) (heap_alloc_new _ _) (by simp) (by decide)
    have HA := apart1_any (hS2.below hal) (some ⟨w2.heap.size, 0, none⟩) 10 10 5 [0, 1, 1, 2, 2, 3, 3, 0, 2, 0] hI rfl (by omega) (fun b o e => by injection e with e; injection e with e; have := hS2.lt; omega)
    replace HA := hide HA
    clear hI
    replace hal := hide hal
    go_wp2_with fail
    refine HA.out.mono ?_
    rintro e w5 ⟨⟨r, rfl⟩, u, hS5, hA5, hb5⟩
    have hSa := hS2.below hal.out
    have hP5 := (hP2.below hal.out).but hb5 hSa (by decide) (by decide)
    have hI5 : OwnI w5 g0 v3 S.leaders := World.ownsRow.kept (own_below hI2 hal.out) hb5.grown (row_apart (own_below hI2 hal.out) hSa (by decide))
    have hK5 := (hK2.below hal.out).but hb5 hSa (by decide)
    have hsz := hB2.size
    have hsa := hal.out.size
    have hB5 : Below g0 w w5 := (hB2.trans (hal.out.mono (by omega))).trans (hb5.below hgg (by omega))
    obtain ⟨hok, hn, hL⟩ := HK.out (pairsA [0, 1, 1, 2, 2, 3, 3, 0, 2, 0] 5) (@of_decide_eq_true _ (arcsFineDec _ _) (by decide +kernel))
    have hO5 : OwnSpec w5 g0 (.agg (scells S.id v1 u v3 v4 S.start S.delta)) { S with arcs := pairsA [0, 1, 1, 2, 2, 3, 3, 0, 2, 0] 5 } := ⟨v1, u, v3, v4, rfl, hP5, base_row hA5 (by omega), hI5, hK5⟩
    have hW5 := hO5.wide (SaneS.of_ok hok)
    have h75 := h7'.out u (own_one hA5)
    have r1 : strM { S with arcs := pairsA [0, 1, 1, 2, 2, 3, 3, 0, 2, 0] 5 } = true := by rw [strong_reckoned hok, hn]; show strongP 4 (pairsA [0, 1, 1, 2, 2, 3, 3, 0, 2, 0] 5) = _; decide +kernel
    have r2 : validM { S with arcs := pairsA [0, 1, 1, 2, 2, 3, 3, 0, 2, 0] 5 } = true := by rw [valid_reckoned hok, hn]; show (strongP 4 (pairsA [0, 1, 1, 2, 2, 3, 3, 0, 2, 0] 5) && fbP 4 (pairsA [0, 1, 1, 2, 2, 3, 3, 0, 2, 0] 5) S.leaders) = _; rw [hL]; decide +kernel
    have r3 : fbkM { S with arcs := pairsA [0, 1, 1, 2, 2, 3, 3, 0, 2, 0] 5 } = true := by rw [fb_reckoned hok, hn]; show fbP 4 (pairsA [0, 1, 1, 2, 2, 3, 3, 0, 2, 0] 5) S.leaders = _; rw [hL]; decide +kernel
    generalize ({ S with arcs := pairsA [0, 1, 1, 2, 2, 3, 3, 0, 2, 0] 5 } : SpecM) = S5 at hW5 r1 r2 r3
    have HA1 : Hid (∀ W, Below w5.heap.size w5 W → Calls Try.prog 11 #[.agg (scells S.id v1 u v3 v4 S.start S.delta)] W fun e w' => e = .returned (.bool true) ∧ Below W.heap.size W w') := fun W hW => by have h9 := pstrong_any (hW5.below hW); rw [r1] at h9; exact h9
    have HA2 : Hid (∀ W, Below w5.heap.size w5 W → Calls Try.prog 14 #[.agg (scells S.id v1 u v3 v4 S.start S.delta)] W fun e w' => e = .returned (.bool true) ∧ Below W.heap.size W w') := fun W hW => by have h9 := pvalid_any (hW5.below hW); rw [r2] at h9; exact h9
    have HA3 : Hid (∀ W, Below w5.heap.size w5 W → Calls Try.prog 12 #[.agg (scells S.id v1 u v3 v4 S.start S.delta)] W fun e w' => e = .returned (.bool true) ∧ Below W.heap.size W w') := fun W hW => by have h9 := pfeedback_any (hW5.below hW); rw [r3] at h9; exact h9
    have hv5 : SvAt w5 g (scells S.id v1 u v3 v4 S.start S.delta) := hS5
    clear hW5 hO5 r1 r2 r3 hok hn hL hP5 hI5 hK5 hA5 hS5 hb5 hSa HA hal hsz hsa hP2 hI2 hK2 hS2 hB2 HK h7'
    generalize scells S.id v1 u v3 v4 S.start S.delta = cs at hv5 h75 HA1 HA2 HA3
    have hR0 := Below.refl w5.heap.size w5
    go_wp2_with ((with_reducible refine wpList_at ?_); refine wpList_loadV (by rfl) (.tmp 3) (by rfl) _ cs (by rfl) hv5 h75 ?_)
    refine (HA1.out _ hR0).mono ?_
    rintro e w6 ⟨rfl, hb6⟩
    have hR6 := below_then hR0 hb6
    have hv6 := hv5.below hR6
    clear hb6 HA1
    go_wp2_with ((with_reducible refine wpList_at ?_); refine wpList_loadV (by rfl) (.tmp 3) (by rfl) _ cs (by rfl) hv6 h75 ?_)
    refine (HA2.out _ hR6).mono ?_
    rintro e w7 ⟨rfl, hb7⟩
    have hR7 := below_then hR6 hb7
    have hv7 := hv5.below hR7
    clear hb7 hv6 hR6 HA2
    go_wp2_with ((with_reducible refine wpList_at ?_); refine wpList_loadV (by rfl) (.tmp 3) (by rfl) _ cs (by rfl) hv7 h75 ?_)
    refine (HA3.out _ hR7).mono ?_
    rintro e w8 ⟨rfl, hb8⟩
    have hR8 := below_then hR7 hb8
    clear hb8 hv7 hR7 HA3
    go_wp2_with fail
    refine (HAW.out _).mono ?_
    rintro e w9 ⟨rfl, hb9⟩
    have hR9 := below_then hR8 hb9
    go_wp2
    go_ret
    exact ⟨rfl, hB5.trans (hR9.mono (by have := hB5.size; have := hv5.lt; omega))⟩

end Go.Proofs.Ytdaagjpigcejaaa
