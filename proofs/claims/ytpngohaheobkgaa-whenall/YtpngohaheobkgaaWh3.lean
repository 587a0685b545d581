/-
  Package when: Deadline, Last, End, Table. Chapter 6's own answers.
-/
import Derived.Test.YtpngohaheobkgaaWh2
import Derived.Test.YtpngohaheobkgaaSpRefS
namespace Go.Proofs.Ytpngohaheobkgaa
open Go.RowKit

/-- A swap's value as seven cells. -/
theorem SpecW.laid {w : World} {v : Value} {s : SpecM} (h : SpecW w v s) : ∃ a1 a2 a3 a4 c1 c2 c3 c4, v = .agg (cells7 a1 a2 a3 a4 c1 c2 c3 c4 s) := by
  obtain ⟨a1, a2, a3, a4, c1, c2, c3, c4, h1, _⟩ := h
  exact ⟨a1, a2, a3, a4, c1, c2, c3, c4, h1⟩
theorem dead_range {s : SpecM} (T : Timely s) (k : Int) : 0 ≤ deadM s k ∧ deadM s k ≤ 1099524210688 := by
  have n6 := T.n6
  obtain ⟨m0, m1⟩ := clamp_range s.parties.length k (by have := T.n2; omega)
  have h1 := T.prod ((s.parties.length : Int) + clampM s.parties.length k - 1) (by omega) (by omega)
  have h2 := T.s0
  have h3 := T.s1
  unfold deadM
  omega
theorem table_in {s : SpecM} (T : Timely s) : ∀ j, j < (tableL s).length → In64 ((tableL s).getD j 0) := fun j hj => by
  rw [tableL_get s j (by rw [tableL_len] at hj; exact hj)]
  have := dead_range T ((j : Int) + 1)
  unfold In64
  omega

set_option maxRecDepth 10000 in
set_option maxHeartbeats 1000000 in
theorem tell_dead {w : World} {v : Value} {s : SpecM} (hv : SpecW w v s) (k r : Int) (h1 : specOk s → r = deadM s k) (h2 : ¬ specOk s → r = 0) :
    Calls Try.prog 29 #[v, .func (.func 30) #[] #[], .int .i64 k] w fun e w' => e = .returned (.int .i64 r) ∧ Below w.heap.size w w' := by
  obtain ⟨cs, rfl, h7⟩ := hv.seven
  obtain ⟨g, hg⟩ : ∃ g, w.heap.size = g := ⟨_, rfl⟩
  have HC := fun W (h : Below w.heap.size w W) => check_spec (hv.below h)
  replace HC := hide HC
  have HD : Hid (specOk s → ∀ W, Calls Try.prog 30 #[.agg cs, .int .i64 k] W fun e w' => e = .returned (.int .i64 r) ∧ Below W.heap.size W w') := fun h W => by
    obtain ⟨a1, a2, a3, a4, c1, c2, c3, c4, hcs⟩ := hv.laid
    injection hcs with hcs
    rw [hcs]
    rw [h1 h]; exact deadline_any (Timely.of_ok h) k
  replace h2 := hide h2
  clear h1 hv
  go_enter Try.func29, Try.ntmps29
  go_wp2_with (first
    | ((with_reducible refine wpList_at ?_); refine wpList_boxv (by rfl) 27 (.tmp 0) (by rfl) _ (by rfl) ?_; rw [hg]; intro w1 hu1 hz1 hb1; have hx1 : SvAt w1 g cs := hu1; clear hu1)
    | ((with_reducible refine wpList_at ?_); refine wpList_loadV (by rfl) (.tmp 3) (by rfl) _ cs (by rfl) hx1 h7 ?_))
  refine (HC.out _ (by rw [hg]; exact hb1)).mono ?_
  rintro e w2 ⟨rfl, hb2⟩
  have hx2 := hx1.below hb2
  have hB2 : Below g w w2 := hb1.trans (hb2.mono (by omega))
  clear hz1 hx1 HC hb1 hb2
  by_cases hok : specOk s
  · rw [told_yes hok]
    have HX := hide (HD.out hok w2)
    clear HD h2
    go_wp2_with ((with_reducible refine wpList_at ?_); refine wpList_loadV (by rfl) (.tmp 3) (by rfl) _ cs (by rfl) hx2 h7 ?_)
    refine HX.out.mono ?_
    rintro e w3 ⟨rfl, hb3⟩
    go_wp2
    go_ret
    rw [hg]
    exact ⟨rfl, hB2.trans (hb3.mono (by have := hx2.lt; omega))⟩
  · rw [told_no hok]
    have HZ := hide (h2.out hok)
    clear HD h2
    go_wp2
    go_ret
    rw [hg]
    exact ⟨ret_int HZ.out.symm, hB2⟩

set_option maxRecDepth 10000 in
set_option maxHeartbeats 1000000 in
theorem tell_after {w : World} {v : Value} {s : SpecM} (hv : SpecW w v s) (k r : Int) (h1 : specOk s → r = s.start + k * s.delta ∧ 0 ≤ k ∧ k ≤ 12) (h2 : ¬ specOk s → r = 0) :
    Calls Try.prog 29 #[v, .func (.func 32) #[] #[], .int .i64 k] w fun e w' => e = .returned (.int .i64 r) ∧ Below w.heap.size w w' := by
  obtain ⟨cs, rfl, h7⟩ := hv.seven
  obtain ⟨g, hg⟩ : ∃ g, w.heap.size = g := ⟨_, rfl⟩
  have HC := fun W (h : Below w.heap.size w W) => check_spec (hv.below h)
  replace HC := hide HC
  have HD : Hid (specOk s → ∀ W, Calls Try.prog 32 #[.agg cs, .int .i64 k] W fun e w' => e = .returned (.int .i64 r) ∧ Below W.heap.size W w') := fun h W => by
    obtain ⟨a1, a2, a3, a4, c1, c2, c3, c4, hcs⟩ := hv.laid
    injection hcs with hcs
    rw [hcs]
    obtain ⟨h3, h4, h5⟩ := h1 h; rw [h3]; exact after_any (Timely.of_ok h) k h4 h5
  replace h2 := hide h2
  clear h1 hv
  go_enter Try.func29, Try.ntmps29
  go_wp2_with (first
    | ((with_reducible refine wpList_at ?_); refine wpList_boxv (by rfl) 27 (.tmp 0) (by rfl) _ (by rfl) ?_; rw [hg]; intro w1 hu1 hz1 hb1; have hx1 : SvAt w1 g cs := hu1; clear hu1)
    | ((with_reducible refine wpList_at ?_); refine wpList_loadV (by rfl) (.tmp 3) (by rfl) _ cs (by rfl) hx1 h7 ?_))
  refine (HC.out _ (by rw [hg]; exact hb1)).mono ?_
  rintro e w2 ⟨rfl, hb2⟩
  have hx2 := hx1.below hb2
  have hB2 : Below g w w2 := hb1.trans (hb2.mono (by omega))
  clear hz1 hx1 HC hb1 hb2
  by_cases hok : specOk s
  · rw [told_yes hok]
    have HX := hide (HD.out hok w2)
    clear HD h2
    go_wp2_with ((with_reducible refine wpList_at ?_); refine wpList_loadV (by rfl) (.tmp 3) (by rfl) _ cs (by rfl) hx2 h7 ?_)
    refine HX.out.mono ?_
    rintro e w3 ⟨rfl, hb3⟩
    go_wp2
    go_ret
    rw [hg]
    exact ⟨rfl, hB2.trans (hb3.mono (by have := hx2.lt; omega))⟩
  · rw [told_no hok]
    have HZ := hide (h2.out hok)
    clear HD h2
    go_wp2
    go_ret
    rw [hg]
    exact ⟨ret_int HZ.out.symm, hB2⟩

set_option maxRecDepth 10000 in
set_option maxHeartbeats 1000000 in
theorem tell_table {w : World} {v : Value} {s : SpecM} (hv : SpecW w v s) (k : Int) (L : List Int) (h1 : specOk s → k = (s.parties.length : Int) ∧ L = tableL s) (h2 : ¬ specOk s → L = []) :
    Calls Try.prog 33 #[v, .func (.func 34) #[] #[], .int .i64 k] w fun e w' => ∃ a c, e = .returned (.slice a L.length c) ∧ Ints w' a L.length L ∧ Below w.heap.size w w' := by
  obtain ⟨cs, rfl, h7⟩ := hv.seven
  obtain ⟨g, hg⟩ : ∃ g, w.heap.size = g := ⟨_, rfl⟩
  have HC := fun W (h : Below w.heap.size w W) => check_spec (hv.below h)
  replace HC := hide HC
  have HD : Hid (specOk s → ∀ W, Calls Try.prog 34 #[.agg cs, .int .i64 k] W fun e w' => ∃ a c, e = .returned (.slice a L.length c) ∧ Ints w' a L.length L ∧ Below W.heap.size W w') := fun h W => by
    obtain ⟨a1, a2, a3, a4, c1, c2, c3, c4, hcs⟩ := hv.laid
    injection hcs with hcs
    rw [hcs]
    obtain ⟨h3, h4⟩ := h1 h
    rw [h3, h4]
    have T := Timely.of_ok h
    refine (deadlines_any T).mono ?_
    rintro e w' ⟨g', rfl, hc, hb⟩
    have n6 := T.n6
    exact ⟨_, _, by rw [tableL_len], cells_ints6 hc (by rw [tableL_len]; omega) (table_in T), hb⟩
  replace h2 := hide h2
  clear h1 hv
  go_enter Try.func33, Try.ntmps33
  go_wp2_with (first
    | ((with_reducible refine wpList_at ?_); refine wpList_boxv (by rfl) 27 (.tmp 0) (by rfl) _ (by rfl) ?_; rw [hg]; intro w1 hu1 hz1 hb1; have hx1 : SvAt w1 g cs := hu1; clear hu1)
    | ((with_reducible refine wpList_at ?_); refine wpList_loadV (by rfl) (.tmp 3) (by rfl) _ cs (by rfl) hx1 h7 ?_))
  refine (HC.out _ (by rw [hg]; exact hb1)).mono ?_
  rintro e w2 ⟨rfl, hb2⟩
  have hx2 := hx1.below hb2
  have hB2 : Below g w w2 := hb1.trans (hb2.mono (by omega))
  clear hz1 hx1 HC hb1 hb2
  by_cases hok : specOk s
  · rw [told_yes hok]
    have HX := hide (HD.out hok w2)
    clear HD h2
    go_wp2_with ((with_reducible refine wpList_at ?_); refine wpList_loadV (by rfl) (.tmp 3) (by rfl) _ cs (by rfl) hx2 h7 ?_)
    refine HX.out.mono ?_
    rintro e w3 ⟨a, c, rfl, hI3, hb3⟩
    go_wp2
    go_ret
    rw [hg]
    exact ⟨a, c, rfl, hI3, hB2.trans (hb3.mono (by have := hx2.lt; omega))⟩
  · rw [told_no hok]
    have HZ := hide (h2.out hok)
    clear HD h2
    go_wp2
    go_ret
    rw [hg]
    exact ⟨none, 0, by rw [HZ.out]; rfl, by rw [HZ.out]; exact ints_nil _, hB2⟩

theorem SpecV.np {w : World} {v : Value} {s : SpecM} (h : SpecV w v s) : s.parties.length ≤ maxLen := by
  obtain ⟨_, _, _, _, _, _, _, _, _, L⟩ := h
  exact L.parties.1

set_option maxRecDepth 10000 in
set_option maxHeartbeats 1000000 in
theorem when_dead {w : World} {v : Value} {s : SpecM} (hv : SpecW w v s) (k r : Int) (h1 : specOk s → r = deadM s k) (h2 : ¬ specOk s → r = 0) :
    Calls Try.prog 10 #[v, .int .i64 k] w fun e w' => e = .returned (.int .i64 r) ∧ Below w.heap.size w w' := by
  obtain ⟨cs, rfl, h7⟩ := hv.seven
  obtain ⟨g, hg⟩ : ∃ g, w.heap.size = g := ⟨_, rfl⟩
  have HT := fun W (h : Below w.heap.size w W) => tell_dead (hv.below h) k r h1 h2
  replace HT := hide HT
  have HX : Hid (∀ W, SvAt W g cs → ∃ a c, W.cell? ⟨g, 1, none⟩ = some (.slice a s.parties.length c)) := fun W hW => by
    obtain ⟨a1, a2, a3, a4, k1, k2, k3, k4, hcs⟩ := hv.laid
    injection hcs with hcs
    have h9 : W.heap[g]? = some (.cells (cells7 a1 a2 a3 a4 k1 k2 k3 k4 s) 27 (0, 0)) := by rw [← hcs]; exact hW
    exact ⟨_, _, (cells7_at h9).2.1⟩
  clear h1 h2 hv
  go_enter Try.func10, Try.ntmps10
  go_wp2_with (first
    | ((with_reducible refine wpList_at ?_); refine wpList_boxv (by rfl) 27 (.tmp 0) (by rfl) _ (by rfl) ?_; rw [hg]; intro w1 hu1 hz1 hb1; have hx1 : SvAt w1 g cs := hu1; clear hu1; obtain ⟨xa, xc, hx⟩ := HX.out _ hx1)
    | ((with_reducible refine wpList_at ?_); refine wpList_loadV (by rfl) (.tmp 2) (by rfl) _ cs (by rfl) hx1 h7 ?_))
  refine (HT.out _ (by rw [hg]; exact hb1)).mono ?_
  rintro e w2 ⟨rfl, hb2⟩
  go_wp2
  go_ret
  rw [hg]
  exact ⟨rfl, hb1.trans (hb2.mono (by omega))⟩

set_option maxRecDepth 10000 in
set_option maxHeartbeats 1000000 in
theorem when_last {w : World} {v : Value} {s : SpecM} (hv : SpecW w v s) (r : Int) (h1 : specOk s → r = deadM s (s.parties.length : Int)) (h2 : ¬ specOk s → r = 0) :
    Calls Try.prog 12 #[v] w fun e w' => e = .returned (.int .i64 r) ∧ Below w.heap.size w w' := by
  obtain ⟨cs, rfl, h7⟩ := hv.seven
  obtain ⟨g, hg⟩ : ∃ g, w.heap.size = g := ⟨_, rfl⟩
  have hn6 : specOk s → s.parties.length ≤ 6 := fun h => (Timely.of_ok h).n6
  have hnl : s.parties.length ≤ maxLen := hv.toV.np
  unfold maxLen at hnl
  have HT := fun W (h : Below w.heap.size w W) => tell_dead (hv.below h) (s.parties.length : Int) r h1 h2
  replace HT := hide HT
  have HX : Hid (∀ W, SvAt W g cs → ∃ a c, W.cell? ⟨g, 1, none⟩ = some (.slice a s.parties.length c)) := fun W hW => by
    obtain ⟨a1, a2, a3, a4, k1, k2, k3, k4, hcs⟩ := hv.laid
    injection hcs with hcs
    have h9 : W.heap[g]? = some (.cells (cells7 a1 a2 a3 a4 k1 k2 k3 k4 s) 27 (0, 0)) := by rw [← hcs]; exact hW
    exact ⟨_, _, (cells7_at h9).2.1⟩
  clear h1 h2 hv
  go_enter Try.func12, Try.ntmps12
  go_wp2_with (first
    | ((with_reducible refine wpList_at ?_); refine wpList_boxv (by rfl) 27 (.tmp 0) (by rfl) _ (by rfl) ?_; rw [hg]; intro w1 hu1 hz1 hb1; have hx1 : SvAt w1 g cs := hu1; clear hu1; obtain ⟨xa, xc, hx⟩ := HX.out _ hx1)
    | ((with_reducible refine wpList_at ?_); refine wpList_loadV (by rfl) (.tmp 1) (by rfl) _ cs (by rfl) hx1 h7 ?_))
  refine (HT.out _ (by rw [hg]; exact hb1)).mono ?_
  rintro e w2 ⟨rfl, hb2⟩
  go_wp2
  go_ret
  rw [hg]
  exact ⟨rfl, hb1.trans (hb2.mono (by omega))⟩

set_option maxRecDepth 10000 in
set_option maxHeartbeats 1000000 in
theorem when_end {w : World} {v : Value} {s : SpecM} (hv : SpecW w v s) (hle : s.parties.length ≤ 1000) (r : Int) (h1 : specOk s → r = endM s) (h2 : ¬ specOk s → r = 0) :
    Calls Try.prog 14 #[v] w fun e w' => e = .returned (.int .i64 r) ∧ Below w.heap.size w w' := by
  obtain ⟨cs, rfl, h7⟩ := hv.seven
  obtain ⟨g, hg⟩ : ∃ g, w.heap.size = g := ⟨_, rfl⟩
  have hn6 : specOk s → s.parties.length ≤ 6 := fun h => (Timely.of_ok h).n6
  have hnl : s.parties.length ≤ maxLen := hv.toV.np
  unfold maxLen at hnl
  obtain ⟨q, hq⟩ : ∃ q, 2 * (s.parties.length : Int) = q := ⟨_, rfl⟩
  have q0 : 0 ≤ q := by omega
  have q1 : q ≤ 9223372036854775807 := by omega
  have HT := fun W (h : Below w.heap.size w W) => tell_after (hv.below h) q r (fun h => ⟨by rw [h1 h, ← hq]; rfl, by omega, by have := hn6 h; omega⟩) h2
  replace HT := hide HT
  have HX : Hid (∀ W, SvAt W g cs → ∃ a c, W.cell? ⟨g, 1, none⟩ = some (.slice a s.parties.length c)) := fun W hW => by
    obtain ⟨a1, a2, a3, a4, k1, k2, k3, k4, hcs⟩ := hv.laid
    injection hcs with hcs
    have h9 : W.heap[g]? = some (.cells (cells7 a1 a2 a3 a4 k1 k2 k3 k4 s) 27 (0, 0)) := by rw [← hcs]; exact hW
    exact ⟨_, _, (cells7_at h9).2.1⟩
  clear h1 h2 hv
  go_enter Try.func14, Try.ntmps14
  go_wp2_with (first
    | ((with_reducible refine wpList_at ?_); refine wpList_boxv (by rfl) 27 (.tmp 0) (by rfl) _ (by rfl) ?_; rw [hg]; intro w1 hu1 hz1 hb1; have hx1 : SvAt w1 g cs := hu1; clear hu1; obtain ⟨xa, xc, hx⟩ := HX.out _ hx1)
    | ((with_reducible refine wpList_at ?_); refine wpList_loadV (by rfl) (.tmp 1) (by rfl) _ cs (by rfl) hx1 h7 ?_))
  refine (HT.out _ (by rw [hg]; exact hb1)).mono ?_
  rintro e w2 ⟨rfl, hb2⟩
  go_wp2
  go_ret
  rw [hg]
  exact ⟨rfl, hb1.trans (hb2.mono (by omega))⟩

set_option maxRecDepth 10000 in
set_option maxHeartbeats 1000000 in
theorem when_table {w : World} {v : Value} {s : SpecM} (hv : SpecW w v s) (L : List Int) (h1 : specOk s → L = tableL s) (h2 : ¬ specOk s → L = []) :
    Calls Try.prog 17 #[v] w fun e w' => ∃ a c, e = .returned (.slice a L.length c) ∧ Ints w' a L.length L ∧ Below w.heap.size w w' := by
  obtain ⟨cs, rfl, h7⟩ := hv.seven
  obtain ⟨g, hg⟩ : ∃ g, w.heap.size = g := ⟨_, rfl⟩
  have hn6 : specOk s → s.parties.length ≤ 6 := fun h => (Timely.of_ok h).n6
  have hnl : s.parties.length ≤ maxLen := hv.toV.np
  unfold maxLen at hnl
  have HT := fun W (h : Below w.heap.size w W) => tell_table (hv.below h) (s.parties.length : Int) L (fun h => ⟨rfl, h1 h⟩) h2
  replace HT := hide HT
  have HX : Hid (∀ W, SvAt W g cs → ∃ a c, W.cell? ⟨g, 1, none⟩ = some (.slice a s.parties.length c)) := fun W hW => by
    obtain ⟨a1, a2, a3, a4, k1, k2, k3, k4, hcs⟩ := hv.laid
    injection hcs with hcs
    have h9 : W.heap[g]? = some (.cells (cells7 a1 a2 a3 a4 k1 k2 k3 k4 s) 27 (0, 0)) := by rw [← hcs]; exact hW
    exact ⟨_, _, (cells7_at h9).2.1⟩
  clear h1 h2 hv
  go_enter Try.func17, Try.ntmps17
  go_wp2_with (first
    | ((with_reducible refine wpList_at ?_); refine wpList_boxv (by rfl) 27 (.tmp 0) (by rfl) _ (by rfl) ?_; rw [hg]; intro w1 hu1 hz1 hb1; have hx1 : SvAt w1 g cs := hu1; clear hu1; obtain ⟨xa, xc, hx⟩ := HX.out _ hx1)
    | ((with_reducible refine wpList_at ?_); refine wpList_loadV (by rfl) (.tmp 1) (by rfl) _ cs (by rfl) hx1 h7 ?_))
  refine (HT.out _ (by rw [hg]; exact hb1)).mono ?_
  rintro e w2 ⟨a, c, rfl, hI2, hb2⟩
  go_wp2
  go_ret
  rw [hg]
  exact ⟨a, c, rfl, hI2, hb1.trans (hb2.mono (by omega))⟩

end Go.Proofs.Ytpngohaheobkgaa
