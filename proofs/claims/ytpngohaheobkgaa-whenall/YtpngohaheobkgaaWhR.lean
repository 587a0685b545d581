/-
  Chapter 6's own answers.
-/
import Derived.Test.YtpngohaheobkgaaWh3
namespace Go.Proofs.Ytpngohaheobkgaa
open Go.RowKit

theorem grown_sv {w w' : World} {g : Nat} {cs : Array Value} {o : Option Nat} (h : SvAt w g cs) (hg : w.grownBy w' o) (hn : some g ≠ o) : SvAt w' g cs := by
  unfold SvAt at *
  rw [hg.block g (Array.getElem?_eq_some_iff.1 h).1 hn]; exact h
theorem cells_of {w : World} {g : Nat} {cs : Array Value} {v : Value} {s : SpecM} {W : World} (hv : SpecW w v s) (hc : v = .agg cs) (hW : SvAt W g cs) :
    (∃ a c, W.cell? ⟨g, 1, none⟩ = some (.slice a s.parties.length c)) ∧ W.cell? ⟨g, 5, none⟩ = some (.int .i64 s.start) ∧ W.cell? ⟨g, 6, none⟩ = some (.int .i64 s.delta) := by
  obtain ⟨a1, a2, a3, a4, k1, k2, k3, k4, hcs⟩ := hv.laid
  rw [hc] at hcs
  injection hcs with hcs
  have h9 : W.heap[g]? = some (.cells (cells7 a1 a2 a3 a4 k1 k2 k3 k4 s) 27 (0, 0)) := by rw [← hcs]; exact hW
  obtain ⟨_, q1, _, _, _, q5, q6⟩ := cells7_at h9
  exact ⟨⟨_, _, q1⟩, q5, q6⟩

set_option maxRecDepth 10000 in
set_option maxHeartbeats 1000000 in
theorem ref_dead {w : World} {v : Value} {s : SpecM} (hv : SpecW w v s) (k r : Int) (h1 : specOk s → r = deadM s k) (h2 : ¬ specOk s → r = 0) :
    Calls Try.prog 11 #[v, .int .i64 k] w fun e w' => e = .returned (.int .i64 r) ∧ Below w.heap.size w w' := by
  obtain ⟨cs, rfl, h7⟩ := hv.seven
  obtain ⟨g, hg⟩ : ∃ g, w.heap.size = g := ⟨_, rfl⟩
  have HC := fun W (h : Below w.heap.size w W) => refcheck_any (hv.below h).toV
  replace HC := hide HC
  have HX : Hid (∀ W, SvAt W g cs → (∃ a c, W.cell? ⟨g, 1, none⟩ = some (.slice a s.parties.length c)) ∧ W.cell? ⟨g, 5, none⟩ = some (.int .i64 s.start) ∧ W.cell? ⟨g, 6, none⟩ = some (.int .i64 s.delta)) := fun W hW => cells_of hv rfl hW
  have hnl : s.parties.length ≤ maxLen := hv.toV.np
  unfold maxLen at hnl
  replace h1 := hide h1
  replace h2 := hide h2
  clear hv
  go_enter Try.func11, Try.ntmps11
  go_wp2_with (first
    | ((with_reducible refine wpList_at ?_); refine wpList_boxv (by rfl) 27 (.tmp 0) (by rfl) _ (by rfl) ?_; rw [hg]; intro w1 hu1 hz1 hb1; have hx1 : SvAt w1 g cs := hu1; clear hu1; obtain ⟨⟨xa, xc, x1⟩, x5, x6⟩ := HX.out _ hx1)
    | ((with_reducible refine wpList_at ?_); refine wpList_loadV (by rfl) (.tmp 2) (by rfl) _ cs (by rfl) hx1 h7 ?_))
  refine (HC.out _ (by rw [hg]; exact hb1)).mono ?_
  rintro e w2 ⟨rfl, hb2⟩
  have hx2 := hx1.below hb2
  have hB2 : Below g w w2 := hb1.trans (hb2.mono (by omega))
  clear hz1 hx1 HC hb1 hb2 x1 x5 x6
  by_cases hok : specOk s
  · rw [told_yes hok]
    have T := Timely.of_ok hok
    have n6 := T.n6
    have n2 := T.n2
    have s0 := T.s0
    have s1 := T.s1
    obtain ⟨m0, m1⟩ := clamp_range s.parties.length k (by omega)
    obtain ⟨p0, p1⟩ := T.prod ((s.parties.length : Int) + clampM s.parties.length k - 1) (by omega) (by omega)
    have hm := clamp_if s.parties.length k
    have hr := h1.out hok
    unfold deadM at hr
    obtain ⟨k1, hk1⟩ : ∃ k1, (if k < 1 then 1 else k) = k1 := ⟨_, rfl⟩
    rw [hk1] at hm
    generalize clampM s.parties.length k = m at m0 m1 p0 p1 hm hr ⊢
    obtain ⟨p, hp⟩ : ∃ p, ((s.parties.length : Int) + m - 1) * s.delta = p := ⟨_, rfl⟩
    rw [hp] at p0 p1 hr
    replace hr := hide hr
    obtain ⟨⟨xa, xc, x1⟩, x5, x6⟩ := HX.out _ hx2
    clear h1 h2 HX hok T
    go_wp2
    go_ret
    rw [hg]
    exact ⟨ret_int hr.out.symm, hB2⟩
  · rw [told_no hok]
    have HZ := hide (h2.out hok)
    clear h1 h2
    go_wp2
    go_ret
    rw [hg]
    exact ⟨ret_int HZ.out.symm, hB2⟩

set_option maxRecDepth 10000 in
set_option maxHeartbeats 1000000 in
theorem ref_last {w : World} {v : Value} {s : SpecM} (hv : SpecW w v s) (r : Int) (h1 : specOk s → r = deadM s (s.parties.length : Int)) (h2 : ¬ specOk s → r = 0) :
    Calls Try.prog 13 #[v] w fun e w' => e = .returned (.int .i64 r) ∧ Below w.heap.size w w' := by
  obtain ⟨cs, rfl, h7⟩ := hv.seven
  obtain ⟨g, hg⟩ : ∃ g, w.heap.size = g := ⟨_, rfl⟩
  have hnl : s.parties.length ≤ maxLen := hv.toV.np
  unfold maxLen at hnl
  have HT := fun W (h : Below w.heap.size w W) => ref_dead (hv.below h) (s.parties.length : Int) r h1 h2
  replace HT := hide HT
  have HX : Hid (∀ W, SvAt W g cs → (∃ a c, W.cell? ⟨g, 1, none⟩ = some (.slice a s.parties.length c)) ∧ W.cell? ⟨g, 5, none⟩ = some (.int .i64 s.start) ∧ W.cell? ⟨g, 6, none⟩ = some (.int .i64 s.delta)) := fun W hW => cells_of hv rfl hW
  clear h1 h2 hv
  go_enter Try.func13, Try.ntmps13
  go_wp2_with (first
    | ((with_reducible refine wpList_at ?_); refine wpList_boxv (by rfl) 27 (.tmp 0) (by rfl) _ (by rfl) ?_; rw [hg]; intro w1 hu1 hz1 hb1; have hx1 : SvAt w1 g cs := hu1; clear hu1; obtain ⟨⟨xa, xc, x1⟩, _, _⟩ := HX.out _ hx1)
    | ((with_reducible refine wpList_at ?_); refine wpList_loadV (by rfl) (.tmp 1) (by rfl) _ cs (by rfl) hx1 h7 ?_))
  refine (HT.out _ (by rw [hg]; exact hb1)).mono ?_
  rintro e w2 ⟨rfl, hb2⟩
  go_wp2
  go_ret
  rw [hg]
  exact ⟨rfl, hb1.trans (hb2.mono (by omega))⟩

set_option maxRecDepth 10000 in
set_option maxHeartbeats 1000000 in
theorem ref_end {w : World} {v : Value} {s : SpecM} (hv : SpecW w v s) (r : Int) (h1 : specOk s → r = endM s) (h2 : ¬ specOk s → r = 0) :
    Calls Try.prog 15 #[v] w fun e w' => e = .returned (.int .i64 r) ∧ Below w.heap.size w w' := by
  obtain ⟨cs, rfl, h7⟩ := hv.seven
  obtain ⟨g, hg⟩ : ∃ g, w.heap.size = g := ⟨_, rfl⟩
  have HC := fun W (h : Below w.heap.size w W) => refcheck_any (hv.below h).toV
  replace HC := hide HC
  have HX : Hid (∀ W, SvAt W g cs → (∃ a c, W.cell? ⟨g, 1, none⟩ = some (.slice a s.parties.length c)) ∧ W.cell? ⟨g, 5, none⟩ = some (.int .i64 s.start) ∧ W.cell? ⟨g, 6, none⟩ = some (.int .i64 s.delta)) := fun W hW => cells_of hv rfl hW
  replace h1 := hide h1
  replace h2 := hide h2
  clear hv
  go_enter Try.func15, Try.ntmps15
  go_wp2_with (first
    | ((with_reducible refine wpList_at ?_); refine wpList_boxv (by rfl) 27 (.tmp 0) (by rfl) _ (by rfl) ?_; rw [hg]; intro w1 hu1 hz1 hb1; have hx1 : SvAt w1 g cs := hu1; clear hu1)
    | ((with_reducible refine wpList_at ?_); refine wpList_loadV (by rfl) (.tmp 1) (by rfl) _ cs (by rfl) hx1 h7 ?_))
  refine (HC.out _ (by rw [hg]; exact hb1)).mono ?_
  rintro e w2 ⟨rfl, hb2⟩
  have hx2 := hx1.below hb2
  have hB2 : Below g w w2 := hb1.trans (hb2.mono (by omega))
  clear hz1 hx1 HC hb1 hb2
  by_cases hok : specOk s
  · rw [told_yes hok]
    have T := Timely.of_ok hok
    have n6 := T.n6
    have s0 := T.s0
    have s1 := T.s1
    obtain ⟨p0, p1⟩ := T.prod (2 * (s.parties.length : Int)) (by omega) (by omega)
    have hr := h1.out hok
    unfold endM at hr
    obtain ⟨q, hq⟩ : ∃ q, 2 * (s.parties.length : Int) = q := ⟨_, rfl⟩
    rw [hq] at p0 p1 hr
    have q0 : 0 ≤ q := by omega
    have q1 : q ≤ 12 := by omega
    obtain ⟨p, hp⟩ : ∃ p, q * s.delta = p := ⟨_, rfl⟩
    rw [hp] at p0 p1 hr
    replace hr := hide hr
    obtain ⟨⟨xa, xc, x1⟩, x5, x6⟩ := HX.out _ hx2
    clear h1 h2 HX hok T
    go_wp2
    go_ret
    rw [hg]
    exact ⟨ret_int hr.out.symm, hB2⟩
  · rw [told_no hok]
    have HZ := hide (h2.out hok)
    clear h1 h2
    go_wp2
    go_ret
    rw [hg]
    exact ⟨ret_int HZ.out.symm, hB2⟩

set_option maxRecDepth 10000 in
set_option maxHeartbeats 1000000 in
theorem ref_table {w : World} {v : Value} {s : SpecM} (hv : SpecW w v s) (L : List Int) (h1 : specOk s → L = tableL s) (h2 : ¬ specOk s → L = []) :
    Calls Try.prog 18 #[v] w fun e w' => ∃ a c, e = .returned (.slice a L.length c) ∧ Ints w' a L.length L ∧ Below w.heap.size w w' := by
  obtain ⟨cs, rfl, h7⟩ := hv.seven
  obtain ⟨g, hg⟩ : ∃ g, w.heap.size = g := ⟨_, rfl⟩
  have HC := fun W (h : Below w.heap.size w W) => refcheck_any (hv.below h).toV
  replace HC := hide HC
  have HD : Hid (specOk s → ∀ W, Below w.heap.size w W → ∀ k, Calls Try.prog 11 #[.agg cs, .int .i64 k] W fun e w' => e = .returned (.int .i64 (deadM s k)) ∧ Below W.heap.size W w') := fun h W hW k => ref_dead (hv.below hW) k _ (fun _ => rfl) (fun h' => absurd h h')
  have HX : Hid (∀ W, SvAt W g cs → (∃ a c, W.cell? ⟨g, 1, none⟩ = some (.slice a s.parties.length c)) ∧ W.cell? ⟨g, 5, none⟩ = some (.int .i64 s.start) ∧ W.cell? ⟨g, 6, none⟩ = some (.int .i64 s.delta)) := fun W hW => cells_of hv rfl hW
  have hnl : s.parties.length ≤ maxLen := hv.toV.np
  unfold maxLen at hnl
  replace h1 := hide h1
  replace h2 := hide h2
  obtain ⟨n, hn⟩ : ∃ n, s.parties.length = n := ⟨_, rfl⟩
  rw [hn] at hnl HX
  clear hv
  go_enter Try.func18, Try.ntmps18
  go_wp2_with ((with_reducible refine wpList_at ?_); refine wpList_boxv (by rfl) 27 (.tmp 0) (by rfl) _ (by rfl) ?_; rw [hg]; intro w1 hu1 hz1 hb1; have hx1 : SvAt w1 g cs := hu1; clear hu1)
  go_loopw [3, 4] (fun x i wr => ∃ (j : Nat), j ≤ n ∧ i = .int .i64 ((j : Int) + 1) ∧ OwnI wr (g + 1) x ((tableL s).take j) ∧ Hid (0 < j → specOk s) ∧ SvAt wr g cs ∧ Below g w wr) (fun _ i _ => n + 1 - (intOf i).toNat)
  case atStart => exact ⟨0, by omega, rfl, World.ownsRow_nil _ _ _ _, fun h => absurd h (by omega), hx1, hb1⟩
  case round =>
    clear hx1 hb1 hz1
    obtain ⟨j, hj, rfl, hO, HJ, hx, hB⟩ := hrel
    obtain ⟨⟨xa, xc, x1⟩, _, _⟩ := HX.out _ hx
    have hlt := hx.lt
    have hlen : (tableL s).length = n := by rw [tableL_len, hn]
    have htk : ((tableL s).take j).length = j := by rw [List.length_take, hlen]; omega
    obtain ⟨va, vc, hva⟩ := row_slice hO
    rw [htk] at hva
    subst hva
    by_cases hjn : j < n
    · have j1 : (j : Int) + 1 ≤ (n : Int) := by omega
      have HCW := HC.out wr (by rw [hg]; exact hB)
      by_cases hok : specOk s
      · rw [told_yes hok] at HCW
        have n6 := (Timely.of_ok hok).n6
        rw [hn] at n6
        have HDW := HD.out hok
        replace HDW := hide HDW
        replace HCW := hide HCW
        replace hO := hide hO
        clear h1 h2 HD HC
        go_wp2_with ((with_reducible refine wpList_at ?_); refine wpList_loadV (by rfl) (.tmp 1) (by rfl) _ cs (by rfl) hx h7 ?_)
        refine HCW.out.mono ?_
        rintro e w2 ⟨rfl, hb2⟩
        have hx2 := hx.below hb2
        have hB2 : Below g w w2 := hB.trans (hb2.mono (by omega))
        have hO2 : Hid (OwnI w2 (g + 1) _ ((tableL s).take j)) := OwnI.below hO.out hb2
        obtain ⟨x, hxx⟩ : ∃ x, deadM s ((j : Int) + 1) = x := ⟨_, rfl⟩
        have HX1 := hide hxx
        have HDX := HDW.out w2 (by rw [hg]; exact hB2) ((j : Int) + 1)
        rw [hxx] at HDX
        replace HDX := hide HDX
        clear hO hB hx hb2 HDW HCW x1 hxx
        go_wp2_with ((with_reducible refine wpList_at ?_); refine wpList_loadV (by rfl) (.tmp 1) (by rfl) _ cs (by rfl) hx2 h7 ?_)
        refine HDX.out.mono ?_
        rintro e w3 ⟨rfl, hb3⟩
        have hx3 := hx2.below hb3
        have hB3 : Below g w w3 := hB2.trans (hb3.mono (by have := hx2.lt; omega))
        have hO3 : Hid (OwnI w3 (g + 1) _ ((tableL s).take j)) := OwnI.below hO2.out hb3
        have hC3 : g + 1 ≤ w3.heap.size := by have := hx3.lt; omega
        have hO3' : Hid (w3.ownsRow (g + 1) 3 1 (.slice va j vc) j (((tableL s).take j).map (Value.int .i64))) := by have := hO3.out; unfold OwnI at this; rw [htk] at this; exact this
        clear hO2 hB2 hx2 hb3 HDX hO3
        go_wp2_with (at_builtin; refine wpList_put1 (st := 24) Try.underlying24 Try.info3 rfl (by decide) (by decide) w3 _ (by rfl) (.tmp 16) (.tmp 20) (by rfl) (g + 1) _ _ _ (by rfl) hO3'.out (by rfl) rfl (by intro u hu; simp at hu; subst hu; rfl) (by omega) hC3 ?_; intro v7 w7 hown7 hg7; obtain ⟨v7a, v7c, rfl⟩ := row_slice hown7)
        go_roundw
        case rel =>
          refine ⟨j + 1, by omega, by go_num, ?_, fun _ => hok, ?_, ?_⟩
          · have h9 := tableL_get s j (by omega)
            rw [List.getD_eq_getElem?_getD, List.getElem?_eq_getElem (by omega)] at h9
            have h8 : (tableL s).take (j + 1) = (tableL s).take j ++ [x] := by
              rw [List.take_add_one, List.getElem?_eq_getElem (by omega)]
              rw [HX1.out] at h9
              simp at h9
              simp [h9]
            unfold OwnI
            rw [h8, List.length_append, List.map_append, htk]
            exact hown7
          · exact grown_sv hx3 hg7 (fun e => by have := row_own hO3'.out _ e.symm; omega)
          · exact hB3.grown hg7 (by omega) (fun k hk => by have := row_own hO3'.out k hk; omega)
        case measure => simp [intOf]; omega
      · rw [told_no hok] at HCW
        have hj0 : j = 0 := by
          cases j with
          | zero => rfl
          | succ j => exact absurd (HJ.out (by omega)) hok
        have HZ := hide (h2.out hok)
        replace hj0 := hide hj0
        replace HCW := hide HCW
        replace hO := hide hO
        clear h1 h2 HD HC
        go_wp2_with ((with_reducible refine wpList_at ?_); refine wpList_loadV (by rfl) (.tmp 1) (by rfl) _ cs (by rfl) hx h7 ?_)
        refine HCW.out.mono ?_
        rintro e w2 ⟨rfl, hb2⟩
        have hO2 := OwnI.below hO.out hb2
        go_wp2
        go_ret
        rw [HZ.out]
        have hj9 := hj0.out
        subst hj9
        obtain ⟨a9, c9, h9, _, _, hI⟩ := OwnI.ints (l := []) (by simpa using hO2) (by simp) (fun j hj => absurd hj (by simp))
        have hB9 : Below w.heap.size w w2 := by rw [hg]; exact hB.trans (hb2.mono (by omega))
        first | exact ⟨a9, c9, by rw [← h9]; rfl, hI, hB9⟩ | exact ⟨a9, ⟨c9, by rw [← h9]; rfl⟩, hI, hB9⟩
    · have j1 : ¬ (j : Int) + 1 ≤ (n : Int) := by omega
      have hjn' : Hid (j = n) := (by omega : j = n)
      replace hO := hide hO
      go_wp2
      go_ret
      by_cases hok : specOk s
      · have T := Timely.of_ok hok
        have hO9 : OwnI wr (g + 1) (.slice va j vc) L := by
          have h9 := hO.out
          rw [List.take_of_length_le (by have := hjn'.out; omega)] at h9
          rw [h1.out hok]; exact h9
        have hLn : L.length = n := by rw [h1.out hok, hlen]
        obtain ⟨a9, c9, h9, _, _, hI⟩ := hO9.ints (by have := T.n6; omega) (by rw [h1.out hok]; exact table_in T)
        have hB9 : Below w.heap.size w wr := by rw [hg]; exact hB
        first | exact ⟨a9, c9, by rw [← h9]; rfl, hI, hB9⟩ | exact ⟨a9, ⟨c9, by rw [← h9]; rfl⟩, hI, hB9⟩ | (rw [← hg]; exact ⟨a9, ⟨c9, by rw [← h9]; rfl⟩, hI, hB9⟩) | (rw [hg] at hB9; exact ⟨a9, ⟨c9, by rw [← h9]; rfl⟩, hI, hB9⟩)
      · have hj0 : j = 0 := by
          cases j with
          | zero => rfl
          | succ j => exact absurd (HJ.out (by omega)) hok
        have HZ := h2.out hok
        subst hj0
        rw [HZ]
        obtain ⟨a9, c9, h9, _, _, hI⟩ := OwnI.ints (l := []) (by simpa using hO.out) (by simp) (fun j hj => absurd hj (by simp))
        have hB9 : Below w.heap.size w wr := by rw [hg]; exact hB
        first | exact ⟨a9, c9, by rw [← h9]; rfl, hI, hB9⟩ | exact ⟨a9, ⟨c9, by rw [← h9]; rfl⟩, hI, hB9⟩ | (rw [← hg]; exact ⟨a9, ⟨c9, by rw [← h9]; rfl⟩, hI, hB9⟩) | (rw [hg] at hB9; exact ⟨a9, ⟨c9, by rw [← h9]; rfl⟩, hI, hB9⟩)

end Go.Proofs.Ytpngohaheobkgaa
