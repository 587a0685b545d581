/-
  Chapter 5's own answers: Enter, Leave.
-/
import Derived.Test.YtdaagjpigcejaaaGrRef
import Derived.Test.YtdaagjpigcejaaaGrPl
namespace Go.Proofs.Ytdaagjpigcejaaa
open Go.RowKit

set_option maxRecDepth 10000 in
set_option maxHeartbeats 2000000 in
theorem rent_any {w : World} {v : Value} {s : SpecM} (hv : SpecW w v s) (a : Int) (L : List Int) (h1 : specOk s → L = entL s.arcs a s.arcs.length) (h2 : ¬ specOk s → L = []) :
    Calls Try.prog 25 #[v, .int .i64 a] w fun e w' => ∃ u, e = .returned u ∧ OwnI w' w.heap.size u L ∧ Below w.heap.size w w' := by
  obtain ⟨cs, rfl, h7⟩ := hv.seven
  obtain ⟨g, hg⟩ : ∃ g, w.heap.size = g := ⟨_, rfl⟩
  rw [hg]
  have HC := fun W (h : Below w.heap.size w W) => refcheck_any (hv.below h).toV
  replace HC := hide HC
  obtain ⟨a1, a2, a3, a4, k1, k2, k3, k4, hcs, LI, hcap⟩ := hv
  injection hcs with hcs
  have HA : Hid (∀ W, Below g w W → Arcs W a2 s.arcs) := fun W hW => LI.arcs.below (by rw [hg]; exact hW)
  have HX : Hid (∀ W, SvAt W g cs → W.cell? ⟨g, 2, none⟩ = some (.slice a2 s.arcs.length k2)) := fun W hW => by
    have h9 : W.heap[g]? = some (.cells (cells7 a1 a2 a3 a4 k1 k2 k3 k4 s) 28 (0, 0)) := by rw [← hcs]; exact hW
    exact (cells7_at h9).2.2.1
  have hnm := LI.arcs.1
  unfold maxLen at hnm
  clear hcs LI hcap
  have H12 : Hid (specOk s → s.arcs.length ≤ 12) := fun h => (ok_parts h).2.2
  obtain ⟨n, hn⟩ : ∃ n, s.arcs.length = n := ⟨_, rfl⟩
  rw [hn] at HX hnm H12 h1
  replace hn := hide hn
  replace h1 := hide h1
  replace h2 := hide h2
  go_enter Try.func25, Try.ntmps25
  go_wp2_with ((with_reducible refine wpList_at ?_); refine wpList_boxv (by rfl) 28 (.tmp 0) (by rfl) _ (by rfl) ?_; rw [hg]; intro w1 hu1 hz1 hb1; have hx1 : SvAt w1 g cs := hu1; clear hu1)
  go_loopw [5, 6] (fun vl i wr => ∃ k : Nat, k ≤ n ∧ i = .int .i64 k ∧ Hid (k = 0 ∨ specOk s) ∧ OwnI wr (g + 1) vl (entL s.arcs a k) ∧ SvAt wr g cs ∧ Below g w wr ∧ g + 1 ≤ wr.heap.size) (fun _ i _ => n - (intOf i).toNat)
  case atStart => exact ⟨0, by omega, rfl, .inl rfl, World.ownsRow_nil _ _ _ _, hx1, hb1, by omega⟩
  case round =>
    clear hx1 hb1 hz1
    obtain ⟨k, hk, rfl, hor, hO, hx, hB, hz⟩ := hrel
    obtain ⟨va, vc, rfl⟩ := row_slice hO
    have hlen := ent_len s.arcs a k
    have c2 := HX.out _ hx
    by_cases hlt : k < n
    · have k1' : (k : Int) < (n : Int) := by omega
      have HC3 := hide (HC.out wr (by rw [hg]; exact hB))
      go_wp2_with ((with_reducible refine wpList_at ?_); refine wpList_loadV (by rfl) (.tmp 2) (by rfl) _ cs (by rfl) hx h7 ?_)
      refine HC3.out.mono ?_
      rintro e w3 ⟨rfl, hb3⟩
      have hO3 := own_below hO hb3
      have hx3 := hx.below hb3
      have hB3 : Below g w w3 := hB.trans (hb3.mono (by omega))
      have hz3 : g + 1 ≤ w3.heap.size := Nat.le_trans hz hb3.size
      clear hO hx hB hz hb3 c2 HC3
      by_cases hok : specOk s
      · rw [told_yes hok]
        have hk12 := H12.out hok
        have c2 := HX.out _ hx3
        obtain ⟨X, hX⟩ : ∃ X, s.arcs.getD k noArc = X := ⟨_, rfl⟩
        obtain ⟨b2, o2, rfl, _, _, _, _, _, d0, d1, _⟩ := (HA.out w3 hB3).2 k (by rw [hn.out]; exact hlt)
        rw [hX] at d0 d1
        replace hX := hide hX
        replace hok := hide hok
        replace hO3 := hide hO3
        replace hx3 := hide hx3
        replace hB3 := hide hB3
        by_cases hxx : X.dst = a
        · have t0 : (X.dst == a) = true := by rw [hxx]; exact beq_self_eq_true _
          have HN := hide (ent_yes s.arcs a k (by rw [hX.out]; exact hxx))
          clear hxx
          go_wp2_with (at_builtin; refine wpList_put1 (st := 25) Try.underlying25 Try.info3 rfl (by decide) (by decide) w3 _ (by rfl) (.tmp 26) (.tmp 28) (by rfl) (g + 1) _ _ _ (by rfl) hO3.out (by rfl) rfl (by intro u hu; simp at hu; subst hu; rfl) (by omega) hz3 ?_; intro v8 w8 hown8 hg8; obtain ⟨v8a, v8c, rfl⟩ := row_slice hown8)
          go_roundw
          case rel =>
            have hlt8 := World.ownsRow.lt hO3.out
            have hne : some g ≠ Value.ownBlock (.slice va (entL s.arcs a k).length vc) := fun e => by have := (hlt8 g e.symm).1; omega
            have hx8 : SvAt w8 g cs := by have h9 := hx3.out; unfold SvAt at h9 ⊢; rw [hg8.block g (Array.getElem?_eq_some_iff.1 h9).1 hne]; exact h9
            refine ⟨k + 1, by omega, by go_num, .inr hok.out, ?_, hx8, hB3.out.grown hg8 (by omega) (fun k hk => by have := (hlt8 k hk).1; omega), Nat.le_trans hz3 hg8.size⟩
            rw [HN.out]
            unfold OwnI
            rw [List.length_append, List.map_append]; exact hown8
          case measure => simp [intOf]; omega
        · have t0 : (X.dst == a) = false := by rw [beq_eq_false_iff_ne]; exact hxx
          have HN := hide (ent_no s.arcs a k (by rw [hX.out]; exact hxx))
          clear hxx
          go_wp2_with fail
          go_roundw
          case rel => exact ⟨k + 1, by omega, by go_num, .inr hok.out, by rw [HN.out]; exact hO3.out, hx3.out, hB3.out, hz3⟩
          case measure => simp [intOf]; omega
      · rw [told_no hok]
        have hk0 : k = 0 := hor.out.resolve_right hok
        have HZ := hide (h2.out hok)
        subst hk0
        replace hO3 := hide hO3
        go_wp2
        go_ret
        refine ⟨_, rfl, ?_, hB3⟩
        rw [HZ.out]
        exact base_row (show OwnI w3 (g + 1) (.slice va (entL s.arcs a 0).length vc) [] from hO3.out) (by omega)
    · have k1' : ¬ (k : Int) < (n : Int) := by omega
      have hkn : k = n := by omega
      have HL : Hid (L = entL s.arcs a k) := by
        show _ = _
        by_cases hok : specOk s
        · rw [h1.out hok, hkn]
        · rw [h2.out hok, hor.out.resolve_right hok]; rfl
      replace hO := hide hO
      replace hkn := hide hkn
      go_wp2
      go_ret
      refine ⟨_, rfl, ?_, hB⟩
      rw [HL.out]
      exact base_row hO.out (by omega)

set_option maxRecDepth 10000 in
set_option maxHeartbeats 2000000 in
theorem rlev_any {w : World} {v : Value} {s : SpecM} (hv : SpecW w v s) (a : Int) (L : List Int) (h1 : specOk s → L = levL s.arcs a s.arcs.length) (h2 : ¬ specOk s → L = []) :
    Calls Try.prog 26 #[v, .int .i64 a] w fun e w' => ∃ u, e = .returned u ∧ OwnI w' w.heap.size u L ∧ Below w.heap.size w w' := by
  obtain ⟨cs, rfl, h7⟩ := hv.seven
  obtain ⟨g, hg⟩ : ∃ g, w.heap.size = g := ⟨_, rfl⟩
  rw [hg]
  have HC := fun W (h : Below w.heap.size w W) => refcheck_any (hv.below h).toV
  replace HC := hide HC
  obtain ⟨a1, a2, a3, a4, k1, k2, k3, k4, hcs, LI, hcap⟩ := hv
  injection hcs with hcs
  have HA : Hid (∀ W, Below g w W → Arcs W a2 s.arcs) := fun W hW => LI.arcs.below (by rw [hg]; exact hW)
  have HX : Hid (∀ W, SvAt W g cs → W.cell? ⟨g, 2, none⟩ = some (.slice a2 s.arcs.length k2)) := fun W hW => by
    have h9 : W.heap[g]? = some (.cells (cells7 a1 a2 a3 a4 k1 k2 k3 k4 s) 28 (0, 0)) := by rw [← hcs]; exact hW
    exact (cells7_at h9).2.2.1
  have hnm := LI.arcs.1
  unfold maxLen at hnm
  clear hcs LI hcap
  have H12 : Hid (specOk s → s.arcs.length ≤ 12) := fun h => (ok_parts h).2.2
  obtain ⟨n, hn⟩ : ∃ n, s.arcs.length = n := ⟨_, rfl⟩
  rw [hn] at HX hnm H12 h1
  replace hn := hide hn
  replace h1 := hide h1
  replace h2 := hide h2
  go_enter Try.func26, Try.ntmps26
  go_wp2_with ((with_reducible refine wpList_at ?_); refine wpList_boxv (by rfl) 28 (.tmp 0) (by rfl) _ (by rfl) ?_; rw [hg]; intro w1 hu1 hz1 hb1; have hx1 : SvAt w1 g cs := hu1; clear hu1)
  go_loopw [5, 6] (fun vl i wr => ∃ k : Nat, k ≤ n ∧ i = .int .i64 k ∧ Hid (k = 0 ∨ specOk s) ∧ OwnI wr (g + 1) vl (levL s.arcs a k) ∧ SvAt wr g cs ∧ Below g w wr ∧ g + 1 ≤ wr.heap.size) (fun _ i _ => n - (intOf i).toNat)
  case atStart => exact ⟨0, by omega, rfl, .inl rfl, World.ownsRow_nil _ _ _ _, hx1, hb1, by omega⟩
  case round =>
    clear hx1 hb1 hz1
    obtain ⟨k, hk, rfl, hor, hO, hx, hB, hz⟩ := hrel
    obtain ⟨va, vc, rfl⟩ := row_slice hO
    have hlen := lev_len s.arcs a k
    have c2 := HX.out _ hx
    by_cases hlt : k < n
    · have k1' : (k : Int) < (n : Int) := by omega
      have HC3 := hide (HC.out wr (by rw [hg]; exact hB))
      go_wp2_with ((with_reducible refine wpList_at ?_); refine wpList_loadV (by rfl) (.tmp 2) (by rfl) _ cs (by rfl) hx h7 ?_)
      refine HC3.out.mono ?_
      rintro e w3 ⟨rfl, hb3⟩
      have hO3 := own_below hO hb3
      have hx3 := hx.below hb3
      have hB3 : Below g w w3 := hB.trans (hb3.mono (by omega))
      have hz3 : g + 1 ≤ w3.heap.size := Nat.le_trans hz hb3.size
      clear hO hx hB hz hb3 c2 HC3
      by_cases hok : specOk s
      · rw [told_yes hok]
        have hk12 := H12.out hok
        have c2 := HX.out _ hx3
        obtain ⟨X, hX⟩ : ∃ X, s.arcs.getD k noArc = X := ⟨_, rfl⟩
        obtain ⟨b2, o2, rfl, _, _, _, _, _, d0, d1, _⟩ := (HA.out w3 hB3).2 k (by rw [hn.out]; exact hlt)
        rw [hX] at d0 d1
        replace hX := hide hX
        replace hok := hide hok
        replace hO3 := hide hO3
        replace hx3 := hide hx3
        replace hB3 := hide hB3
        by_cases hxx : X.src = a
        · have t0 : (X.src == a) = true := by rw [hxx]; exact beq_self_eq_true _
          have HN := hide (lev_yes s.arcs a k (by rw [hX.out]; exact hxx))
          clear hxx
          go_wp2_with (at_builtin; refine wpList_put1 (st := 25) Try.underlying25 Try.info3 rfl (by decide) (by decide) w3 _ (by rfl) (.tmp 26) (.tmp 28) (by rfl) (g + 1) _ _ _ (by rfl) hO3.out (by rfl) rfl (by intro u hu; simp at hu; subst hu; rfl) (by omega) hz3 ?_; intro v8 w8 hown8 hg8; obtain ⟨v8a, v8c, rfl⟩ := row_slice hown8)
          go_roundw
          case rel =>
            have hlt8 := World.ownsRow.lt hO3.out
            have hne : some g ≠ Value.ownBlock (.slice va (levL s.arcs a k).length vc) := fun e => by have := (hlt8 g e.symm).1; omega
            have hx8 : SvAt w8 g cs := by have h9 := hx3.out; unfold SvAt at h9 ⊢; rw [hg8.block g (Array.getElem?_eq_some_iff.1 h9).1 hne]; exact h9
            refine ⟨k + 1, by omega, by go_num, .inr hok.out, ?_, hx8, hB3.out.grown hg8 (by omega) (fun k hk => by have := (hlt8 k hk).1; omega), Nat.le_trans hz3 hg8.size⟩
            rw [HN.out]
            unfold OwnI
            rw [List.length_append, List.map_append]; exact hown8
          case measure => simp [intOf]; omega
        · have t0 : (X.src == a) = false := by rw [beq_eq_false_iff_ne]; exact hxx
          have HN := hide (lev_no s.arcs a k (by rw [hX.out]; exact hxx))
          clear hxx
          go_wp2_with fail
          go_roundw
          case rel => exact ⟨k + 1, by omega, by go_num, .inr hok.out, by rw [HN.out]; exact hO3.out, hx3.out, hB3.out, hz3⟩
          case measure => simp [intOf]; omega
      · rw [told_no hok]
        have hk0 : k = 0 := hor.out.resolve_right hok
        have HZ := hide (h2.out hok)
        subst hk0
        replace hO3 := hide hO3
        go_wp2
        go_ret
        refine ⟨_, rfl, ?_, hB3⟩
        rw [HZ.out]
        exact base_row (show OwnI w3 (g + 1) (.slice va (levL s.arcs a 0).length vc) [] from hO3.out) (by omega)
    · have k1' : ¬ (k : Int) < (n : Int) := by omega
      have hkn : k = n := by omega
      have HL : Hid (L = levL s.arcs a k) := by
        show _ = _
        by_cases hok : specOk s
        · rw [h1.out hok, hkn]
        · rw [h2.out hok, hor.out.resolve_right hok]; rfl
      replace hO := hide hO
      replace hkn := hide hkn
      go_wp2
      go_ret
      refine ⟨_, rfl, ?_, hB⟩
      rw [HL.out]
      exact base_row hO.out (by omega)

end Go.Proofs.Ytdaagjpigcejaaa
