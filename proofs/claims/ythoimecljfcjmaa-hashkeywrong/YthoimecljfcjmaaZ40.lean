/-
  Chapter 5's own answers: Strong, Valid, arc.
-/
import Derived.Test.YthoimecljfcjmaaZ39
import Derived.Test.YthoimecljfcjmaaGrPath
import Derived.Test.YthoimecljfcjmaaFbF
namespace Go.Proofs.Ythoimecljfcjmaa
open Go.RowKit

theorem strongR_yes (n : Nat) (A : List ArcM) (h : ∀ a b : Nat, a < n → b < n → a ≠ b → reachR A (a : Int) (b : Int) [] = true) : strongR n A = true := by
  unfold strongR
  rw [List.all_eq_true]
  intro a ha
  rw [List.all_eq_true]
  intro b hb
  by_cases e : a = b
  · rw [e]; simp
  · rw [h a b (List.mem_range.1 ha) (List.mem_range.1 hb) e]; simp
theorem strongR_no (n : Nat) (A : List ArcM) (a b : Nat) (ha : a < n) (hb : b < n) (e : a ≠ b) (h : reachR A (a : Int) (b : Int) [] = false) : strongR n A = false := by
  unfold strongR
  rw [List.all_eq_false]
  refine ⟨a, List.mem_range.2 ha, ?_⟩
  rw [Bool.not_eq_true, List.all_eq_false]
  exact ⟨b, List.mem_range.2 hb, by rw [h]; simp [e]⟩
theorem ok_parts {s : SpecM} (h : specOk s) : 2 ≤ s.parties.length ∧ s.parties.length ≤ 6 ∧ s.arcs.length ≤ 12 := ⟨h.2.2.1.1, h.2.2.1.2.1, h.2.2.2.1.2.1⟩
theorem str_same {s : SpecM} (h : specOk s) : strM s = strongR s.parties.length s.arcs := by
  unfold strM
  rw [told_yes h, Bool.true_and]
  exact strong_same (ok_parts h).1 (ok_parts h).2.1 (fun x hx => (ok_arcs h x hx).2)
theorem fbk_same (s : SpecM) : fbM s = fbkM s := by
  unfold fbM fbkM
  by_cases h : specOk s
  · rw [told_yes h, Bool.true_and, Bool.true_and, fb_same s.leaders (ok_parts h).2.1 (ok_six h)]
  · rw [told_no h]; rfl
theorem ok_getD {s : SpecM} (h : specOk s) : ∀ j, j < s.arcs.length → 0 ≤ (s.arcs.getD j noArc).dst ∧ (s.arcs.getD j noArc).dst < 6 := fun j hj => ok_six h _ (getD_mem s.arcs j noArc hj)
theorem rfeedback_any {w : World} {v : Value} {s : SpecM} (hv : SpecW w v s) : Calls Try.prog 51 #[v] w fun e w' => e = .returned (.bool (fbkM s)) ∧ Below w.heap.size w w' := by
  have h := feedback_any hv
  rw [fbk_same] at h
  exact h

set_option maxRecDepth 10000 in
set_option maxHeartbeats 2000000 in
theorem rstrong_any {w : World} {v : Value} {s : SpecM} (hv : SpecW w v s) : Calls Try.prog 50 #[v] w fun e w' => e = .returned (.bool (strM s)) ∧ Below w.heap.size w w' := by
  obtain ⟨cs, rfl, h7⟩ := hv.seven
  obtain ⟨g, hg⟩ : ∃ g, w.heap.size = g := ⟨_, rfl⟩
  obtain ⟨r, hr⟩ : ∃ r, strM s = r := ⟨_, rfl⟩
  rw [hr]
  replace hr := hide hr
  have HC := fun W (h : Below w.heap.size w W) => refcheck_any (hv.below h).toV
  replace HC := hide HC
  go_enter Try.func50, Try.ntmps50
  go_wp2_with (first
    | ((with_reducible refine wpList_at ?_); refine wpList_boxv (by rfl) 27 (.tmp 0) (by rfl) _ (by rfl) ?_; rw [hg]; intro w1 hu1 hz1 hb1; have hx1 : SvAt w1 g cs := hu1; clear hu1)
    | ((with_reducible refine wpList_at ?_); refine wpList_loadV (by rfl) (.tmp 1) (by rfl) _ cs (by rfl) hx1 h7 ?_))
  refine (HC.out _ (by rw [hg]; exact hb1)).mono ?_
  rintro e w2 ⟨rfl, hb2⟩
  have hx2 := hx1.below hb2
  have hB2 : Below g w w2 := hb1.trans (hb2.mono (by omega))
  clear hz1 hx1 HC hb1 hb2
  by_cases hok : specOk s
  · rw [told_yes hok]
    have hrr : strongR s.parties.length s.arcs = r := by rw [← hr.out]; exact (str_same hok).symm
    replace hrr := hide hrr
    have hA := ok_getD hok
    obtain ⟨hn2, hn6, hn12⟩ := ok_parts hok
    have HX : Hid (∀ W, SvAt W g cs → ∃ a1 k1, W.cell? ⟨g, 1, none⟩ = some (.slice a1 s.parties.length k1)) := fun W hW => by
      obtain ⟨a1, a2, a3, a4, k1, k2, k3, k4, hcs, _⟩ := hv
      injection hcs with hcs
      have h9 : W.heap[g]? = some (.cells (cells7 a1 a2 a3 a4 k1 k2 k3 k4 s) 27 (0, 0)) := by rw [← hcs]; exact hW
      exact ⟨_, _, (cells7_at h9).2.1⟩
    have HR : Hid (∀ W, Below g w W → ∀ a b : Nat, a < 6 → b < 6 → Calls Try.prog 75 #[.agg cs, .int .i64 (a : Int), .int .i64 (b : Int), .slice none 0 0] W fun e w' => e = .returned (.bool (reachR s.arcs (a : Int) (b : Int) [])) ∧ Below W.heap.size W w') := fun W hW a b ha hb => reach_any (hv.below (by rw [hg]; exact hW)).toV hA (by omega) a b ha hb none 0 [] (ints_nil W) (fun x hx => by simp at hx) (by simp)
    clear hok hA hv
    obtain ⟨n, hn⟩ : ∃ n, s.parties.length = n := ⟨_, rfl⟩
    rw [hn] at hn2 hn6 hrr HX
    clear hn
    go_wp2_with fail
    go_loopw [3] (fun i wr => ∃ k : Nat, k ≤ n ∧ i = .int .i64 k ∧ Hid (∀ a b : Nat, a < k → b < n → a ≠ b → reachR s.arcs (a : Int) (b : Int) [] = true) ∧ SvAt wr g cs ∧ Below g w wr) (fun i _ => n - (intOf i).toNat)
    case atStart => exact ⟨0, by omega, rfl, fun a b ha => absurd ha (by omega), hx2, hB2⟩
    case round =>
      clear hx2 hB2
      obtain ⟨k, hk, rfl, HD, hx, hB⟩ := hrel
      obtain ⟨a1, k1, c1⟩ := HX.out _ hx
      by_cases hlt : k < n
      · have k1' : (k : Int) < (n : Int) := by omega
        go_wp2_with fail
        clear c1
        go_loopw [4] (fun i wr => ∃ j : Nat, j ≤ n ∧ i = .int .i64 j ∧ Hid (∀ b : Nat, b < j → k ≠ b → reachR s.arcs (k : Int) (b : Int) [] = true) ∧ SvAt wr g cs ∧ Below g w wr) (fun i _ => n - (intOf i).toNat)
        case atStart => exact ⟨0, by omega, rfl, fun b hb => absurd hb (by omega), hx, hB⟩
        case round =>
          clear hx hB
          obtain ⟨j, hj, rfl, HE, hx, hB⟩ := hrel
          obtain ⟨a1, k1, c1⟩ := HX.out _ hx
          by_cases hjl : j < n
          · have j1' : (j : Int) < (n : Int) := by omega
            by_cases e : k = j
            · have t0 : ((k : Int) != (j : Int)) = false := nat_same e
              replace e := hide e
              go_wp2_with fail
              go_roundw
              case rel => exact ⟨j + 1, by omega, by go_num, fun b hb hne => HE.out b (by have := e.out; omega) hne, hx, hB⟩
              case measure => simp [intOf]; omega
            · have t0 : ((k : Int) != (j : Int)) = true := nat_ne e
              have HR3 := HR.out wr hB k j (by omega) (by omega)
              obtain ⟨t, ht⟩ : ∃ t, reachR s.arcs (k : Int) (j : Int) [] = t := ⟨_, rfl⟩
              rw [ht] at HR3
              replace HR3 := hide HR3
              replace ht := hide ht
              replace e := hide e
              go_wp2_with ((with_reducible refine wpList_at ?_); refine wpList_loadV (by rfl) (.tmp 1) (by rfl) _ cs (by rfl) hx h7 ?_)
              refine HR3.out.mono ?_
              rintro e' w3 ⟨rfl, hb3⟩
              have hx3 := hx.below hb3
              have hB3 : Below g w w3 := hB.trans (hb3.mono (by have := hx.lt; omega))
              clear hx hB hb3 HR3 c1
              cases t with
              | true =>
                go_wp2_with fail
                go_roundw
                case rel => exact ⟨j + 1, by omega, by go_num, fun b hb hne => by
                  by_cases h : b < j
                  · exact HE.out b h hne
                  · have : b = j := by omega
                    subst this; exact ht.out, hx3, hB3⟩
                case measure => simp [intOf]; omega
              | false =>
                have hf : Hid (r = false) := by show _ = _; rw [← hrr.out]; exact strongR_no _ _ k j hlt hjl e.out ht.out
                go_wp2
                go_ret
                exact ⟨ret_bool hf.out.symm, by rw [hg]; exact hB3⟩
          · have j1' : ¬ (j : Int) < (n : Int) := by omega
            go_wp2_with fail
            go_roundw
            case rel => exact ⟨k + 1, by omega, by go_num, fun a b ha hb hne => by
              by_cases h : a < k
              · exact HD.out a b h hb hne
              · have : a = k := by omega
                subst this; exact HE.out b (by omega) hne, hx, hB⟩
            case measure => simp [intOf]; omega
      · have k1' : ¬ (k : Int) < (n : Int) := by omega
        have hf : Hid (r = true) := by show _ = _; rw [← hrr.out]; exact strongR_yes _ _ (fun a b ha hb hne => HD.out a b (by omega) hb hne)
        go_wp2
        go_ret
        exact ⟨ret_bool hf.out.symm, hB⟩
  · rw [told_no hok]
    have hf : Hid (r = false) := by show _ = _; rw [← hr.out]; unfold strM; rw [told_no hok]; rfl
    go_wp2
    go_ret
    exact ⟨ret_bool hf.out.symm, by rw [hg]; exact hB2⟩

set_option maxRecDepth 10000 in
set_option maxHeartbeats 1000000 in
theorem rvalid_any {w : World} {v : Value} {s : SpecM} (hv : SpecW w v s) : Calls Try.prog 24 #[v] w fun e w' => e = .returned (.bool (validM s)) ∧ Below w.heap.size w w' := by
  obtain ⟨cs, rfl, h7⟩ := hv.seven
  obtain ⟨g, hg⟩ : ∃ g, w.heap.size = g := ⟨_, rfl⟩
  have HS := fun W (h : Below w.heap.size w W) => rstrong_any (hv.below h)
  have HF := fun W (h : Below w.heap.size w W) => rfeedback_any (hv.below h)
  unfold validM
  generalize strM s = r1 at HS ⊢
  generalize fbkM s = r2 at HF ⊢
  replace HS := hide HS
  replace HF := hide HF
  clear hv
  go_enter Try.func24, Try.ntmps24
  go_wp2_with (first
    | ((with_reducible refine wpList_at ?_); refine wpList_boxv (by rfl) 27 (.tmp 0) (by rfl) _ (by rfl) ?_; rw [hg]; intro w1 hu1 hz1 hb1; have hx1 : SvAt w1 g cs := hu1; clear hu1)
    | ((with_reducible refine wpList_at ?_); refine wpList_loadV (by rfl) (.tmp 1) (by rfl) _ cs (by rfl) hx1 h7 ?_))
  refine (HS.out _ (by rw [hg]; exact hb1)).mono ?_
  rintro e w2 ⟨rfl, hb2⟩
  have hx2 := hx1.below hb2
  have hB2 : Below g w w2 := hb1.trans (hb2.mono (by omega))
  clear hz1 hx1 HS hb1 hb2
  cases r1 with
  | false =>
    go_wp2
    go_ret
    exact ⟨rfl, by rw [hg]; exact hB2⟩
  | true =>
    go_wp2_with ((with_reducible refine wpList_at ?_); refine wpList_loadV (by rfl) (.tmp 1) (by rfl) _ cs (by rfl) hx2 h7 ?_)
    refine (HF.out _ (by rw [hg]; exact hB2)).mono ?_
    rintro e w3 ⟨rfl, hb3⟩
    go_wp2
    go_ret
    exact ⟨rfl, by rw [hg]; exact hB2.trans (hb3.mono (by have := hx2.lt; omega))⟩

set_option maxRecDepth 10000 in
set_option maxHeartbeats 1000000 in
theorem rarc_any {w : World} {v : Value} {s : SpecM} (hv : SpecW w v s) (a b : Int) :
    Calls Try.prog 35 #[v, .int .i64 a, .int .i64 b] w fun e w' => e = .returned (.bool (told (arcM s.arcs a b))) ∧ Below w.heap.size w w' := by
  obtain ⟨a1, a2, a3, a4, k1, k2, k3, k4, rfl, LI, hcap⟩ := hv
  obtain ⟨g, hg⟩ : ∃ g, w.heap.size = g := ⟨_, rfl⟩
  rw [hg]
  obtain ⟨r, hr⟩ : ∃ r, told (arcM s.arcs a b) = r := ⟨_, rfl⟩
  rw [hr]
  replace hr := hide hr
  have HA := hide LI.arcs
  have hnm := LI.arcs.1
  unfold maxLen at hnm
  clear LI hcap
  obtain ⟨n, hn⟩ : ∃ n, s.arcs.length = n := ⟨_, rfl⟩
  go_enter Try.func35, Try.ntmps35
  go_wp2_with ((with_reducible refine wpList_at ?_); refine wpList_boxv (by rfl) 27 (.tmp 0) (by rfl) _ (by rfl) ?_; rw [hg]; intro w1 hg1 hz1 hb1; obtain ⟨q0, q1, q2, q3, q4, q5, q6⟩ := cells7_at hg1; rw [hn] at q2; clear hg1 q0 q1 q3 q4 q5 q6 hz1)
  rw [hn] at hnm
  replace hn := hide hn
  go_loopw [7] (fun i wr => ∃ j : Nat, j ≤ n ∧ i = .int .i64 j ∧ Hid (∀ i, i < j → ¬ ((s.arcs.getD i noArc).src = a ∧ (s.arcs.getD i noArc).dst = b)) ∧ wr = w1) (fun i _ => n - (intOf i).toNat)
  case atStart => exact ⟨0, by omega, rfl, fun j hj => absurd hj (by omega), rfl⟩
  case round =>
    obtain ⟨j, hj, rfl, HO, rfl⟩ := hrel
    by_cases hlt : j < n
    · have j1 : (j : Int) < (n : Int) := by omega
      obtain ⟨X, hX⟩ : ∃ X, s.arcs.getD j noArc = X := ⟨_, rfl⟩
      obtain ⟨b2, o2, rfl, _, _, _, _, _, d0, d1, _⟩ := (HA.out.below (by rw [hg]; exact hb1)).2 j (by rw [hn.out]; exact hlt)
      rw [hX] at d0 d1
      replace hX := hide hX
      by_cases h0 : X.src = a
      · have t0 : (X.src == a) = true := by rw [h0]; exact beq_self_eq_true _
        by_cases h1 : X.dst = b
        · have t1 : (X.dst == b) = true := by rw [h1]; exact beq_self_eq_true _
          have hf : Hid (r = true) := by show _ = _; rw [← hr.out]; exact told_yes ⟨j, by rw [hn.out]; exact hlt, by rw [hX.out]; exact ⟨h0, h1⟩⟩
          clear h0 h1
          go_wp2
          go_ret
          exact ⟨ret_bool hf.out.symm, hb1⟩
        · have t1 : (X.dst == b) = false := by rw [beq_eq_false_iff_ne]; exact h1
          have hx : Hid (¬ (X.src = a ∧ X.dst = b)) := fun h => h1 h.2
          clear h0 h1
          go_wp2
          go_roundw
          case rel =>
            refine ⟨j + 1, by omega, by go_num, fun i hi => ?_, trivial⟩
            by_cases hij : i = j
            · subst hij; rw [hX.out]; exact hx.out
            · exact HO.out i (by omega)
          case measure => simp [intOf]; omega
      · have t0 : (X.src == a) = false := by rw [beq_eq_false_iff_ne]; exact h0
        have hx : Hid (¬ (X.src = a ∧ X.dst = b)) := fun h => h0 h.1
        clear h0
        go_wp2
        go_roundw
        case rel =>
          refine ⟨j + 1, by omega, by go_num, fun i hi => ?_, trivial⟩
          by_cases hij : i = j
          · subst hij; rw [hX.out]; exact hx.out
          · exact HO.out i (by omega)
        case measure => simp [intOf]; omega
    · have j1 : ¬ (j : Int) < (n : Int) := by omega
      have hf : Hid (r = false) := by
        show _ = _
        rw [← hr.out]
        exact told_no (fun ⟨i, hi, hx⟩ => HO.out i (by rw [hn.out] at hi; omega) hx)
      go_wp2
      go_ret
      exact ⟨ret_bool hf.out.symm, hb1⟩

end Go.Proofs.Ythoimecljfcjmaa

/-
  Chapter 5's own answers: Enter, Leave.
-/
namespace Go.Proofs.Ythoimecljfcjmaa
open Go.RowKit


set_option maxRecDepth 10000 in
set_option maxHeartbeats 2000000 in
theorem rent_any {w : World} {v : Value} {s : SpecM} (hv : SpecW w v s) (a : Int) (L : List Int) (h1 : specOk s → L = entL s.arcs a s.arcs.length) (h2 : ¬ specOk s → L = []) :
    Calls Try.prog 7 #[v, .int .i64 a] w fun e w' => ∃ u, e = .returned u ∧ OwnI w' w.heap.size u L ∧ Below w.heap.size w w' := by
  obtain ⟨cs, rfl, h7⟩ := hv.seven
  obtain ⟨g, hg⟩ : ∃ g, w.heap.size = g := ⟨_, rfl⟩
  rw [hg]
  have HC := fun W (h : Below w.heap.size w W) => refcheck_any (hv.below h).toV
  replace HC := hide HC
  obtain ⟨a1, a2, a3, a4, k1, k2, k3, k4, hcs, LI, hcap⟩ := hv
  injection hcs with hcs
  have HA : Hid (∀ W, Below g w W → Arcs W a2 s.arcs) := fun W hW => LI.arcs.below (by rw [hg]; exact hW)
  have HX : Hid (∀ W, SvAt W g cs → W.cell? ⟨g, 2, none⟩ = some (.slice a2 s.arcs.length k2)) := fun W hW => by
    have h9 : W.heap[g]? = some (.cells (cells7 a1 a2 a3 a4 k1 k2 k3 k4 s) 27 (0, 0)) := by rw [← hcs]; exact hW
    exact (cells7_at h9).2.2.1
  have hnm := LI.arcs.1
  unfold maxLen at hnm
  clear hcs LI hcap
  have H12 : Hid (specOk s → s.arcs.length ≤ 12) := fun h => (ok_parts h).2.2
  obtain ⟨n, hn⟩ : ∃ n, s.arcs.length = n := ⟨_, rfl⟩
  rw [hn] at HX hnm H12 h1
  replace hn := hide hn
  replace h1 := hide h1
  replace h2 := hide h2
  go_enter Try.func7, Try.ntmps7
  go_wp2_with ((with_reducible refine wpList_at ?_); refine wpList_boxv (by rfl) 27 (.tmp 0) (by rfl) _ (by rfl) ?_; rw [hg]; intro w1 hu1 hz1 hb1; have hx1 : SvAt w1 g cs := hu1; clear hu1)
  go_loopw [5, 6] (fun vl i wr => ∃ k : Nat, k ≤ n ∧ i = .int .i64 k ∧ Hid (k = 0 ∨ specOk s) ∧ OwnI wr (g + 1) vl (entL s.arcs a k) ∧ SvAt wr g cs ∧ Below g w wr ∧ g + 1 ≤ wr.heap.size) (fun _ i _ => n - (intOf i).toNat)
  case atStart => exact ⟨0, by omega, rfl, .inl rfl, World.ownsRow_nil _ _ _ _, hx1, hb1, by omega⟩
  case round =>
    clear hx1 hb1 hz1
    obtain ⟨k, hk, rfl, hor, hO, hx, hB, hz⟩ := hrel
    obtain ⟨va, vc, rfl⟩ := row_slice hO
    have hlen := ent_len s.arcs a k
    have c2 := HX.out _ hx
    by_cases hlt : k < n
    · have k1' : (k : Int) < (n : Int) := by omega
      have HC3 := hide (HC.out wr (by rw [hg]; exact hB))
      go_wp2_with ((with_reducible refine wpList_at ?_); refine wpList_loadV (by rfl) (.tmp 2) (by rfl) _ cs (by rfl) hx h7 ?_)
      refine HC3.out.mono ?_
      rintro e w3 ⟨rfl, hb3⟩
      have hO3 := own_below hO hb3
      have hx3 := hx.below hb3
      have hB3 : Below g w w3 := hB.trans (hb3.mono (by omega))
      have hz3 : g + 1 ≤ w3.heap.size := Nat.le_trans hz hb3.size
      clear hO hx hB hz hb3 c2 HC3
      by_cases hok : specOk s
      · rw [told_yes hok]
        have hk12 := H12.out hok
        have c2 := HX.out _ hx3
        obtain ⟨X, hX⟩ : ∃ X, s.arcs.getD k noArc = X := ⟨_, rfl⟩
        obtain ⟨b2, o2, rfl, _, _, _, _, _, d0, d1, _⟩ := (HA.out w3 hB3).2 k (by rw [hn.out]; exact hlt)
        rw [hX] at d0 d1
        replace hX := hide hX
        replace hok := hide hok
        replace hO3 := hide hO3
        replace hx3 := hide hx3
        replace hB3 := hide hB3
        by_cases hxx : X.dst = a
        · have t0 : (X.dst == a) = true := by rw [hxx]; exact beq_self_eq_true _
          have HN := hide (ent_yes s.arcs a k (by rw [hX.out]; exact hxx))
          clear hxx
          go_wp2_with (at_builtin; refine wpList_put1 (st := 22) Try.underlying22 Try.info3 rfl (by decide) (by decide) w3 _ (by rfl) (.tmp 26) (.tmp 28) (by rfl) (g + 1) _ _ _ (by rfl) hO3.out (by rfl) rfl (by intro u hu; simp at hu; subst hu; rfl) (by omega) hz3 ?_; intro v8 w8 hown8 hg8; obtain ⟨v8a, v8c, rfl⟩ := row_slice hown8)
          go_roundw
          case rel =>
            have hlt8 := World.ownsRow.lt hO3.out
            have hne : some g ≠ Value.ownBlock (.slice va (entL s.arcs a k).length vc) := fun e => by have := (hlt8 g e.symm).1; omega
            have hx8 : SvAt w8 g cs := by have h9 := hx3.out; unfold SvAt at h9 ⊢; rw [hg8.block g (Array.getElem?_eq_some_iff.1 h9).1 hne]; exact h9
            refine ⟨k + 1, by omega, by go_num, .inr hok.out, ?_, hx8, hB3.out.grown hg8 (by omega) (fun k hk => by have := (hlt8 k hk).1; omega), Nat.le_trans hz3 hg8.size⟩
            rw [HN.out]
            unfold OwnI
            rw [List.length_append, List.map_append]; exact hown8
          case measure => simp [intOf]; omega
        · have t0 : (X.dst == a) = false := by rw [beq_eq_false_iff_ne]; exact hxx
          have HN := hide (ent_no s.arcs a k (by rw [hX.out]; exact hxx))
          clear hxx
          go_wp2_with fail
          go_roundw
          case rel => exact ⟨k + 1, by omega, by go_num, .inr hok.out, by rw [HN.out]; exact hO3.out, hx3.out, hB3.out, hz3⟩
          case measure => simp [intOf]; omega
      · rw [told_no hok]
        have hk0 : k = 0 := hor.out.resolve_right hok
        have HZ := hide (h2.out hok)
        subst hk0
        replace hO3 := hide hO3
        go_wp2
        go_ret
        refine ⟨_, rfl, ?_, hB3⟩
        rw [HZ.out]
        exact base_row (show OwnI w3 (g + 1) (.slice va (entL s.arcs a 0).length vc) [] from hO3.out) (by omega)
    · have k1' : ¬ (k : Int) < (n : Int) := by omega
      have hkn : k = n := by omega
      have HL : Hid (L = entL s.arcs a k) := by
        show _ = _
        by_cases hok : specOk s
        · rw [h1.out hok, hkn]
        · rw [h2.out hok, hor.out.resolve_right hok]; rfl
      replace hO := hide hO
      replace hkn := hide hkn
      go_wp2
      go_ret
      refine ⟨_, rfl, ?_, hB⟩
      rw [HL.out]
      exact base_row hO.out (by omega)

end Go.Proofs.Ythoimecljfcjmaa
