/-
  Chapter 5's own Feedback.
-/
import Derived.Test.YthoimecljfcjmaaFb
import Derived.Test.YthoimecljfcjmaaZ26
import Derived.Test.YthoimecljfcjmaaZ02
namespace Go.Proofs.Ythoimecljfcjmaa
open Go.RowKit

theorem fbR_yes (n : Nat) (A : List ArcM) (L : List Int) (h : ∀ a, a < n → reachR A (a : Int) (a : Int) L = false) : fbR n A L = true := by
  unfold fbR
  rw [List.all_eq_true]
  intro a ha
  rw [h a (List.mem_range.1 ha)]; rfl
theorem fbR_no (n : Nat) (A : List ArcM) (L : List Int) (a : Nat) (ha : a < n) (h : reachR A (a : Int) (a : Int) L = true) : fbR n A L = false := by
  unfold fbR
  rw [List.all_eq_false]
  exact ⟨a, List.mem_range.2 ha, by rw [h]; simp⟩
/-- What Feedback tells. -/
def fbM (s : SpecM) (h : Decidable (specOk s) := Classical.propDecidable (specOk s)) : Bool := told (specOk s) h && fbR s.parties.length s.arcs s.leaders

set_option maxRecDepth 10000 in
set_option maxHeartbeats 2000000 in
theorem feedback_any {w : World} {v : Value} {s : SpecM} (hv : SpecW w v s) : Calls Try.prog 51 #[v] w fun e w' => e = .returned (.bool (fbM s)) ∧ Below w.heap.size w w' := by
  obtain ⟨cs, rfl, h7⟩ := hv.seven
  obtain ⟨g, hg⟩ : ∃ g, w.heap.size = g := ⟨_, rfl⟩
  obtain ⟨r, hr⟩ : ∃ r, fbM s = r := ⟨_, rfl⟩
  rw [hr]
  replace hr := hide hr
  have HC := fun W (h : Below w.heap.size w W) => refcheck_any (hv.below h).toV
  replace HC := hide HC
  go_enter Try.func51, Try.ntmps51
  go_wp2_with (first
    | ((with_reducible refine wpList_at ?_); refine wpList_boxv (by rfl) 27 (.tmp 0) (by rfl) _ (by rfl) ?_; rw [hg]; intro w1 hu1 hz1 hb1; have hx1 : SvAt w1 g cs := hu1)
    | ((with_reducible refine wpList_at ?_); refine wpList_loadV (by rfl) (.tmp 1) (by rfl) _ cs (by rfl) hx1 h7 ?_))
  refine (HC.out _ (by rw [hg]; exact hb1)).mono ?_
  rintro e w2 ⟨rfl, hb2⟩
  have hx2 := hx1.below hb2
  have hB2 : Below g w w2 := hb1.trans (hb2.mono (by omega))
  clear hu1 hz1 hx1 HC hb1 hb2
  by_cases hok : specOk s
  · rw [told_yes hok]
    have hrr : fbR s.parties.length s.arcs s.leaders = r := by rw [← hr.out]; unfold fbM; rw [told_yes hok]; rfl
    replace hrr := hide hrr
    have hok' := hok
    obtain ⟨_, ⟨l1, l2, l3, l4⟩, ⟨p1, p2, p3⟩, ⟨q1, q2, q3⟩, _⟩ := hok'
    have hA : ∀ j, j < s.arcs.length → 0 ≤ (s.arcs.getD j noArc).dst ∧ (s.arcs.getD j noArc).dst < 6 := fun j hj => by
      obtain ⟨⟨_, _, i3, i4, _⟩, _⟩ := q3 j hj
      omega
    have hL6 : ∀ x ∈ s.leaders, 0 ≤ x ∧ x < 6 := fun x hx => by
      obtain ⟨j, hj, rfl⟩ := List.mem_iff_getElem.1 hx
      obtain ⟨i1, i2, _⟩ := l4 j hj
      rw [List.getD_eq_getElem?_getD, List.getElem?_eq_getElem hj] at i1 i2
      simp at i1 i2
      omega
    replace hA := hide hA
    replace hL6 := hide hL6
    clear l3 l4 p3 q3
    obtain ⟨a1, a2, a3, a4, k1, k2, k3, k4, hcs, LI, hcap⟩ := hv
    injection hcs with hcs
    have HV : Hid (∀ W, Below g w W → SpecW W (.agg cs) s) := fun W hW => by
      rw [hcs]
      exact ⟨a1, a2, a3, a4, k1, k2, k3, k4, rfl, LI.below (by rw [hg]; exact hW), hcap⟩
    have HL : Hid (∀ W, Below g w W → Ints W a3 s.leaders.length s.leaders) := fun W hW => LI.leaders.below (by rw [hg]; exact hW)
    have HX : ∀ W, SvAt W g cs → W.cell? ⟨g, 1, none⟩ = some (.slice a1 s.parties.length k1) ∧ W.cell? ⟨g, 3, none⟩ = some (.slice a3 s.leaders.length k3) := fun W hW => by
      have h9 : W.heap[g]? = some (.cells (cells7 a1 a2 a3 a4 k1 k2 k3 k4 s) 27 (0, 0)) := by rw [← hcs]; exact hW
      exact ⟨(cells7_at h9).2.1, (cells7_at h9).2.2.2.1⟩
    replace HX := hide HX
    clear hcs LI hcap hok
    go_wp2_with fail
    go_loopw [3] (fun i wr => ∃ k : Nat, k ≤ s.parties.length ∧ i = .int .i64 k ∧ Hid (∀ j, j < k → reachR s.arcs (j : Int) (j : Int) s.leaders = false) ∧ SvAt wr g cs ∧ Below g w wr) (fun i _ => s.parties.length - (intOf i).toNat)
    case atStart => exact ⟨0, by omega, rfl, fun j hj => absurd hj (by omega), hx2, hB2⟩
    case round =>
      clear hx2 hB2
      obtain ⟨k, hk, rfl, HD, hx, hB⟩ := hrel
      obtain ⟨c1, c3⟩ := HX.out _ hx
      by_cases hlt : k < s.parties.length
      · have k1' : (k : Int) < (s.parties.length : Int) := by omega
        have HR := reach_any (HV.out wr hB).toV hA.out (by omega) k k (by omega) (by omega) a3 k3 s.leaders (HL.out wr hB) hL6.out (by omega)
        obtain ⟨t, ht⟩ : ∃ t, reachR s.arcs (k : Int) (k : Int) s.leaders = t := ⟨_, rfl⟩
        rw [ht] at HR
        have HT : Hid (reachR s.arcs (k : Int) (k : Int) s.leaders = t) := ht
        replace HR := hide HR
        clear ht
        go_wp2_with ((with_reducible refine wpList_at ?_); refine wpList_loadV (by rfl) (.tmp 1) (by rfl) _ cs (by rfl) hx h7 ?_)
        refine HR.out.mono ?_
        rintro e w3 ⟨rfl, hb3⟩
        have hx3 := hx.below hb3
        have hB3 : Below g w w3 := hB.trans (hb3.mono (by have := hx.lt; omega))
        clear hx hB hb3 HR c1 c3
        cases t with
        | true =>
          have hf : Hid (r = false) := by show _ = _; rw [← hrr.out]; exact fbR_no _ _ _ k hlt HT.out
          go_wp2
          go_ret
          exact ⟨ret_bool hf.out.symm, by rw [hg]; exact hB3⟩
        | false =>
          go_wp2_with fail
          go_roundw
          case rel => exact ⟨k + 1, by omega, by go_num, fun j hj => by
            by_cases h : j < k
            · exact HD.out j h
            · have : j = k := by omega
              subst this; exact HT.out, hx3, hB3⟩
          case measure => simp [intOf]; omega
      · have k1' : ¬ (k : Int) < (s.parties.length : Int) := by omega
        have hf : Hid (r = true) := by show _ = _; rw [← hrr.out]; exact fbR_yes _ _ _ (fun a ha => HD.out a (by omega))
        go_wp2
        go_ret
        exact ⟨ret_bool hf.out.symm, hB⟩
  · rw [told_no hok]
    have hf : Hid (r = false) := by show _ = _; rw [← hr.out]; unfold fbM; rw [told_no hok]; rfl
    go_wp2
    go_ret
    exact ⟨ret_bool hf.out.symm, by rw [hg]; exact hB2⟩

end Go.Proofs.Ythoimecljfcjmaa
