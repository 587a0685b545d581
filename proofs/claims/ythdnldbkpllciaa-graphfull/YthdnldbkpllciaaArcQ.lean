/-
  The statements' arcs by numbers may be.
-/
import Derived.Test.YthdnldbkpllciaaZ26
namespace Go.Proofs.Ythdnldbkpllciaa
open Go.RowKit

/-- Pairs of parties below n, each unlike all ahead of it: a ring's, or such as come ahead of (a, b). -/
def PairsOk (n a b : Nat) (l : List ArcM) : Prop := (∀ x ∈ l, ∃ s d : Nat, x.src = (s : Int) ∧ x.dst = (d : Int) ∧ s < n ∧ d < n ∧ s ≠ d ∧ (d = (s + 1) % n ∨ s < a ∨ s = a ∧ d < b)) ∧ l.Pairwise (fun x y => ¬ (x.src = y.src ∧ x.dst = y.dst))
theorem ring_step (n j : Nat) (hn : 2 ≤ n) (hj : j < n) : j ≠ (j + 1) % n := by
  by_cases h : j + 1 = n
  · rw [h, Nat.mod_self]; omega
  · rw [Nat.mod_eq_of_lt (by omega)]; omega
theorem ring_pairs (n j : Nat) (hn : 2 ≤ n) (hj : j ≤ n) : PairsOk n 0 0 (ringL n j) ∧ ∀ x ∈ ringL n j, x.src < (j : Int) := by
  induction j with
  | zero => exact ⟨⟨fun x hx => by simp [ringL] at hx, by simp [ringL]⟩, fun x hx => by simp [ringL] at hx⟩
  | succ j ih =>
    obtain ⟨⟨h1, h2⟩, h3⟩ := ih (by omega)
    refine ⟨⟨fun x hx => ?_, ?_⟩, fun x hx => ?_⟩
    · rcases List.mem_append.1 hx with hx | hx
      · exact h1 x hx
      · simp at hx; subst hx
        exact ⟨j, (j + 1) % n, rfl, rfl, by omega, Nat.mod_lt _ (by omega), ring_step n j hn (by omega), .inl rfl⟩
    · rw [ringL, List.pairwise_append]
      refine ⟨h2, by simp, fun x hx y hy => ?_⟩
      simp at hy; subst hy
      have := h3 x hx
      intro e
      have e1 : x.src = (j : Int) := e.1
      omega
    · rcases List.mem_append.1 hx with hx | hx
      · have := h3 x hx; omega
      · simp at hx; subst hx; show ((j : Nat) : Int) < _; omega
theorem pair_pairs (n a b : Nat) (q : List ArcM × Nat) (ha : a < n) (hb : b < n) (h : PairsOk n a b q.1) : PairsOk n a (b + 1) (pairF n a b q).1 := by
  have up : PairsOk n a (b + 1) q.1 := ⟨fun x hx => by
    obtain ⟨s, d, e1, e2, e3, e4, e5, e6⟩ := h.1 x hx
    exact ⟨s, d, e1, e2, e3, e4, e5, by omega⟩, h.2⟩
  unfold pairF
  split
  · exact up
  · rename_i hne
    simp only
    split
    · refine ⟨fun x hx => ?_, ?_⟩
      · rcases List.mem_append.1 hx with hx | hx
        · exact up.1 x hx
        · simp at hx; subst hx
          exact ⟨a, b, rfl, rfl, ha, hb, fun e => hne (.inl e), .inr (.inr ⟨rfl, by omega⟩)⟩
      · rw [List.pairwise_append]
        refine ⟨h.2, by simp, fun x hx y hy => ?_⟩
        simp at hy; subst hy
        obtain ⟨s, d, e1, e2, e3, e4, e5, e6⟩ := h.1 x hx
        intro e
        have f1 : x.src = (a : Int) := e.1
        have f2 : x.dst = (b : Int) := e.2
        have g1 : s = a := by omega
        have g2 : d = b := by omega
        subst g1 g2
        rcases e6 with e6 | e6 | e6
        · exact hne (.inr e6)
        · omega
        · omega
    · exact up
theorem fillB_pairs (n a b : Nat) (q : List ArcM × Nat) (ha : a < n) (hb : b ≤ n) (h : PairsOk n a 0 q.1) : PairsOk n a b (fillB n a b q).1 := by
  induction b with
  | zero => exact h
  | succ b ih => exact pair_pairs n a b _ ha (by omega) (ih (by omega))
theorem fillA_pairs (n a : Nat) (q : List ArcM × Nat) (ha : a ≤ n) (h : PairsOk n 0 0 q.1) : PairsOk n a 0 (fillA n a q).1 := by
  induction a with
  | zero => exact h
  | succ a ih =>
    have h9 := fillB_pairs n a n (fillA n a q) (by omega) (Nat.le_refl _) (ih (by omega))
    refine ⟨fun x hx => ?_, h9.2⟩
    obtain ⟨s, d, e1, e2, e3, e4, e5, e6⟩ := h9.1 x hx
    exact ⟨s, d, e1, e2, e3, e4, e5, by omega⟩
theorem pairF_grows (n a b : Nat) (q : List ArcM × Nat) : q.1.length ≤ (pairF n a b q).1.length := by
  unfold pairF
  split
  · exact Nat.le_refl _
  · simp only
    split
    · rw [List.length_append]; omega
    · exact Nat.le_refl _
theorem fillB_grows (n a b : Nat) (q : List ArcM × Nat) : q.1.length ≤ (fillB n a b q).1.length := by
  induction b with
  | zero => exact Nat.le_refl _
  | succ b ih => exact Nat.le_trans ih (pairF_grows _ _ _ _)
theorem fillA_grows (n a : Nat) (q : List ArcM × Nat) : q.1.length ≤ (fillA n a q).1.length := by
  induction a with
  | zero => exact Nat.le_refl _
  | succ a ih => exact Nat.le_trans ih (fillB_grows _ _ _ _)
theorem arcsP_len (n bits ledgers : Nat) (h6 : n ≤ 6) : n ≤ (arcsP n bits ledgers).length ∧ (arcsP n bits ledgers).length ≤ 8 := by
  unfold arcsP
  simp only [List.length_mapIdx]
  have h1 := fillA_grows n n (ringL n n, bits)
  have h2 := fillA_len n n (ringL n n, bits) (by show (ringL n n).length ≤ 8; rw [ringL_len]; omega)
  rw [show (ringL n n, bits).1.length = n from ringL_len n n] at h1
  exact ⟨h1, h2⟩
theorem deck_get (b g : Nat) (l : List ArcM) (i : Nat) (hi : i < l.length) : (l.mapIdx (deck b g)).getD i noArc = deck b g i (l.getD i noArc) := by
  simp [List.getD_eq_getElem?_getD, List.getElem?_mapIdx, List.getElem?_eq_getElem hi]
theorem arcsP_fine (n bits ledgers : Nat) (h2 : 2 ≤ n) (h6 : n ≤ 6) : arcsFine n (arcsP n bits ledgers) := by
  obtain ⟨l1, l2⟩ := arcsP_len n bits ledgers h6
  refine ⟨by omega, by omega, fun i hi => ?_⟩
  have hp := fillA_pairs n n (ringL n n, bits) (Nat.le_refl _) (ring_pairs n n h2 (Nat.le_refl _)).1
  unfold arcsP at hi ⊢
  simp only [List.length_mapIdx] at hi ⊢
  generalize fillA n n (ringL n n, bits) = q at hp hi ⊢
  obtain ⟨l, pb⟩ := q
  simp only at hp hi ⊢
  have hmem := getD_mem l i noArc hi
  obtain ⟨s, d, e1, e2, e3, e4, e5, _⟩ := hp.1 _ hmem
  rw [deck_get _ _ _ _ hi]
  refine ⟨⟨?_, ?_, ?_, ?_, ?_, ?_, ?_, ?_, ?_, ?_⟩, fun k hk => ?_⟩
  · show 0 ≤ (l.getD i noArc).src; omega
  · show (l.getD i noArc).src < (n : Int); omega
  · show 0 ≤ (l.getD i noArc).dst; omega
  · show (l.getD i noArc).dst < (n : Int); omega
  · show (l.getD i noArc).src ≠ (l.getD i noArc).dst; omega
  · show (0 : Int) ≤ (((i + ledgers) % (1 + ledgers % 3) : Nat) : Int); omega
  · show (((i + ledgers) % (1 + ledgers % 3) : Nat) : Int) < 4
    have h9 : (i + ledgers) % (1 + ledgers % 3) < 1 + ledgers % 3 := Nat.mod_lt _ (by omega)
    omega
  · show nameOk (if (i + pb) % 2 = 0 then gold else salt)
    split <;> (unfold nameOk; decide)
  · show (1 : Int) ≤ ((1 + (7 * i + ledgers) % 20 : Nat) : Int); omega
  · show ((1 + (7 * i + ledgers) % 20 : Nat) : Int) ≤ 1125899906842624; omega
  · rw [deck_get _ _ _ _ (by omega)]
    show ¬ ((l.getD k noArc).src = (l.getD i noArc).src ∧ (l.getD k noArc).dst = (l.getD i noArc).dst)
    have h9 := List.pairwise_iff_getElem.1 hp.2 k i (by omega) hi hk
    simpa [List.getD_eq_getElem?_getD, List.getElem?_eq_getElem hi, List.getElem?_eq_getElem (show k < l.length by omega)] using h9
theorem arcsP_sane (n bits ledgers : Nat) (h2 : 2 ≤ n) (h6 : n ≤ 6) : ∀ j, j < (arcsP n bits ledgers).length → ArcSane ((arcsP n bits ledgers).getD j noArc) := fun j hj => by
  obtain ⟨⟨i1, i2, i3, i4, _, i5, i6, ⟨_, i7⟩, i8, i9⟩, _⟩ := (arcsP_fine n bits ledgers h2 h6).2.2 j hj
  exact ⟨⟨by omega, by omega⟩, ⟨by omega, by omega⟩, ⟨by omega, by omega⟩, ⟨by omega, by omega⟩, by omega⟩

end Go.Proofs.Ythdnldbkpllciaa
