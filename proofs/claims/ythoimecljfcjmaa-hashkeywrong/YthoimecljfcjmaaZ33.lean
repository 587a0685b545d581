/-
  The statements' arcs by numbers may be.
-/
import Derived.Test.YthoimecljfcjmaaZ26
import Derived.Test.YthoimecljfcjmaaZ23
import Derived.Test.YthoimecljfcjmaaLoose
import Derived.Test.YthoimecljfcjmaaZ00
import Derived.Test.YthoimecljfcjmaaKeyed
namespace Go.Proofs.Ythoimecljfcjmaa
open Go.RowKit

/-- Pairs of parties below n, each unlike all ahead of it: a ring's, or such as come ahead of (a, b). -/
def PairsOk (n a b : Nat) (l : List ArcM) : Prop := (∀ x ∈ l, ∃ s d : Nat, x.src = (s : Int) ∧ x.dst = (d : Int) ∧ s < n ∧ d < n ∧ s ≠ d ∧ (d = (s + 1) % n ∨ s < a ∨ s = a ∧ d < b)) ∧ l.Pairwise (fun x y => ¬ (x.src = y.src ∧ x.dst = y.dst))
theorem ring_step (n j : Nat) (hn : 2 ≤ n) (hj : j < n) : j ≠ (j + 1) % n := by
  by_cases h : j + 1 = n
  · rw [h, Nat.mod_self]; omega
  · rw [Nat.mod_eq_of_lt (by omega)]; omega
theorem ring_pairs (n j : Nat) (hn : 2 ≤ n) (hj : j ≤ n) : PairsOk n 0 0 (ringL n j) ∧ ∀ x ∈ ringL n j, x.src < (j : Int) := by
  induction j with
  | zero => exact ⟨⟨fun x hx => by simp [ringL] at hx, by simp [ringL]⟩, fun x hx => by simp [ringL] at hx⟩
  | succ j ih =>
    obtain ⟨⟨h1, h2⟩, h3⟩ := ih (by omega)
    refine ⟨⟨fun x hx => ?_, ?_⟩, fun x hx => ?_⟩
    · rcases List.mem_append.1 hx with hx | hx
      · exact h1 x hx
      · simp at hx; subst hx
        exact ⟨j, (j + 1) % n, rfl, rfl, by omega, Nat.mod_lt _ (by omega), ring_step n j hn (by omega), .inl rfl⟩
    · rw [ringL, List.pairwise_append]
      refine ⟨h2, by simp, fun x hx y hy => ?_⟩
      simp at hy; subst hy
      have := h3 x hx
      intro e
      have e1 : x.src = (j : Int) := e.1
      omega
    · rcases List.mem_append.1 hx with hx | hx
      · have := h3 x hx; omega
      · simp at hx; subst hx; show ((j : Nat) : Int) < _; omega
theorem pair_pairs (n a b : Nat) (q : List ArcM × Nat) (ha : a < n) (hb : b < n) (h : PairsOk n a b q.1) : PairsOk n a (b + 1) (pairF n a b q).1 := by
  have up : PairsOk n a (b + 1) q.1 := ⟨fun x hx => by
    obtain ⟨s, d, e1, e2, e3, e4, e5, e6⟩ := h.1 x hx
    exact ⟨s, d, e1, e2, e3, e4, e5, by omega⟩, h.2⟩
  unfold pairF
  split
  · exact up
  · rename_i hne
    simp only
    split
    · refine ⟨fun x hx => ?_, ?_⟩
      · rcases List.mem_append.1 hx with hx | hx
        · exact up.1 x hx
        · simp at hx; subst hx
          exact ⟨a, b, rfl, rfl, ha, hb, fun e => hne (.inl e), .inr (.inr ⟨rfl, by omega⟩)⟩
      · rw [List.pairwise_append]
        refine ⟨h.2, by simp, fun x hx y hy => ?_⟩
        simp at hy; subst hy
        obtain ⟨s, d, e1, e2, e3, e4, e5, e6⟩ := h.1 x hx
        intro e
        have f1 : x.src = (a : Int) := e.1
        have f2 : x.dst = (b : Int) := e.2
        have g1 : s = a := by omega
        have g2 : d = b := by omega
        subst g1 g2
        rcases e6 with e6 | e6 | e6
        · exact hne (.inr e6)
        · omega
        · omega
    · exact up
theorem fillB_pairs (n a b : Nat) (q : List ArcM × Nat) (ha : a < n) (hb : b ≤ n) (h : PairsOk n a 0 q.1) : PairsOk n a b (fillB n a b q).1 := by
  induction b with
  | zero => exact h
  | succ b ih => exact pair_pairs n a b _ ha (by omega) (ih (by omega))
theorem fillA_pairs (n a : Nat) (q : List ArcM × Nat) (ha : a ≤ n) (h : PairsOk n 0 0 q.1) : PairsOk n a 0 (fillA n a q).1 := by
  induction a with
  | zero => exact h
  | succ a ih =>
    have h9 := fillB_pairs n a n (fillA n a q) (by omega) (Nat.le_refl _) (ih (by omega))
    refine ⟨fun x hx => ?_, h9.2⟩
    obtain ⟨s, d, e1, e2, e3, e4, e5, e6⟩ := h9.1 x hx
    exact ⟨s, d, e1, e2, e3, e4, e5, by omega⟩
theorem pairF_grows (n a b : Nat) (q : List ArcM × Nat) : q.1.length ≤ (pairF n a b q).1.length := by
  unfold pairF
  split
  · exact Nat.le_refl _
  · simp only
    split
    · rw [List.length_append]; omega
    · exact Nat.le_refl _
theorem fillB_grows (n a b : Nat) (q : List ArcM × Nat) : q.1.length ≤ (fillB n a b q).1.length := by
  induction b with
  | zero => exact Nat.le_refl _
  | succ b ih => exact Nat.le_trans ih (pairF_grows _ _ _ _)
theorem fillA_grows (n a : Nat) (q : List ArcM × Nat) : q.1.length ≤ (fillA n a q).1.length := by
  induction a with
  | zero => exact Nat.le_refl _
  | succ a ih => exact Nat.le_trans ih (fillB_grows _ _ _ _)
theorem arcsP_len (n bits ledgers : Nat) (h6 : n ≤ 6) : n ≤ (arcsP n bits ledgers).length ∧ (arcsP n bits ledgers).length ≤ 8 := by
  unfold arcsP
  simp only [List.length_mapIdx]
  have h1 := fillA_grows n n (ringL n n, bits)
  have h2 := fillA_len n n (ringL n n, bits) (by show (ringL n n).length ≤ 8; rw [ringL_len]; omega)
  rw [show (ringL n n, bits).1.length = n from ringL_len n n] at h1
  exact ⟨h1, h2⟩
theorem deck_get (b g : Nat) (l : List ArcM) (i : Nat) (hi : i < l.length) : (l.mapIdx (deck b g)).getD i noArc = deck b g i (l.getD i noArc) := by
  simp [List.getD_eq_getElem?_getD, List.getElem?_mapIdx, List.getElem?_eq_getElem hi]
theorem arcsP_fine (n bits ledgers : Nat) (h2 : 2 ≤ n) (h6 : n ≤ 6) : arcsFine n (arcsP n bits ledgers) := by
  obtain ⟨l1, l2⟩ := arcsP_len n bits ledgers h6
  refine ⟨by omega, by omega, fun i hi => ?_⟩
  have hp := fillA_pairs n n (ringL n n, bits) (Nat.le_refl _) (ring_pairs n n h2 (Nat.le_refl _)).1
  unfold arcsP at hi ⊢
  simp only [List.length_mapIdx] at hi ⊢
  generalize fillA n n (ringL n n, bits) = q at hp hi ⊢
  obtain ⟨l, pb⟩ := q
  simp only at hp hi ⊢
  have hmem := getD_mem l i noArc hi
  obtain ⟨s, d, e1, e2, e3, e4, e5, _⟩ := hp.1 _ hmem
  rw [deck_get _ _ _ _ hi]
  refine ⟨⟨?_, ?_, ?_, ?_, ?_, ?_, ?_, ?_, ?_, ?_⟩, fun k hk => ?_⟩
  · show 0 ≤ (l.getD i noArc).src; omega
  · show (l.getD i noArc).src < (n : Int); omega
  · show 0 ≤ (l.getD i noArc).dst; omega
  · show (l.getD i noArc).dst < (n : Int); omega
  · show (l.getD i noArc).src ≠ (l.getD i noArc).dst; omega
  · show (0 : Int) ≤ (((i + ledgers) % (1 + ledgers % 3) : Nat) : Int); omega
  · show (((i + ledgers) % (1 + ledgers % 3) : Nat) : Int) < 4
    have h9 : (i + ledgers) % (1 + ledgers % 3) < 1 + ledgers % 3 := Nat.mod_lt _ (by omega)
    omega
  · show nameOk (if (i + pb) % 2 = 0 then gold else salt)
    split <;> (unfold nameOk; decide)
  · show (1 : Int) ≤ ((1 + (7 * i + ledgers) % 20 : Nat) : Int); omega
  · show ((1 + (7 * i + ledgers) % 20 : Nat) : Int) ≤ 1125899906842624; omega
  · rw [deck_get _ _ _ _ (by omega)]
    show ¬ ((l.getD k noArc).src = (l.getD i noArc).src ∧ (l.getD k noArc).dst = (l.getD i noArc).dst)
    have h9 := List.pairwise_iff_getElem.1 hp.2 k i (by omega) hi hk
    simpa [List.getD_eq_getElem?_getD, List.getElem?_eq_getElem hi, List.getElem?_eq_getElem (show k < l.length by omega)] using h9
theorem arcsP_sane (n bits ledgers : Nat) (h2 : 2 ≤ n) (h6 : n ≤ 6) : ∀ j, j < (arcsP n bits ledgers).length → ArcSane ((arcsP n bits ledgers).getD j noArc) := fun j hj => by
  obtain ⟨⟨i1, i2, i3, i4, _, i5, i6, ⟨_, i7⟩, i8, i9⟩, _⟩ := (arcsP_fine n bits ledgers h2 h6).2.2 j hj
  exact ⟨⟨by omega, by omega⟩, ⟨by omega, by omega⟩, ⟨by omega, by omega⟩, ⟨by omega, by omega⟩, by omega⟩

end Go.Proofs.Ythoimecljfcjmaa

/-
  The statements' Bare: a swap by a number without locks and keys.
-/
namespace Go.Proofs.Ythoimecljfcjmaa
open Go.RowKit
attribute [local go_sem ↓] Go.wp_at_zero Go.wp_at_succ

def swapId : ByteArray := ⟨#[115, 119, 97, 112]⟩
/-- The parties whose bits a number has. -/
def bitsL (m : Nat) : Nat → List Int
  | 0 => []
  | i + 1 => if m / 2 ^ i % 2 = 1 then bitsL m i ++ [(i : Int)] else bitsL m i
theorem bitsL_len (m i : Nat) : (bitsL m i).length ≤ i := by
  induction i with
  | zero => exact Nat.le_refl _
  | succ i ih =>
    rw [bitsL]
    split
    · rw [List.length_append]; simp; omega
    · omega
theorem bitsL_lt (m i : Nat) : ∀ x ∈ bitsL m i, 0 ≤ x ∧ x < (i : Int) := by
  induction i with
  | zero => intro x hx; simp [bitsL] at hx
  | succ i ih =>
    intro x hx
    rw [bitsL] at hx
    split at hx
    · rcases List.mem_append.1 hx with hx | hx
      · have := ih x hx; omega
      · simp at hx; omega
    · have := ih x hx; omega
def bareS (n k : Nat) : SpecM := ⟨swapId, accs n, arcsP n (k / 4 % 4096) (k / 16384 % 5), [], [], (5 + (k : Int) / 81920 % 10), (6 + (k : Int) / 819200 % 9)⟩
/-- The first leaders that are enough. -/
def pickL (n : Nat) (s : SpecM) (f m : Nat) (d : (t : SpecM) → Decidable (specOk t) := fun t => Classical.propDecidable (specOk t)) : Option (List Int) :=
  match f with
  | 0 => none
  | f + 1 => if m < 2 ^ n then (if (bitsL m n).length ≤ 3 ∧ fbM (looseM s (bitsL m n)) (d (looseM s (bitsL m n))) = true then some (bitsL m n) else pickL n s f (m + 1) d) else none
def bareM (k : Nat) (d : (t : SpecM) → Decidable (specOk t) := fun t => Classical.propDecidable (specOk t)) : SpecM :=
  match pickL (2 + k % 4) (bareS (2 + k % 4) k) 40 1 d with
  | some l => { bareS (2 + k % 4) k with leaders := l }
  | none => { bareS (2 + k % 4) k with arcs := arcsP (2 + k % 4) 0 0, leaders := [0] }
/-- A swap whose rows are a call's own, its parties without keys. -/
def OwnBare (w : World) (B : Nat) (v : Value) (s : SpecM) : Prop := ∃ v1 v2 v3, v = .agg (scells s.id v1 v2 v3 (.slice none 0 0) s.start s.delta) ∧ w.ownsRow B 52 2 v1 s.parties.length (pcells s.parties (List.replicate s.parties.length (.slice none 0 0))) ∧ OwnA w B v2 s.arcs ∧ OwnI w B v3 s.leaders

theorem bits_and : ∀ y, y < 33 → bits .and .i64 ((y : Nat) : Int) 1 = ((y % 2 : Nat) : Int) := by decide +kernel
theorem bare_sane (n k : Nat) (h2 : 2 ≤ n) (h5 : n ≤ 5) : SaneS (bareS n k) := by
  have hl := arcsP_len n (k / 4 % 4096) (k / 16384 % 5) (by omega)
  refine ⟨by show swapId.size ≤ 1000; decide, by show (accs n).length ≤ 1000; rw [accs_len]; omega, fun j hj => ?_, by show (arcsP n (k / 4 % 4096) (k / 16384 % 5)).length ≤ 1000; omega, arcsP_sane n _ _ h2 (by omega), Nat.zero_le _, fun j hj => absurd hj (by simp [bareS]), Nat.zero_le _, fun j hj => absurd hj (by simp [bareS]), ⟨?_, ?_⟩, ⟨?_, ?_⟩⟩
  · have hj' : j < n := by have : j < (accs n).length := hj; rw [accs_len] at this; exact this
    have e : (accs n).getD j noParty = ⟨accB j, []⟩ := by simp [accs, List.getD_eq_getElem?_getD, List.getElem?_range hj']
    show PartySane ((accs n).getD j noParty)
    rw [e]
    exact ⟨by show (accB j).size ≤ 1000; rw [accB_size]; omega, Nat.zero_le _, fun i hi => absurd hi (by simp)⟩
  · show (-9223372036854775808 : Int) ≤ 5 + (k : Int) / 81920 % 10; omega
  · show 5 + (k : Int) / 81920 % 10 ≤ (9223372036854775807 : Int); omega
  · show (-9223372036854775808 : Int) ≤ 6 + (k : Int) / 819200 % 9; omega
  · show 6 + (k : Int) / 819200 % 9 ≤ (9223372036854775807 : Int); omega
theorem norow (w : World) (B : Nat) (v : Value) (n : Nat) (h : w.ownsRow B 52 2 v n (pcells (accs n) (List.replicate n (.slice none 0 0)))) : PRow w B v (accs n) := by
  refine ⟨List.replicate n (.slice none 0 0), by simp [accs_len], by rw [accs_len]; exact h, fun j hj => ?_⟩
  have hj' : j < n := by rw [accs_len] at hj; exact hj
  rw [show (List.replicate n (Value.slice none 0 0)).getD j undef = .slice none 0 0 by simp [List.getD_eq_getElem?_getD, hj'], show ((accs n).getD j noParty).keys = [] by simp [accs, List.getD_eq_getElem?_getD, List.getElem?_range hj']]
  exact World.ownsRow_nil _ _ _ _

set_option maxRecDepth 100000 in
set_option maxHeartbeats 4000000 in
theorem bare_any (v : Int) : ∃ k : Nat, k < 1073741824 ∧ ∀ w, Calls Try.prog 12 #[.int .i64 v] w fun e w' => ∃ u, e = .returned u ∧ OwnBare w' w.heap.size u (bareM k) ∧ Below w.heap.size w w' := by
  obtain ⟨k, hk, HP⟩ := place_ex v 1073741824 (by omega) (by omega)
  refine ⟨k, by omega, fun w => ?_⟩
  obtain ⟨g, hg⟩ : ∃ g, w.heap.size = g := ⟨_, rfl⟩
  obtain ⟨n, hn⟩ : ∃ n, 2 + k % 4 = n := ⟨_, rfl⟩
  have hn2 : 2 ≤ n := by omega
  have hn5 : n ≤ 5 := by omega
  have hM : Hid (bareM k = (match pickL n (bareS n k) 40 1 with | some l => { bareS n k with leaders := l } | none => { bareS n k with arcs := arcsP n 0 0, leaders := [0] })) := by show _ = _; unfold bareM; rw [hn]
  have HA := fun W => arcs_any n (k / 4 % 4096) (k / 16384 % 5) (by omega) (by omega) (by omega) (by omega) W
  have HA0 := fun W => arcs_any n 0 0 (by omega) (by omega) (by omega) (by omega) W
  have u1 : (2 : Int) + (k : Int) % 4 = (n : Int) := by omega
  have u2 : (k : Int) / 4 % 4096 = ((k / 4 % 4096 : Nat) : Int) := by omega
  have u3 : (k : Int) / 16384 % 5 = ((k / 16384 % 5 : Nat) : Int) := by omega
  replace u1 := hide u1
  replace u2 := hide u2
  replace u3 := hide u3
  replace HA := hide HA
  replace HA0 := hide HA0
  replace HP := hide HP
  have hz0 : (w.alloc (Obj.cells #[Value.string ⟨#[]⟩, Value.slice none 0 0, Value.slice none 0 0, Value.slice none 0 0, Value.slice none 0 0, Value.int IntKind.i64 0, Value.int IntKind.i64 0] 27)).heap.size = g + 1 := by simp [hg]
  have hZ0 : SAt (w.alloc (Obj.cells #[Value.string ⟨#[]⟩, Value.slice none 0 0, Value.slice none 0 0, Value.slice none 0 0, Value.slice none 0 0, Value.int IntKind.i64 0, Value.int IntKind.i64 0] 27)) g ⟨#[]⟩ (.slice none 0 0) (.slice none 0 0) (.slice none 0 0) (.slice none 0 0) 0 0 := by unfold SAt; rw [← hg, heap_alloc_new]; rfl
  have hB0 : Below g w (w.alloc (Obj.cells #[Value.string ⟨#[]⟩, Value.slice none 0 0, Value.slice none 0 0, Value.slice none 0 0, Value.slice none 0 0, Value.int IntKind.i64 0, Value.int IntKind.i64 0] 27)) := (Below.refl _ _).alloc (by omega) _
  go_enter Try.func12, Try.ntmps12
  go_wp2_with fail
  refine (HP.out _).mono ?_
  rintro e w0 ⟨rfl, hw0⟩
  subst w0
  go_wp2_with fail
  rw [u1.out, u2.out, u3.out]
  refine (HA.out _).mono ?_
  rintro e w2 ⟨v2, rfl, hA2, hb2⟩
  obtain ⟨va2, vc2, rfl⟩ := row_slice hA2
  rw [hz0] at hA2
  have hB2 := hB0.trans (hb2.mono (by omega))
  have hZ2 := hZ0.below hb2
  have hs2 := hb2.size
  rw [hz0] at hs2
  have HS : Hid (bareS n k = ⟨swapId, accs n, arcsP n (k / 4 % 4096) (k / 16384 % 5), [], [], 5 + (k : Int) / 81920 % 10, 6 + (k : Int) / 819200 % 9⟩) := (rfl : _ = _)
  generalize arcsP n (k / 4 % 4096) (k / 16384 % 5) = AR at hA2 HS ⊢
  clear hb2 hB0 hZ0 hz0 HA HP u1 u2 u3
  go_wp2_with fail
  obtain ⟨st, hst⟩ : ∃ st : Int, 5 + (k : Int) / 81920 % 10 = st := ⟨_, rfl⟩
  obtain ⟨de, hde⟩ : ∃ de : Int, 6 + (k : Int) / 819200 % 9 = de := ⟨_, rfl⟩
  rw [hst, hde] at HS
  simp only [hst, hde]
  have ha2 : Below w2.heap.size w2 (w2.alloc (Obj.cells #[Value.string ⟨#[115, 119, 97, 112]⟩, Value.slice none 0 0, Value.slice va2 AR.length vc2, Value.slice none 0 0, Value.slice none 0 0, Value.int IntKind.i64 st, Value.int IntKind.i64 de] 27)) := (Below.refl _ _).alloc (Nat.le_refl _) _
  have hB3 := hB2.trans (ha2.mono (by omega))
  have hZ3 := hZ2.below ha2
  have hA3 := hA2.below ha2
  have hS3 : SAt (w2.alloc (Obj.cells #[Value.string ⟨#[115, 119, 97, 112]⟩, Value.slice none 0 0, Value.slice va2 AR.length vc2, Value.slice none 0 0, Value.slice none 0 0, Value.int IntKind.i64 st, Value.int IntKind.i64 de] 27)) w2.heap.size swapId (.slice none 0 0) (.slice va2 AR.length vc2) (.slice none 0 0) (.slice none 0 0) st de := by unfold SAt; rw [heap_alloc_new]; rfl
  have hz3 : ((w2.alloc (Obj.cells #[Value.string ⟨#[115, 119, 97, 112]⟩, Value.slice none 0 0, Value.slice va2 AR.length vc2, Value.slice none 0 0, Value.slice none 0 0, Value.int IntKind.i64 st, Value.int IntKind.i64 de] 27))).heap.size = w2.heap.size + 1 := by simp
  generalize (w2.alloc (Obj.cells #[Value.string ⟨#[115, 119, 97, 112]⟩, Value.slice none 0 0, Value.slice va2 AR.length vc2, Value.slice none 0 0, Value.slice none 0 0, Value.int IntKind.i64 st, Value.int IntKind.i64 de] 27)) = w3 at hB3 hZ3 hA3 hS3 hz3 ⊢
  obtain ⟨gS, hgS⟩ : ∃ gS, w2.heap.size = gS := ⟨_, rfl⟩
  rw [hgS] at hS3 hz3 hs2 ⊢
  clear hgS ha2 hA2 hB2 hZ2
  clear w2
  go_loopw [6] (fun i wr => ∃ (j : Nat) (v1 : Value), j ≤ n ∧ i = .int .i64 j ∧ wr.ownsRow (gS + 1) 52 2 v1 j (pcells (accs j) (List.replicate j (.slice none 0 0))) ∧ SAt wr gS swapId v1 (.slice va2 AR.length vc2) (.slice none 0 0) (.slice none 0 0) st de ∧ SAt wr g ⟨#[]⟩ (.slice none 0 0) (.slice none 0 0) (.slice none 0 0) (.slice none 0 0) 0 0 ∧ OwnA wr (g + 1) (.slice va2 AR.length vc2) AR ∧ Below g w wr ∧ gS + 1 ≤ wr.heap.size) (fun i _ => n - (intOf i).toNat)
  case atStart => exact ⟨0, _, by omega, rfl, World.ownsRow_nil _ _ _ _, hS3, hZ3, hA3, hB3, by omega⟩
  case round =>
    clear hS3 hZ3 hA3 hB3 hz3
    obtain ⟨j, v1, hj, rfl, hrow, hS, hZ, hA, hbel, hsz⟩ := hrel
    have c1 := hS.cells.2.1
    have f1 := hS.frozen 1
    by_cases hlt : j < n
    · have j1 : (j : Int) < (n : Int) := by omega
      obtain ⟨d, hd, HD⟩ := account_acc j (by omega)
      obtain ⟨va, vc, rfl⟩ := row_slice hrow
      have hlt1 := World.ownsRow.lt hrow
      replace hd := hide hd
      replace HD := hide HD
      replace hrow := hide hrow
      replace hS := hide hS
      replace hZ := hide hZ
      replace hA := hide hA
      replace hlt1 := hide hlt1
      replace hst := hide hst
      replace hde := hide hde
      go_wp2_with fail
      go_region_law (first
        | (refine step_put1 (st := 23) Try.underlying23 Try.info52 rfl (by decide) (by decide) w6 _ (by rfl) (.tmp 38) (.tmp 42) (by rfl) (gS + 1) _ _ _ (by rfl) own6 (by rfl) rfl (by intro u hu; simp at hu; rcases hu with rfl | rfl <;> rfl) (by omega) hz6 ?_; intro v7 w7 hown7 hg7; obtain ⟨v7a, v7c, rfl⟩ := row_slice hown7; have hne7 : some gS ≠ Value.ownBlock (.slice va j vc) := (fun e => by have := (hlt1.out gS e.symm).1; omega); have c7 := hg7.cell c6 hne7; have f7 := grown_frozen hg7 hne7 c6 f6)
        | (go_simp; go_at_call 30; refine (HD.out _).mono ?_; rintro e w6 ⟨rfl, hw6⟩; have hb6' : Below wr.heap.size wr w6 := (by rw [hw6]; exact ⟨rfl, rfl, rfl, Nat.le_refl _, fun _ _ => rfl⟩); clear hw6; have c6 := cell_on hb6' c1; have f6 := (SAt.below hS.out hb6').frozen 1; have own6 := own_below hrow.out hb6'; have hz6 : gS + 1 ≤ w6.heap.size := Nat.le_trans hsz hb6'.size; have d6 : ∀ o, (w6.alloc o).cell? ⟨gS, 1, none⟩ = some (.slice va j vc) := (fun o => cell_on ((Below.refl _ _).alloc (Nat.le_refl _) o) c6); go_wp2_with fail))
      all_goals
        go_wp2
        go_roundw
        case rel =>
          have hS6 := SAt.below hS.out hb6'
          have hS7 := hS6.grown hg7 hne7
          have hneg : some g ≠ Value.ownBlock (.slice va j vc) := fun e => by have := (hlt1.out g e.symm).1; omega
          have hZ7 := (SAt.below hZ.out hb6').grown hg7 hneg
          have hA7 := (hA.out.below hb6').grown own6 hg7 (by decide)
          have hset := But.setCell w7 gS 1 (.slice v7a (j + 1) v7c)
          have hR7 : w7.ownsRow (gS + 1) 52 2 (.slice v7a (j + 1) v7c) (j + 1) (pcells (accs (j + 1)) (List.replicate (j + 1) (.slice none 0 0))) := by
            rw [accs_succ, List.replicate_succ', pcells_snoc _ _ _ _ (by simp [accs_len]), ← hd.out]; exact hown7
          have hB7 : Below g w w7 := (hbel.trans (hb6'.mono (by omega))).grown hg7 (by omega) (fun k hk => by have := (hlt1.out k hk).1; omega)
          refine ⟨j + 1, _, by omega, by go_num, World.ownsRow.kept hR7 hset.grown (row_apart hR7 hS7 (by decide)), hS7.set1 _, hZ7.but hset (by omega), World.ownsRow.kept hA7 hset.grown (row_apart hA7 hS7 (by decide)), hB7.setCell (by show g ≤ gS; omega) _, ?_⟩
          have h7 := hg7.size
          have h8 := hset.size
          omega
        case measure => simp [intOf]; omega
    · have j1 : ¬ (j : Int) < (n : Int) := by omega
      have hjn : j = n := by omega
      rw [hjn] at hrow
      replace hst := hide hst
      replace hde := hide hde
      clear c1 f1 hlt hjn hj
      obtain ⟨v1a, v1c, rfl⟩ := row_slice hrow
      replace hrow := hide hrow
      replace hS := hide hS
      replace hZ := hide hZ
      replace hA := hide hA
      replace hn := hide hn
      replace hk := hide hk
      go_wp2_with fail
      clear j1
      go_loopw [7] (fun i wr => ∃ m : Nat, 1 ≤ m ∧ m ≤ 2 ^ n ∧ i = .int .i64 m ∧ Hid (pickL n (bareS n k) 40 1 = pickL n (bareS n k) (41 - m) m) ∧ wr.ownsRow (gS + 1) 52 2 (.slice v1a n v1c) n (pcells (accs n) (List.replicate n (.slice none 0 0))) ∧ SAt wr gS swapId (.slice v1a n v1c) (.slice va2 AR.length vc2) (.slice none 0 0) (.slice none 0 0) st de ∧ SAt wr g ⟨#[]⟩ (.slice none 0 0) (.slice none 0 0) (.slice none 0 0) (.slice none 0 0) 0 0 ∧ OwnA wr (g + 1) (.slice va2 AR.length vc2) AR ∧ Below g w wr ∧ gS + 1 ≤ wr.heap.size) (fun i _ => 2 ^ n - (intOf i).toNat)
      case atStart => exact ⟨1, Nat.le_refl _, Nat.one_le_two_pow, rfl, (rfl : _ = _), hrow.out, hS.out, hZ.out, hA.out, hbel, hsz⟩
      case round =>
        clear hrow hS hZ hA hbel hsz
        obtain ⟨m, hm1, hm2, rfl, HM, hrow, hS, hZ, hA, hbel, hsz⟩ := hrel
        obtain ⟨N2, hN2⟩ : ∃ N2, 2 ^ n = N2 := ⟨_, rfl⟩
        have hN32 : N2 ≤ 32 := by rw [← hN2]; exact Nat.pow_le_pow_right (by omega) hn5
        rw [hN2] at hm2
        have hp : (2 : Int) ^ n = (N2 : Int) := by rw [← hN2]; push_cast; rfl
        have hp' : (2 : Nat) ^ n ≤ 32 := by omega
        by_cases hlt : m < N2
        · have m1 : (m : Int) < (N2 : Int) := by omega
          replace hN2 := hide hN2
          replace hp' := hide hp'
          go_upto_region 11 with fail
          clear hp m1
          have hrow' := hide hrow
          have hS' := hide hS
          have hZ' := hide hZ
          have hA' := hide hA
          have hbel' := hide hbel
          clear hrow hS hZ hA hbel
          obtain ⟨C, hC⟩ : ∃ C, wr.heap.size = C := ⟨_, rfl⟩
          obtain ⟨w8, hw8⟩ : ∃ w8, wr = w8 := ⟨_, rfl⟩
          rw [hw8] at hrow' hS' hZ' hA' hbel' hsz hC ⊢
          clear hw8
          go_wp2_with fail
          go_loopw [8, 9] (fun vl i wr => ∃ i' : Nat, i' ≤ n ∧ i = .int .i64 i' ∧ OwnI wr C vl (bitsL m i') ∧ Below w8.heap.size w8 wr) (fun _ i _ => n - (intOf i).toNat)
          case atStart => exact ⟨0, by omega, rfl, World.ownsRow_nil _ _ _ _, Below.refl _ _⟩
          case round =>
            obtain ⟨i, hi, rfl, hO, hb⟩ := hrel
            have hCr : C ≤ wr.heap.size := by have := hb.size; omega
            by_cases hlti : i < n
            · have i1 : (i : Int) < (n : Int) := by omega
              obtain ⟨y, hy⟩ : ∃ y, m / 2 ^ i = y := ⟨_, rfl⟩
              have hym : y ≤ m := by rw [← hy]; exact Nat.div_le_self _ _
              have e1 : (m : Int) / 2 ^ i = (y : Int) := by rw [← hy]; push_cast; rfl
              have e2 := bits_and y (by omega)
              have hlen := bitsL_len m i
              have HB : Hid (bitsL m (i + 1) = if y % 2 = 1 then bitsL m i ++ [(i : Int)] else bitsL m i) := by show _ = _; rw [bitsL, hy]
              obtain ⟨va, vc, rfl⟩ := row_slice hO
              by_cases c1 : y % 2 = 1
              · rw [c1] at e2
                rw [if_pos c1] at HB
                clear hy c1 hym
                replace hO := hide hO
                go_wp2_with (at_builtin; refine wpList_put1 (st := 22) Try.underlying22 Try.info3 rfl (by decide) (by decide) wr _ (by rfl) (.tmp 63) (.tmp 65) (by rfl) C _ _ _ (by rfl) hO.out (by rfl) rfl (by intro u hu; simp at hu; subst hu; rfl) (by omega) hCr ?_; intro v7 w7 hown7 hg7; obtain ⟨v7a, v7c, rfl⟩ := row_slice hown7)
                go_roundw
                case rel =>
                  refine ⟨i + 1, by omega, by go_num, by rw [HB.out]; unfold OwnI; rw [List.length_append, List.map_append]; exact hown7, ?_⟩
                  exact hb.grown hg7 (by omega) (fun k hk => by have := row_own hO.out k hk; omega)
                case measure => simp [intOf]; omega
              · have c0 : y % 2 = 0 := by omega
                rw [c0] at e2
                rw [if_neg c1] at HB
                clear hy c1 c0 hym
                replace hO := hide hO
                go_wp2_with fail
                go_roundw
                case rel => exact ⟨i + 1, by omega, by go_num, by rw [HB.out]; exact hO.out, hb⟩
                case measure => simp [intOf]; omega
            · have i1 : ¬ (i : Int) < (n : Int) := by omega
              have hin : i = n := by omega
              rw [hin] at hO
              clear hlti hin hi
              have hlenL := bitsL_len m n
              obtain ⟨bl, hbl⟩ : ∃ bl, bitsL m n = bl := ⟨_, rfl⟩
              have hblt := bitsL_lt m n
              rw [hbl] at hO hlenL hblt
              obtain ⟨f, hf⟩ : ∃ f, 41 - m = f + 1 := ⟨40 - m, by omega⟩
              have hf' : 41 - (m + 1) = f := by omega
              have HM2 : Hid (pickL n (bareS n k) 40 1 = (if bl.length ≤ 3 ∧ fbM (looseM (bareS n k) bl) = true then some bl else pickL n (bareS n k) f (m + 1))) := by
                have h9 := HM.out
                have h8 : pickL n (bareS n k) (f + 1) m = (if bl.length ≤ 3 ∧ fbM (looseM (bareS n k) bl) = true then some bl else pickL n (bareS n k) f (m + 1)) := by rw [pickL, if_pos (by rw [hN2.out]; exact hlt), hbl]
                rw [hf, h8] at h9
                exact h9
              replace hf' := hide hf'
              replace hbl := hide hbl
              clear hf HM
              obtain ⟨la, lc, hvl, x3, y3, L3⟩ := hO.ints (by omega) (fun j hj => by have := hblt _ (getD_mem bl j 0 hj); exact ⟨by omega, by omega⟩)
              subst hvl
              have hSw := SAt.below hS'.out hb
              have hOS : OwnSpec wr (g + 1) (.agg (scells swapId (.slice v1a n v1c) (.slice va2 AR.length vc2) (.slice none 0 0) (.slice none 0 0) st de)) (bareS n k) := by
                rw [HS.out]
                exact ⟨_, _, _, _, rfl, norow _ _ _ _ (base_row (own_below hrow'.out hb) (by omega)), hA'.out.below hb, World.ownsRow_nil _ _ _ _, World.ownsRow_nil _ _ _ _⟩
              have hW := hOS.wide (bare_sane n k hn2 hn5)
              have hpl : (bareS n k).parties.length = n := by show (accs n).length = n; exact accs_len n
              obtain ⟨cs, hcs, h7⟩ := hW.seven
              injection hcs with hcs
              have hv9 : SvAt wr gS cs := by rw [← hcs]; exact hSw
              rw [hcs] at hW
              by_cases c3 : bl.length ≤ 3
              · have c3' : (bl.length : Int) ≤ 3 := by omega
                have HL := loose_any hW (bare_sane n k hn2 hn5) (by omega) (by omega) la lc bl L3 x3 y3 c3
                obtain ⟨r, hr⟩ : ∃ r, fbM (looseM (bareS n k) bl) = r := ⟨_, rfl⟩
                rw [hr] at HL HM2
                replace HL := hide HL
                replace hO := hide hO
                clear hr hW hOS L3 hcs hpl
                go_wp2_with ((with_reducible refine wpList_at ?_); refine wpList_loadV (by rfl) (.tmp 5) (by rfl) _ cs (by rfl) hv9 h7 ?_)
                refine HL.out.mono ?_
                rintro e w9 ⟨rfl, hb9⟩
                have hB9 := below_then hb hb9
                clear HL hv9
                cases r with
                | true =>
                  have HF : Hid (pickL n (bareS n k) 40 1 = some bl) := by
                    have h9 := HM2.out
                    rw [if_pos ⟨c3, rfl⟩] at h9
                    exact h9
                  have hS9 := SAt.below hS'.out hB9
                  have q3 := hS9.cells.2.2.2.1
                  have f3 := hS9.frozen 3
                  have hSa := hide (hS9.set3 (.slice la bl.length lc))
                  have hset := But.setCell w9 gS 3 (.slice la bl.length lc)
                  have hZa := hide ((SAt.below hZ'.out hB9).but hset (by omega))
                  have hra : Hid ((w9.setCell ⟨gS, 3, none⟩ (.slice la bl.length lc)).ownsRow (gS + 1) 52 2 (.slice v1a n v1c) n (pcells (accs n) (List.replicate n (.slice none 0 0)))) := World.ownsRow.kept (own_below hrow'.out hB9) hset.grown (row_apart (own_below hrow'.out hB9) hS9 (by decide))
                  have hAa : Hid (OwnA (w9.setCell ⟨gS, 3, none⟩ (.slice la bl.length lc)) (g + 1) (.slice va2 AR.length vc2) AR) := World.ownsRow.kept (hA'.out.below hB9) hset.grown (row_apart (hA'.out.below hB9) hS9 (by decide))
                  have hOa : Hid (OwnI (w9.setCell ⟨gS, 3, none⟩ (.slice la bl.length lc)) C (.slice la bl.length lc) bl) := World.ownsRow.kept (hO.out.below hb9) hset.grown (row_apart (hO.out.below hb9) hS9 (by decide))
                  have hBa : Hid (Below g w (w9.setCell ⟨gS, 3, none⟩ (.slice la bl.length lc))) := (hbel'.out.trans (hB9.mono (by have := hbel'.out.size; omega))).setCell (p := ⟨gS, 3, none⟩) (by show g ≤ gS; omega) _
                  clear hset hS9
                  go_upto_region 19 with fail
                  clear q3 f3
                  generalize w9.setCell ⟨gS, 3, none⟩ (.slice la bl.length lc) = wa at hSa hZa hra hAa hOa hBa ⊢
                  have hSa' := hSa.out
                  have hZa' := hZa.out
                  go_wp2_with (first
                    | ((with_reducible refine wpList_at ?_); refine wpList_loadS (by rfl) 27 (.tmp 5) (by rfl) gS _ _ _ _ (by rfl) hSa' Try.underlying27 sizeSpecK ?_)
                    | ((with_reducible refine wpList_at ?_); refine wpList_storeS (by rfl) (.tmp 2) (.tmp 77) (by rfl) g _ _ _ _ _ _ _ _ _ _ _ _ _ _ (by rfl) (by rfl) hZa' rfl rfl rfl rfl ?_; intro wb hSb hzb hbb))
                  refine bodyPost_ret (v := .agg _) (results_one (fn := Try.f12) Try.results12 _ _ g 27 _ (0, 0) _ (by rfl) hSb Try.underlying27 sizeSpecK) rfl ?_
                  have hMe : bareM k = ⟨swapId, accs n, AR, bl, [], st, de⟩ := by rw [hM.out, HF.out, HS.out]
                  have hAb := World.ownsRow.kept hAa.out hbb.grown (row_apart hAa.out hZa' (by decide))
                  have hOb := World.ownsRow.kept hOa.out hbb.grown (row_apart hOa.out hZa' (by decide))
                  have hrb := World.ownsRow.kept hra.out hbb.grown (row_apart hra.out hZa' (by decide))
                  have hgC : g ≤ C := by have := hbel'.out.size; omega
                  rw [hg, hMe]
                  refine ⟨_, rfl, ⟨_, _, _, rfl, ?_, base_row hAb (by omega), base_row hOb (by omega)⟩, ?_⟩
                  · show wb.ownsRow g _ 2 _ (accs n).length (pcells (accs n) (List.replicate (accs n).length _))
                    rw [accs_len]; exact base_row hrb (by omega)
                  · have h4 := hBa.out
                    exact ⟨hbb.os.trans h4.os, hbb.tape.trans h4.tape, hbb.output.trans h4.output, Nat.le_trans h4.size hbb.size, fun b hb => (hbb.block b (by have := h4.size; omega) (by omega)).trans (h4.block b (by omega))⟩
                | false =>
                  have HN : Hid (pickL n (bareS n k) 40 1 = pickL n (bareS n k) (41 - (m + 1)) (m + 1)) := by
                    have h9 := HM2.out
                    rw [if_neg (fun h => Bool.noConfusion h.2)] at h9
                    rw [hf'.out]; exact h9
                  go_wp2_with fail
                  go_roundw
                  case rel => exact ⟨m + 1, by omega, by rw [hN2.out]; omega, by go_num, HN, own_below hrow'.out hB9, SAt.below hS'.out hB9, SAt.below hZ'.out hB9, hA'.out.below hB9, hbel'.out.trans (Below.mono hB9 (by have := hbel'.out.size; omega)), Nat.le_trans hsz (hB9).size⟩
                  case measure => simp [intOf]; rw [hN2.out]; omega
              · have c3' : ¬ (bl.length : Int) ≤ 3 := by omega
                have HN : Hid (pickL n (bareS n k) 40 1 = pickL n (bareS n k) (41 - (m + 1)) (m + 1)) := by
                  have h9 := HM2.out
                  rw [if_neg (fun h => c3 h.1)] at h9
                  rw [hf'.out]; exact h9
                replace hO := hide hO
                clear hW hOS L3 hcs hpl hv9 HM2
                go_wp2_with fail
                go_roundw
                case rel => exact ⟨m + 1, by omega, by rw [hN2.out]; omega, by go_num, HN, own_below hrow'.out hb, SAt.below hS'.out hb, SAt.below hZ'.out hb, hA'.out.below hb, hbel'.out.trans (Below.mono hb (by have := hbel'.out.size; omega)), Nat.le_trans hsz (hb).size⟩
                case measure => simp [intOf]; rw [hN2.out]; omega
        · have m1 : ¬ (m : Int) < (N2 : Int) := by omega
          have HF : Hid (pickL n (bareS n k) 40 1 = none) := by
            have h9 := HM.out
            have h8 : pickL n (bareS n k) (41 - m) m = none := by
              cases e : 41 - m with
              | zero => rfl
              | succ f => rw [pickL, if_neg (by rw [hN2]; exact hlt)]
            rw [h8] at h9; exact h9
          have hMe : Hid (bareM k = ⟨swapId, accs n, arcsP n 0 0, [0], [], st, de⟩) := by show _ = _; rw [hM.out, HF.out, HS.out]
          replace hN2 := hide hN2
          replace hp' := hide hp'
          replace hrow := hide hrow
          replace hS := hide hS
          replace hZ := hide hZ
          clear hA HM hlt HF
          go_wp2_with fail
          refine (HA0.out _).mono ?_
          rintro e w8 ⟨v2, rfl, hA8, hb8⟩
          obtain ⟨vb2, vd2, rfl⟩ := row_slice hA8
          clear hp m1
          have hS8 := SAt.below hS.out hb8
          have hZ8 := SAt.below hZ.out hb8
          have hr8 := own_below hrow.out hb8
          have hB8 : Below g w w8 := hbel.trans (hb8.mono (by have := hbel.size; omega))
          have hgw : g + 1 ≤ wr.heap.size := by omega
          have hA8' : OwnA w8 (g + 1) (.slice vb2 (arcsP n 0 0).length vd2) (arcsP n 0 0) := base_row hA8 hgw
          have hz8 : gS + 1 ≤ w8.heap.size := Nat.le_trans hsz hb8.size
          clear hS hZ hrow hbel hsz hb8 hA8
          generalize arcsP n 0 0 = A0 at hA8' hMe ⊢
          have hal : Below w8.heap.size w8 (w8.alloc (Obj.cells #[Value.int IntKind.i64 0] 3)) := (Below.refl _ _).alloc (Nat.le_refl _) _
          have hI9 : OwnI (w8.alloc (Obj.cells #[Value.int IntKind.i64 0] 3)) (g + 1) (.slice (some ⟨w8.heap.size, 0, none⟩) 1 1) [0] := World.ownsRow_lit (base := g + 1) (e := 3) (size := 1) w8 #[Value.int .i64 0] 1 (by omega) (by unfold maxLen; omega) (by simp)
          have hS9 := hS8.below hal
          have hZ9 := hZ8.below hal
          have hr9 := own_below hr8 hal
          have hA9 := hA8'.below hal
          have hB9 : Below g w (w8.alloc (Obj.cells #[Value.int IntKind.i64 0] 3)) := hB8.trans (hal.mono (by omega))
          generalize hw9 : w8.alloc (Obj.cells #[Value.int IntKind.i64 0] 3) = w9 at hI9 hS9 hZ9 hr9 hA9 hB9
          have q2 := hS9.cells.2.2.1
          have f2 := hS9.frozen 2
          have hsetA := But.setCell w9 gS 2 (.slice vb2 A0.length vd2)
          have hSa := hS9.set2 (.slice vb2 A0.length vd2)
          have hZa := hZ9.but hsetA (by omega)
          have hra := World.ownsRow.kept hr9 hsetA.grown (row_apart hr9 hS9 (by decide))
          have hAa := World.ownsRow.kept hA9 hsetA.grown (row_apart hA9 hS9 (by decide))
          have hIa := World.ownsRow.kept hI9 hsetA.grown (row_apart hI9 hS9 (by decide))
          have hBa := hB9.setCell (p := ⟨gS, 2, none⟩) (by show g ≤ gS; omega) (.slice vb2 A0.length vd2)
          generalize hwa : w9.setCell ⟨gS, 2, none⟩ (.slice vb2 A0.length vd2) = wa at hSa hZa hra hAa hIa hBa
          have q3 := hSa.cells.2.2.2.1
          have f3 := hSa.frozen 3
          have hsetB := But.setCell wa gS 3 (.slice (some ⟨w8.heap.size, 0, none⟩) 1 1)
          have hSb := hSa.set3 (.slice (some ⟨w8.heap.size, 0, none⟩) 1 1)
          have hZb := hZa.but hsetB (by omega)
          have hrb := World.ownsRow.kept hra hsetB.grown (row_apart hra hSa (by decide))
          have hAb := World.ownsRow.kept hAa hsetB.grown (row_apart hAa hSa (by decide))
          have hIb := World.ownsRow.kept hIa hsetB.grown (row_apart hIa hSa (by decide))
          have hBb := hBa.setCell (p := ⟨gS, 3, none⟩) (by show g ≤ gS; omega) (.slice (some ⟨w8.heap.size, 0, none⟩) 1 1)
          subst hwa
          subst hw9
          replace hSb := hide hSb
          replace hZb := hide hZb
          replace hrb := hide hrb
          replace hAb := hide hAb
          replace hIb := hide hIb
          replace hBb := hide hBb
          clear hsetA hsetB hSa hZa hra hAa hIa hBa hI9 hS9 hZ9 hr9 hA9 hB9 hal hS8 hZ8 hr8 hA8' hB8
          go_upto_region 21 with fail
          clear q2 f2 q3 f3
          generalize ((w8.alloc (Obj.cells #[Value.int IntKind.i64 0] 3)).setCell ⟨gS, 2, none⟩ (.slice vb2 A0.length vd2)).setCell ⟨gS, 3, none⟩ (.slice (some ⟨w8.heap.size, 0, none⟩) 1 1) = wc at hSb hZb hrb hAb hIb hBb ⊢
          have hSc := hSb.out
          have hZc := hZb.out
          go_wp2_with (first
            | ((with_reducible refine wpList_at ?_); refine wpList_loadS (by rfl) 27 (.tmp 5) (by rfl) gS _ _ _ _ (by rfl) hSc Try.underlying27 sizeSpecK ?_)
            | ((with_reducible refine wpList_at ?_); refine wpList_storeS (by rfl) (.tmp 2) (.tmp 83) (by rfl) g _ _ _ _ _ _ _ _ _ _ _ _ _ _ (by rfl) (by rfl) hZc rfl rfl rfl rfl ?_; intro wd hSd hzd hbd))
          refine bodyPost_ret (v := .agg _) (results_one (fn := Try.f12) Try.results12 _ _ g 27 _ (0, 0) _ (by rfl) hSd Try.underlying27 sizeSpecK) rfl ?_
          have hAd := World.ownsRow.kept hAb.out hbd.grown (row_apart hAb.out hZc (by decide))
          have hId := World.ownsRow.kept hIb.out hbd.grown (row_apart hIb.out hZc (by decide))
          have hrd := World.ownsRow.kept hrb.out hbd.grown (row_apart hrb.out hZc (by decide))
          rw [hg, hMe.out]
          refine ⟨_, rfl, ⟨_, _, _, rfl, ?_, base_row hAd (by omega), base_row hId (by omega)⟩, ?_⟩
          · show wd.ownsRow g _ 2 _ (accs n).length (pcells (accs n) (List.replicate (accs n).length _))
            rw [accs_len]; exact base_row hrd (by omega)
          · have h4 := hBb.out
            exact ⟨hbd.os.trans h4.os, hbd.tape.trans h4.tape, hbd.output.trans h4.output, Nat.le_trans h4.size hbd.size, fun b hb => (hbd.block b (by have := h4.size; omega) (by omega)).trans (h4.block b (by omega))⟩

end Go.Proofs.Ythoimecljfcjmaa

/-
  The statements' Spec: a swap by a number, with locks and keys: it may be.
-/
namespace Go.Proofs.Ythoimecljfcjmaa
open Go.RowKit

theorem bitsL_none (m i : Nat) (h : bitsL m i = []) : m % 2 ^ i = 0 := by
  induction i with
  | zero => simp [Nat.mod_one]
  | succ i ih =>
    rw [bitsL] at h
    split at h
    · simp at h
    · rename_i h1
      rw [Nat.mod_pow_succ, ih h, show m / 2 ^ i % 2 = 0 by omega]; simp
theorem bitsL_nodup (m i : Nat) : (bitsL m i).Pairwise (fun x y => x ≠ y) := by
  induction i with
  | zero => simp [bitsL]
  | succ i ih =>
    rw [bitsL]
    split
    · rw [List.pairwise_append]
      refine ⟨ih, by simp, fun x hx y hy => ?_⟩
      simp at hy; subst hy
      have := bitsL_lt m i x hx
      omega
    · exact ih
/-- Leaders that may be. -/
def leadOk (n : Nat) (L : List Int) : Prop := 1 ≤ L.length ∧ L.length ≤ 3 ∧ ∀ i, i < L.length → 0 ≤ L.getD i 0 ∧ L.getD i 0 < (n : Int) ∧ ∀ k, k < i → L.getD k 0 ≠ L.getD i 0
theorem pick_ok (n : Nat) (s : SpecM) (f m : Nat) (hm : 1 ≤ m) (l : List Int) (h : pickL n s f m = some l) : leadOk n l := by
  induction f generalizing m with
  | zero => simp [pickL] at h
  | succ f ih =>
    rw [pickL] at h
    split at h
    · rename_i hlt
      split at h
      · rename_i hc
        injection h with h
        subst h
        refine ⟨?_, hc.1, fun i hi => ?_⟩
        · cases e : (bitsL m n).length with
          | zero =>
            have := bitsL_none m n (List.eq_nil_of_length_eq_zero e)
            rw [Nat.mod_eq_of_lt hlt] at this; omega
          | succ x => omega
        · have h1 := bitsL_lt m n _ (getD_mem (bitsL m n) i 0 hi)
          refine ⟨h1.1, h1.2, fun k hk => ?_⟩
          have h9 := List.pairwise_iff_getElem.1 (bitsL_nodup m n) k i (by omega) hi hk
          simpa [List.getD_eq_getElem?_getD, List.getElem?_eq_getElem hi, List.getElem?_eq_getElem (show k < (bitsL m n).length by omega)] using h9
      · exact ih (m + 1) (by omega) h
    · simp at h
theorem bare_ok (k : Nat) : ∃ (n : Nat) (A : List ArcM) (L : List Int) (st de : Int), bareM k = ⟨swapId, accs n, A, L, [], st, de⟩ ∧ 2 ≤ n ∧ n ≤ 5 ∧ arcsFine n A ∧ A.length ≤ 8 ∧ leadOk n L ∧ 5 ≤ st ∧ st ≤ 14 ∧ 6 ≤ de ∧ de ≤ 14 := by
  unfold bareM
  obtain ⟨n, hn⟩ : ∃ n, 2 + k % 4 = n := ⟨_, rfl⟩
  rw [hn]
  have b1 : 5 ≤ (bareS n k).start := by show (5 : Int) ≤ 5 + (k : Int) / 81920 % 10; omega
  have b2 : (bareS n k).start ≤ 14 := by show 5 + (k : Int) / 81920 % 10 ≤ (14 : Int); omega
  have b3 : 6 ≤ (bareS n k).delta := by show (6 : Int) ≤ 6 + (k : Int) / 819200 % 9; omega
  have b4 : (bareS n k).delta ≤ 14 := by show 6 + (k : Int) / 819200 % 9 ≤ (14 : Int); omega
  cases e : pickL n (bareS n k) 40 1 with
  | some l => exact ⟨n, _, l, _, _, rfl, by omega, by omega, arcsP_fine n _ _ (by omega) (by omega), (arcsP_len n _ _ (by omega)).2, pick_ok n _ 40 1 (by omega) l e, b1, b2, b3, b4⟩
  | none => exact ⟨n, _, [0], _, _, rfl, by omega, by omega, arcsP_fine n _ _ (by omega) (by omega), (arcsP_len n _ _ (by omega)).2, ⟨by simp, by simp, fun i hi => by
      have hi0 : i = 0 := by simp at hi; exact hi
      subst hi0
      exact ⟨by simp, by simp; omega, fun k hk => absurd hk (by omega)⟩⟩, b1, b2, b3, b4⟩
/-- A swap by a number. -/
def NumSpec (S : SpecM) : Prop := ∃ (n : Nat) (A : List ArcM) (L : List Int) (st de : Int), S = ⟨swapId, withKeys (accs n) L.length, A, L, locksL L.length, st, de⟩ ∧ 2 ≤ n ∧ n ≤ 5 ∧ arcsFine n A ∧ A.length ≤ 8 ∧ leadOk n L ∧ 5 ≤ st ∧ st ≤ 14 ∧ 6 ≤ de ∧ de ≤ 14
theorem NumSpec.ok {S : SpecM} (h : NumSpec S) : specOk S := by
  obtain ⟨n, A, L, st, de, rfl, h2, h5, hA, _, hL, s0, s1, d0, d1⟩ := h
  exact keyed_ok swapId n L.length A L st de (by unfold nameOk; decide) h2 (by omega) hA rfl hL.1 hL.2.1 hL.2.2 (by omega) (by omega) (by omega) (by omega)

set_option maxRecDepth 10000 in
set_option maxHeartbeats 2000000 in
theorem spec_from (v : Int) : ∃ (k n : Nat) (A : List ArcM) (L : List Int) (st de : Int), bareM k = ⟨swapId, accs n, A, L, [], st, de⟩ ∧ NumSpec ⟨swapId, withKeys (accs n) L.length, A, L, locksL L.length, st, de⟩ ∧ ∀ w, Calls Try.prog 4 #[.int .i64 v] w fun e w' => ∃ u, e = .returned u ∧ OwnSpec w' w.heap.size u ⟨swapId, withKeys (accs n) L.length, A, L, locksL L.length, st, de⟩ ∧ Below w.heap.size w w' := by
  obtain ⟨k, hk, HB⟩ := bare_any v
  obtain ⟨n, A, L, st, de, hM, h2, h5, hA, hA8, hL, s0, s1, d0, d1⟩ := bare_ok k
  rw [hM] at HB
  refine ⟨k, n, A, L, st, de, hM, ⟨n, A, L, st, de, rfl, h2, h5, hA, hA8, hL, s0, s1, d0, d1⟩, fun w => ?_⟩
  obtain ⟨g, hg⟩ : ∃ g, w.heap.size = g := ⟨_, rfl⟩
  have hL3 := hL.2.1
  clear hM hk hA hA8 hL
  have hz0 : (w.alloc (Obj.cells #[Value.string ⟨#[]⟩, Value.slice none 0 0, Value.slice none 0 0, Value.slice none 0 0, Value.slice none 0 0, Value.int IntKind.i64 0, Value.int IntKind.i64 0] 27)).heap.size = g + 1 := by simp [hg]
  have hZ0 : SAt (w.alloc (Obj.cells #[Value.string ⟨#[]⟩, Value.slice none 0 0, Value.slice none 0 0, Value.slice none 0 0, Value.slice none 0 0, Value.int IntKind.i64 0, Value.int IntKind.i64 0] 27)) g ⟨#[]⟩ (.slice none 0 0) (.slice none 0 0) (.slice none 0 0) (.slice none 0 0) 0 0 := by unfold SAt; rw [← hg, heap_alloc_new]; rfl
  have hB0 : Below g w (w.alloc (Obj.cells #[Value.string ⟨#[]⟩, Value.slice none 0 0, Value.slice none 0 0, Value.slice none 0 0, Value.slice none 0 0, Value.int IntKind.i64 0, Value.int IntKind.i64 0] 27)) := (Below.refl _ _).alloc (by omega) _
  replace HB := hide HB
  go_enter Try.func4, Try.ntmps4
  go_wp2_with fail
  refine (HB.out _).mono ?_
  rintro e w1 ⟨u, rfl, hO1, hb1⟩
  rw [hz0] at hO1
  obtain ⟨v1, v2, v3, rfl, hr1, hA1, hI1⟩ := hO1
  have hr1' : w1.ownsRow (g + 1) 52 2 v1 (accs n).length (pcells (accs n) (List.replicate (accs n).length (.slice none 0 0))) := hr1
  obtain ⟨a3, c3, rfl⟩ := row_slice hI1
  have hI1' : OwnI w1 (g + 1) (.slice a3 L.length c3) L := hI1
  have hA1' : OwnA w1 (g + 1) v2 A := hA1
  have hZ1 := hZ0.below hb1
  have hB1 := hB0.trans (hb1.mono (by omega))
  have hs1 := hb1.size
  rw [hz0] at hs1
  have hlt1 := World.ownsRow.lt hr1'
  have HK := keyed_any swapId v1 v2 a3 L.length c3 (.slice none 0 0) st de (g + 1) (accs n) w1 (own_one hA1') hL3 (by rw [accs_len]; omega) hs1 hr1'
  clear hr1 hI1 hA1 hb1 hB0 hZ0 hz0 HB
  obtain ⟨va, vc, rfl⟩ := row_slice hr1'
  obtain ⟨vb, vd, rfl⟩ := row_slice hA1'
  replace HK := hide HK
  go_wp2_with (first
    | (go_at_call 11; refine HK.out.mono ?_; rintro e w4 ⟨v4, rfl, hP4, hL4, hg4⟩; obtain ⟨va4, vc4, rfl⟩ := row_slice hL4; have hneg : some g ≠ Value.ownBlock (.slice va (accs n).length vc) := (fun e => by have := (hlt1 g e.symm).1; omega); have hZ4 := hZ1.grown hg4 hneg)
    | ((with_reducible refine wpList_at ?_); refine wpList_storeS (by rfl) (.tmp 2) (.tmp 5) (by rfl) g _ _ _ _ _ _ _ _ _ _ _ _ _ _ (by rfl) (by rfl) hZ4 rfl rfl rfl rfl ?_; intro w9 hS9 hz9 hb9))
  refine bodyPost_ret (v := .agg _) (results_one (fn := Try.f4) Try.results4 _ _ g 27 _ (0, 0) _ (by rfl) hS9 Try.underlying27 sizeSpecK) rfl ?_
  have hA4 := hA1'.grown hr1' hg4 (by decide)
  have hI4 : OwnI w4 (g + 1) (.slice a3 L.length c3) L := World.ownsRow.kept hI1' hg4 (rows_apart hI1' hr1' (by decide))
  have hA9 : OwnA w9 (g + 1) _ _ := World.ownsRow.kept hA4 hb9.grown (row_apart hA4 hZ4 (by decide))
  have hI9 : OwnI w9 (g + 1) _ _ := World.ownsRow.kept hI4 hb9.grown (row_apart hI4 hZ4 (by decide))
  have hP9 := hP4.but hb9 hZ4 (by decide) (by decide)
  have hL9 := hL4.but hb9 hZ4 (by decide)
  rw [hg]
  refine ⟨_, rfl, ⟨_, _, _, _, rfl, ?_, base_row hA9 (by omega), base_row hI9 (by omega), hL9.base (by omega)⟩, ?_⟩
  · obtain ⟨ks, hks, ho, hkk⟩ := hP9
    exact ⟨ks, hks, base_row ho (by omega), fun j hj => (hkk j hj).base (by omega)⟩
  · have h4 : Below g w w4 := hB1.grown hg4 (by omega) (fun k hk => by have := (hlt1 k hk).1; omega)
    exact ⟨hb9.os.trans h4.os, hb9.tape.trans h4.tape, hb9.output.trans h4.output, Nat.le_trans h4.size hb9.size, fun b hb => (hb9.block b (by have := h4.size; omega) (by omega)).trans (h4.block b (by omega))⟩

theorem spec_num (v : Int) : ∃ S, NumSpec S ∧ ∀ w, Calls Try.prog 4 #[.int .i64 v] w fun e w' => ∃ u, e = .returned u ∧ OwnSpec w' w.heap.size u S ∧ Below w.heap.size w w' := by
  obtain ⟨k, n, A, L, st, de, _, h1, h2⟩ := spec_from v
  exact ⟨_, h1, h2⟩

end Go.Proofs.Ythoimecljfcjmaa
