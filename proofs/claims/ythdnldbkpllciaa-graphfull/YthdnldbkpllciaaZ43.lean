/-
  Chapter 4's own example (awake).
-/
import Derived.Test.YthdnldbkpllciaaVar
import Derived.Test.YthdnldbkpllciaaZ39
import Derived.Test.YthdnldbkpllciaaZ42
import Derived.Test.YthdnldbkpllciaaZ25
import Derived.Test.YthdnldbkpllciaaZ38
import Derived.Test.YthdnldbkpllciaaZ00
import Derived.Test.YthdnldbkpllciaaZ26
namespace Go.Proofs.Ythdnldbkpllciaa
open Go.RowKit

theorem noSpec_bad : ¬ specOk noSpec := fun h => by have : 1 ≤ (0 : Nat) := h.1.1; omega
theorem no_acc : ¬ acc [] := fun h => by have := h.2.1.1; revert this; decide
/-- A swap that may be: its bytes are read as it. -/
theorem back_read {s : SpecM} (hok : specOk s) (hl : (specB s).length ≤ 1099511627776) (w : World) : Calls Try.prog 27 #[.string ⟨(specB s).toArray⟩] w fun e w' => ∃ v, e = .returned (.tuple #[v, .int .i64 0]) ∧ SpecW w' v s ∧ Below w.heap.size w w' := by
  obtain ⟨h1, h2⟩ := read_back s hok
  have := read_any ⟨(specB s).toArray⟩ (by rw [mk_size]; exact hl) w true (told_yes ⟨h2, by show specOk (rdM (specB s)); rw [h1]; exact hok⟩)
  refine this.mono ?_
  rintro e w' ⟨v, he, hv, hb⟩
  exact ⟨v, he, by have : rdM (specB s) = s := h1; rw [show ((⟨(specB s).toArray⟩ : ByteArray).data.toList) = specB s from rfl] at hv; simp only [cond_true] at hv; rw [this] at hv; exact hv, hb⟩
theorem read_none (w : World) : Calls Try.prog 27 #[.string ⟨#[]⟩] w fun e w' => ∃ v, e = .returned (.tuple #[v, .int .i64 2]) ∧ SpecW w' v noSpec ∧ Below w.heap.size w w' :=
  read_any ⟨#[]⟩ (by decide) w false (told_no no_acc)
theorem check_none (w : World) : Calls Try.prog 7 #[.agg #[.string ⟨#[]⟩, .slice none 0 0, .slice none 0 0, .slice none 0 0, .slice none 0 0, .int .i64 0, .int .i64 0]] w fun e w' => e = .returned (.bool false) ∧ Below w.heap.size w w' := by
  have := check_spec (no_spec w); rw [told_no noSpec_bad] at this; exact this
theorem flat_len {α : Type} (f : α → List UInt8) (l : List α) (m : Nat) (h : ∀ x ∈ l, (f x).length = m) : (l.flatMap f).length = l.length * m := by
  induction l with
  | nil => simp
  | cons x l ih =>
    rw [List.flatMap_cons, List.length_append, ih (fun y hy => h y (List.mem_cons_of_mem _ hy)), h x List.mem_cons_self, List.length_cons, Nat.succ_mul]; omega
theorem arcs_assets (l : List ArcM) (b g : Nat) : ∀ x ∈ l.mapIdx (deck b g), x.asset.size = 4 := by
  intro x hx
  obtain ⟨i, hi, rfl⟩ := List.mem_mapIdx.1 hx
  unfold deck
  simp only
  split <;> rfl
theorem ring_bytes (n : Nat) (h2 : 2 ≤ n) (h6 : n ≤ 6) (st de : Int) : (specB (ringM n st de)).length = 8 + 4 + 8 + n * 46 + 8 + n * 44 + 8 + 8 + 8 + 8 + 32 + 16 := by
  unfold specB ringM
  simp only [List.length_append, text8_length, num8_length, numsB, textsB]
  rw [flat_len partyB _ 46, flat_len arcB _ 44, withKeys_len, accs_len, (ring_arcs n h2 h6).2]
  · have e1 : (locksL 1).flatMap (fun t => text8 t.data.toList) = text8 (lockOf 0).data.toList := by simp [locksL]
    have e2 : (lockOf 0).data.toList.length = 32 := by rw [len_list]; exact lockOf_size 0
    have e3 : ringId.data.toList.length = 4 := rfl
    rw [e1, text8_length, e2, e3]
    simp [num8_length]
  · intro x hx
    have h4 : x.asset.size = 4 := arcs_assets _ _ _ x hx
    unfold arcB
    simp only [List.length_append, num8_length, text8_length]
    rw [len_list, h4]
  · intro x hx
    obtain ⟨i, hi, rfl⟩ := List.mem_mapIdx.1 hx
    have hn : i < n := by rw [accs_len] at hi; exact hi
    have ha : ((accs n)[i]).acc = accB i := by
      have := accs_acc n i hn
      rw [List.getD_eq_getElem?_getD, List.getElem?_eq_getElem hi] at this; exact this
    unfold partyB
    simp only [List.length_append, text8_length, textsB, num8_length]
    have e1 : (keysL i 1).flatMap (fun t => text8 t.data.toList) = text8 (keyOf i 0).data.toList := by simp [keysL]
    rw [e1, text8_length, len_list, len_list, ha, accB_size, keyOf_size]

set_option maxRecDepth 10000 in
set_option maxHeartbeats 2000000 in
theorem awake4_any (w : World) : Calls Try.prog 10 #[] w fun e w' => e = .returned (.bool true) ∧ Below w.heap.size w w' := by
  obtain ⟨S, hS, hok, hlen⟩ : ∃ S, S = ringM 2 5 6 ∧ specOk S ∧ (specB S).length ≤ 1099511627776 := ⟨_, rfl, ring_ok 2 (by omega) (by omega) 5 6 (by omega) (by omega) (by omega) (by omega), by rw [ring_bytes 2 (by omega) (by omega)]; omega⟩
  have HR : ∀ W, Calls Try.prog 12 #[.int .i64 2, .int .i64 5, .int .i64 6] W fun e w' => ∃ v, e = .returned v ∧ OwnSpec w' W.heap.size v S ∧ Below W.heap.size W w' := fun W => by rw [hS]; exact ring_any 2 (by omega) (by omega) 5 6 W
  have HC : told (specOk S) = true := told_yes hok
  have hsane := SaneS.of_ok hok
  clear hS
  obtain ⟨g, hg⟩ : ∃ g, w.heap.size = g := ⟨_, rfl⟩
  replace HC := hide HC
  replace hok := hide hok
  replace hlen := hide hlen
  go_enter Try.func10, Try.ntmps10
  go_wp2_with fail
  refine (HR _).mono ?_
  rintro e w1 ⟨v, rfl, hO1, hb1⟩
  have hW1 := hO1.wide hsane
  obtain ⟨cs, rfl, h7⟩ := hW1.seven
  clear hO1 HR
  go_wp2_with (first
    | ((with_reducible refine wpList_at ?_); refine wpList_varS (by rfl) (by rfl) (by rfl) (.tmp 1) (.tmp 6) (by rfl) cs (by rfl) (by rfl) h7 ?_; intro w2 hv2 hz2 hb2)
    | ((with_reducible refine wpList_at ?_); refine wpList_loadV (by rfl) (.tmp 1) (by rfl) _ cs (by rfl) hv2 h7 ?_))
  have hW2 := hW1.below hb2
  have hB2 := below_then hb1 hb2
  obtain ⟨x, hx⟩ : ∃ x : ByteArray, x = ⟨(specB S).toArray⟩ := ⟨_, rfl⟩
  have HY := bytes_yes hW2 hok.out
  have HD : ∀ W, Calls Try.prog 27 #[.string x] W fun e w' => ∃ v, e = .returned (.tuple #[v, .int .i64 0]) ∧ SpecW w' v S ∧ Below W.heap.size W w' := fun W => by rw [hx]; exact back_read hok.out hlen.out W
  rw [← hx] at HY
  clear hx
  generalize w1.heap.size = g1 at hv2 hz2 ⊢
  refine HY.mono ?_
  rintro e w3 ⟨rfl, hb3⟩
  have hB3 := below_then hB2 hb3
  clear HY hW1
  go_wp2_with fail
  refine (HD _).mono ?_
  rintro e w4 ⟨v2, rfl, hX4, hb4⟩
  have hB4 := below_then hB3 hb4
  have hW4 := (hW2.below hb3).below hb4
  have hv4 := (hv2.below hb3).below hb4
  obtain ⟨cs2, rfl, h72⟩ := hX4.seven
  clear hW2 hv2 hz2 HD hb1 hb2 hb3 hb4 hB2 hB3
  go_wp2_with ((with_reducible refine wpList_at ?_); refine wpList_varS (by rfl) (by rfl) (by rfl) (.tmp 2) (.tmp 11) (by rfl) cs2 (by rfl) (by rfl) h72 ?_; intro w5 hv5 hz5 hb5)
  have hB5 := below_then hB4 hb5
  have hW5 := hW4.below hb5
  have hX5 := hX4.below hb5
  have hu5 := hv4.below hb5
  clear hW4 hX4 hv4 hB4
  generalize w4.heap.size = g2 at hv5 hz5 ⊢
  refine (read_none _).mono ?_
  rintro e w6 ⟨v3, rfl, hN6, hb6⟩
  have hB6 := below_then hB5 hb6
  have hW6 := hW5.below hb6
  have hX6 := hX5.below hb6
  have hu6 := hu5.below hb6
  have hv6 := hv5.below hb6
  obtain ⟨cs3, rfl, h73⟩ := hN6.seven
  clear hW5 hX5 hu5 hv5 hB5 hb5 hb6
  go_wp2_with (first
    | ((with_reducible refine wpList_at ?_); refine wpList_varS (by rfl) (by rfl) (by rfl) (.tmp 4) (.tmp 15) (by rfl) cs3 (by rfl) (by rfl) h73 ?_; intro w7 hv7 hz7 hb7; have hu7 := hu6.below hb7)
    | ((with_reducible refine wpList_at ?_); refine wpList_loadV (by rfl) (.tmp 1) (by rfl) _ cs (by rfl) hu7 h7 ?_))
  have hB7 := below_then hB6 hb7
  have hW7 := hW6.below hb7
  have hX7 := hX6.below hb7
  have hq7 := hv6.below hb7
  clear hW6 hX6 hu6 hv6 hB6 hb7 hN6 hv7
  have HK := check_spec hW7
  rw [HC.out] at HK
  refine HK.mono ?_
  rintro e w8 ⟨rfl, hb8⟩
  have hB8 := below_then hB7 hb8
  have hW8 := hW7.below hb8
  have hX8 := hX7.below hb8
  have hu8 := hu7.below hb8
  have hq8 := hq7.below hb8
  clear hW7 hX7 hu7 hq7 hB7 hb8 HK
  go_wp2_with (first
    | ((with_reducible refine wpList_at ?_); refine wpList_loadV (by rfl) (.tmp 1) (by rfl) _ cs (by rfl) hu8 h7 ?_)
    | ((with_reducible refine wpList_at ?_); refine wpList_loadV (by rfl) (.tmp 2) (by rfl) _ cs2 (by rfl) hq8 h72 ?_))
  have HE := same_any hW8.toV hX8.toV
  rw [told_yes (rfl : S = S)] at HE
  refine HE.mono ?_
  rintro e w9 ⟨rfl, hb9⟩
  have hB9 := below_then hB8 hb9
  clear hW8 hX8 hu8 hq8 hB8 hb9 HE
  go_wp2_with fail
  refine (check_none _).mono ?_
  rintro e w10 ⟨rfl, hb10⟩
  have hB10 := below_then hB9 hb10
  go_wp2
  go_ret
  exact ⟨rfl, hB10⟩

end Go.Proofs.Ythdnldbkpllciaa

/-
  What the document's Read reads is not too much.
-/
namespace Go.Proofs.Ythdnldbkpllciaa
open Go.RowKit

theorem getD_all {α : Type} (p : α → Prop) (l : List α) (d : α) (h : ∀ x ∈ l, p x) (j : Nat) (hj : j < l.length) : p (l.getD j d) := h _ (getD_mem l j d hj)
theorem textsL_fine (sz n : Nat) (r : List UInt8 × Bool) : (textsL (sz : Int) n r).1.length ≤ n ∧ ∀ x ∈ (textsL (sz : Int) n r).1, x.length ≤ sz := by
  induction n generalizing r with
  | zero => exact ⟨Nat.zero_le _, fun x hx => by simp [textsL] at hx⟩
  | succ n ih =>
    rw [textsL]
    split
    · exact ⟨Nat.zero_le _, fun x hx => by simp at hx⟩
    · obtain ⟨h1, h2⟩ := ih (txtS r (sz : Int))
      refine ⟨by simpa using h1, fun x hx => ?_⟩
      rcases List.mem_cons.1 hx with rfl | hx
      · have := txtV_len r (sz : Int) (by omega); omega
      · exact h2 x hx
theorem rdTexts_fine (sz : Nat) (r : List UInt8 × Bool) : (rdTexts r 3 (sz : Int)).1.length ≤ 3 ∧ ∀ x ∈ (rdTexts r 3 (sz : Int)).1, x.length ≤ sz := by
  unfold rdTexts
  obtain ⟨h1, h2⟩ := textsL_fine sz (cntV r.1 3).toNat (cntS r 3)
  exact ⟨Nat.le_trans h1 (cnt_nat _ 3 (by omega) 3 (by omega)), h2⟩
theorem mapmk_fine (sz : Nat) (r : List UInt8 × Bool) (hsz : sz ≤ 1000) : ((rdTexts r 3 (sz : Int)).1.map mk).length ≤ 1000 ∧ ∀ i, i < ((rdTexts r 3 (sz : Int)).1.map mk).length → (((rdTexts r 3 (sz : Int)).1.map mk).getD i ByteArray.empty).size ≤ 1000 := by
  obtain ⟨h1, h2⟩ := rdTexts_fine sz r
  refine ⟨by rw [List.length_map]; omega, getD_all (fun x : ByteArray => x.size ≤ 1000) _ _ (fun x hx => ?_)⟩
  obtain ⟨y, hy, rfl⟩ := List.mem_map.1 hx
  have := h2 y hy
  show (⟨y.toArray⟩ : ByteArray).size ≤ 1000
  rw [mk_size]; omega
theorem partiesL_fine (n : Nat) (r : List UInt8 × Bool) : (partiesL n r).1.length ≤ n ∧ ∀ x ∈ (partiesL n r).1, PartySane x := by
  induction n generalizing r with
  | zero => exact ⟨Nat.zero_le _, fun x hx => by simp [partiesL] at hx⟩
  | succ n ih =>
    rw [partiesL]
    split
    · exact ⟨Nat.zero_le _, fun x hx => by simp at hx⟩
    · obtain ⟨h1, h2⟩ := ih (rdTexts (txtS r 16) 3 16).2
      refine ⟨by simpa using h1, fun x hx => ?_⟩
      rcases List.mem_cons.1 hx with rfl | hx
      · have k := mapmk_fine 16 (txtS r 16) (by omega)
        exact ⟨Nat.le_trans (mk_len r 16) (by omega), k.1, k.2⟩
      · exact h2 x hx
theorem arcsL_fine (n : Nat) (r : List UInt8 × Bool) : (arcsL n r).1.length ≤ n ∧ ∀ x ∈ (arcsL n r).1, ArcSane x := by
  induction n generalizing r with
  | zero => exact ⟨Nat.zero_le _, fun x hx => by simp [arcsL] at hx⟩
  | succ n ih =>
    rw [arcsL]
    split
    · exact ⟨Nat.zero_le _, fun x hx => by simp at hx⟩
    · obtain ⟨h1, h2⟩ := ih (arcS r)
      refine ⟨by simpa using h1, fun x hx => ?_⟩
      rcases List.mem_cons.1 hx with rfl | hx
      · exact ⟨numV_range _, numV_range _, numV_range _, numV_range _, Nat.le_trans (mk_len _ 16) (by omega)⟩
      · exact h2 x hx
theorem numsL_fine (n : Nat) (r : List UInt8 × Bool) : (numsL n r).1.length ≤ n ∧ ∀ x ∈ (numsL n r).1, In64 x := by
  induction n generalizing r with
  | zero => exact ⟨Nat.zero_le _, fun x hx => by simp [numsL] at hx⟩
  | succ n ih =>
    rw [numsL]
    split
    · exact ⟨Nat.zero_le _, fun x hx => by simp at hx⟩
    · obtain ⟨h1, h2⟩ := ih (numS r)
      refine ⟨by simpa using h1, fun x hx => ?_⟩
      rcases List.mem_cons.1 hx with rfl | hx
      · exact numV_range _
      · exact h2 x hx
theorem refM_sane (l : List UInt8) : SaneS (refM l) := by
  have hp : (fP l).1.length ≤ (cntV (rd1 l).1 6).toNat ∧ ∀ x ∈ (fP l).1, PartySane x := partiesL_fine _ _
  have ha : (fA l).1.length ≤ (cntV (fP l).2.1 12).toNat ∧ ∀ x ∈ (fA l).1, ArcSane x := arcsL_fine _ _
  have hl : (fL l).1.length ≤ (cntV (fA l).2.1 3).toNat ∧ ∀ x ∈ (fL l).1, In64 x := numsL_fine _ _
  have ht := mapmk_fine 32 (fL l).2 (by omega)
  have ht' : ((fT l).1.map mk).length ≤ 1000 ∧ ∀ i, i < ((fT l).1.map mk).length → (((fT l).1.map mk).getD i ByteArray.empty).size ≤ 1000 := ht
  have h1 := mk_len (l, false) 16
  have c1 := cnt_nat (rd1 l).1 6 (by omega) 1000 (by omega)
  have c2 := cnt_nat (fP l).2.1 12 (by omega) 1000 (by omega)
  have c3 := cnt_nat (fA l).2.1 3 (by omega) 1000 (by omega)
  unfold refM
  generalize fP l = P at *
  generalize fA l = A at *
  generalize fL l = N at *
  generalize (fT l).1.map mk = K at *
  generalize fT l = T at *
  exact ⟨Nat.le_trans h1 (by omega), Nat.le_trans hp.1 c1, getD_all PartySane _ _ hp.2, Nat.le_trans ha.1 c2, getD_all ArcSane _ _ ha.2, Nat.le_trans hl.1 c3, getD_all In64 _ _ hl.2, ht'.1, ht'.2, numV_range _, numV_range _⟩

end Go.Proofs.Ythdnldbkpllciaa
