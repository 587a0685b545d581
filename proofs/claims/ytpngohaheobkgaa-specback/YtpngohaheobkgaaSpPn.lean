/-
  What the document's Read reads is not too much.
-/
import Derived.Test.YtpngohaheobkgaaZ41
import Derived.Test.YtpngohaheobkgaaZ30
import Derived.Test.YtpngohaheobkgaaSpQ
namespace Go.Proofs.Ytpngohaheobkgaa
open Go.RowKit

theorem getD_all {α : Type} (p : α → Prop) (l : List α) (d : α) (h : ∀ x ∈ l, p x) (j : Nat) (hj : j < l.length) : p (l.getD j d) := h _ (getD_mem l j d hj)
theorem textsL_fine (sz n : Nat) (r : List UInt8 × Bool) : (textsL (sz : Int) n r).1.length ≤ n ∧ ∀ x ∈ (textsL (sz : Int) n r).1, x.length ≤ sz := by
  induction n generalizing r with
  | zero => exact ⟨Nat.zero_le _, fun x hx => by simp [textsL] at hx⟩
  | succ n ih =>
    rw [textsL]
    split
    · exact ⟨Nat.zero_le _, fun x hx => by simp at hx⟩
    · obtain ⟨h1, h2⟩ := ih (txtS r (sz : Int))
      refine ⟨by simpa using h1, fun x hx => ?_⟩
      rcases List.mem_cons.1 hx with rfl | hx
      · have := txtV_len r (sz : Int) (by omega); omega
      · exact h2 x hx
theorem rdTexts_fine (sz : Nat) (r : List UInt8 × Bool) : (rdTexts r 3 (sz : Int)).1.length ≤ 3 ∧ ∀ x ∈ (rdTexts r 3 (sz : Int)).1, x.length ≤ sz := by
  unfold rdTexts
  obtain ⟨h1, h2⟩ := textsL_fine sz (cntV r.1 3).toNat (cntS r 3)
  exact ⟨Nat.le_trans h1 (cnt_nat _ 3 (by omega) 3 (by omega)), h2⟩
theorem mapmk_fine (sz : Nat) (r : List UInt8 × Bool) (hsz : sz ≤ 1000) : ((rdTexts r 3 (sz : Int)).1.map mk).length ≤ 1000 ∧ ∀ i, i < ((rdTexts r 3 (sz : Int)).1.map mk).length → (((rdTexts r 3 (sz : Int)).1.map mk).getD i ByteArray.empty).size ≤ 1000 := by
  obtain ⟨h1, h2⟩ := rdTexts_fine sz r
  refine ⟨by rw [List.length_map]; omega, getD_all (fun x : ByteArray => x.size ≤ 1000) _ _ (fun x hx => ?_)⟩
  obtain ⟨y, hy, rfl⟩ := List.mem_map.1 hx
  have := h2 y hy
  show (⟨y.toArray⟩ : ByteArray).size ≤ 1000
  rw [mk_size]; omega
theorem partiesL_fine (n : Nat) (r : List UInt8 × Bool) : (partiesL n r).1.length ≤ n ∧ ∀ x ∈ (partiesL n r).1, PartySane x := by
  induction n generalizing r with
  | zero => exact ⟨Nat.zero_le _, fun x hx => by simp [partiesL] at hx⟩
  | succ n ih =>
    rw [partiesL]
    split
    · exact ⟨Nat.zero_le _, fun x hx => by simp at hx⟩
    · obtain ⟨h1, h2⟩ := ih (rdTexts (txtS r 16) 3 16).2
      refine ⟨by simpa using h1, fun x hx => ?_⟩
      rcases List.mem_cons.1 hx with rfl | hx
      · have k := mapmk_fine 16 (txtS r 16) (by omega)
        exact ⟨Nat.le_trans (mk_len r 16) (by omega), k.1, k.2⟩
      · exact h2 x hx
theorem arcsL_fine (n : Nat) (r : List UInt8 × Bool) : (arcsL n r).1.length ≤ n ∧ ∀ x ∈ (arcsL n r).1, ArcSane x := by
  induction n generalizing r with
  | zero => exact ⟨Nat.zero_le _, fun x hx => by simp [arcsL] at hx⟩
  | succ n ih =>
    rw [arcsL]
    split
    · exact ⟨Nat.zero_le _, fun x hx => by simp at hx⟩
    · obtain ⟨h1, h2⟩ := ih (arcS r)
      refine ⟨by simpa using h1, fun x hx => ?_⟩
      rcases List.mem_cons.1 hx with rfl | hx
      · exact ⟨numV_range _, numV_range _, numV_range _, numV_range _, Nat.le_trans (mk_len _ 16) (by omega)⟩
      · exact h2 x hx
theorem numsL_fine (n : Nat) (r : List UInt8 × Bool) : (numsL n r).1.length ≤ n ∧ ∀ x ∈ (numsL n r).1, In64 x := by
  induction n generalizing r with
  | zero => exact ⟨Nat.zero_le _, fun x hx => by simp [numsL] at hx⟩
  | succ n ih =>
    rw [numsL]
    split
    · exact ⟨Nat.zero_le _, fun x hx => by simp at hx⟩
    · obtain ⟨h1, h2⟩ := ih (numS r)
      refine ⟨by simpa using h1, fun x hx => ?_⟩
      rcases List.mem_cons.1 hx with rfl | hx
      · exact numV_range _
      · exact h2 x hx
theorem refM_sane (l : List UInt8) : SaneS (refM l) := by
  have hp : (fP l).1.length ≤ (cntV (rd1 l).1 6).toNat ∧ ∀ x ∈ (fP l).1, PartySane x := partiesL_fine _ _
  have ha : (fA l).1.length ≤ (cntV (fP l).2.1 12).toNat ∧ ∀ x ∈ (fA l).1, ArcSane x := arcsL_fine _ _
  have hl : (fL l).1.length ≤ (cntV (fA l).2.1 3).toNat ∧ ∀ x ∈ (fL l).1, In64 x := numsL_fine _ _
  have ht := mapmk_fine 32 (fL l).2 (by omega)
  have ht' : ((fT l).1.map mk).length ≤ 1000 ∧ ∀ i, i < ((fT l).1.map mk).length → (((fT l).1.map mk).getD i ByteArray.empty).size ≤ 1000 := ht
  have h1 := mk_len (l, false) 16
  have c1 := cnt_nat (rd1 l).1 6 (by omega) 1000 (by omega)
  have c2 := cnt_nat (fP l).2.1 12 (by omega) 1000 (by omega)
  have c3 := cnt_nat (fA l).2.1 3 (by omega) 1000 (by omega)
  unfold refM
  generalize fP l = P at *
  generalize fA l = A at *
  generalize fL l = N at *
  generalize (fT l).1.map mk = K at *
  generalize fT l = T at *
  exact ⟨Nat.le_trans h1 (by omega), Nat.le_trans hp.1 c1, getD_all PartySane _ _ hp.2, Nat.le_trans ha.1 c2, getD_all ArcSane _ _ ha.2, Nat.le_trans hl.1 c3, getD_all In64 _ _ hl.2, ht'.1, ht'.2, numV_range _, numV_range _⟩

end Go.Proofs.Ytpngohaheobkgaa
