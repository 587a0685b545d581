/-
  A swap's bytes that are cut are not read.
-/
import Derived.Test.YtpngohaheobkgaaZ41
import Derived.Test.YtpngohaheobkgaaSpRt
import Derived.Test.YtpngohaheobkgaaZ14
namespace Go.Proofs.Ytpngohaheobkgaa
open Go.RowKit

/-- What is read without being bad is read the same with more behind it. -/
def Ext (g : (List UInt8 × Bool) → (List UInt8 × Bool)) : Prop := Stays g ∧ ∀ l t, (g (l, false)).2 = false → g (l ++ t, false) = ((g (l, false)).1 ++ t, false)
theorem numV_more (l t : List UInt8) (h : 8 ≤ l.length) : numV (l ++ t) = numV l := by
  unfold numV
  rw [if_neg (by rw [List.length_append]; omega), if_neg (by omega), List.take_append_of_le_length h]
theorem num_fine (l : List UInt8) (h : (numS (l, false)).2 = false) : 8 ≤ l.length := by
  unfold numS at h
  split at h
  · simp at h
  · rename_i h1; show 8 ≤ (l, false).1.length; omega
theorem ext_num : Ext numS := by
  refine ⟨stays_num, fun l t h => ?_⟩
  have h8 := num_fine l h
  unfold numS
  rw [if_neg (by show ¬ (l ++ t).length < 8; rw [List.length_append]; omega), if_neg (by show ¬ l.length < 8; omega)]
  show ((l ++ t).drop 8, false) = (l.drop 8 ++ t, false)
  rw [List.drop_append_of_le_length h8]
theorem cnt_fine (l : List UInt8) (m : Int) (h : (cntS (l, false) m).2 = false) : 8 ≤ l.length ∧ ¬ (numV l < 0 ∨ m < numV l) := by
  unfold cntS at h
  split at h
  · simp at h
  · rename_i h1; exact ⟨num_fine l h, h1⟩
theorem ext_cnt (m : Int) : Ext (fun r => cntS r m) := by
  refine ⟨stays_cnt m, fun l t h => ?_⟩
  obtain ⟨h8, h1⟩ := cnt_fine l m h
  have e1 : cntS (l, false) m = numS (l, false) := by unfold cntS; rw [if_neg h1]
  have h' : (numS (l, false)).2 = false := by rw [← e1]; exact h
  show cntS (l ++ t, false) m = ((cntS (l, false) m).1 ++ t, false)
  rw [e1, ← ext_num.2 l t h']
  unfold cntS
  rw [if_neg (by show ¬ (numV (l ++ t) < 0 ∨ m < numV (l ++ t)); rw [numV_more l t h8]; exact h1)]
theorem cntV_more (l t : List UInt8) (m : Int) (h : (cntS (l, false) m).2 = false) : cntV (l ++ t) m = cntV l m := by
  obtain ⟨h8, _⟩ := cnt_fine l m h
  unfold cntV; rw [numV_more l t h8]
theorem ext_txt (m : Int) : Ext (fun r => txtS r m) := by
  refine ⟨stays_txt m, fun l t h => ?_⟩
  have h : (txtS (l, false) m).2 = false := h
  show txtS (l ++ t, false) m = ((txtS (l, false) m).1 ++ t, false)
  have hc : (cntS (l, false) m).2 = false := by
    unfold txtS at h
    split at h
    · simp at h
    · exact h
  have hv : cntV (l ++ t) m = cntV l m := cntV_more l t m hc
  have hS : cntS (l ++ t, false) m = ((cntS (l, false) m).1 ++ t, false) := (ext_cnt m).2 l t hc
  unfold txtS at h ⊢
  split at h
  · simp at h
  · rename_i h1
    rw [if_neg h1]
    have h1' : ¬ ((cntS (l, false) m).1.length : Int) < cntV l m := h1
    have h2 := (cntV_range l m).1
    rw [if_neg (by show ¬ ((cntS (l ++ t, false) m).1.length : Int) < cntV (l ++ t) m; rw [hS, hv, List.length_append]; push_cast; omega)]
    show ((cntS (l ++ t, false) m).1.drop (cntV (l ++ t) m).toNat, (cntS (l ++ t, false) m).2) = _
    rw [hS, hv]
    show (((cntS (l, false) m).1 ++ t).drop (cntV l m).toNat, false) = ((cntS (l, false) m).1.drop (cntV l m).toNat ++ t, false)
    rw [List.drop_append_of_le_length (by omega)]
theorem not_bad {g : (List UInt8 × Bool) → (List UInt8 × Bool)} (hg : Stays g) {r : List UInt8 × Bool} (h : (g r).2 = false) : r.2 = false := by
  cases e : r.2
  · rfl
  · rw [hg r e] at h; exact Bool.noConfusion h
theorem ext_then {g h : (List UInt8 × Bool) → (List UInt8 × Bool)} (hg : Ext g) (hh : Ext h) : Ext (fun r => h (g r)) := by
  refine ⟨fun r hr => hh.1 _ (hg.1 r hr), fun l t e => ?_⟩
  have e1 : (g (l, false)).2 = false := not_bad hh.1 e
  have e2 := hg.2 l t e1
  have e3 : g (l, false) = ((g (l, false)).1, false) := Prod.ext rfl e1
  show h (g (l ++ t, false)) = ((h (g (l, false))).1 ++ t, false)
  rw [e2]
  have e4 : (h ((g (l, false)).1, false)).2 = false := by rw [← e3]; exact e
  rw [hh.2 _ t e4, ← e3]
theorem ext_items {g : (List UInt8 × Bool) → (List UInt8 × Bool)} (hg : Ext g) (n : Nat) : Ext (itemsS g n) := by
  induction n with
  | zero => exact ⟨fun r h => h, fun l t _ => rfl⟩
  | succ n ih =>
    have h9 := ext_then hg ih
    exact h9
theorem ext_counted {g : (List UInt8 × Bool) → (List UInt8 × Bool)} (hg : Ext g) (m : Int) : Ext (fun r => itemsS g (cntV r.1 m).toNat (cntS r m)) := by
  refine ⟨fun r hr => stays_items hg.1 _ _ (stays_cnt m r hr), fun l t e => ?_⟩
  have e1 : (cntS (l, false) m).2 = false := not_bad (stays_items hg.1 _) e
  have hv := cntV_more l t m e1
  show itemsS g (cntV (l ++ t) m).toNat (cntS (l ++ t, false) m) = _
  rw [hv]
  exact (ext_then (ext_cnt m) (ext_items hg (cntV l m).toNat)).2 l t e
theorem ext_keys (sz : Int) : Ext (keysS sz) := ext_counted (ext_txt sz) 3
theorem ext_party : Ext partyS := by
  have h9 := ext_then (ext_txt 16) (ext_keys 16)
  exact h9
theorem ext_arc : Ext arcS := by
  have h9 := ext_then (ext_then (ext_then (ext_then ext_num ext_num) ext_num) (ext_txt 16)) ext_num
  exact h9
theorem ext_all : Ext (fun r => numS (numS (keysS 32 (rd4 (rd3 (rd2 (txtS r 16))))))) := by
  have p2 : Ext rd2 := by have h9 := ext_counted ext_party 6; exact h9
  have p3 : Ext rd3 := by have h9 := ext_counted ext_arc 12; exact h9
  have p4 : Ext rd4 := by have h9 := ext_counted ext_num 3; exact h9
  have h9 := ext_then (ext_then (ext_then (ext_then (ext_then (ext_then (ext_txt 16) p2) p3) p4) (ext_keys 32)) ext_num) ext_num
  exact h9
theorem cut_bad (s : SpecM) (h : specOk s) (j : Nat) (hj : j < (specB s).length) : ¬ acc ((specB s).take j) := by
  intro ha
  have h1 : rdE ((specB s).take j) = ([], false) := ha.1
  have h2 : rdE (specB s) = ([], false) := (read_back s h).2
  have h3 := ext_all.2 ((specB s).take j) ((specB s).drop j) (by show (rdE ((specB s).take j)).2 = false; rw [h1])
  rw [List.take_append_drop] at h3
  have h4 : rdE (specB s) = ((rdE ((specB s).take j)).1 ++ (specB s).drop j, false) := h3
  rw [h2, h1] at h4
  injection h4 with h4 _
  have h5 : ((specB s).drop j).length = 0 := by rw [show (specB s).drop j = [] by simpa using h4.symm]; rfl
  rw [List.length_drop] at h5
  omega

end Go.Proofs.Ytpngohaheobkgaa

/-
  How many bytes a swap that may be has, at least and at most.
-/
namespace Go.Proofs.Ytpngohaheobkgaa
open Go.RowKit

theorem flat_ge {α : Type} (f : α → List UInt8) (l : List α) (m : Nat) (h : ∀ x ∈ l, m ≤ (f x).length) : m * l.length ≤ (l.flatMap f).length := by
  induction l with
  | nil => simp
  | cons x l ih =>
    have h1 := h x (by simp)
    have h2 := ih (fun y hy => h y (by simp [hy]))
    rw [List.flatMap_cons, List.length_append, List.length_cons, Nat.mul_add]; omega
theorem mem_getD' {α : Type} {l : List α} {x d : α} (h : x ∈ l) : ∃ j, j < l.length ∧ l.getD j d = x := by
  obtain ⟨j, hj, rfl⟩ := List.mem_iff_getElem.1 h
  exact ⟨j, hj, by rw [List.getD_eq_getElem?_getD, List.getElem?_eq_getElem hj]; rfl⟩
theorem spec_range (s : SpecM) (h : specOk s) : 100 ≤ (specB s).length ∧ (specB s).length ≤ 3000 := by
  obtain ⟨⟨i1, i2⟩, ⟨l1, l2, l3, l4⟩, ⟨p1, p2, p3⟩, ⟨a1, a2, a3⟩, _⟩ := h
  have hp : ∀ x ∈ s.parties, 40 ≤ (partyB x).length ∧ (partyB x).length ≤ 104 := fun x hx => by
    obtain ⟨j, hj, rfl⟩ := mem_getD' (d := noParty) hx
    obtain ⟨⟨n1, n2⟩, k1, k2, _⟩ := p3 j hj
    generalize s.parties.getD j noParty = p at n1 n2 k1 k2
    have e1 := textsB_le p.keys 16 (fun i hi => by rw [k2 i hi]; exact Nat.le_refl _)
    have e2 : 24 * p.keys.length ≤ (p.keys.flatMap (fun t => text8 t.data.toList)).length := flat_ge _ _ 24 (fun x hx => by
      obtain ⟨i, hi, rfl⟩ := mem_getD' (d := ByteArray.empty) hx
      rw [text8_length, len_list, k2 i hi]; exact Nat.le_refl _)
    unfold partyB
    rw [List.length_append, text8_length, len_list]
    unfold textsB at e1 ⊢
    rw [List.length_append, num8_length] at e1 ⊢
    omega
  have ha : ∀ x ∈ s.arcs, 40 ≤ (arcB x).length ∧ (arcB x).length ≤ 56 := fun x hx => by
    obtain ⟨j, hj, rfl⟩ := mem_getD' (d := noArc) hx
    obtain ⟨⟨_, _, _, _, _, _, _, ⟨n1, n2⟩, _⟩, _⟩ := a3 j hj
    unfold arcB
    simp only [List.length_append, num8_length, text8_length, len_list]
    omega
  have q1 := flat_ge partyB s.parties 40 (fun x hx => (hp x hx).1)
  have q2 := flat_le partyB s.parties 104 (fun x hx => (hp x hx).2)
  have q3 := flat_le arcB s.arcs 56 (fun x hx => (ha x hx).2)
  have q4 := textsB_le s.locks 32 (fun j hj => by obtain ⟨_, _, z, _⟩ := l4 j (by omega); rw [z]; exact Nat.le_refl _)
  have q5 := numsB_length s.leaders
  unfold specB
  simp only [List.length_append, num8_length, text8_length, len_list]
  omega

end Go.Proofs.Ytpngohaheobkgaa
