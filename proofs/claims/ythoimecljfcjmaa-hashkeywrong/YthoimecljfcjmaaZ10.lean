/-
  A call of a region that draws its order whose value is not known ahead; a number that does not go round.
-/
import Derived.Test.YthoimecljfcjmaaZ09
namespace Go.Proofs.Ythoimecljfcjmaa
open Go.RowKit

theorem wpAnyH_loneE {P : Program} {md : Region.Mode} {ops : Array Oper} {Q : Exit → Act → World → Prop} {S : World → Prop} {T : Value → World → Prop} {i : Nat} {oi : Oper} {fuel : Nat} {listed : Array Bool} {a : Act} {w : World}
    (hr : Region.ready md ops listed = [i]) (hi : ops[i]? = some oi) (hS : ∀ v W, T v W → S W)
    (c1 : ∀ K : Act → World → Prop, Shut (∀ v W', T v W' → K (a.put oi.dst v) W') → if Region.wanted oi (yielded ops a.tmps) = true then Oper.wp P oi a w K Q else K (a.put oi.dst undef) w)
    (h : ∀ v W, T v W → S W → wpAnyH P md ops Q S fuel (listed.setIfInBounds i true) (a.put oi.dst v) W) : wpAnyH P md ops Q S (fuel + 1) listed a w :=
  wpAnyH_ready hr (by simp) (AllReadyH.cons hi (fun K hK => c1 K (fun v W hW => hK.out _ _ (hS v W hW) (fun hs => h v W hW hs))) AllReadyH.nil)
theorem wrap_i64 {x : Int} (h0 : -9223372036854775808 ≤ x) (h1 : x ≤ 9223372036854775807) : IntKind.i64.wrap x = x := by
  unfold IntKind.wrap
  simp [IntKind.bits, IntKind.signed]
  omega

end Go.Proofs.Ythoimecljfcjmaa

/-
  Chapter 5's own answer, on plain data: where arcs lead, and whether nothing goes round without some parties.
-/
namespace Go.Proofs.Ythoimecljfcjmaa
open Go.RowKit

/-- The arcs of one party: 'none': b is reached; else the parties that are known now. -/
def innerR (out : List Int) (b u : Int) : List ArcM → List Int → Option (List Int)
  | [], l => some l
  | x :: xs, l => if x.src ≠ u ∨ x.dst ∈ out then innerR out b u xs l else if x.dst = b then none else if x.dst ∈ l.tail then innerR out b u xs l else innerR out b u xs (l ++ [x.dst])
def outerR (A : List ArcM) (out : List Int) (b : Int) : Nat → Nat → List Int → Bool
  | 0, _, _ => false
  | n + 1, i, l => if i < l.length then (match innerR out b (l.getD i 0) A l with | none => true | some l' => outerR A out b n (i + 1) l') else false
def reachR (A : List ArcM) (a b : Int) (out : List Int) : Bool := if a ∈ out ∨ b ∈ out then false else outerR A out b 9 0 [a]
def fbR (n : Nat) (A : List ArcM) (L : List Int) : Bool := (List.range n).all fun a => !reachR A (a : Int) (a : Int) L
/-- A party, then parties that are unlike, all below six. -/
def Known (l : List Int) : Prop := 1 ≤ l.length ∧ (∀ x ∈ l, 0 ≤ x ∧ x < 6) ∧ l.tail.Nodup
theorem few_below (n : Nat) (l : List Int) (h : ∀ x ∈ l, 0 ≤ x ∧ x < (n : Int)) (hn : l.Nodup) : l.length ≤ n := by
  induction n generalizing l with
  | zero =>
    cases l with
    | nil => exact Nat.zero_le _
    | cons x l => have := h x List.mem_cons_self; omega
  | succ n ih =>
    by_cases hm : (n : Int) ∈ l
    · have h1 := ih (l.erase (n : Int)) (fun x hx => by
        have hx' := (List.Nodup.mem_erase_iff hn).1 hx
        have := h x hx'.2
        have hne := hx'.1
        omega) (hn.erase _)
      rw [List.length_erase_of_mem hm] at h1
      omega
    · exact Nat.le_succ_of_le (ih l (fun x hx => by
        have := h x hx
        have hne : x ≠ (n : Int) := fun e => hm (e ▸ hx)
        omega) hn)
theorem Known.len {l : List Int} (h : Known l) : l.length ≤ 7 := by
  have := few_below 6 l.tail (fun x hx => h.2.1 x (List.mem_of_mem_tail hx)) h.2.2
  rw [List.length_tail] at this; omega
theorem Known.one (a : Int) (h0 : 0 ≤ a) (h6 : a < 6) : Known [a] := ⟨by simp, fun x hx => by simp at hx; subst hx; exact ⟨h0, h6⟩, by simp⟩
theorem Known.more {l : List Int} (h : Known l) (x : Int) (h0 : 0 ≤ x) (h6 : x < 6) (hx : x ∉ l.tail) : Known (l ++ [x]) := by
  obtain ⟨h1, h2, h3⟩ := h
  refine ⟨by simp, fun y hy => ?_, ?_⟩
  · rcases List.mem_append.1 hy with hy | hy
    · exact h2 y hy
    · simp at hy; subst hy; exact ⟨h0, h6⟩
  · rw [List.tail_append_of_ne_nil (by intro e; rw [e] at h1; simp at h1), List.nodup_append]
    refine ⟨h3, by simp, fun a ha b hb => ?_⟩
    simp at hb; subst hb
    exact fun e => hx (e ▸ ha)
theorem tail_more {l : List Int} (h : Known l) (x y : Int) : y ∈ (l ++ [x]).tail ↔ y = x ∨ y ∈ l.tail := by
  rw [List.tail_append_of_ne_nil (by intro e; have := h.1; rw [e] at this; simp at this), List.mem_append]
  simp [or_comm]

/-- An array of six bools in a block of its own. -/
def BRow (w : World) (g : Nat) (f : Int → Prop) : Prop := ∃ b0 b1 b2 b3 b4 b5 : Bool, w.heap[g]? = some (.cells #[.bool b0, .bool b1, .bool b2, .bool b3, .bool b4, .bool b5] 108 (0, 0)) ∧ b0 = told (f 0) ∧ b1 = told (f 1) ∧ b2 = told (f 2) ∧ b3 = told (f 3) ∧ b4 = told (f 4) ∧ b5 = told (f 5)
theorem BRow.but {w w' : World} {g k : Nat} {f : Int → Prop} (h : BRow w g f) (hb : But k w w') (hg : g ≠ k) : BRow w' g f := by
  obtain ⟨b0, b1, b2, b3, b4, b5, h, r⟩ := h
  exact ⟨b0, b1, b2, b3, b4, b5, by rw [hb.block g (Array.getElem?_eq_some_iff.1 h).1 hg]; exact h, r⟩
theorem BRow.below {w w' : World} {g : Nat} {f : Int → Prop} (h : BRow w g f) (hb : Below w.heap.size w w') : BRow w' g f := by
  obtain ⟨b0, b1, b2, b3, b4, b5, h, r⟩ := h
  exact ⟨b0, b1, b2, b3, b4, b5, by rw [hb.block g (Array.getElem?_eq_some_iff.1 h).1]; exact h, r⟩
theorem BRow.grown {w w' : World} {g : Nat} {row : Option Nat} {f : Int → Prop} (h : BRow w g f) (hb : w.grownBy w' row) (hg : some g ≠ row) : BRow w' g f := by
  obtain ⟨b0, b1, b2, b3, b4, b5, h, r⟩ := h
  exact ⟨b0, b1, b2, b3, b4, b5, by rw [hb.block g (Array.getElem?_eq_some_iff.1 h).1 hg]; exact h, r⟩
theorem BRow.lt {w : World} {g : Nat} {f : Int → Prop} (h : BRow w g f) : g < w.heap.size := by
  obtain ⟨b0, b1, b2, b3, b4, b5, h, r⟩ := h
  exact (Array.getElem?_eq_some_iff.1 h).1
theorem BRow.congr {w : World} {g : Nat} {f h : Int → Prop} (k : BRow w g f) (e : ∀ x, 0 ≤ x → x < 6 → (f x ↔ h x)) : BRow w g h := by
  obtain ⟨b0, b1, b2, b3, b4, b5, r, r0, r1, r2, r3, r4, r5⟩ := k
  have q : ∀ x, 0 ≤ x → x < 6 → told (f x) = told (h x) := fun x h0 h6 => by
    by_cases hf : f x
    · rw [told_yes hf, told_yes ((e x h0 h6).1 hf)]
    · rw [told_no hf, told_no (fun hh => hf ((e x h0 h6).2 hh))]
  exact ⟨b0, b1, b2, b3, b4, b5, r, r0.trans (q 0 (by omega) (by omega)), r1.trans (q 1 (by omega) (by omega)), r2.trans (q 2 (by omega) (by omega)), r3.trans (q 3 (by omega) (by omega)), r4.trans (q 4 (by omega) (by omega)), r5.trans (q 5 (by omega) (by omega))⟩
theorem BRow.get {w : World} {g : Nat} {f : Int → Prop} (h : BRow w g f) (v : Nat) (hv : v < 6) : w.cell? ⟨g, v, none⟩ = some (.bool (told (f (v : Int)))) ∧ w.frozen? ⟨g, v, none⟩ = false := by
  obtain ⟨b0, b1, b2, b3, b4, b5, r, r0, r1, r2, r3, r4, r5⟩ := h
  refine ⟨?_, frozen_of_row w g v _ _ r⟩
  rw [cell_of_row w g v _ _ (0, 0) r]
  have : v = 0 ∨ v = 1 ∨ v = 2 ∨ v = 3 ∨ v = 4 ∨ v = 5 := by omega
  rcases this with rfl | rfl | rfl | rfl | rfl | rfl
  · rw [r0]; rfl
  · rw [r1]; rfl
  · rw [r2]; rfl
  · rw [r3]; rfl
  · rw [r4]; rfl
  · rw [r5]; rfl
theorem told_or {p q : Prop} : told (p ∨ q) = (told p || told q) := by
  by_cases hp : p <;> by_cases hq : q <;> simp [told_yes, told_no, hp, hq]
theorem BRow.set {w : World} {g : Nat} {f : Int → Prop} (h : BRow w g f) (v : Nat) (hv : v < 6) : BRow (w.setCell ⟨g, v, none⟩ (.bool true)) g (fun x => f x ∨ x = (v : Int)) := by
  obtain ⟨b0, b1, b2, b3, b4, b5, r, r0, r1, r2, r3, r4, r5⟩ := h
  have hw := setCell_eq_setRow w g v _ _ (0, 0) (.bool true) r
  have hh := setRow_heap w g _ (#[.bool b0, .bool b1, .bool b2, .bool b3, .bool b4, .bool b5].setIfInBounds v (.bool true)) _ (0, 0) r
  have : v = 0 ∨ v = 1 ∨ v = 2 ∨ v = 3 ∨ v = 4 ∨ v = 5 := by omega
  have no : ∀ (p : Prop) (q : Prop), ¬ q → told p = told (p ∨ q) := fun p q hq => by by_cases hp : p <;> simp [told_yes, told_no, hp, hq]
  have ye : ∀ (p : Prop) (q : Prop), q → true = told (p ∨ q) := fun p q hq => (told_yes (.inr hq)).symm
  rcases this with rfl | rfl | rfl | rfl | rfl | rfl
  · exact ⟨true, b1, b2, b3, b4, b5, by rw [hw]; exact hh, ye _ _ rfl, r1.trans (no _ _ (by omega)), r2.trans (no _ _ (by omega)), r3.trans (no _ _ (by omega)), r4.trans (no _ _ (by omega)), r5.trans (no _ _ (by omega))⟩
  · exact ⟨b0, true, b2, b3, b4, b5, by rw [hw]; exact hh, r0.trans (no _ _ (by omega)), ye _ _ rfl, r2.trans (no _ _ (by omega)), r3.trans (no _ _ (by omega)), r4.trans (no _ _ (by omega)), r5.trans (no _ _ (by omega))⟩
  · exact ⟨b0, b1, true, b3, b4, b5, by rw [hw]; exact hh, r0.trans (no _ _ (by omega)), r1.trans (no _ _ (by omega)), ye _ _ rfl, r3.trans (no _ _ (by omega)), r4.trans (no _ _ (by omega)), r5.trans (no _ _ (by omega))⟩
  · exact ⟨b0, b1, b2, true, b4, b5, by rw [hw]; exact hh, r0.trans (no _ _ (by omega)), r1.trans (no _ _ (by omega)), r2.trans (no _ _ (by omega)), ye _ _ rfl, r4.trans (no _ _ (by omega)), r5.trans (no _ _ (by omega))⟩
  · exact ⟨b0, b1, b2, b3, true, b5, by rw [hw]; exact hh, r0.trans (no _ _ (by omega)), r1.trans (no _ _ (by omega)), r2.trans (no _ _ (by omega)), r3.trans (no _ _ (by omega)), ye _ _ rfl, r5.trans (no _ _ (by omega))⟩
  · exact ⟨b0, b1, b2, b3, b4, true, by rw [hw]; exact hh, r0.trans (no _ _ (by omega)), r1.trans (no _ _ (by omega)), r2.trans (no _ _ (by omega)), r3.trans (no _ _ (by omega)), r4.trans (no _ _ (by omega)), ye _ _ rfl⟩
theorem BRow.new (w : World) : BRow (w.alloc (.cells #[.bool false, .bool false, .bool false, .bool false, .bool false, .bool false] 108)) w.heap.size (fun _ => False) :=
  ⟨false, false, false, false, false, false, heap_alloc_new _ _, (told_no not_false).symm, (told_no not_false).symm, (told_no not_false).symm, (told_no not_false).symm, (told_no not_false).symm, (told_no not_false).symm⟩

end Go.Proofs.Ythoimecljfcjmaa

/-
  A region that draws its order: three calls, one behind another, and an alloc that may come up anywhere.
-/
namespace Go.Proofs.Ythoimecljfcjmaa
open Go.RowKit

/-- An operation that gives some value. -/
def GivesE (P : Program) (ops : Array Oper) (Q : Exit → Act → World → Prop) (R : World → Prop) (T : Value → World → Prop) (o : Oper) (a : Act) : Prop :=
  ∀ W, R W → ∀ K : Act → World → Prop, Shut (∀ u W', T u W' → K (a.put o.dst u) W') → if Region.wanted o (yielded ops a.tmps) = true then Oper.wp P o a W K Q else K (a.put o.dst undef) W
theorem wpAnyH_c3a {P : Program} {md : Region.Mode} {ops : Array Oper} {Q : Exit → Act → World → Prop} {S R : World → Prop} {R' : Value → World → Prop} {T : Value → World → Prop} {T' : Value → Value → World → Prop} {i1 i2 i3 k : Nat} {o1 o2 o3 ok : Oper} {v1 v2 : Value} {fuel : Nat} {l0 l1 l2 l3 l4 m0 m1 m2 : Array Bool} {a : Act} {w : World}
    (r0 : Region.ready md ops l0 = [i1, k]) (r1 : Region.ready md ops l1 = [i2, k]) (r2 : Region.ready md ops l2 = [i3, k]) (r3 : Region.ready md ops l3 = [k])
    (s0 : Region.ready md ops m0 = [i1]) (s1 : Region.ready md ops m1 = [i2]) (s2 : Region.ready md ops m2 = [i3])
    (e1 : l0.setIfInBounds i1 true = l1) (e2 : l1.setIfInBounds i2 true = l2) (e3 : l2.setIfInBounds i3 true = l3) (e4 : l3.setIfInBounds k true = l4)
    (f0 : l0.setIfInBounds k true = m0) (f1 : l1.setIfInBounds k true = m1) (f2 : l2.setIfInBounds k true = m2) (g1 : m0.setIfInBounds i1 true = m1) (g2 : m1.setIfInBounds i2 true = m2) (g3 : m2.setIfInBounds i3 true = l4)
    (h1 : ops[i1]? = some o1) (h2 : ops[i2]? = some o2) (h3 : ops[i3]? = some o3) (hk : ops[k]? = some ok)
    (p1 : ∀ p, (a.put ok.dst p).put o1.dst v1 = (a.put o1.dst v1).put ok.dst p)
    (p2 : ∀ p, ((a.put o1.dst v1).put ok.dst p).put o2.dst v2 = ((a.put o1.dst v1).put o2.dst v2).put ok.dst p)
    (p3 : ∀ p u, (((a.put o1.dst v1).put o2.dst v2).put ok.dst p).put o3.dst u = (((a.put o1.dst v1).put o2.dst v2).put o3.dst u).put ok.dst p)
    (hR : R w) (hS : ∀ W, R W → S W) (hS' : ∀ p W, R' p W → S W) (hT : ∀ u W, T u W → S W) (hT' : ∀ p u W, T' p u W → S W)
    (c1 : Gives P ops Q R o1 v1 a) (c1' : ∀ p, Gives P ops Q (R' p) o1 v1 (a.put ok.dst p))
    (c2 : Gives P ops Q R o2 v2 (a.put o1.dst v1)) (c2' : ∀ p, Gives P ops Q (R' p) o2 v2 ((a.put o1.dst v1).put ok.dst p))
    (c3 : GivesE P ops Q R T o3 ((a.put o1.dst v1).put o2.dst v2)) (c3' : ∀ p, GivesE P ops Q (R' p) (T' p) o3 (((a.put o1.dst v1).put o2.dst v2).put ok.dst p))
    (k0 : ∀ b, GivesE P ops Q R R' ok b) (k3 : ∀ u b, GivesE P ops Q (T u) (fun p W => T' p u W) ok b)
    (h : ∀ p u W, T' p u W → S W → wpAnyH P md ops Q S fuel l4 ((((a.put o1.dst v1).put o2.dst v2).put o3.dst u).put ok.dst p) W) : wpAnyH P md ops Q S (fuel + 4) l0 a w := by
  have B2 : ∀ p W, R' p W → wpAnyH P md ops Q S (fuel + 1) m2 (((a.put o1.dst v1).put o2.dst v2).put ok.dst p) W := fun p W hW =>
    wpAnyH_ready s2 (by simp) (AllReadyH.cons h3 (fun K hK => c3' p W hW K (fun u W' hW' => hK.out _ _ (hT' p u W' hW') (fun hs => by rw [g3, p3]; exact h p u W' hW' hs))) AllReadyH.nil)
  have B1 : ∀ p W, R' p W → wpAnyH P md ops Q S (fuel + 2) m1 ((a.put o1.dst v1).put ok.dst p) W := fun p W hW =>
    wpAnyH_ready s1 (by simp) (AllReadyH.cons h2 (fun K hK => c2' p W hW K (fun W' hW' => hK.out _ _ (hS' p W' hW') (fun _ => by rw [g2, p2]; exact B2 p W' hW'))) AllReadyH.nil)
  refine wpAnyH_ready r0 (by simp) (AllReadyH.cons h1 (fun K hK => c1 w hR K (fun W hW => hK.out _ _ (hS W hW) (fun _ => ?_))) (AllReadyH.cons hk (fun K hK => k0 a w hR K (fun p W hW => hK.out _ _ (hS' p W hW) (fun _ => ?_))) AllReadyH.nil))
  · rw [e1]
    refine wpAnyH_ready r1 (by simp) (AllReadyH.cons h2 (fun K hK => c2 W hW K (fun W2 hW2 => hK.out _ _ (hS W2 hW2) (fun _ => ?_))) (AllReadyH.cons hk (fun K hK => k0 _ W hW K (fun p W2 hW2 => hK.out _ _ (hS' p W2 hW2) (fun _ => by rw [f1]; exact B1 p W2 hW2))) AllReadyH.nil))
    rw [e2]
    refine wpAnyH_ready r2 (by simp) (AllReadyH.cons h3 (fun K hK => c3 W2 hW2 K (fun u W3 hW3 => hK.out _ _ (hT u W3 hW3) (fun _ => ?_))) (AllReadyH.cons hk (fun K hK => k0 _ W2 hW2 K (fun p W3 hW3 => hK.out _ _ (hS' p W3 hW3) (fun _ => by rw [f2]; exact B2 p W3 hW3))) AllReadyH.nil))
    rw [e3]
    exact wpAnyH_ready r3 (by simp) (AllReadyH.cons hk (fun K hK => k3 u _ W3 hW3 K (fun p W4 hW4 => hK.out _ _ (hT' p u W4 hW4) (fun hs => by rw [e4]; exact h p u W4 hW4 hs))) AllReadyH.nil)
  · rw [f0]
    exact wpAnyH_ready s0 (by simp) (AllReadyH.cons h1 (fun K hK => c1' p W hW K (fun W' hW' => hK.out _ _ (hS' p W' hW') (fun _ => by rw [g1, p1]; exact B1 p W' hW'))) AllReadyH.nil)

end Go.Proofs.Ythoimecljfcjmaa

/-
  A region that draws its order, where what is read early need hold only until an operation that waits for the reading.
-/
namespace Go.Proofs.Ythoimecljfcjmaa
open Go.RowKit

/-- Does m wait for i, at once or by others? -/
def waitsB (md : Region.Mode) (ops : Array Oper) (i : Nat) : Nat → Nat → Bool
  | 0, _ => false
  | f + 1, m => match ops[m]? with
    | none => false
    | some o => o.after.any fun e => Region.binds md e && (e.on == i || waitsB md ops i f e.on)
/-- What has come up came up behind all that it waits for. -/
def ClosedL (md : Region.Mode) (ops : Array Oper) (l : Array Bool) : Prop := ∀ j o, ops[j]? = some o → l.getD j false = true → ∀ e ∈ o.after, Region.binds md e = true → l.getD e.on false = true
def closedB (md : Region.Mode) (ops : Array Oper) (l : Array Bool) : Bool := (List.range ops.size).all fun j => !l.getD j false || match ops[j]? with
  | none => true
  | some o => o.after.all fun e => !Region.binds md e || l.getD e.on false
theorem closed_of {md : Region.Mode} {ops : Array Oper} {l : Array Bool} (h : closedB md ops l = true) : ClosedL md ops l := by
  intro j o ho hl e he hb
  unfold closedB at h
  simp only [List.all_eq_true, List.mem_range] at h
  have h1 := h j (Array.getElem?_eq_some_iff.1 ho).1
  simp only [ho, hl, Bool.not_true, Bool.false_or, Array.all_eq_true_iff_forall_mem] at h1
  have h2 := h1 e he
  simpa [hb] using h2
theorem waits_spec {md : Region.Mode} {ops : Array Oper} {l : Array Bool} (hc : ClosedL md ops l) {i : Nat} : ∀ (f m : Nat), waitsB md ops i f m = true → (l.getD m false = true ∨ m ∈ Region.ready md ops l) → l.getD i false = true := by
  intro f
  induction f with
  | zero => intro m h; simp [waitsB] at h
  | succ f ih =>
    intro m h hm
    rw [waitsB] at h
    cases ho : ops[m]? with
    | none => simp [ho] at h
    | some o =>
      simp only [ho] at h
      obtain ⟨e, he, h2⟩ := Array.any_eq_true'.1 h
      simp only [Bool.and_eq_true, Bool.or_eq_true, beq_iff_eq] at h2
      obtain ⟨hb, h3⟩ := h2
      have hl : l.getD e.on false = true := by
        rcases hm with hm | hm
        · exact hc m o ho hm e he hb
        · obtain ⟨_, o', ho', hall⟩ := mem_ready.1 hm
          rw [ho] at ho'; injection ho' with ho'; subst ho'
          exact hall e he hb
      rcases h3 with h3 | h3
      · rw [← h3]; exact hl
      · exact ih e.on h3 (.inl hl)
theorem closed_set {md : Region.Mode} {ops : Array Oper} {l : Array Bool} (hc : ClosedL md ops l) {j : Nat} (hj : j ∈ Region.ready md ops l) : ClosedL md ops (l.setIfInBounds j true) := by
  intro k o ho hl e he hb
  by_cases hkj : j = k
  · subst hkj
    obtain ⟨_, o', ho', hall⟩ := mem_ready.1 hj
    rw [ho] at ho'; injection ho' with ho'; subst ho'
    exact getD_set_true (hall e he hb)
  · rw [getD_set_ne false hkj] at hl
    exact getD_set_true (hc k o ho hl e he hb)
theorem unlisted_false {l : Array Bool} {i : Nat} (h : l.getD i true = false) : l.getD i false = false := by
  rcases Nat.lt_or_ge i l.size with h' | h'
  · simp [h'] at h ⊢; exact h
  · simp [Array.getElem?_eq_none h'] at h

/-- Whatever order is picked from here on; S1 holds as long as m1 has not come up, S2 as long as m2 has not. -/
def wpAnyM (P : Program) (md : Region.Mode) (ops : Array Oper) (Q : Exit → Act → World → Prop) (m1 : Nat) (S1 : World → Prop) (m2 : Nat) (S2 : World → Prop) : Nat → Array Bool → Act → World → Prop
  | 0, listed, a, w => Region.ready md ops listed = [] ∧ Q .normal a w
  | fuel + 1, listed, a, w =>
    (Region.ready md ops listed = [] → Q .normal a w) ∧
    ∀ i ∈ Region.ready md ops listed, wpOp P ops Q i (fun a' w' => ((listed.setIfInBounds i true).getD m1 true = false → S1 w') ∧ ((listed.setIfInBounds i true).getD m2 true = false → S2 w') ∧ wpAnyM P md ops Q m1 S1 m2 S2 fuel (listed.setIfInBounds i true) a' w') a w

theorem gone {l : Array Bool} {m : Nat} {p : Prop} (h : l.getD m true = true) (k : l.getD m true = false) : p := by rw [h] at k; cases k

section
variable {P : Program} {ops : Array Oper} {Q : Exit → Act → World → Prop} {md : Region.Mode} {S1 S2 : World → Prop} {m1 m2 : Nat}

theorem wpAny_of_M : ∀ (fuel : Nat) (listed : Array Bool) (a : Act) (w : World), wpAnyM P md ops Q m1 S1 m2 S2 fuel listed a w → wpAny P md ops Q fuel listed a w
  | 0, _, _, _, h => h
  | fuel + 1, _, _, _, h => ⟨h.1, fun i hi => wpOp_mono (fun a' w' h' => wpAny_of_M fuel _ a' w' h'.2.2) (h.2 i hi)⟩
theorem wpAnyM_swap : ∀ (fuel : Nat) (listed : Array Bool) (a : Act) (w : World), wpAnyM P md ops Q m1 S1 m2 S2 fuel listed a w → wpAnyM P md ops Q m2 S2 m1 S1 fuel listed a w
  | 0, _, _, _, h => h
  | fuel + 1, _, _, _, h => ⟨h.1, fun i hi => wpOp_mono (fun a' w' h' => ⟨h'.2.1, h'.1, wpAnyM_swap fuel _ a' w' h'.2.2⟩) (h.2 i hi)⟩
theorem wpAnyM_first {i : Nat} {oi : Oper} {v : Value} (hi : ops[i]? = some oi) (hsel : ∀ (j : Nat) (o : Oper) cs b, ops[j]? = some o → o.op ≠ .select cs b)
    (hQ : ∀ c a w, Q (.panic c) (a.put oi.dst v) w → Q (.panic c) a w) (him1 : i ≠ m1) (him2 : i ≠ m2) (I : Array Bool → Prop) (S : World → Prop)
    (hstep : ∀ l j w', I l → i ∈ Region.ready md ops l → j ∈ Region.ready md ops l → j ≠ i → ((l.setIfInBounds j true).getD m1 true = false → S1 w') → I (l.setIfInBounds j true) ∧ S w') :
    ∀ (fuel : Nat) (listed : Array Bool) (a : Act) (w : World), I listed →
      (∀ j oj, ops[j]? = some oj → j ≠ i → listed.getD j true = false → (∀ e ∈ oj.after, Region.binds md e = true → e.on ≠ i) → oi.apart ops oj = true) →
      i ∈ Region.ready md ops listed → YieldsIf P ops S oi v a → S w → (listed.getD m1 true = false → S1 w) → (listed.getD m2 true = false → S2 w) →
      wpAnyM P md ops Q m1 S1 m2 S2 fuel (listed.setIfInBounds i true) (a.put oi.dst v) w → wpAnyM P md ops Q m1 S1 m2 S2 (fuel + 1) listed a w := by
  intro fuel
  induction fuel with
  | zero =>
    intro listed a w hI _ hr hy hS h1 h2 H
    refine ⟨fun h => (by rw [h] at hr; cases hr), fun j hj => ?_⟩
    by_cases hji : j = i
    · subst hji; exact hy.wpOp hi hS ⟨fun h => h1 (by rw [getD_set_ne true him1] at h; exact h), fun h => h2 (by rw [getD_set_ne true him2] at h; exact h), H⟩
    · have := ready_mono hj hji
      rw [H.1] at this
      cases this
  | succ fuel ih =>
    intro listed a w hI hfree hr hy hS h1 h2 H
    refine ⟨fun h => (by rw [h] at hr; cases hr), fun j hj => ?_⟩
    by_cases hji : j = i
    · subst hji; exact hy.wpOp hi hS ⟨fun h => h1 (by rw [getD_set_ne true him1] at h; exact h), fun h => h2 (by rw [getD_set_ne true him2] at h; exact h), H⟩
    · have k1 := H.2 j (ready_mono hj hji)
      obtain ⟨hjun, oj, hoj, hall⟩ := mem_ready.1 hj
      have hnot : ∀ e ∈ oj.after, Region.binds md e = true → e.on ≠ i := fun e he hb heq => by
        have k1 := hall e he hb
        have k0 := (mem_ready.1 hr).1
        rw [heq] at k1
        rw [unlisted_false k0] at k1
        cases k1
      have k2 := wpOp_putIf hoj (hfree j oj hoj hji hjun hnot) (fun cs b => hsel i oi cs b hi) (fun cs b => hsel j oj cs b hoj) hQ hy k1
      have hfree' : ∀ k ok, ops[k]? = some ok → k ≠ i → (listed.setIfInBounds j true).getD k true = false →
          (∀ e ∈ ok.after, Region.binds md e = true → e.on ≠ i) → oi.apart ops ok = true := fun k ok hk hki hun hno => by
        refine hfree k ok hk hki ?_ hno
        by_cases hjk : j = k
        · subst hjk; exact hjun
        · rw [getD_set_ne true hjk] at hun; exact hun
      refine wpOp_mono (fun a' w' h3 => ?_) k2
      obtain ⟨hy', g1, g2, g3⟩ := h3
      rw [Array.setIfInBounds_comm _ _ (Ne.symm hji)] at g1 g2 g3
      rw [getD_set_ne true him1] at g1
      rw [getD_set_ne true him2] at g2
      obtain ⟨hI', hS'⟩ := hstep listed j w' hI hr hj hji g1
      exact ⟨g1, g2, ih (listed.setIfInBounds j true) a' w' hI' hfree' (ready_mono hr (Ne.symm hji)) hy' hS' g1 g2 g3⟩

/-- What yields whatever the world is. -/
theorem wpAnyM_pure {i : Nat} {oi : Oper} {v : Value} {fuel : Nat} {listed : Array Bool} {a : Act} {w : World} (hi : ops[i]? = some oi)
    (hs : Region.noSelect ops = true) (hf : Region.free md ops listed i = true) (hr : (Region.ready md ops listed).contains i = true)
    (hQ : ∀ c a w, Q (.panic c) (a.put oi.dst v) w → Q (.panic c) a w) (him1 : i ≠ m1) (him2 : i ≠ m2) (hy : YieldsIf P ops (fun _ => True) oi v a) (h1 : listed.getD m1 true = false → S1 w) (h2 : listed.getD m2 true = false → S2 w)
    (h : wpAnyM P md ops Q m1 S1 m2 S2 fuel (listed.setIfInBounds i true) (a.put oi.dst v) w) : wpAnyM P md ops Q m1 S1 m2 S2 (fuel + 1) listed a w :=
  wpAnyM_first hi (Region.noSelect_spec hs) hQ him1 him2 (fun _ => True) (fun _ => True) (fun _ _ _ _ _ _ _ _ => ⟨trivial, trivial⟩) fuel listed a w trivial (Region.free_spec hi hf) (by simpa using hr) hy trivial h1 h2 h
/-- What yields in every world that meets S1, where m1 waits for it. -/
theorem wpAnyM_take {i : Nat} {oi : Oper} {v : Value} {fuel : Nat} {listed : Array Bool} {a : Act} {w : World} (hi : ops[i]? = some oi)
    (hs : Region.noSelect ops = true) (hf : Region.free md ops listed i = true) (hr : (Region.ready md ops listed).contains i = true)
    (hQ : ∀ c a w, Q (.panic c) (a.put oi.dst v) w → Q (.panic c) a w) (him1 : i ≠ m1) (him2 : i ≠ m2) (hc : closedB md ops listed = true) (hw : waitsB md ops i 20 m1 = true) (hm : listed.getD m1 true = false) (hy : YieldsIf P ops S1 oi v a) (h1 : S1 w) (h2 : listed.getD m2 true = false → S2 w)
    (h : wpAnyM P md ops Q m1 S1 m2 S2 fuel (listed.setIfInBounds i true) (a.put oi.dst v) w) : wpAnyM P md ops Q m1 S1 m2 S2 (fuel + 1) listed a w := by
  refine wpAnyM_first hi (Region.noSelect_spec hs) hQ him1 him2 (fun l => ClosedL md ops l ∧ l.getD m1 true = false) S1 (fun l j w' hI hri hrj hji g => ?_) fuel listed a w ⟨closed_of hc, hm⟩ (Region.free_spec hi hf) (by simpa using hr) hy h1 (fun _ => h1) h2 h
  have hjm : j ≠ m1 := fun e => by
    subst e
    have k1 := waits_spec hI.1 20 j hw (.inr hrj)
    rw [unlisted_false (mem_ready.1 hri).1] at k1
    cases k1
  have hl : (l.setIfInBounds j true).getD m1 true = false := by rw [getD_set_ne true hjm]; exact hI.2
  exact ⟨⟨closed_set hI.1 hrj, hl⟩, g hl⟩
theorem wpAnyM_take2 {i : Nat} {oi : Oper} {v : Value} {fuel : Nat} {listed : Array Bool} {a : Act} {w : World} (hi : ops[i]? = some oi)
    (hs : Region.noSelect ops = true) (hf : Region.free md ops listed i = true) (hr : (Region.ready md ops listed).contains i = true)
    (hQ : ∀ c a w, Q (.panic c) (a.put oi.dst v) w → Q (.panic c) a w) (him1 : i ≠ m1) (him2 : i ≠ m2) (hc : closedB md ops listed = true) (hw : waitsB md ops i 20 m2 = true) (hm : listed.getD m2 true = false) (hy : YieldsIf P ops S2 oi v a) (h1 : listed.getD m1 true = false → S1 w) (h2 : S2 w)
    (h : wpAnyM P md ops Q m1 S1 m2 S2 fuel (listed.setIfInBounds i true) (a.put oi.dst v) w) : wpAnyM P md ops Q m1 S1 m2 S2 (fuel + 1) listed a w :=
  wpAnyM_swap _ _ _ _ (wpAnyM_take hi hs hf hr hQ him2 him1 hc hw hm hy h2 h1 (wpAnyM_swap _ _ _ _ h))
theorem wpAnyM_done {listed : Array Bool} {a : Act} {w : World} (hr : Region.ready md ops listed = []) (h : Q .normal a w) :
    ∀ fuel, wpAnyM P md ops Q m1 S1 m2 S2 fuel listed a w
  | 0 => ⟨hr, h⟩
  | _ + 1 => ⟨fun _ => h, by rw [hr]; simp⟩
theorem wp_region_M {id : Nat} {a : Act} {w : World} (m1 : Nat) (S1 : World → Prop) (m2 : Nat) (S2 : World → Prop) (hm : P.follows .mixedOrders = true)
    (h : wpAnyM P .any ops Q m1 S1 m2 S2 ops.size (Array.replicate ops.size false) a w.drew) : (Code.region id ops true).wp P Q a w :=
  wp_region_any hm (wpAny_of_M _ _ _ _ h)

/-- One way that a ready operation goes: behind it T holds of its value and the world. -/
def StepM (P : Program) (ops : Array Oper) (Q : Exit → Act → World → Prop) (T : Value → World → Prop) (o : Oper) (a : Act) (w : World) : Prop :=
  ∀ K : Act → World → Prop, Shut (∀ v W', T v W' → K (a.put o.dst v) W') → if Region.wanted o (yielded ops a.tmps) = true then Oper.wp P o a w K Q else K (a.put o.dst undef) w
theorem StepM.op {T : Value → World → Prop} {i : Nat} {o : Oper} {a : Act} {w : World} (hi : ops[i]? = some o) (h : StepM P ops Q T o a w) {K : Act → World → Prop} (hK : ∀ v W, T v W → K (a.put o.dst v) W) : wpOp P ops Q i K a w :=
  wpOp_step hi (fun K' hK' => h K' (fun v W hT => hK' _ _ (hK v W hT)))
theorem wpAnyM_lone {T : Value → World → Prop} {i : Nat} {oi : Oper} {fuel : Nat} {listed : Array Bool} {a : Act} {w : World}
    (hr : Region.ready md ops listed = [i]) (hi : ops[i]? = some oi) (c : StepM P ops Q T oi a w)
    (h1 : ∀ v W, T v W → (listed.setIfInBounds i true).getD m1 true = false → S1 W) (h2 : ∀ v W, T v W → (listed.setIfInBounds i true).getD m2 true = false → S2 W)
    (h : ∀ v W, T v W → wpAnyM P md ops Q m1 S1 m2 S2 fuel (listed.setIfInBounds i true) (a.put oi.dst v) W) : wpAnyM P md ops Q m1 S1 m2 S2 (fuel + 1) listed a w :=
  ⟨fun h0 => (by rw [hr] at h0; cases h0), fun j hj => by
    rw [hr] at hj
    obtain rfl : j = i := by simpa using hj
    exact c.op hi (fun v W hT => ⟨h1 v W hT, h2 v W hT, h v W hT⟩)⟩
/-- Two that may come up by turns: i then k alone, beside j (k waits for i alone): three orders. -/
theorem wpAnyM_tri {Ti Tj : Value → World → Prop} {Tij : Value → Value → World → Prop} {Tik : Value → World → Prop} {Tijk : Value → Value → World → Prop} {i j k : Nat} {oi oj ok : Oper} {fuel : Nat} {l0 li lj lij lik l3 : Array Bool} {a : Act} {w : World}
    (r0 : Region.ready md ops l0 = [i, j]) (ri : Region.ready md ops li = [k, j]) (rj : Region.ready md ops lj = [i]) (rij : Region.ready md ops lij = [k]) (rik : Region.ready md ops lik = [j])
    (e1 : l0.setIfInBounds i true = li) (e2 : l0.setIfInBounds j true = lj) (e3 : li.setIfInBounds j true = lij) (e4 : lj.setIfInBounds i true = lij) (e5 : li.setIfInBounds k true = lik) (e6 : lij.setIfInBounds k true = l3) (e7 : lik.setIfInBounds j true = l3)
    (hi : ops[i]? = some oi) (hj : ops[j]? = some oj) (hk : ops[k]? = some ok)
    (p1 : ∀ v u, (a.put oj.dst u).put oi.dst v = (a.put oi.dst v).put oj.dst u) (p2 : ∀ v u x, ((a.put oi.dst v).put ok.dst x).put oj.dst u = ((a.put oi.dst v).put oj.dst u).put ok.dst x)
    (s1 : ∀ v W, Ti v W → S1 W) (s2 : ∀ u W, Tj u W → S1 W) (s3 : ∀ v u W, Tij v u W → S1 W) (s4 : ∀ x W, Tik x W → lik.getD m1 true = false → S1 W) (s5 : ∀ x u W, Tijk x u W → l3.getD m1 true = false → S1 W)
    (t1 : ∀ v W, Ti v W → S2 W) (t2 : ∀ u W, Tj u W → S2 W) (t3 : ∀ v u W, Tij v u W → S2 W) (t4 : ∀ x W, Tik x W → S2 W) (t5 : ∀ x u W, Tijk x u W → S2 W)
    (c1 : StepM P ops Q Ti oi a w) (c2 : StepM P ops Q Tj oj a w) (c3 : ∀ v W, Ti v W → StepM P ops Q (Tij v) oj (a.put oi.dst v) W) (c4 : ∀ u W, Tj u W → StepM P ops Q (fun v => Tij v u) oi (a.put oj.dst u) W)
    (c5 : ∀ v W, Ti v W → StepM P ops Q Tik ok (a.put oi.dst v) W) (c6 : ∀ v u W, Tij v u W → StepM P ops Q (fun x => Tijk x u) ok ((a.put oi.dst v).put oj.dst u) W) (c7 : ∀ v x W, Tik x W → StepM P ops Q (Tijk x) oj ((a.put oi.dst v).put ok.dst x) W)
    (h : ∀ v x u W, Tijk x u W → wpAnyM P md ops Q m1 S1 m2 S2 fuel l3 (((a.put oi.dst v).put oj.dst u).put ok.dst x) W) : wpAnyM P md ops Q m1 S1 m2 S2 (fuel + 3) l0 a w := by
  have M : ∀ v u W, Tij v u W → wpAnyM P md ops Q m1 S1 m2 S2 (fuel + 1) lij ((a.put oi.dst v).put oj.dst u) W := fun v u W hT =>
    wpAnyM_lone rij hk (c6 v u W hT) (fun x W' hx => by rw [e6]; exact s5 x u W' hx) (fun x W' hx _ => t5 x u W' hx) (fun x W' hx => by rw [e6]; exact h v x u W' hx)
  refine ⟨fun h0 => (by rw [r0] at h0; cases h0), fun q hq => ?_⟩
  rw [r0] at hq
  have hq' : q = i ∨ q = j := by simpa using hq
  rcases hq' with rfl | rfl
  · refine c1.op hi (fun v W hT => ⟨fun _ => s1 v W hT, fun _ => t1 v W hT, ?_⟩)
    rw [e1]
    refine ⟨fun h0 => (by rw [ri] at h0; cases h0), fun q hq => ?_⟩
    rw [ri] at hq
    have hq' : q = k ∨ q = j := by simpa using hq
    rcases hq' with rfl | rfl
    · refine (c5 v W hT).op hk (fun x W' hx => ⟨by rw [e5]; exact s4 x W' hx, fun _ => t4 x W' hx, ?_⟩)
      rw [e5]
      exact wpAnyM_lone rik hj (c7 v x W' hx) (fun u W'' hu => by rw [e7]; exact s5 x u W'' hu) (fun u W'' hu _ => t5 x u W'' hu) (fun u W'' hu => by rw [e7, p2]; exact h v x u W'' hu)
    · refine (c3 v W hT).op hj (fun u W' hu => ⟨fun _ => s3 v u W' hu, fun _ => t3 v u W' hu, ?_⟩)
      rw [e3]
      exact M v u W' hu
  · refine c2.op hj (fun u W hT => ⟨fun _ => s2 u W hT, fun _ => t2 u W hT, ?_⟩)
    rw [e2]
    exact wpAnyM_lone rj hi (c4 u W hT) (fun v W' hv _ => s3 v u W' hv) (fun v W' hv _ => t3 v u W' hv) (fun v W' hv => by rw [e4, p1]; exact M v u W' hv)
/-- The same, where p, that yields whatever the world is, comes up as soon as i and k are through. -/
theorem wpAnyM_trip {Ti Tj : Value → World → Prop} {Tij : Value → Value → World → Prop} {Tik : Value → World → Prop} {Tijk : Value → Value → World → Prop} {i j k p : Nat} {oi oj ok op : Oper} {vp : Value} {fuel : Nat} {l0 li lj lij lik l3 l4 l5 : Array Bool} {a : Act} {w : World}
    (r0 : Region.ready md ops l0 = [i, j]) (ri : Region.ready md ops li = [k, j]) (rj : Region.ready md ops lj = [i]) (rij : Region.ready md ops lij = [k]) (rik : Region.ready md ops l4 = [j])
    (e1 : l0.setIfInBounds i true = li) (e2 : l0.setIfInBounds j true = lj) (e3 : li.setIfInBounds j true = lij) (e4 : lj.setIfInBounds i true = lij) (e5 : li.setIfInBounds k true = lik) (e6 : lij.setIfInBounds k true = l3) (e7 : lik.setIfInBounds p true = l4) (e8 : l3.setIfInBounds p true = l5) (e9 : l4.setIfInBounds j true = l5)
    (hi : ops[i]? = some oi) (hj : ops[j]? = some oj) (hk : ops[k]? = some ok) (hp : ops[p]? = some op)
    (p1 : ∀ v u, (a.put oj.dst u).put oi.dst v = (a.put oi.dst v).put oj.dst u) (p2 : ∀ v u x, (((a.put oi.dst v).put ok.dst x).put op.dst vp).put oj.dst u = (((a.put oi.dst v).put oj.dst u).put ok.dst x).put op.dst vp)
    (hs : Region.noSelect ops = true) (f1 : Region.free md ops lik p = true) (f2 : Region.free md ops l3 p = true) (g1 : (Region.ready md ops lik).contains p = true) (g2 : (Region.ready md ops l3).contains p = true) (hQ : ∀ c a w, Q (.panic c) (a.put op.dst vp) w → Q (.panic c) a w) (hm1 : p ≠ m1) (hm2 : p ≠ m2)
    (y1 : ∀ v x, YieldsIf P ops (fun _ => True) op vp ((a.put oi.dst v).put ok.dst x)) (y2 : ∀ v u x, YieldsIf P ops (fun _ => True) op vp (((a.put oi.dst v).put oj.dst u).put ok.dst x))
    (s1 : ∀ v W, Ti v W → S1 W) (s2 : ∀ u W, Tj u W → S1 W) (s3 : ∀ v u W, Tij v u W → S1 W) (s4 : ∀ x W, Tik x W → lik.getD m1 true = false → S1 W) (s5 : ∀ x u W, Tijk x u W → l3.getD m1 true = false → S1 W) (s6 : ∀ x u W, Tijk x u W → l5.getD m1 true = false → S1 W)
    (t1 : ∀ v W, Ti v W → S2 W) (t2 : ∀ u W, Tj u W → S2 W) (t3 : ∀ v u W, Tij v u W → S2 W) (t4 : ∀ x W, Tik x W → S2 W) (t5 : ∀ x u W, Tijk x u W → S2 W)
    (c1 : StepM P ops Q Ti oi a w) (c2 : StepM P ops Q Tj oj a w) (c3 : ∀ v W, Ti v W → StepM P ops Q (Tij v) oj (a.put oi.dst v) W) (c4 : ∀ u W, Tj u W → StepM P ops Q (fun v => Tij v u) oi (a.put oj.dst u) W)
    (c5 : ∀ v W, Ti v W → StepM P ops Q Tik ok (a.put oi.dst v) W) (c6 : ∀ v u W, Tij v u W → StepM P ops Q (fun x => Tijk x u) ok ((a.put oi.dst v).put oj.dst u) W) (c7 : ∀ v x W, Tik x W → StepM P ops Q (Tijk x) oj (((a.put oi.dst v).put ok.dst x).put op.dst vp) W)
    (h : ∀ v x u W, Tijk x u W → wpAnyM P md ops Q m1 S1 m2 S2 fuel l5 ((((a.put oi.dst v).put oj.dst u).put ok.dst x).put op.dst vp) W) : wpAnyM P md ops Q m1 S1 m2 S2 (fuel + 4) l0 a w := by
  have M : ∀ v u W, Tij v u W → wpAnyM P md ops Q m1 S1 m2 S2 (fuel + 2) lij ((a.put oi.dst v).put oj.dst u) W := fun v u W hT =>
    wpAnyM_lone rij hk (c6 v u W hT) (fun x W' hx => by rw [e6]; exact s5 x u W' hx) (fun x W' hx _ => t5 x u W' hx) (fun x W' hx => by
      rw [e6]
      exact wpAnyM_pure hp hs f2 g2 hQ hm1 hm2 (y2 v u x) (s5 x u W' hx) (fun _ => t5 x u W' hx) (by rw [e8]; exact h v x u W' hx))
  refine ⟨fun h0 => (by rw [r0] at h0; cases h0), fun q hq => ?_⟩
  rw [r0] at hq
  have hq' : q = i ∨ q = j := by simpa using hq
  rcases hq' with rfl | rfl
  · refine c1.op hi (fun v W hT => ⟨fun _ => s1 v W hT, fun _ => t1 v W hT, ?_⟩)
    rw [e1]
    refine ⟨fun h0 => (by rw [ri] at h0; cases h0), fun q hq => ?_⟩
    rw [ri] at hq
    have hq' : q = k ∨ q = j := by simpa using hq
    rcases hq' with rfl | rfl
    · refine (c5 v W hT).op hk (fun x W' hx => ⟨by rw [e5]; exact s4 x W' hx, fun _ => t4 x W' hx, ?_⟩)
      rw [e5]
      refine wpAnyM_pure hp hs f1 g1 hQ hm1 hm2 (y1 v x) (s4 x W' hx) (fun _ => t4 x W' hx) ?_
      rw [e7]
      exact wpAnyM_lone rik hj (c7 v x W' hx) (fun u W'' hu => by rw [e9]; exact s6 x u W'' hu) (fun u W'' hu _ => t5 x u W'' hu) (fun u W'' hu => by rw [e9, p2]; exact h v x u W'' hu)
    · refine (c3 v W hT).op hj (fun u W' hu => ⟨fun _ => s3 v u W' hu, fun _ => t3 v u W' hu, ?_⟩)
      rw [e3]
      exact M v u W' hu
  · refine c2.op hj (fun u W hT => ⟨fun _ => s2 u W hT, fun _ => t2 u W hT, ?_⟩)
    rw [e2]
    exact wpAnyM_lone rj hi (c4 u W hT) (fun v W' hv _ => s3 v u W' hv) (fun v W' hv _ => t3 v u W' hv) (fun v W' hv => by rw [e4, p1]; exact M v u W' hv)
end

end Go.Proofs.Ythoimecljfcjmaa
