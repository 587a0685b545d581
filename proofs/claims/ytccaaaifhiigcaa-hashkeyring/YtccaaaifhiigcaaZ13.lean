/-
  Two calls of a region that draws its order: whichever comes first.
-/
import Derived.Test.YtccaaaifhiigcaaZ00
import Derived.Deep.RegionHeld3
import Derived.Test.YtccaaaifhiigcaaZ12
namespace Go.Proofs.Ytccaaaifhiigcaa
open Go.RowKit

/-- An operation that gives v wherever R holds, and R holds behind it. -/
def Gives (P : Program) (ops : Array Oper) (Q : Exit → Act → World → Prop) (R : World → Prop) (o : Oper) (v : Value) (a : Act) : Prop :=
  ∀ W, R W → ∀ K : Act → World → Prop, Shut (∀ W', R W' → K (a.put o.dst v) W') → if Region.wanted o (yielded ops a.tmps) = true then Oper.wp P o a W K Q else K (a.put o.dst undef) W
theorem wpAnyH_pair {P : Program} {md : Region.Mode} {ops : Array Oper} {Q : Exit → Act → World → Prop} {S R : World → Prop} {i j : Nat} {oi oj : Oper} {vi vj : Value} {fuel : Nat} {listed l2 : Array Bool} {a b : Act} {w : World}
    (hr : Region.ready md ops listed = [i, j]) (hri : Region.ready md ops (listed.setIfInBounds i true) = [j]) (hrj : Region.ready md ops (listed.setIfInBounds j true) = [i])
    (hi : ops[i]? = some oi) (hj : ops[j]? = some oj) (hl1 : (listed.setIfInBounds i true).setIfInBounds j true = l2) (hl2 : (listed.setIfInBounds j true).setIfInBounds i true = l2)
    (hb1 : (a.put oi.dst vi).put oj.dst vj = b) (hb2 : (a.put oj.dst vj).put oi.dst vi = b)
    (hR : R w) (hS : ∀ W, R W → S W) (c1 : Gives P ops Q R oi vi a) (c2 : Gives P ops Q R oj vj (a.put oi.dst vi)) (c3 : Gives P ops Q R oj vj a) (c4 : Gives P ops Q R oi vi (a.put oj.dst vj))
    (h : ∀ W, R W → S W → wpAnyH P md ops Q S fuel l2 b W) : wpAnyH P md ops Q S (fuel + 2) listed a w := by
  refine wpAnyH_ready hr (by simp) (AllReadyH.cons hi (fun K hK => c1 w hR K (fun W hW => hK.out _ _ (hS W hW) (fun _ => ?_))) (AllReadyH.cons hj (fun K hK => c3 w hR K (fun W hW => hK.out _ _ (hS W hW) (fun _ => ?_))) AllReadyH.nil))
  · refine wpAnyH_ready hri (by simp) (AllReadyH.cons hj (fun K hK => c2 W hW K (fun W2 hW2 => hK.out _ _ (hS W2 hW2) (fun hs => ?_))) AllReadyH.nil)
    rw [hl1, hb1]; exact h W2 hW2 hs
  · refine wpAnyH_ready hrj (by simp) (AllReadyH.cons hi (fun K hK => c4 W hW K (fun W2 hW2 => hK.out _ _ (hS W2 hW2) (fun hs => ?_))) AllReadyH.nil)
    rw [hl2, hb2]; exact h W2 hW2 hs
theorem wpAnyH_lone {P : Program} {md : Region.Mode} {ops : Array Oper} {Q : Exit → Act → World → Prop} {S R : World → Prop} {i : Nat} {oi : Oper} {vi : Value} {fuel : Nat} {listed : Array Bool} {a : Act} {w : World}
    (hr : Region.ready md ops listed = [i]) (hi : ops[i]? = some oi) (hR : R w) (hS : ∀ W, R W → S W) (c1 : Gives P ops Q R oi vi a)
    (h : ∀ W, R W → S W → wpAnyH P md ops Q S fuel (listed.setIfInBounds i true) (a.put oi.dst vi) W) : wpAnyH P md ops Q S (fuel + 1) listed a w :=
  wpAnyH_ready hr (by simp) (AllReadyH.cons hi (fun K hK => c1 w hR K (fun W hW => hK.out _ _ (hS W hW) (fun hs => h W hW hs))) AllReadyH.nil)

end Go.Proofs.Ytccaaaifhiigcaa

/-
  Chapter 5's own answer, on plain data: where arcs lead, and whether nothing goes round without some parties.
-/
namespace Go.Proofs.Ytccaaaifhiigcaa
open Go.RowKit

/-- The arcs of one party: 'none': b is reached; else the parties that are known now. -/
def innerR (out : List Int) (b u : Int) : List ArcM → List Int → Option (List Int)
  | [], l => some l
  | x :: xs, l => if x.src ≠ u ∨ x.dst ∈ out then innerR out b u xs l else if x.dst = b then none else if x.dst ∈ l.tail then innerR out b u xs l else innerR out b u xs (l ++ [x.dst])
def outerR (A : List ArcM) (out : List Int) (b : Int) : Nat → Nat → List Int → Bool
  | 0, _, _ => false
  | n + 1, i, l => if i < l.length then (match innerR out b (l.getD i 0) A l with | none => true | some l' => outerR A out b n (i + 1) l') else false
def reachR (A : List ArcM) (a b : Int) (out : List Int) : Bool := if a ∈ out ∨ b ∈ out then false else outerR A out b 9 0 [a]
def fbR (n : Nat) (A : List ArcM) (L : List Int) : Bool := (List.range n).all fun a => !reachR A (a : Int) (a : Int) L
/-- A party, then parties that are unlike, all below six. -/
def Known (l : List Int) : Prop := 1 ≤ l.length ∧ (∀ x ∈ l, 0 ≤ x ∧ x < 6) ∧ l.tail.Nodup
theorem few_below (n : Nat) (l : List Int) (h : ∀ x ∈ l, 0 ≤ x ∧ x < (n : Int)) (hn : l.Nodup) : l.length ≤ n := by
  induction n generalizing l with
  | zero =>
    cases l with
    | nil => exact Nat.zero_le _
    | cons x l => have := h x List.mem_cons_self; omega
  | succ n ih =>
    by_cases hm : (n : Int) ∈ l
    · have h1 := ih (l.erase (n : Int)) (fun x hx => by
        have hx' := (List.Nodup.mem_erase_iff hn).1 hx
        have := h x hx'.2
        have hne := hx'.1
        omega) (hn.erase _)
      rw [List.length_erase_of_mem hm] at h1
      omega
    · exact Nat.le_succ_of_le (ih l (fun x hx => by
        have := h x hx
        have hne : x ≠ (n : Int) := fun e => hm (e ▸ hx)
        omega) hn)
theorem Known.len {l : List Int} (h : Known l) : l.length ≤ 7 := by
  have := few_below 6 l.tail (fun x hx => h.2.1 x (List.mem_of_mem_tail hx)) h.2.2
  rw [List.length_tail] at this; omega
theorem Known.one (a : Int) (h0 : 0 ≤ a) (h6 : a < 6) : Known [a] := ⟨by simp, fun x hx => by simp at hx; subst hx; exact ⟨h0, h6⟩, by simp⟩
theorem Known.more {l : List Int} (h : Known l) (x : Int) (h0 : 0 ≤ x) (h6 : x < 6) (hx : x ∉ l.tail) : Known (l ++ [x]) := by
  obtain ⟨h1, h2, h3⟩ := h
  refine ⟨by simp, fun y hy => ?_, ?_⟩
  · rcases List.mem_append.1 hy with hy | hy
    · exact h2 y hy
    · simp at hy; subst hy; exact ⟨h0, h6⟩
  · rw [List.tail_append_of_ne_nil (by intro e; rw [e] at h1; simp at h1), List.nodup_append]
    refine ⟨h3, by simp, fun a ha b hb => ?_⟩
    simp at hb; subst hb
    exact fun e => hx (e ▸ ha)
theorem tail_more {l : List Int} (h : Known l) (x y : Int) : y ∈ (l ++ [x]).tail ↔ y = x ∨ y ∈ l.tail := by
  rw [List.tail_append_of_ne_nil (by intro e; have := h.1; rw [e] at this; simp at this), List.mem_append]
  simp [or_comm]

/-- An array of six bools in a block of its own. -/
def BRow (w : World) (g : Nat) (f : Int → Prop) : Prop := ∃ b0 b1 b2 b3 b4 b5 : Bool, w.heap[g]? = some (.cells #[.bool b0, .bool b1, .bool b2, .bool b3, .bool b4, .bool b5] 125 (0, 0)) ∧ b0 = told (f 0) ∧ b1 = told (f 1) ∧ b2 = told (f 2) ∧ b3 = told (f 3) ∧ b4 = told (f 4) ∧ b5 = told (f 5)
theorem BRow.but {w w' : World} {g k : Nat} {f : Int → Prop} (h : BRow w g f) (hb : But k w w') (hg : g ≠ k) : BRow w' g f := by
  obtain ⟨b0, b1, b2, b3, b4, b5, h, r⟩ := h
  exact ⟨b0, b1, b2, b3, b4, b5, by rw [hb.block g (Array.getElem?_eq_some_iff.1 h).1 hg]; exact h, r⟩
theorem BRow.below {w w' : World} {g : Nat} {f : Int → Prop} (h : BRow w g f) (hb : Below w.heap.size w w') : BRow w' g f := by
  obtain ⟨b0, b1, b2, b3, b4, b5, h, r⟩ := h
  exact ⟨b0, b1, b2, b3, b4, b5, by rw [hb.block g (Array.getElem?_eq_some_iff.1 h).1]; exact h, r⟩
theorem BRow.grown {w w' : World} {g : Nat} {row : Option Nat} {f : Int → Prop} (h : BRow w g f) (hb : w.grownBy w' row) (hg : some g ≠ row) : BRow w' g f := by
  obtain ⟨b0, b1, b2, b3, b4, b5, h, r⟩ := h
  exact ⟨b0, b1, b2, b3, b4, b5, by rw [hb.block g (Array.getElem?_eq_some_iff.1 h).1 hg]; exact h, r⟩
theorem BRow.lt {w : World} {g : Nat} {f : Int → Prop} (h : BRow w g f) : g < w.heap.size := by
  obtain ⟨b0, b1, b2, b3, b4, b5, h, r⟩ := h
  exact (Array.getElem?_eq_some_iff.1 h).1
theorem BRow.congr {w : World} {g : Nat} {f h : Int → Prop} (k : BRow w g f) (e : ∀ x, 0 ≤ x → x < 6 → (f x ↔ h x)) : BRow w g h := by
  obtain ⟨b0, b1, b2, b3, b4, b5, r, r0, r1, r2, r3, r4, r5⟩ := k
  have q : ∀ x, 0 ≤ x → x < 6 → told (f x) = told (h x) := fun x h0 h6 => by
    by_cases hf : f x
    · rw [told_yes hf, told_yes ((e x h0 h6).1 hf)]
    · rw [told_no hf, told_no (fun hh => hf ((e x h0 h6).2 hh))]
  exact ⟨b0, b1, b2, b3, b4, b5, r, r0.trans (q 0 (by omega) (by omega)), r1.trans (q 1 (by omega) (by omega)), r2.trans (q 2 (by omega) (by omega)), r3.trans (q 3 (by omega) (by omega)), r4.trans (q 4 (by omega) (by omega)), r5.trans (q 5 (by omega) (by omega))⟩
theorem BRow.get {w : World} {g : Nat} {f : Int → Prop} (h : BRow w g f) (v : Nat) (hv : v < 6) : w.cell? ⟨g, v, none⟩ = some (.bool (told (f (v : Int)))) ∧ w.frozen? ⟨g, v, none⟩ = false := by
  obtain ⟨b0, b1, b2, b3, b4, b5, r, r0, r1, r2, r3, r4, r5⟩ := h
  refine ⟨?_, frozen_of_row w g v _ _ r⟩
  rw [cell_of_row w g v _ _ (0, 0) r]
  have : v = 0 ∨ v = 1 ∨ v = 2 ∨ v = 3 ∨ v = 4 ∨ v = 5 := by omega
  rcases this with rfl | rfl | rfl | rfl | rfl | rfl
  · rw [r0]; rfl
  · rw [r1]; rfl
  · rw [r2]; rfl
  · rw [r3]; rfl
  · rw [r4]; rfl
  · rw [r5]; rfl
theorem told_or {p q : Prop} : told (p ∨ q) = (told p || told q) := by
  by_cases hp : p <;> by_cases hq : q <;> simp [told_yes, told_no, hp, hq]
theorem BRow.set {w : World} {g : Nat} {f : Int → Prop} (h : BRow w g f) (v : Nat) (hv : v < 6) : BRow (w.setCell ⟨g, v, none⟩ (.bool true)) g (fun x => f x ∨ x = (v : Int)) := by
  obtain ⟨b0, b1, b2, b3, b4, b5, r, r0, r1, r2, r3, r4, r5⟩ := h
  have hw := setCell_eq_setRow w g v _ _ (0, 0) (.bool true) r
  have hh := setRow_heap w g _ (#[.bool b0, .bool b1, .bool b2, .bool b3, .bool b4, .bool b5].setIfInBounds v (.bool true)) _ (0, 0) r
  have : v = 0 ∨ v = 1 ∨ v = 2 ∨ v = 3 ∨ v = 4 ∨ v = 5 := by omega
  have no : ∀ (p : Prop) (q : Prop), ¬ q → told p = told (p ∨ q) := fun p q hq => by by_cases hp : p <;> simp [told_yes, told_no, hp, hq]
  have ye : ∀ (p : Prop) (q : Prop), q → true = told (p ∨ q) := fun p q hq => (told_yes (.inr hq)).symm
  rcases this with rfl | rfl | rfl | rfl | rfl | rfl
  · exact ⟨true, b1, b2, b3, b4, b5, by rw [hw]; exact hh, ye _ _ rfl, r1.trans (no _ _ (by omega)), r2.trans (no _ _ (by omega)), r3.trans (no _ _ (by omega)), r4.trans (no _ _ (by omega)), r5.trans (no _ _ (by omega))⟩
  · exact ⟨b0, true, b2, b3, b4, b5, by rw [hw]; exact hh, r0.trans (no _ _ (by omega)), ye _ _ rfl, r2.trans (no _ _ (by omega)), r3.trans (no _ _ (by omega)), r4.trans (no _ _ (by omega)), r5.trans (no _ _ (by omega))⟩
  · exact ⟨b0, b1, true, b3, b4, b5, by rw [hw]; exact hh, r0.trans (no _ _ (by omega)), r1.trans (no _ _ (by omega)), ye _ _ rfl, r3.trans (no _ _ (by omega)), r4.trans (no _ _ (by omega)), r5.trans (no _ _ (by omega))⟩
  · exact ⟨b0, b1, b2, true, b4, b5, by rw [hw]; exact hh, r0.trans (no _ _ (by omega)), r1.trans (no _ _ (by omega)), r2.trans (no _ _ (by omega)), ye _ _ rfl, r4.trans (no _ _ (by omega)), r5.trans (no _ _ (by omega))⟩
  · exact ⟨b0, b1, b2, b3, true, b5, by rw [hw]; exact hh, r0.trans (no _ _ (by omega)), r1.trans (no _ _ (by omega)), r2.trans (no _ _ (by omega)), r3.trans (no _ _ (by omega)), ye _ _ rfl, r5.trans (no _ _ (by omega))⟩
  · exact ⟨b0, b1, b2, b3, b4, true, by rw [hw]; exact hh, r0.trans (no _ _ (by omega)), r1.trans (no _ _ (by omega)), r2.trans (no _ _ (by omega)), r3.trans (no _ _ (by omega)), r4.trans (no _ _ (by omega)), ye _ _ rfl⟩
theorem BRow.new (w : World) : BRow (w.alloc (.cells #[.bool false, .bool false, .bool false, .bool false, .bool false, .bool false] 125)) w.heap.size (fun _ => False) :=
  ⟨false, false, false, false, false, false, heap_alloc_new _ _, (told_no not_false).symm, (told_no not_false).symm, (told_no not_false).symm, (told_no not_false).symm, (told_no not_false).symm, (told_no not_false).symm⟩

end Go.Proofs.Ytccaaaifhiigcaa

/-
  A region that draws its order: three calls, one behind another, and an alloc that may come up anywhere.
-/
namespace Go.Proofs.Ytccaaaifhiigcaa
open Go.RowKit

/-- An operation that gives some value. -/
def GivesE (P : Program) (ops : Array Oper) (Q : Exit → Act → World → Prop) (R : World → Prop) (T : Value → World → Prop) (o : Oper) (a : Act) : Prop :=
  ∀ W, R W → ∀ K : Act → World → Prop, Shut (∀ u W', T u W' → K (a.put o.dst u) W') → if Region.wanted o (yielded ops a.tmps) = true then Oper.wp P o a W K Q else K (a.put o.dst undef) W
theorem wpAnyH_c3a {P : Program} {md : Region.Mode} {ops : Array Oper} {Q : Exit → Act → World → Prop} {S R : World → Prop} {R' : Value → World → Prop} {T : Value → World → Prop} {T' : Value → Value → World → Prop} {i1 i2 i3 k : Nat} {o1 o2 o3 ok : Oper} {v1 v2 : Value} {fuel : Nat} {l0 l1 l2 l3 l4 m0 m1 m2 : Array Bool} {a : Act} {w : World}
    (r0 : Region.ready md ops l0 = [i1, k]) (r1 : Region.ready md ops l1 = [i2, k]) (r2 : Region.ready md ops l2 = [i3, k]) (r3 : Region.ready md ops l3 = [k])
    (s0 : Region.ready md ops m0 = [i1]) (s1 : Region.ready md ops m1 = [i2]) (s2 : Region.ready md ops m2 = [i3])
    (e1 : l0.setIfInBounds i1 true = l1) (e2 : l1.setIfInBounds i2 true = l2) (e3 : l2.setIfInBounds i3 true = l3) (e4 : l3.setIfInBounds k true = l4)
    (f0 : l0.setIfInBounds k true = m0) (f1 : l1.setIfInBounds k true = m1) (f2 : l2.setIfInBounds k true = m2) (g1 : m0.setIfInBounds i1 true = m1) (g2 : m1.setIfInBounds i2 true = m2) (g3 : m2.setIfInBounds i3 true = l4)
    (h1 : ops[i1]? = some o1) (h2 : ops[i2]? = some o2) (h3 : ops[i3]? = some o3) (hk : ops[k]? = some ok)
    (p1 : ∀ p, (a.put ok.dst p).put o1.dst v1 = (a.put o1.dst v1).put ok.dst p)
    (p2 : ∀ p, ((a.put o1.dst v1).put ok.dst p).put o2.dst v2 = ((a.put o1.dst v1).put o2.dst v2).put ok.dst p)
    (p3 : ∀ p u, (((a.put o1.dst v1).put o2.dst v2).put ok.dst p).put o3.dst u = (((a.put o1.dst v1).put o2.dst v2).put o3.dst u).put ok.dst p)
    (hR : R w) (hS : ∀ W, R W → S W) (hS' : ∀ p W, R' p W → S W) (hT : ∀ u W, T u W → S W) (hT' : ∀ p u W, T' p u W → S W)
    (c1 : Gives P ops Q R o1 v1 a) (c1' : ∀ p, Gives P ops Q (R' p) o1 v1 (a.put ok.dst p))
    (c2 : Gives P ops Q R o2 v2 (a.put o1.dst v1)) (c2' : ∀ p, Gives P ops Q (R' p) o2 v2 ((a.put o1.dst v1).put ok.dst p))
    (c3 : GivesE P ops Q R T o3 ((a.put o1.dst v1).put o2.dst v2)) (c3' : ∀ p, GivesE P ops Q (R' p) (T' p) o3 (((a.put o1.dst v1).put o2.dst v2).put ok.dst p))
    (k0 : ∀ b, GivesE P ops Q R R' ok b) (k3 : ∀ u b, GivesE P ops Q (T u) (fun p W => T' p u W) ok b)
    (h : ∀ p u W, T' p u W → S W → wpAnyH P md ops Q S fuel l4 ((((a.put o1.dst v1).put o2.dst v2).put o3.dst u).put ok.dst p) W) : wpAnyH P md ops Q S (fuel + 4) l0 a w := by
  have B2 : ∀ p W, R' p W → wpAnyH P md ops Q S (fuel + 1) m2 (((a.put o1.dst v1).put o2.dst v2).put ok.dst p) W := fun p W hW =>
    wpAnyH_ready s2 (by simp) (AllReadyH.cons h3 (fun K hK => c3' p W hW K (fun u W' hW' => hK.out _ _ (hT' p u W' hW') (fun hs => by rw [g3, p3]; exact h p u W' hW' hs))) AllReadyH.nil)
  have B1 : ∀ p W, R' p W → wpAnyH P md ops Q S (fuel + 2) m1 ((a.put o1.dst v1).put ok.dst p) W := fun p W hW =>
    wpAnyH_ready s1 (by simp) (AllReadyH.cons h2 (fun K hK => c2' p W hW K (fun W' hW' => hK.out _ _ (hS' p W' hW') (fun _ => by rw [g2, p2]; exact B2 p W' hW'))) AllReadyH.nil)
  refine wpAnyH_ready r0 (by simp) (AllReadyH.cons h1 (fun K hK => c1 w hR K (fun W hW => hK.out _ _ (hS W hW) (fun _ => ?_))) (AllReadyH.cons hk (fun K hK => k0 a w hR K (fun p W hW => hK.out _ _ (hS' p W hW) (fun _ => ?_))) AllReadyH.nil))
  · rw [e1]
    refine wpAnyH_ready r1 (by simp) (AllReadyH.cons h2 (fun K hK => c2 W hW K (fun W2 hW2 => hK.out _ _ (hS W2 hW2) (fun _ => ?_))) (AllReadyH.cons hk (fun K hK => k0 _ W hW K (fun p W2 hW2 => hK.out _ _ (hS' p W2 hW2) (fun _ => by rw [f1]; exact B1 p W2 hW2))) AllReadyH.nil))
    rw [e2]
    refine wpAnyH_ready r2 (by simp) (AllReadyH.cons h3 (fun K hK => c3 W2 hW2 K (fun u W3 hW3 => hK.out _ _ (hT u W3 hW3) (fun _ => ?_))) (AllReadyH.cons hk (fun K hK => k0 _ W2 hW2 K (fun p W3 hW3 => hK.out _ _ (hS' p W3 hW3) (fun _ => by rw [f2]; exact B2 p W3 hW3))) AllReadyH.nil))
    rw [e3]
    exact wpAnyH_ready r3 (by simp) (AllReadyH.cons hk (fun K hK => k3 u _ W3 hW3 K (fun p W4 hW4 => hK.out _ _ (hT' p u W4 hW4) (fun hs => by rw [e4]; exact h p u W4 hW4 hs))) AllReadyH.nil)
  · rw [f0]
    exact wpAnyH_ready s0 (by simp) (AllReadyH.cons h1 (fun K hK => c1' p W hW K (fun W' hW' => hK.out _ _ (hS' p W' hW') (fun _ => by rw [g1, p1]; exact B1 p W' hW'))) AllReadyH.nil)

end Go.Proofs.Ytccaaaifhiigcaa
