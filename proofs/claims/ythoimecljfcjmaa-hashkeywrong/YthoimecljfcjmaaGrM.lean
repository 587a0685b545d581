/-
  Where arcs lead, on plain data: the program's way and the document's find the same.
-/
import Derived.Test.YthoimecljfcjmaaZ10
import Derived.Test.YthoimecljfcjmaaFbF
namespace Go.Proofs.Ythoimecljfcjmaa
open Go.RowKit

/-- The first arc that leads on. -/
def hitP (v : Int) (C l : List Int) : List ArcM → Option Int
  | [] => none
  | x :: xs => if (x.src = v ∨ x.src ∈ l) ∧ x.dst ∉ C ∧ x.dst ∉ l then some x.dst else hitP v C l xs
def reachP (A : List ArcM) (v : Int) (C : List Int) : Nat → List Int → List Int
  | 0, l => l
  | n + 1, l => match hitP v C l A with | none => l | some x => reachP A v C n (l ++ [x])
/-- Unlike parties, below six. -/
def Few (l : List Int) : Prop := l.Nodup ∧ ∀ x ∈ l, 0 ≤ x ∧ x < 6
theorem Few.len {l : List Int} (h : Few l) : l.length ≤ 6 := few_below 6 l h.2 h.1
theorem Few.nil : Few [] := ⟨List.nodup_nil, fun x hx => by simp at hx⟩
theorem Few.more {l : List Int} (h : Few l) (x : Int) (h0 : 0 ≤ x) (h6 : x < 6) (hx : x ∉ l) : Few (l ++ [x]) := by
  refine ⟨?_, fun y hy => ?_⟩
  · rw [List.nodup_append]
    refine ⟨h.1, by simp, fun a ha b hb => ?_⟩
    simp at hb; subst hb
    exact fun e => hx (e ▸ ha)
  · rcases List.mem_append.1 hy with hy | hy
    · exact h.2 y hy
    · simp at hy; subst hy; exact ⟨h0, h6⟩
theorem hit_some {v : Int} {C l : List Int} {A : List ArcM} {d : Int} (h : hitP v C l A = some d) : ∃ x ∈ A, x.dst = d ∧ (x.src = v ∨ x.src ∈ l) ∧ x.dst ∉ C ∧ x.dst ∉ l := by
  induction A with
  | nil => simp [hitP] at h
  | cons x xs ih =>
    rw [hitP] at h
    split at h
    · rename_i hc
      injection h with h
      exact ⟨x, List.mem_cons_self, h, hc⟩
    · obtain ⟨y, hy, r⟩ := ih h
      exact ⟨y, List.mem_cons_of_mem _ hy, r⟩
theorem hit_none {v : Int} {C l : List Int} {A : List ArcM} (h : hitP v C l A = none) : ∀ x ∈ A, (x.src = v ∨ x.src ∈ l) → x.dst ∉ C → x.dst ∈ l := by
  induction A with
  | nil => intro x hx; simp at hx
  | cons x xs ih =>
    rw [hitP] at h
    split at h
    · simp at h
    · rename_i hc
      intro y hy h1 h2
      rcases List.mem_cons.1 hy with rfl | hy
      · by_cases h3 : y.dst ∈ l
        · exact h3
        · exact absurd ⟨h1, h2, h3⟩ hc
      · exact ih h y hy h1 h2
/-- From v on arcs lead to it, one at least, by none of C. -/
inductive Lead (A : List ArcM) (C : List Int) (v : Int) : Int → Prop
  | one (x : ArcM) : x ∈ A → x.src = v → x.dst ∉ C → Lead A C v x.dst
  | step (u : Int) (x : ArcM) : Lead A C v u → x ∈ A → x.src = u → x.dst ∉ C → Lead A C v x.dst
theorem Lead.out {A : List ArcM} {C : List Int} {v b : Int} (h : Lead A C v b) : b ∉ C := by cases h <;> assumption
theorem Lead.trans {A : List ArcM} {C : List Int} {a b c : Int} (h : Lead A C a b) (k : Lead A C b c) : Lead A C a c := by
  induction k with
  | one x hx hs hd => exact .step b x h hx hs hd
  | step u x _ hx hs hd ih => exact .step u x ih hx hs hd
theorem Lead.dst {A : List ArcM} {C : List Int} {v b : Int} (h : Lead A C v b) : ∃ x ∈ A, x.dst = b := by
  cases h with
  | one x hx => exact ⟨x, hx, rfl⟩
  | step u x _ hx => exact ⟨x, hx, rfl⟩
theorem reachP_few {A : List ArcM} (hA : ∀ x ∈ A, 0 ≤ x.dst ∧ x.dst < 6) (v : Int) (C : List Int) (n : Nat) (l : List Int) (hl : Few l) : Few (reachP A v C n l) := by
  induction n generalizing l with
  | zero => exact hl
  | succ n ih =>
    rw [reachP]
    cases e : hitP v C l A with
    | none => exact hl
    | some d =>
      obtain ⟨x, hx, rfl, _, _, h4⟩ := hit_some e
      exact ih _ (hl.more _ (hA x hx).1 (hA x hx).2 h4)
theorem reachP_end {A : List ArcM} (hA : ∀ x ∈ A, 0 ≤ x.dst ∧ x.dst < 6) (v : Int) (C : List Int) (n : Nat) (l : List Int) (hl : Few l) (hn : 7 ≤ l.length + n) : hitP v C (reachP A v C n l) A = none := by
  induction n generalizing l with
  | zero => have := hl.len; omega
  | succ n ih =>
    rw [reachP]
    cases e : hitP v C l A with
    | none => exact e
    | some d =>
      obtain ⟨x, hx, rfl, _, _, h4⟩ := hit_some e
      exact ih _ (hl.more _ (hA x hx).1 (hA x hx).2 h4) (by rw [List.length_append, List.length_singleton]; omega)
theorem reachP_lead (A : List ArcM) (v : Int) (C : List Int) (n : Nat) (l : List Int) (hl : ∀ x ∈ l, Lead A C v x) : ∀ x ∈ reachP A v C n l, Lead A C v x := by
  induction n generalizing l with
  | zero => exact hl
  | succ n ih =>
    rw [reachP]
    cases e : hitP v C l A with
    | none => exact hl
    | some d =>
      obtain ⟨x, hx, rfl, h2, h3, _⟩ := hit_some e
      refine ih _ (fun y hy => ?_)
      rcases List.mem_append.1 hy with hy | hy
      · exact hl y hy
      · simp at hy; subst hy
        rcases h2 with h2 | h2
        · exact .one x hx h2 h3
        · exact .step _ x (hl _ h2) hx rfl h3
theorem reachP_mem {A : List ArcM} (hA : ∀ x ∈ A, 0 ≤ x.dst ∧ x.dst < 6) (v : Int) (C : List Int) (b : Int) : b ∈ reachP A v C 7 [] ↔ Lead A C v b := by
  refine ⟨reachP_lead A v C 7 [] (fun x hx => by simp at hx) b, fun h => ?_⟩
  have he := hit_none (reachP_end hA v C 7 [] Few.nil (by simp))
  induction h with
  | one x hx hs hd => exact he x hx (.inl hs) hd
  | step u x _ hx hs hd ih => exact he x hx (.inr (by rw [hs]; exact ih)) hd
/-- The document's way. -/
theorem inner_none {out : List Int} {b u : Int} {A : List ArcM} {l : List Int} (h : innerR out b u A l = none) : ∃ x ∈ A, x.src = u ∧ x.dst ∉ out ∧ x.dst = b := by
  induction A generalizing l with
  | nil => simp [innerR] at h
  | cons x xs ih =>
    rw [innerR] at h
    split at h
    · obtain ⟨y, hy, r⟩ := ih h; exact ⟨y, List.mem_cons_of_mem _ hy, r⟩
    · rename_i hc
      split at h
      · rename_i hb
        exact ⟨x, List.mem_cons_self, Classical.not_not.1 (fun e => hc (.inl e)), fun e => hc (.inr e), hb⟩
      · split at h
        · obtain ⟨y, hy, r⟩ := ih h; exact ⟨y, List.mem_cons_of_mem _ hy, r⟩
        · obtain ⟨y, hy, r⟩ := ih h; exact ⟨y, List.mem_cons_of_mem _ hy, r⟩
theorem inner_some {out : List Int} {b u : Int} {A : List ArcM} (hA : ∀ x ∈ A, 0 ≤ x.dst ∧ x.dst < 6) {l l' : List Int} (hK : Known l) (h : innerR out b u A l = some l') :
    Known l' ∧ (∃ t, l' = l ++ t ∧ ∀ y ∈ t, ∃ x ∈ A, x.src = u ∧ x.dst ∉ out ∧ x.dst = y) ∧ ∀ x ∈ A, x.src = u → x.dst ∉ out → x.dst ≠ b ∧ x.dst ∈ l'.tail := by
  induction A generalizing l with
  | nil =>
    rw [innerR] at h; injection h with h; subst h
    exact ⟨hK, ⟨[], by simp, fun y hy => by simp at hy⟩, fun x hx => by simp at hx⟩
  | cons x xs ih =>
    have hA' : ∀ x ∈ xs, 0 ≤ x.dst ∧ x.dst < 6 := fun y hy => hA y (List.mem_cons_of_mem _ hy)
    rw [innerR] at h
    split at h
    · rename_i hc
      obtain ⟨h1, ⟨t, ht, ht2⟩, h3⟩ := ih hA' hK h
      refine ⟨h1, ⟨t, ht, fun y hy => ?_⟩, fun y hy hs hd => ?_⟩
      · obtain ⟨z, hz, r⟩ := ht2 y hy; exact ⟨z, List.mem_cons_of_mem _ hz, r⟩
      · rcases List.mem_cons.1 hy with rfl | hy
        · exact hc.elim (fun e => absurd hs e) (fun e => absurd e hd)
        · exact h3 y hy hs hd
    · rename_i hc
      have cs : x.src = u := Classical.not_not.1 (fun e => hc (.inl e))
      have cd : x.dst ∉ out := fun e => hc (.inr e)
      split at h
      · simp at h
      · rename_i hb
        split at h
        · rename_i hm
          obtain ⟨h1, ⟨t, ht, ht2⟩, h3⟩ := ih hA' hK h
          refine ⟨h1, ⟨t, ht, fun y hy => ?_⟩, fun y hy hs hd => ?_⟩
          · obtain ⟨z, hz, r⟩ := ht2 y hy; exact ⟨z, List.mem_cons_of_mem _ hz, r⟩
          · rcases List.mem_cons.1 hy with rfl | hy
            · refine ⟨hb, ?_⟩
              rw [ht, List.tail_append_of_ne_nil (by intro e; have := hK.1; rw [e] at this; simp at this)]
              exact List.mem_append_left _ hm
            · exact h3 y hy hs hd
        · rename_i hm
          have hx := hA x List.mem_cons_self
          have hK' := hK.more x.dst hx.1 hx.2 hm
          obtain ⟨h1, ⟨t, ht, ht2⟩, h3⟩ := ih hA' hK' h
          refine ⟨h1, ⟨x.dst :: t, by rw [ht, List.append_assoc]; rfl, fun y hy => ?_⟩, fun y hy hs hd => ?_⟩
          · rcases List.mem_cons.1 hy with rfl | hy
            · exact ⟨x, List.mem_cons_self, cs, cd, rfl⟩
            · obtain ⟨z, hz, r⟩ := ht2 y hy; exact ⟨z, List.mem_cons_of_mem _ hz, r⟩
          · rcases List.mem_cons.1 hy with rfl | hy
            · refine ⟨hb, ?_⟩
              rw [ht, List.tail_append_of_ne_nil (by simp)]
              exact List.mem_append_left _ ((tail_more hK _ _).2 (.inl rfl))
            · exact h3 y hy hs hd
theorem getD_append_left {l t : List Int} {i : Nat} (h : i < l.length) : (l ++ t).getD i 0 = l.getD i 0 := by
  simp [List.getD_eq_getElem?_getD, List.getElem?_append, h]
theorem outer_lead {A : List ArcM} (hA : ∀ x ∈ A, 0 ≤ x.dst ∧ x.dst < 6) (out : List Int) (a b : Int) (n i : Nat) (l : List Int) (hK : Known l) (hi : i ≤ l.length) (hn : 9 ≤ n + i) (h0 : l.getD 0 0 = a)
    (hs : ∀ y ∈ l.tail, Lead A out a y) (hd : ∀ j, j < i → ∀ x ∈ A, x.src = l.getD j 0 → x.dst ∉ out → x.dst ≠ b ∧ x.dst ∈ l.tail) : outerR A out b n i l = true ↔ Lead A out a b := by
  induction n generalizing i l with
  | zero => have := hK.len; omega
  | succ n ih =>
    have tailget : ∀ y ∈ l.tail, ∃ j, j < l.length ∧ l.getD j 0 = y := fun y hy => by
      obtain ⟨j, hj, rfl⟩ := List.mem_iff_getElem.1 (List.mem_of_mem_tail hy)
      exact ⟨j, hj, by rw [List.getD_eq_getElem?_getD, List.getElem?_eq_getElem hj]; rfl⟩
    rw [outerR]
    by_cases hlt : i < l.length
    · rw [if_pos hlt]
      have hu : Lead A out a (l.getD i 0) ∨ l.getD i 0 = a := by
        cases i with
        | zero => exact .inr h0
        | succ i =>
          left
          apply hs
          rw [List.getD_eq_getElem?_getD, List.getElem?_eq_getElem hlt]
          show l[i + 1] ∈ l.tail
          have : l.tail[i]? = some l[i + 1] := by rw [List.getElem?_tail, List.getElem?_eq_getElem hlt]
          exact List.mem_of_getElem? this
      have go : ∀ x ∈ A, x.src = l.getD i 0 → x.dst ∉ out → Lead A out a x.dst := fun x hx h1 h2 => by
        rcases hu with hu | hu
        · exact .step _ x hu hx h1 h2
        · exact .one x hx (h1.trans hu) h2
      cases e : innerR out b (l.getD i 0) A l with
      | none =>
        obtain ⟨x, hx, h1, h2, h3⟩ := inner_none e
        subst h3
        exact ⟨fun _ => go x hx h1 h2, fun _ => rfl⟩
      | some l' =>
        obtain ⟨k1, ⟨t, rfl, k2⟩, k3⟩ := inner_some hA hK e
        have hne : l ≠ [] := by intro e; have := hK.1; rw [e] at this; simp at this
        refine ih (i + 1) (l ++ t) k1 (by rw [List.length_append]; omega) (by omega) ?_ ?_ ?_
        · rw [getD_append_left (by have := hK.1; omega)]; exact h0
        · intro y hy
          rw [List.tail_append_of_ne_nil hne] at hy
          rcases List.mem_append.1 hy with hy | hy
          · exact hs y hy
          · obtain ⟨x, hx, h1, h2, rfl⟩ := k2 y hy
            exact go x hx h1 h2
        · intro j hj x hx h1 h2
          rw [getD_append_left (by omega)] at h1
          by_cases hji : j < i
          · obtain ⟨m1, m2⟩ := hd j hji x hx h1 h2
            exact ⟨m1, by rw [List.tail_append_of_ne_nil hne]; exact List.mem_append_left _ m2⟩
          · have : j = i := by omega
            subst this
            exact k3 x hx h1 h2
    · rw [if_neg hlt]
      have all : ∀ c, Lead A out a c → c ≠ b ∧ c ∈ l.tail := fun c hc => by
        induction hc with
        | one x hx h1 h2 => exact hd 0 (by have := hK.1; omega) x hx (by rw [h0]; exact h1) h2
        | step u x _ hx h1 h2 ih2 =>
          obtain ⟨j, hj, hjv⟩ := tailget u ih2.2
          exact hd j (by omega) x hx (by rw [hjv]; exact h1) h2
      exact ⟨fun h => by simp at h, fun h => absurd rfl (all b h).1⟩
theorem reachR_lead {A : List ArcM} (hA : ∀ x ∈ A, 0 ≤ x.dst ∧ x.dst < 6) (a b : Int) (ha : 0 ≤ a) (ha6 : a < 6) (out : List Int) : reachR A a b out = true ↔ a ∉ out ∧ Lead A out a b := by
  unfold reachR
  by_cases h : a ∈ out ∨ b ∈ out
  · rw [if_pos h]
    refine ⟨fun e => by simp at e, fun ⟨e1, e2⟩ => ?_⟩
    exact h.elim (fun e => absurd e e1) (fun e => absurd e e2.out)
  · rw [if_neg h, outer_lead hA out a b 9 0 [a] (Known.one a ha ha6) (by simp) (by omega) rfl (fun y hy => by simp at hy) (fun j hj => absurd hj (by omega))]
    exact ⟨fun e => ⟨fun e' => h (.inl e'), e⟩, fun e => e.2⟩
/-- Everyone leads to everyone. -/
def strongR (n : Nat) (A : List ArcM) : Bool := (List.range n).all fun a => (List.range n).all fun b => a == b || reachR A (a : Int) (b : Int) []
def strongP (n : Nat) (A : List ArcM) : Bool := (List.range n).all fun v => (reachP A (v : Int) [] 7 []).length == n
def fbP (n : Nat) (A : List ArcM) (L : List Int) : Bool := (List.range n).all fun v => !(reachP A (v : Int) L 7 []).contains (v : Int)
theorem few_all {n : Nat} {l : List Int} (hn : l.Nodup) (hl : ∀ x ∈ l, 0 ≤ x ∧ x < (n : Int)) : l.length = n ↔ ∀ k, k < n → (k : Int) ∈ l := by
  constructor
  · intro h k hk
    by_cases hm : (k : Int) ∈ l
    · exact hm
    · exfalso
      have h1 : (l ++ [(k : Int)]).Nodup := by
        rw [List.nodup_append]
        refine ⟨hn, by simp, fun a ha b hb => ?_⟩
        simp at hb; subst hb
        exact fun e => hm (e ▸ ha)
      have h2 := few_below n (l ++ [(k : Int)]) (fun x hx => by
        rcases List.mem_append.1 hx with hx | hx
        · exact hl x hx
        · simp at hx; subst hx; omega) h1
      rw [List.length_append, List.length_singleton] at h2
      omega
  · intro h
    have h1 := few_below n l hl hn
    have h2 : ∀ (m : Nat) (l : List Int), l.Nodup → (∀ k, k < m → (k : Int) ∈ l) → m ≤ l.length := by
      intro m
      induction m with
      | zero => intro l _ _; omega
      | succ m ih =>
        intro l hn h
        have h3 := ih (l.erase (m : Int)) (hn.erase _) (fun k hk => (List.Nodup.mem_erase_iff hn).2 ⟨by omega, h k (by omega)⟩)
        have hm := h m (by omega)
        rw [List.length_erase_of_mem hm] at h3
        have := List.length_pos_of_mem hm
        omega
    have := h2 n l hn h
    omega
theorem strong_same {n : Nat} {A : List ArcM} (hn : 2 ≤ n) (hn6 : n ≤ 6) (hA : ∀ x ∈ A, 0 ≤ x.dst ∧ x.dst < (n : Int)) : strongP n A = strongR n A := by
  have hA6 : ∀ x ∈ A, 0 ≤ x.dst ∧ x.dst < 6 := fun x hx => by have := hA x hx; omega
  have hin : ∀ v, ∀ x ∈ reachP A v [] 7 [], 0 ≤ x ∧ x < (n : Int) := fun v x hx => by
    obtain ⟨y, hy, rfl⟩ := ((reachP_mem hA6 v [] x).1 hx).dst
    exact hA y hy
  rw [Bool.eq_iff_iff]
  unfold strongP strongR
  simp only [List.all_eq_true, List.mem_range, beq_iff_eq, Bool.or_eq_true]
  constructor
  · intro h a ha b hb
    by_cases e : a = b
    · exact .inl e
    · right
      rw [reachR_lead hA6 _ _ (by omega) (by omega)]
      refine ⟨by simp, ?_⟩
      rw [← reachP_mem hA6]
      exact (few_all (reachP_few hA6 _ _ 7 [] Few.nil).1 (hin a)).1 (h a ha) b hb
  · intro h v hv
    have lead : ∀ a, a < n → ∀ b, b < n → a ≠ b → Lead A [] (a : Int) (b : Int) := fun a ha b hb e => ((reachR_lead hA6 (a : Int) (b : Int) (by omega) (by omega) []).1 ((h a ha b hb).resolve_left e)).2
    refine (few_all (reachP_few hA6 _ _ 7 [] Few.nil).1 (hin v)).2 (fun k hk => ?_)
    rw [reachP_mem hA6]
    by_cases e : v = k
    · subst e
      obtain ⟨u, hu, hne⟩ : ∃ u, u < n ∧ v ≠ u := by
        by_cases h0 : v = 0
        · exact ⟨1, by omega, by omega⟩
        · exact ⟨0, by omega, h0⟩
      exact (lead v hv u hu hne).trans (lead u hu v hv (Ne.symm hne))
    · exact lead v hv k hk e
theorem fb_same {n : Nat} {A : List ArcM} (L : List Int) (hn6 : n ≤ 6) (hA6 : ∀ x ∈ A, 0 ≤ x.dst ∧ x.dst < 6) : fbP n A L = fbR n A L := by
  unfold fbP fbR
  rw [Bool.eq_iff_iff]
  simp only [List.all_eq_true, List.mem_range, Bool.not_eq_true', List.contains_iff_mem, ← Bool.not_eq_true]
  have key : ∀ v, v < n → ((v : Int) ∈ reachP A (v : Int) L 7 [] ↔ reachR A (v : Int) (v : Int) L = true) := fun v hv => by
    rw [reachP_mem hA6, reachR_lead hA6 _ _ (by omega) (by omega)]
    exact ⟨fun h => ⟨h.out, h⟩, fun h => h.2⟩
  constructor
  · intro h v hv e; exact h v hv ((key v hv).2 e)
  · intro h v hv e; exact h v hv ((key v hv).1 e)

end Go.Proofs.Ythoimecljfcjmaa
