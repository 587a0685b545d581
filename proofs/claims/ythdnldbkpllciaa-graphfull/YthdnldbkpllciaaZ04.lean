/-
  Package sha's mixBlocks.
-/
import Derived.Test.YthdnldbkpllciaaZ03
import Derived.Test.YthdnldbkpllciaaZ00
import Derived.Deep.RegionHeld3
namespace Go.Proofs.Ythdnldbkpllciaa
open Go.RowKit


/-- The i-th block of 64 bytes. -/
def blk (l : List UInt8) (i : Nat) : List UInt8 := (l.drop (64 * i)).take 64
/-- So many blocks are mixed in. -/
def comps (H : St) (l : List UInt8) : Nat → St
  | 0 => H
  | n + 1 => comp (comps H l n) (sch (blk l n) 64)

theorem extract_size (s : ByteArray) (a b : Nat) (h1 : a ≤ b) (h2 : b ≤ s.size) : (s.extract a b).size = b - a := by
  rw [ByteArray.size_extract]; omega

end Go.Proofs.Ythdnldbkpllciaa

/-
  Two calls of a region that draws its order: whichever comes first.
-/
namespace Go.Proofs.Ythdnldbkpllciaa
open Go.RowKit

/-- An operation that gives v wherever R holds, and R holds behind it. -/
def Gives (P : Program) (ops : Array Oper) (Q : Exit → Act → World → Prop) (R : World → Prop) (o : Oper) (v : Value) (a : Act) : Prop :=
  ∀ W, R W → ∀ K : Act → World → Prop, Shut (∀ W', R W' → K (a.put o.dst v) W') → if Region.wanted o (yielded ops a.tmps) = true then Oper.wp P o a W K Q else K (a.put o.dst undef) W
theorem wpAnyH_pair {P : Program} {md : Region.Mode} {ops : Array Oper} {Q : Exit → Act → World → Prop} {S R : World → Prop} {i j : Nat} {oi oj : Oper} {vi vj : Value} {fuel : Nat} {listed l2 : Array Bool} {a b : Act} {w : World}
    (hr : Region.ready md ops listed = [i, j]) (hri : Region.ready md ops (listed.setIfInBounds i true) = [j]) (hrj : Region.ready md ops (listed.setIfInBounds j true) = [i])
    (hi : ops[i]? = some oi) (hj : ops[j]? = some oj) (hl1 : (listed.setIfInBounds i true).setIfInBounds j true = l2) (hl2 : (listed.setIfInBounds j true).setIfInBounds i true = l2)
    (hb1 : (a.put oi.dst vi).put oj.dst vj = b) (hb2 : (a.put oj.dst vj).put oi.dst vi = b)
    (hR : R w) (hS : ∀ W, R W → S W) (c1 : Gives P ops Q R oi vi a) (c2 : Gives P ops Q R oj vj (a.put oi.dst vi)) (c3 : Gives P ops Q R oj vj a) (c4 : Gives P ops Q R oi vi (a.put oj.dst vj))
    (h : ∀ W, R W → S W → wpAnyH P md ops Q S fuel l2 b W) : wpAnyH P md ops Q S (fuel + 2) listed a w := by
  refine wpAnyH_ready hr (by simp) (AllReadyH.cons hi (fun K hK => c1 w hR K (fun W hW => hK.out _ _ (hS W hW) (fun _ => ?_))) (AllReadyH.cons hj (fun K hK => c3 w hR K (fun W hW => hK.out _ _ (hS W hW) (fun _ => ?_))) AllReadyH.nil))
  · refine wpAnyH_ready hri (by simp) (AllReadyH.cons hj (fun K hK => c2 W hW K (fun W2 hW2 => hK.out _ _ (hS W2 hW2) (fun hs => ?_))) AllReadyH.nil)
    rw [hl1, hb1]; exact h W2 hW2 hs
  · refine wpAnyH_ready hrj (by simp) (AllReadyH.cons hi (fun K hK => c4 W hW K (fun W2 hW2 => hK.out _ _ (hS W2 hW2) (fun hs => ?_))) AllReadyH.nil)
    rw [hl2, hb2]; exact h W2 hW2 hs
theorem wpAnyH_lone {P : Program} {md : Region.Mode} {ops : Array Oper} {Q : Exit → Act → World → Prop} {S R : World → Prop} {i : Nat} {oi : Oper} {vi : Value} {fuel : Nat} {listed : Array Bool} {a : Act} {w : World}
    (hr : Region.ready md ops listed = [i]) (hi : ops[i]? = some oi) (hR : R w) (hS : ∀ W, R W → S W) (c1 : Gives P ops Q R oi vi a)
    (h : ∀ W, R W → S W → wpAnyH P md ops Q S fuel (listed.setIfInBounds i true) (a.put oi.dst vi) W) : wpAnyH P md ops Q S (fuel + 1) listed a w :=
  wpAnyH_ready hr (by simp) (AllReadyH.cons hi (fun K hK => c1 w hR K (fun W hW => hK.out _ _ (hS W hW) (fun hs => h W hW hs))) AllReadyH.nil)

end Go.Proofs.Ythdnldbkpllciaa

/-
  A call of a region that draws its order whose value is not known ahead; a number that does not go round.
-/
namespace Go.Proofs.Ythdnldbkpllciaa
open Go.RowKit

theorem wpAnyH_loneE {P : Program} {md : Region.Mode} {ops : Array Oper} {Q : Exit → Act → World → Prop} {S : World → Prop} {T : Value → World → Prop} {i : Nat} {oi : Oper} {fuel : Nat} {listed : Array Bool} {a : Act} {w : World}
    (hr : Region.ready md ops listed = [i]) (hi : ops[i]? = some oi) (hS : ∀ v W, T v W → S W)
    (c1 : ∀ K : Act → World → Prop, Shut (∀ v W', T v W' → K (a.put oi.dst v) W') → if Region.wanted oi (yielded ops a.tmps) = true then Oper.wp P oi a w K Q else K (a.put oi.dst undef) w)
    (h : ∀ v W, T v W → S W → wpAnyH P md ops Q S fuel (listed.setIfInBounds i true) (a.put oi.dst v) W) : wpAnyH P md ops Q S (fuel + 1) listed a w :=
  wpAnyH_ready hr (by simp) (AllReadyH.cons hi (fun K hK => c1 K (fun v W hW => hK.out _ _ (hS v W hW) (fun hs => h v W hW hs))) AllReadyH.nil)
theorem wrap_i64 {x : Int} (h0 : -9223372036854775808 ≤ x) (h1 : x ≤ 9223372036854775807) : IntKind.i64.wrap x = x := by
  unfold IntKind.wrap
  simp [IntKind.bits, IntKind.signed]
  omega

end Go.Proofs.Ythdnldbkpllciaa

/-
  A region that draws its order, where what is read early need hold only until an operation that waits for the reading.
-/
namespace Go.Proofs.Ythdnldbkpllciaa
open Go.RowKit

/-- Does m wait for i, at once or by others? -/
def waitsB (md : Region.Mode) (ops : Array Oper) (i : Nat) : Nat → Nat → Bool
  | 0, _ => false
  | f + 1, m => match ops[m]? with
    | none => false
    | some o => o.after.any fun e => Region.binds md e && (e.on == i || waitsB md ops i f e.on)
/-- What has come up came up behind all that it waits for. -/
def ClosedL (md : Region.Mode) (ops : Array Oper) (l : Array Bool) : Prop := ∀ j o, ops[j]? = some o → l.getD j false = true → ∀ e ∈ o.after, Region.binds md e = true → l.getD e.on false = true
def closedB (md : Region.Mode) (ops : Array Oper) (l : Array Bool) : Bool := (List.range ops.size).all fun j => !l.getD j false || match ops[j]? with
  | none => true
  | some o => o.after.all fun e => !Region.binds md e || l.getD e.on false
theorem closed_of {md : Region.Mode} {ops : Array Oper} {l : Array Bool} (h : closedB md ops l = true) : ClosedL md ops l := by
  intro j o ho hl e he hb
  unfold closedB at h
  simp only [List.all_eq_true, List.mem_range] at h
  have h1 := h j (Array.getElem?_eq_some_iff.1 ho).1
  simp only [ho, hl, Bool.not_true, Bool.false_or, Array.all_eq_true_iff_forall_mem] at h1
  have h2 := h1 e he
  simpa [hb] using h2
theorem waits_spec {md : Region.Mode} {ops : Array Oper} {l : Array Bool} (hc : ClosedL md ops l) {i : Nat} : ∀ (f m : Nat), waitsB md ops i f m = true → (l.getD m false = true ∨ m ∈ Region.ready md ops l) → l.getD i false = true := by
  intro f
  induction f with
  | zero => intro m h; simp [waitsB] at h
  | succ f ih =>
    intro m h hm
    rw [waitsB] at h
    cases ho : ops[m]? with
    | none => simp [ho] at h
    | some o =>
      simp only [ho] at h
      obtain ⟨e, he, h2⟩ := Array.any_eq_true'.1 h
      simp only [Bool.and_eq_true, Bool.or_eq_true, beq_iff_eq] at h2
      obtain ⟨hb, h3⟩ := h2
      have hl : l.getD e.on false = true := by
        rcases hm with hm | hm
        · exact hc m o ho hm e he hb
        · obtain ⟨_, o', ho', hall⟩ := mem_ready.1 hm
          rw [ho] at ho'; injection ho' with ho'; subst ho'
          exact hall e he hb
      rcases h3 with h3 | h3
      · rw [← h3]; exact hl
      · exact ih e.on h3 (.inl hl)
theorem closed_set {md : Region.Mode} {ops : Array Oper} {l : Array Bool} (hc : ClosedL md ops l) {j : Nat} (hj : j ∈ Region.ready md ops l) : ClosedL md ops (l.setIfInBounds j true) := by
  intro k o ho hl e he hb
  by_cases hkj : j = k
  · subst hkj
    obtain ⟨_, o', ho', hall⟩ := mem_ready.1 hj
    rw [ho] at ho'; injection ho' with ho'; subst ho'
    exact getD_set_true (hall e he hb)
  · rw [getD_set_ne false hkj] at hl
    exact getD_set_true (hc k o ho hl e he hb)
theorem unlisted_false {l : Array Bool} {i : Nat} (h : l.getD i true = false) : l.getD i false = false := by
  rcases Nat.lt_or_ge i l.size with h' | h'
  · simp [h'] at h ⊢; exact h
  · simp [Array.getElem?_eq_none h'] at h

/-- Whatever order is picked from here on; S1 holds as long as m1 has not come up, S2 as long as m2 has not. -/
def wpAnyM (P : Program) (md : Region.Mode) (ops : Array Oper) (Q : Exit → Act → World → Prop) (m1 : Nat) (S1 : World → Prop) (m2 : Nat) (S2 : World → Prop) : Nat → Array Bool → Act → World → Prop
  | 0, listed, a, w => Region.ready md ops listed = [] ∧ Q .normal a w
  | fuel + 1, listed, a, w =>
    (Region.ready md ops listed = [] → Q .normal a w) ∧
    ∀ i ∈ Region.ready md ops listed, wpOp P ops Q i (fun a' w' => ((listed.setIfInBounds i true).getD m1 true = false → S1 w') ∧ ((listed.setIfInBounds i true).getD m2 true = false → S2 w') ∧ wpAnyM P md ops Q m1 S1 m2 S2 fuel (listed.setIfInBounds i true) a' w') a w

theorem gone {l : Array Bool} {m : Nat} {p : Prop} (h : l.getD m true = true) (k : l.getD m true = false) : p := by rw [h] at k; cases k

section
variable {P : Program} {ops : Array Oper} {Q : Exit → Act → World → Prop} {md : Region.Mode} {S1 S2 : World → Prop} {m1 m2 : Nat}

theorem wpAny_of_M : ∀ (fuel : Nat) (listed : Array Bool) (a : Act) (w : World), wpAnyM P md ops Q m1 S1 m2 S2 fuel listed a w → wpAny P md ops Q fuel listed a w
  | 0, _, _, _, h => h
  | fuel + 1, _, _, _, h => ⟨h.1, fun i hi => wpOp_mono (fun a' w' h' => wpAny_of_M fuel _ a' w' h'.2.2) (h.2 i hi)⟩
theorem wpAnyM_swap : ∀ (fuel : Nat) (listed : Array Bool) (a : Act) (w : World), wpAnyM P md ops Q m1 S1 m2 S2 fuel listed a w → wpAnyM P md ops Q m2 S2 m1 S1 fuel listed a w
  | 0, _, _, _, h => h
  | fuel + 1, _, _, _, h => ⟨h.1, fun i hi => wpOp_mono (fun a' w' h' => ⟨h'.2.1, h'.1, wpAnyM_swap fuel _ a' w' h'.2.2⟩) (h.2 i hi)⟩
theorem wpAnyM_first {i : Nat} {oi : Oper} {v : Value} (hi : ops[i]? = some oi) (hsel : ∀ (j : Nat) (o : Oper) cs b, ops[j]? = some o → o.op ≠ .select cs b)
    (hQ : ∀ c a w, Q (.panic c) (a.put oi.dst v) w → Q (.panic c) a w) (him1 : i ≠ m1) (him2 : i ≠ m2) (I : Array Bool → Prop) (S : World → Prop)
    (hstep : ∀ l j w', I l → i ∈ Region.ready md ops l → j ∈ Region.ready md ops l → j ≠ i → ((l.setIfInBounds j true).getD m1 true = false → S1 w') → I (l.setIfInBounds j true) ∧ S w') :
    ∀ (fuel : Nat) (listed : Array Bool) (a : Act) (w : World), I listed →
      (∀ j oj, ops[j]? = some oj → j ≠ i → listed.getD j true = false → (∀ e ∈ oj.after, Region.binds md e = true → e.on ≠ i) → oi.apart ops oj = true) →
      i ∈ Region.ready md ops listed → YieldsIf P ops S oi v a → S w → (listed.getD m1 true = false → S1 w) → (listed.getD m2 true = false → S2 w) →
      wpAnyM P md ops Q m1 S1 m2 S2 fuel (listed.setIfInBounds i true) (a.put oi.dst v) w → wpAnyM P md ops Q m1 S1 m2 S2 (fuel + 1) listed a w := by
  intro fuel
  induction fuel with
  | zero =>
    intro listed a w hI _ hr hy hS h1 h2 H
    refine ⟨fun h => (by rw [h] at hr; cases hr), fun j hj => ?_⟩
    by_cases hji : j = i
    · subst hji; exact hy.wpOp hi hS ⟨fun h => h1 (by rw [getD_set_ne true him1] at h; exact h), fun h => h2 (by rw [getD_set_ne true him2] at h; exact h), H⟩
    · have := ready_mono hj hji
      rw [H.1] at this
      cases this
  | succ fuel ih =>
    intro listed a w hI hfree hr hy hS h1 h2 H
    refine ⟨fun h => (by rw [h] at hr; cases hr), fun j hj => ?_⟩
    by_cases hji : j = i
    · subst hji; exact hy.wpOp hi hS ⟨fun h => h1 (by rw [getD_set_ne true him1] at h; exact h), fun h => h2 (by rw [getD_set_ne true him2] at h; exact h), H⟩
    · have k1 := H.2 j (ready_mono hj hji)
      obtain ⟨hjun, oj, hoj, hall⟩ := mem_ready.1 hj
      have hnot : ∀ e ∈ oj.after, Region.binds md e = true → e.on ≠ i := fun e he hb heq => by
        have k1 := hall e he hb
        have k0 := (mem_ready.1 hr).1
        rw [heq] at k1
        rw [unlisted_false k0] at k1
        cases k1
      have k2 := wpOp_putIf hoj (hfree j oj hoj hji hjun hnot) (fun cs b => hsel i oi cs b hi) (fun cs b => hsel j oj cs b hoj) hQ hy k1
      have hfree' : ∀ k ok, ops[k]? = some ok → k ≠ i → (listed.setIfInBounds j true).getD k true = false →
          (∀ e ∈ ok.after, Region.binds md e = true → e.on ≠ i) → oi.apart ops ok = true := fun k ok hk hki hun hno => by
        refine hfree k ok hk hki ?_ hno
        by_cases hjk : j = k
        · subst hjk; exact hjun
        · rw [getD_set_ne true hjk] at hun; exact hun
      refine wpOp_mono (fun a' w' h3 => ?_) k2
      obtain ⟨hy', g1, g2, g3⟩ := h3
      rw [Array.setIfInBounds_comm _ _ (Ne.symm hji)] at g1 g2 g3
      rw [getD_set_ne true him1] at g1
      rw [getD_set_ne true him2] at g2
      obtain ⟨hI', hS'⟩ := hstep listed j w' hI hr hj hji g1
      exact ⟨g1, g2, ih (listed.setIfInBounds j true) a' w' hI' hfree' (ready_mono hr (Ne.symm hji)) hy' hS' g1 g2 g3⟩

/-- What yields whatever the world is. -/
theorem wpAnyM_pure {i : Nat} {oi : Oper} {v : Value} {fuel : Nat} {listed : Array Bool} {a : Act} {w : World} (hi : ops[i]? = some oi)
    (hs : Region.noSelect ops = true) (hf : Region.free md ops listed i = true) (hr : (Region.ready md ops listed).contains i = true)
    (hQ : ∀ c a w, Q (.panic c) (a.put oi.dst v) w → Q (.panic c) a w) (him1 : i ≠ m1) (him2 : i ≠ m2) (hy : YieldsIf P ops (fun _ => True) oi v a) (h1 : listed.getD m1 true = false → S1 w) (h2 : listed.getD m2 true = false → S2 w)
    (h : wpAnyM P md ops Q m1 S1 m2 S2 fuel (listed.setIfInBounds i true) (a.put oi.dst v) w) : wpAnyM P md ops Q m1 S1 m2 S2 (fuel + 1) listed a w :=
  wpAnyM_first hi (Region.noSelect_spec hs) hQ him1 him2 (fun _ => True) (fun _ => True) (fun _ _ _ _ _ _ _ _ => ⟨trivial, trivial⟩) fuel listed a w trivial (Region.free_spec hi hf) (by simpa using hr) hy trivial h1 h2 h
/-- What yields in every world that meets S1, where m1 waits for it. -/
theorem wpAnyM_take {i : Nat} {oi : Oper} {v : Value} {fuel : Nat} {listed : Array Bool} {a : Act} {w : World} (hi : ops[i]? = some oi)
    (hs : Region.noSelect ops = true) (hf : Region.free md ops listed i = true) (hr : (Region.ready md ops listed).contains i = true)
    (hQ : ∀ c a w, Q (.panic c) (a.put oi.dst v) w → Q (.panic c) a w) (him1 : i ≠ m1) (him2 : i ≠ m2) (hc : closedB md ops listed = true) (hw : waitsB md ops i 20 m1 = true) (hm : listed.getD m1 true = false) (hy : YieldsIf P ops S1 oi v a) (h1 : S1 w) (h2 : listed.getD m2 true = false → S2 w)
    (h : wpAnyM P md ops Q m1 S1 m2 S2 fuel (listed.setIfInBounds i true) (a.put oi.dst v) w) : wpAnyM P md ops Q m1 S1 m2 S2 (fuel + 1) listed a w := by
  refine wpAnyM_first hi (Region.noSelect_spec hs) hQ him1 him2 (fun l => ClosedL md ops l ∧ l.getD m1 true = false) S1 (fun l j w' hI hri hrj hji g => ?_) fuel listed a w ⟨closed_of hc, hm⟩ (Region.free_spec hi hf) (by simpa using hr) hy h1 (fun _ => h1) h2 h
  have hjm : j ≠ m1 := fun e => by
    subst e
    have k1 := waits_spec hI.1 20 j hw (.inr hrj)
    rw [unlisted_false (mem_ready.1 hri).1] at k1
    cases k1
  have hl : (l.setIfInBounds j true).getD m1 true = false := by rw [getD_set_ne true hjm]; exact hI.2
  exact ⟨⟨closed_set hI.1 hrj, hl⟩, g hl⟩
theorem wpAnyM_take2 {i : Nat} {oi : Oper} {v : Value} {fuel : Nat} {listed : Array Bool} {a : Act} {w : World} (hi : ops[i]? = some oi)
    (hs : Region.noSelect ops = true) (hf : Region.free md ops listed i = true) (hr : (Region.ready md ops listed).contains i = true)
    (hQ : ∀ c a w, Q (.panic c) (a.put oi.dst v) w → Q (.panic c) a w) (him1 : i ≠ m1) (him2 : i ≠ m2) (hc : closedB md ops listed = true) (hw : waitsB md ops i 20 m2 = true) (hm : listed.getD m2 true = false) (hy : YieldsIf P ops S2 oi v a) (h1 : listed.getD m1 true = false → S1 w) (h2 : S2 w)
    (h : wpAnyM P md ops Q m1 S1 m2 S2 fuel (listed.setIfInBounds i true) (a.put oi.dst v) w) : wpAnyM P md ops Q m1 S1 m2 S2 (fuel + 1) listed a w :=
  wpAnyM_swap _ _ _ _ (wpAnyM_take hi hs hf hr hQ him2 him1 hc hw hm hy h2 h1 (wpAnyM_swap _ _ _ _ h))
theorem wpAnyM_done {listed : Array Bool} {a : Act} {w : World} (hr : Region.ready md ops listed = []) (h : Q .normal a w) :
    ∀ fuel, wpAnyM P md ops Q m1 S1 m2 S2 fuel listed a w
  | 0 => ⟨hr, h⟩
  | _ + 1 => ⟨fun _ => h, by rw [hr]; simp⟩
theorem wp_region_M {id : Nat} {a : Act} {w : World} (m1 : Nat) (S1 : World → Prop) (m2 : Nat) (S2 : World → Prop) (hm : P.follows .mixedOrders = true)
    (h : wpAnyM P .any ops Q m1 S1 m2 S2 ops.size (Array.replicate ops.size false) a w.drew) : (Code.region id ops true).wp P Q a w :=
  wp_region_any hm (wpAny_of_M _ _ _ _ h)

/-- One way that a ready operation goes: behind it T holds of its value and the world. -/
def StepM (P : Program) (ops : Array Oper) (Q : Exit → Act → World → Prop) (T : Value → World → Prop) (o : Oper) (a : Act) (w : World) : Prop :=
  ∀ K : Act → World → Prop, Shut (∀ v W', T v W' → K (a.put o.dst v) W') → if Region.wanted o (yielded ops a.tmps) = true then Oper.wp P o a w K Q else K (a.put o.dst undef) w
theorem StepM.op {T : Value → World → Prop} {i : Nat} {o : Oper} {a : Act} {w : World} (hi : ops[i]? = some o) (h : StepM P ops Q T o a w) {K : Act → World → Prop} (hK : ∀ v W, T v W → K (a.put o.dst v) W) : wpOp P ops Q i K a w :=
  wpOp_step hi (fun K' hK' => h K' (fun v W hT => hK' _ _ (hK v W hT)))
theorem wpAnyM_lone {T : Value → World → Prop} {i : Nat} {oi : Oper} {fuel : Nat} {listed : Array Bool} {a : Act} {w : World}
    (hr : Region.ready md ops listed = [i]) (hi : ops[i]? = some oi) (c : StepM P ops Q T oi a w)
    (h1 : ∀ v W, T v W → (listed.setIfInBounds i true).getD m1 true = false → S1 W) (h2 : ∀ v W, T v W → (listed.setIfInBounds i true).getD m2 true = false → S2 W)
    (h : ∀ v W, T v W → wpAnyM P md ops Q m1 S1 m2 S2 fuel (listed.setIfInBounds i true) (a.put oi.dst v) W) : wpAnyM P md ops Q m1 S1 m2 S2 (fuel + 1) listed a w :=
  ⟨fun h0 => (by rw [hr] at h0; cases h0), fun j hj => by
    rw [hr] at hj
    obtain rfl : j = i := by simpa using hj
    exact c.op hi (fun v W hT => ⟨h1 v W hT, h2 v W hT, h v W hT⟩)⟩
/-- Two that may come up by turns: i then k alone, beside j (k waits for i alone): three orders. -/
theorem wpAnyM_tri {Ti Tj : Value → World → Prop} {Tij : Value → Value → World → Prop} {Tik : Value → World → Prop} {Tijk : Value → Value → World → Prop} {i j k : Nat} {oi oj ok : Oper} {fuel : Nat} {l0 li lj lij lik l3 : Array Bool} {a : Act} {w : World}
    (r0 : Region.ready md ops l0 = [i, j]) (ri : Region.ready md ops li = [k, j]) (rj : Region.ready md ops lj = [i]) (rij : Region.ready md ops lij = [k]) (rik : Region.ready md ops lik = [j])
    (e1 : l0.setIfInBounds i true = li) (e2 : l0.setIfInBounds j true = lj) (e3 : li.setIfInBounds j true = lij) (e4 : lj.setIfInBounds i true = lij) (e5 : li.setIfInBounds k true = lik) (e6 : lij.setIfInBounds k true = l3) (e7 : lik.setIfInBounds j true = l3)
    (hi : ops[i]? = some oi) (hj : ops[j]? = some oj) (hk : ops[k]? = some ok)
    (p1 : ∀ v u, (a.put oj.dst u).put oi.dst v = (a.put oi.dst v).put oj.dst u) (p2 : ∀ v u x, ((a.put oi.dst v).put ok.dst x).put oj.dst u = ((a.put oi.dst v).put oj.dst u).put ok.dst x)
    (s1 : ∀ v W, Ti v W → S1 W) (s2 : ∀ u W, Tj u W → S1 W) (s3 : ∀ v u W, Tij v u W → S1 W) (s4 : ∀ x W, Tik x W → lik.getD m1 true = false → S1 W) (s5 : ∀ x u W, Tijk x u W → l3.getD m1 true = false → S1 W)
    (t1 : ∀ v W, Ti v W → S2 W) (t2 : ∀ u W, Tj u W → S2 W) (t3 : ∀ v u W, Tij v u W → S2 W) (t4 : ∀ x W, Tik x W → S2 W) (t5 : ∀ x u W, Tijk x u W → S2 W)
    (c1 : StepM P ops Q Ti oi a w) (c2 : StepM P ops Q Tj oj a w) (c3 : ∀ v W, Ti v W → StepM P ops Q (Tij v) oj (a.put oi.dst v) W) (c4 : ∀ u W, Tj u W → StepM P ops Q (fun v => Tij v u) oi (a.put oj.dst u) W)
    (c5 : ∀ v W, Ti v W → StepM P ops Q Tik ok (a.put oi.dst v) W) (c6 : ∀ v u W, Tij v u W → StepM P ops Q (fun x => Tijk x u) ok ((a.put oi.dst v).put oj.dst u) W) (c7 : ∀ v x W, Tik x W → StepM P ops Q (Tijk x) oj ((a.put oi.dst v).put ok.dst x) W)
    (h : ∀ v x u W, Tijk x u W → wpAnyM P md ops Q m1 S1 m2 S2 fuel l3 (((a.put oi.dst v).put oj.dst u).put ok.dst x) W) : wpAnyM P md ops Q m1 S1 m2 S2 (fuel + 3) l0 a w := by
  have M : ∀ v u W, Tij v u W → wpAnyM P md ops Q m1 S1 m2 S2 (fuel + 1) lij ((a.put oi.dst v).put oj.dst u) W := fun v u W hT =>
    wpAnyM_lone rij hk (c6 v u W hT) (fun x W' hx => by rw [e6]; exact s5 x u W' hx) (fun x W' hx _ => t5 x u W' hx) (fun x W' hx => by rw [e6]; exact h v x u W' hx)
  refine ⟨fun h0 => (by rw [r0] at h0; cases h0), fun q hq => ?_⟩
  rw [r0] at hq
  have hq' : q = i ∨ q = j := by simpa using hq
  rcases hq' with rfl | rfl
  · refine c1.op hi (fun v W hT => ⟨fun _ => s1 v W hT, fun _ => t1 v W hT, ?_⟩)
    rw [e1]
    refine ⟨fun h0 => (by rw [ri] at h0; cases h0), fun q hq => ?_⟩
    rw [ri] at hq
    have hq' : q = k ∨ q = j := by simpa using hq
    rcases hq' with rfl | rfl
    · refine (c5 v W hT).op hk (fun x W' hx => ⟨by rw [e5]; exact s4 x W' hx, fun _ => t4 x W' hx, ?_⟩)
      rw [e5]
      exact wpAnyM_lone rik hj (c7 v x W' hx) (fun u W'' hu => by rw [e7]; exact s5 x u W'' hu) (fun u W'' hu _ => t5 x u W'' hu) (fun u W'' hu => by rw [e7, p2]; exact h v x u W'' hu)
    · refine (c3 v W hT).op hj (fun u W' hu => ⟨fun _ => s3 v u W' hu, fun _ => t3 v u W' hu, ?_⟩)
      rw [e3]
      exact M v u W' hu
  · refine c2.op hj (fun u W hT => ⟨fun _ => s2 u W hT, fun _ => t2 u W hT, ?_⟩)
    rw [e2]
    exact wpAnyM_lone rj hi (c4 u W hT) (fun v W' hv _ => s3 v u W' hv) (fun v W' hv _ => t3 v u W' hv) (fun v W' hv => by rw [e4, p1]; exact M v u W' hv)
/-- The same, where p, that yields whatever the world is, comes up as soon as i and k are through. -/
theorem wpAnyM_trip {Ti Tj : Value → World → Prop} {Tij : Value → Value → World → Prop} {Tik : Value → World → Prop} {Tijk : Value → Value → World → Prop} {i j k p : Nat} {oi oj ok op : Oper} {vp : Value} {fuel : Nat} {l0 li lj lij lik l3 l4 l5 : Array Bool} {a : Act} {w : World}
    (r0 : Region.ready md ops l0 = [i, j]) (ri : Region.ready md ops li = [k, j]) (rj : Region.ready md ops lj = [i]) (rij : Region.ready md ops lij = [k]) (rik : Region.ready md ops l4 = [j])
    (e1 : l0.setIfInBounds i true = li) (e2 : l0.setIfInBounds j true = lj) (e3 : li.setIfInBounds j true = lij) (e4 : lj.setIfInBounds i true = lij) (e5 : li.setIfInBounds k true = lik) (e6 : lij.setIfInBounds k true = l3) (e7 : lik.setIfInBounds p true = l4) (e8 : l3.setIfInBounds p true = l5) (e9 : l4.setIfInBounds j true = l5)
    (hi : ops[i]? = some oi) (hj : ops[j]? = some oj) (hk : ops[k]? = some ok) (hp : ops[p]? = some op)
    (p1 : ∀ v u, (a.put oj.dst u).put oi.dst v = (a.put oi.dst v).put oj.dst u) (p2 : ∀ v u x, (((a.put oi.dst v).put ok.dst x).put op.dst vp).put oj.dst u = (((a.put oi.dst v).put oj.dst u).put ok.dst x).put op.dst vp)
    (hs : Region.noSelect ops = true) (f1 : Region.free md ops lik p = true) (f2 : Region.free md ops l3 p = true) (g1 : (Region.ready md ops lik).contains p = true) (g2 : (Region.ready md ops l3).contains p = true) (hQ : ∀ c a w, Q (.panic c) (a.put op.dst vp) w → Q (.panic c) a w) (hm1 : p ≠ m1) (hm2 : p ≠ m2)
    (y1 : ∀ v x, YieldsIf P ops (fun _ => True) op vp ((a.put oi.dst v).put ok.dst x)) (y2 : ∀ v u x, YieldsIf P ops (fun _ => True) op vp (((a.put oi.dst v).put oj.dst u).put ok.dst x))
    (s1 : ∀ v W, Ti v W → S1 W) (s2 : ∀ u W, Tj u W → S1 W) (s3 : ∀ v u W, Tij v u W → S1 W) (s4 : ∀ x W, Tik x W → lik.getD m1 true = false → S1 W) (s5 : ∀ x u W, Tijk x u W → l3.getD m1 true = false → S1 W) (s6 : ∀ x u W, Tijk x u W → l5.getD m1 true = false → S1 W)
    (t1 : ∀ v W, Ti v W → S2 W) (t2 : ∀ u W, Tj u W → S2 W) (t3 : ∀ v u W, Tij v u W → S2 W) (t4 : ∀ x W, Tik x W → S2 W) (t5 : ∀ x u W, Tijk x u W → S2 W)
    (c1 : StepM P ops Q Ti oi a w) (c2 : StepM P ops Q Tj oj a w) (c3 : ∀ v W, Ti v W → StepM P ops Q (Tij v) oj (a.put oi.dst v) W) (c4 : ∀ u W, Tj u W → StepM P ops Q (fun v => Tij v u) oi (a.put oj.dst u) W)
    (c5 : ∀ v W, Ti v W → StepM P ops Q Tik ok (a.put oi.dst v) W) (c6 : ∀ v u W, Tij v u W → StepM P ops Q (fun x => Tijk x u) ok ((a.put oi.dst v).put oj.dst u) W) (c7 : ∀ v x W, Tik x W → StepM P ops Q (Tijk x) oj (((a.put oi.dst v).put ok.dst x).put op.dst vp) W)
    (h : ∀ v x u W, Tijk x u W → wpAnyM P md ops Q m1 S1 m2 S2 fuel l5 ((((a.put oi.dst v).put oj.dst u).put ok.dst x).put op.dst vp) W) : wpAnyM P md ops Q m1 S1 m2 S2 (fuel + 4) l0 a w := by
  have M : ∀ v u W, Tij v u W → wpAnyM P md ops Q m1 S1 m2 S2 (fuel + 2) lij ((a.put oi.dst v).put oj.dst u) W := fun v u W hT =>
    wpAnyM_lone rij hk (c6 v u W hT) (fun x W' hx => by rw [e6]; exact s5 x u W' hx) (fun x W' hx _ => t5 x u W' hx) (fun x W' hx => by
      rw [e6]
      exact wpAnyM_pure hp hs f2 g2 hQ hm1 hm2 (y2 v u x) (s5 x u W' hx) (fun _ => t5 x u W' hx) (by rw [e8]; exact h v x u W' hx))
  refine ⟨fun h0 => (by rw [r0] at h0; cases h0), fun q hq => ?_⟩
  rw [r0] at hq
  have hq' : q = i ∨ q = j := by simpa using hq
  rcases hq' with rfl | rfl
  · refine c1.op hi (fun v W hT => ⟨fun _ => s1 v W hT, fun _ => t1 v W hT, ?_⟩)
    rw [e1]
    refine ⟨fun h0 => (by rw [ri] at h0; cases h0), fun q hq => ?_⟩
    rw [ri] at hq
    have hq' : q = k ∨ q = j := by simpa using hq
    rcases hq' with rfl | rfl
    · refine (c5 v W hT).op hk (fun x W' hx => ⟨by rw [e5]; exact s4 x W' hx, fun _ => t4 x W' hx, ?_⟩)
      rw [e5]
      refine wpAnyM_pure hp hs f1 g1 hQ hm1 hm2 (y1 v x) (s4 x W' hx) (fun _ => t4 x W' hx) ?_
      rw [e7]
      exact wpAnyM_lone rik hj (c7 v x W' hx) (fun u W'' hu => by rw [e9]; exact s6 x u W'' hu) (fun u W'' hu _ => t5 x u W'' hu) (fun u W'' hu => by rw [e9, p2]; exact h v x u W'' hu)
    · refine (c3 v W hT).op hj (fun u W' hu => ⟨fun _ => s3 v u W' hu, fun _ => t3 v u W' hu, ?_⟩)
      rw [e3]
      exact M v u W' hu
  · refine c2.op hj (fun u W hT => ⟨fun _ => s2 u W hT, fun _ => t2 u W hT, ?_⟩)
    rw [e2]
    exact wpAnyM_lone rj hi (c4 u W hT) (fun v W' hv _ => s3 v u W' hv) (fun v W' hv _ => t3 v u W' hv) (fun v W' hv => by rw [e4, p1]; exact M v u W' hv)
end

end Go.Proofs.Ythdnldbkpllciaa
