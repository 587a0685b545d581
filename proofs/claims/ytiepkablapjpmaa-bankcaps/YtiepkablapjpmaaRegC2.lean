/-
  A region that draws its order: two calls, one behind the other, and an alloc that may come up anywhere; a variable made there.
-/
import Derived.Test.YtiepkablapjpmaaRegC
import Derived.Test.YtiepkablapjpmaaVarG
namespace Go.Proofs.Ytiepkablapjpmaa
open Go.RowKit

theorem wpAnyH_c2a {P : Program} {md : Region.Mode} {ops : Array Oper} {Q : Exit → Act → World → Prop} {S R : World → Prop} {R' : Value → World → Prop} {T : Value → World → Prop} {T' : Value → Value → World → Prop} {i1 i2 k : Nat} {o1 o2 ok : Oper} {v1 : Value} {fuel : Nat} {l0 l1 l2 l3 m0 m1 : Array Bool} {a : Act} {w : World}
    (r0 : Region.ready md ops l0 = [i1, k]) (r1 : Region.ready md ops l1 = [i2, k]) (r2 : Region.ready md ops l2 = [k])
    (s0 : Region.ready md ops m0 = [i1]) (s1 : Region.ready md ops m1 = [i2])
    (e1 : l0.setIfInBounds i1 true = l1) (e2 : l1.setIfInBounds i2 true = l2) (e3 : l2.setIfInBounds k true = l3)
    (f0 : l0.setIfInBounds k true = m0) (f1 : l1.setIfInBounds k true = m1) (g1 : m0.setIfInBounds i1 true = m1) (g2 : m1.setIfInBounds i2 true = l3)
    (h1 : ops[i1]? = some o1) (h2 : ops[i2]? = some o2) (hk : ops[k]? = some ok)
    (p1 : ∀ p, (a.put ok.dst p).put o1.dst v1 = (a.put o1.dst v1).put ok.dst p)
    (p2 : ∀ p u, ((a.put o1.dst v1).put ok.dst p).put o2.dst u = ((a.put o1.dst v1).put o2.dst u).put ok.dst p)
    (hR : R w) (hS : ∀ W, R W → S W) (hS' : ∀ p W, R' p W → S W) (hT : ∀ u W, T u W → S W) (hT' : ∀ p u W, T' p u W → S W)
    (c1 : Gives P ops Q R o1 v1 a) (c1' : ∀ p, Gives P ops Q (R' p) o1 v1 (a.put ok.dst p))
    (c2 : GivesE P ops Q R T o2 (a.put o1.dst v1)) (c2' : ∀ p, GivesE P ops Q (R' p) (T' p) o2 ((a.put o1.dst v1).put ok.dst p))
    (k0 : ∀ b, GivesE P ops Q R R' ok b) (k2 : ∀ u b, GivesE P ops Q (T u) (fun p W => T' p u W) ok b)
    (h : ∀ p u W, T' p u W → S W → wpAnyH P md ops Q S fuel l3 (((a.put o1.dst v1).put o2.dst u).put ok.dst p) W) : wpAnyH P md ops Q S (fuel + 3) l0 a w := by
  have B1 : ∀ p W, R' p W → wpAnyH P md ops Q S (fuel + 1) m1 ((a.put o1.dst v1).put ok.dst p) W := fun p W hW =>
    wpAnyH_ready s1 (by simp) (AllReadyH.cons h2 (fun K hK => c2' p W hW K (fun u W' hW' => hK.out _ _ (hT' p u W' hW') (fun hs => by rw [g2, p2]; exact h p u W' hW' hs))) AllReadyH.nil)
  refine wpAnyH_ready r0 (by simp) (AllReadyH.cons h1 (fun K hK => c1 w hR K (fun W hW => hK.out _ _ (hS W hW) (fun _ => ?_))) (AllReadyH.cons hk (fun K hK => k0 a w hR K (fun p W hW => hK.out _ _ (hS' p W hW) (fun _ => ?_))) AllReadyH.nil))
  · rw [e1]
    refine wpAnyH_ready r1 (by simp) (AllReadyH.cons h2 (fun K hK => c2 W hW K (fun u W2 hW2 => hK.out _ _ (hT u W2 hW2) (fun _ => ?_))) (AllReadyH.cons hk (fun K hK => k0 _ W hW K (fun p W2 hW2 => hK.out _ _ (hS' p W2 hW2) (fun _ => by rw [f1]; exact B1 p W2 hW2))) AllReadyH.nil))
    rw [e2]
    exact wpAnyH_ready r2 (by simp) (AllReadyH.cons hk (fun K hK => k2 u _ W2 hW2 K (fun p W4 hW4 => hK.out _ _ (hT' p u W4 hW4) (fun hs => by rw [e3]; exact h p u W4 hW4 hs))) AllReadyH.nil)
  · rw [f0]
    exact wpAnyH_ready s0 (by simp) (AllReadyH.cons h1 (fun K hK => c1' p W hW K (fun W' hW' => hK.out _ _ (hS' p W' hW') (fun _ => by rw [g1, p1]; exact B1 p W' hW'))) AllReadyH.nil)
theorem wpAnyH_c2b {P : Program} {md : Region.Mode} {ops : Array Oper} {Q : Exit → Act → World → Prop} {S R : World → Prop} {R' : Value → World → Prop} {T : Value → World → Prop} {T' : Value → Value → World → Prop} {i1 i2 k : Nat} {o1 o2 ok : Oper} {v1 : Value} {fuel : Nat} {l0 l1 l2 l3 m0 m1 : Array Bool} {a : Act} {w : World}
    (r0 : Region.ready md ops l0 = [i1, k]) (r1 : Region.ready md ops l1 = [i2, k])
    (s0 : Region.ready md ops m0 = [i1]) (s1 : Region.ready md ops m1 = [i2])
    (e1 : l0.setIfInBounds i1 true = l1) (e2 : l1.setIfInBounds i2 true = l2)
    (f0 : l0.setIfInBounds k true = m0) (f1 : l1.setIfInBounds k true = m1) (g1 : m0.setIfInBounds i1 true = m1) (g2 : m1.setIfInBounds i2 true = l3)
    (h1 : ops[i1]? = some o1) (h2 : ops[i2]? = some o2) (hk : ops[k]? = some ok)
    (p1 : ∀ p, (a.put ok.dst p).put o1.dst v1 = (a.put o1.dst v1).put ok.dst p)
    (p2 : ∀ p u, ((a.put o1.dst v1).put ok.dst p).put o2.dst u = ((a.put o1.dst v1).put o2.dst u).put ok.dst p)
    (hR : R w) (hS : ∀ W, R W → S W) (hS' : ∀ p W, R' p W → S W) (hT : ∀ u W, T u W → S W) (hT' : ∀ p u W, T' p u W → S W)
    (c1 : Gives P ops Q R o1 v1 a) (c1' : ∀ p, Gives P ops Q (R' p) o1 v1 (a.put ok.dst p))
    (c2 : GivesE P ops Q R T o2 (a.put o1.dst v1)) (c2' : ∀ p, GivesE P ops Q (R' p) (T' p) o2 ((a.put o1.dst v1).put ok.dst p))
    (k0 : ∀ b, GivesE P ops Q R R' ok b) (h0 : ∀ u W, T u W → S W → wpAnyH P md ops Q S (fuel + 1) l2 ((a.put o1.dst v1).put o2.dst u) W)
    (h : ∀ p u W, T' p u W → S W → wpAnyH P md ops Q S fuel l3 (((a.put o1.dst v1).put o2.dst u).put ok.dst p) W) : wpAnyH P md ops Q S (fuel + 3) l0 a w := by
  have B1 : ∀ p W, R' p W → wpAnyH P md ops Q S (fuel + 1) m1 ((a.put o1.dst v1).put ok.dst p) W := fun p W hW =>
    wpAnyH_ready s1 (by simp) (AllReadyH.cons h2 (fun K hK => c2' p W hW K (fun u W' hW' => hK.out _ _ (hT' p u W' hW') (fun hs => by rw [g2, p2]; exact h p u W' hW' hs))) AllReadyH.nil)
  refine wpAnyH_ready r0 (by simp) (AllReadyH.cons h1 (fun K hK => c1 w hR K (fun W hW => hK.out _ _ (hS W hW) (fun _ => ?_))) (AllReadyH.cons hk (fun K hK => k0 a w hR K (fun p W hW => hK.out _ _ (hS' p W hW) (fun _ => ?_))) AllReadyH.nil))
  · rw [e1]
    refine wpAnyH_ready r1 (by simp) (AllReadyH.cons h2 (fun K hK => c2 W hW K (fun u W2 hW2 => hK.out _ _ (hT u W2 hW2) (fun hs => ?_))) (AllReadyH.cons hk (fun K hK => k0 _ W hW K (fun p W2 hW2 => hK.out _ _ (hS' p W2 hW2) (fun _ => by rw [f1]; exact B1 p W2 hW2))) AllReadyH.nil))
    rw [e2]
    exact h0 u W2 hW2 hs
  · rw [f0]
    exact wpAnyH_ready s0 (by simp) (AllReadyH.cons h1 (fun K hK => c1' p W hW K (fun W' hW' => hK.out _ _ (hS' p W' hW') (fun _ => by rw [g1, p1]; exact B1 p W' hW'))) AllReadyH.nil)
theorem gives_allocG {ops : Array Oper} {Q : Exit → Act → World → Prop} {R : World → Prop} {R' : Value → World → Prop} {o : Oper} (hg : o.guard = none) (ty : TypeId) (ho : o.op = .alloc ty) (n : Nat) (cs : Array Value)
    (hz : (Try.prog.info? ty).map (fun i => (i.zero, i.size)) = some (some (.agg cs), n))
    (h : ∀ W, R W → ∀ W1, VAt W1 ty W.heap.size cs → Below W.heap.size W W1 → R' (.pointer (some ⟨W.heap.size, 0, none⟩)) W1) : ∀ b, GivesE Try.prog ops Q R R' o b := by
  intro b W hW K hK
  have hr : (Instr.alloc ty true (.tuple #[])).run Try.prog W = .ok (.pointer (some ⟨W.heap.size, 0, none⟩)) (W.alloc (.cells cs ty)) := by
    simp [Instr.alloc, (zero_of_info hz).1 W, go_sem, Value.cells]
  have hw : Region.wanted o (yielded ops b.tmps) = true := by unfold Region.wanted; rw [hg]
  rw [if_pos hw]
  unfold Oper.wp execOp
  simp only [ho, Sem.run_bind, hr, Result.andThen_ok]
  exact hK.out _ _ (h W hW _ (heap_alloc_new _ _) ((Below.refl _ _).alloc (Nat.le_refl _) _))

/-- A read beside a call whose value an operation wants: three orders. -/
theorem wpAnyH_tri {P : Program} {md : Region.Mode} {ops : Array Oper} {Q : Exit → Act → World → Prop} {S R : World → Prop} {i j m : Nat} {oi oj om : Oper} {vi vj vm : Value} {fuel : Nat} {listed lij ljm l4 : Array Bool} {a : Act} {w : World}
    (r0 : Region.ready md ops listed = [i, j]) (ri : Region.ready md ops (listed.setIfInBounds i true) = [j]) (rj : Region.ready md ops (listed.setIfInBounds j true) = [i, m])
    (rij : Region.ready md ops lij = [m]) (rjm : Region.ready md ops ljm = [i])
    (hi : ops[i]? = some oi) (hj : ops[j]? = some oj) (hm : ops[m]? = some om)
    (e1 : (listed.setIfInBounds i true).setIfInBounds j true = lij) (e2 : (listed.setIfInBounds j true).setIfInBounds i true = lij) (e3 : (listed.setIfInBounds j true).setIfInBounds m true = ljm)
    (e4 : lij.setIfInBounds m true = l4) (e5 : ljm.setIfInBounds i true = l4)
    (b1 : (a.put oj.dst vj).put oi.dst vi = (a.put oi.dst vi).put oj.dst vj) (b2 : ((a.put oj.dst vj).put om.dst vm).put oi.dst vi = ((a.put oi.dst vi).put oj.dst vj).put om.dst vm)
    (hR : R w) (hS : ∀ W, R W → S W)
    (c1 : Gives P ops Q R oi vi a) (c2 : Gives P ops Q R oj vj (a.put oi.dst vi)) (c3 : Gives P ops Q R oj vj a) (c4 : Gives P ops Q R oi vi (a.put oj.dst vj))
    (c5 : Gives P ops Q R om vm ((a.put oi.dst vi).put oj.dst vj)) (c6 : Gives P ops Q R om vm (a.put oj.dst vj)) (c7 : Gives P ops Q R oi vi ((a.put oj.dst vj).put om.dst vm))
    (h : ∀ W, R W → S W → wpAnyH P md ops Q S fuel l4 (((a.put oi.dst vi).put oj.dst vj).put om.dst vm) W) : wpAnyH P md ops Q S (fuel + 3) listed a w := by
  have M : ∀ W, R W → wpAnyH P md ops Q S (fuel + 1) lij ((a.put oi.dst vi).put oj.dst vj) W := fun W hW =>
    wpAnyH_ready rij (by simp) (AllReadyH.cons hm (fun K hK => c5 W hW K (fun W2 hW2 => hK.out _ _ (hS W2 hW2) (fun hs => by rw [e4]; exact h W2 hW2 hs))) AllReadyH.nil)
  refine wpAnyH_ready r0 (by simp) (AllReadyH.cons hi (fun K hK => c1 w hR K (fun W hW => hK.out _ _ (hS W hW) (fun _ => ?_))) (AllReadyH.cons hj (fun K hK => c3 w hR K (fun W hW => hK.out _ _ (hS W hW) (fun _ => ?_))) AllReadyH.nil))
  · exact wpAnyH_ready ri (by simp) (AllReadyH.cons hj (fun K hK => c2 W hW K (fun W2 hW2 => hK.out _ _ (hS W2 hW2) (fun _ => by rw [e1]; exact M W2 hW2))) AllReadyH.nil)
  · refine wpAnyH_ready rj (by simp) (AllReadyH.cons hi (fun K hK => c4 W hW K (fun W2 hW2 => hK.out _ _ (hS W2 hW2) (fun _ => ?_))) (AllReadyH.cons hm (fun K hK => c6 W hW K (fun W2 hW2 => hK.out _ _ (hS W2 hW2) (fun _ => ?_))) AllReadyH.nil))
    · rw [e2, b1]; exact M W2 hW2
    · rw [e3]
      exact wpAnyH_ready rjm (by simp) (AllReadyH.cons hi (fun K hK => c7 W2 hW2 K (fun W3 hW3 => hK.out _ _ (hS W3 hW3) (fun hs => by rw [e5, b2]; exact h W3 hW3 hs))) AllReadyH.nil)

end Go.Proofs.Ytiepkablapjpmaa
