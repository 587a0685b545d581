/-
  A region that draws its order: three calls, one behind another, and an alloc that may come up anywhere.
-/
import Derived.Test.YtiepkablapjpmaaRegPair
namespace Go.Proofs.Ytiepkablapjpmaa
open Go.RowKit

/-- An operation that gives some value. -/
def GivesE (P : Program) (ops : Array Oper) (Q : Exit → Act → World → Prop) (R : World → Prop) (T : Value → World → Prop) (o : Oper) (a : Act) : Prop :=
  ∀ W, R W → ∀ K : Act → World → Prop, Shut (∀ u W', T u W' → K (a.put o.dst u) W') → if Region.wanted o (yielded ops a.tmps) = true then Oper.wp P o a W K Q else K (a.put o.dst undef) W
theorem wpAnyH_c3a {P : Program} {md : Region.Mode} {ops : Array Oper} {Q : Exit → Act → World → Prop} {S R : World → Prop} {R' : Value → World → Prop} {T : Value → World → Prop} {T' : Value → Value → World → Prop} {i1 i2 i3 k : Nat} {o1 o2 o3 ok : Oper} {v1 v2 : Value} {fuel : Nat} {l0 l1 l2 l3 l4 m0 m1 m2 : Array Bool} {a : Act} {w : World}
    (r0 : Region.ready md ops l0 = [i1, k]) (r1 : Region.ready md ops l1 = [i2, k]) (r2 : Region.ready md ops l2 = [i3, k]) (r3 : Region.ready md ops l3 = [k])
    (s0 : Region.ready md ops m0 = [i1]) (s1 : Region.ready md ops m1 = [i2]) (s2 : Region.ready md ops m2 = [i3])
    (e1 : l0.setIfInBounds i1 true = l1) (e2 : l1.setIfInBounds i2 true = l2) (e3 : l2.setIfInBounds i3 true = l3) (e4 : l3.setIfInBounds k true = l4)
    (f0 : l0.setIfInBounds k true = m0) (f1 : l1.setIfInBounds k true = m1) (f2 : l2.setIfInBounds k true = m2) (g1 : m0.setIfInBounds i1 true = m1) (g2 : m1.setIfInBounds i2 true = m2) (g3 : m2.setIfInBounds i3 true = l4)
    (h1 : ops[i1]? = some o1) (h2 : ops[i2]? = some o2) (h3 : ops[i3]? = some o3) (hk : ops[k]? = some ok)
    (p1 : ∀ p, (a.put ok.dst p).put o1.dst v1 = (a.put o1.dst v1).put ok.dst p)
    (p2 : ∀ p, ((a.put o1.dst v1).put ok.dst p).put o2.dst v2 = ((a.put o1.dst v1).put o2.dst v2).put ok.dst p)
    (p3 : ∀ p u, (((a.put o1.dst v1).put o2.dst v2).put ok.dst p).put o3.dst u = (((a.put o1.dst v1).put o2.dst v2).put o3.dst u).put ok.dst p)
    (hR : R w) (hS : ∀ W, R W → S W) (hS' : ∀ p W, R' p W → S W) (hT : ∀ u W, T u W → S W) (hT' : ∀ p u W, T' p u W → S W)
    (c1 : Gives P ops Q R o1 v1 a) (c1' : ∀ p, Gives P ops Q (R' p) o1 v1 (a.put ok.dst p))
    (c2 : Gives P ops Q R o2 v2 (a.put o1.dst v1)) (c2' : ∀ p, Gives P ops Q (R' p) o2 v2 ((a.put o1.dst v1).put ok.dst p))
    (c3 : GivesE P ops Q R T o3 ((a.put o1.dst v1).put o2.dst v2)) (c3' : ∀ p, GivesE P ops Q (R' p) (T' p) o3 (((a.put o1.dst v1).put o2.dst v2).put ok.dst p))
    (k0 : ∀ b, GivesE P ops Q R R' ok b) (k3 : ∀ u b, GivesE P ops Q (T u) (fun p W => T' p u W) ok b)
    (h : ∀ p u W, T' p u W → S W → wpAnyH P md ops Q S fuel l4 ((((a.put o1.dst v1).put o2.dst v2).put o3.dst u).put ok.dst p) W) : wpAnyH P md ops Q S (fuel + 4) l0 a w := by
  have B2 : ∀ p W, R' p W → wpAnyH P md ops Q S (fuel + 1) m2 (((a.put o1.dst v1).put o2.dst v2).put ok.dst p) W := fun p W hW =>
    wpAnyH_ready s2 (by simp) (AllReadyH.cons h3 (fun K hK => c3' p W hW K (fun u W' hW' => hK.out _ _ (hT' p u W' hW') (fun hs => by rw [g3, p3]; exact h p u W' hW' hs))) AllReadyH.nil)
  have B1 : ∀ p W, R' p W → wpAnyH P md ops Q S (fuel + 2) m1 ((a.put o1.dst v1).put ok.dst p) W := fun p W hW =>
    wpAnyH_ready s1 (by simp) (AllReadyH.cons h2 (fun K hK => c2' p W hW K (fun W' hW' => hK.out _ _ (hS' p W' hW') (fun _ => by rw [g2, p2]; exact B2 p W' hW'))) AllReadyH.nil)
  refine wpAnyH_ready r0 (by simp) (AllReadyH.cons h1 (fun K hK => c1 w hR K (fun W hW => hK.out _ _ (hS W hW) (fun _ => ?_))) (AllReadyH.cons hk (fun K hK => k0 a w hR K (fun p W hW => hK.out _ _ (hS' p W hW) (fun _ => ?_))) AllReadyH.nil))
  · rw [e1]
    refine wpAnyH_ready r1 (by simp) (AllReadyH.cons h2 (fun K hK => c2 W hW K (fun W2 hW2 => hK.out _ _ (hS W2 hW2) (fun _ => ?_))) (AllReadyH.cons hk (fun K hK => k0 _ W hW K (fun p W2 hW2 => hK.out _ _ (hS' p W2 hW2) (fun _ => by rw [f1]; exact B1 p W2 hW2))) AllReadyH.nil))
    rw [e2]
    refine wpAnyH_ready r2 (by simp) (AllReadyH.cons h3 (fun K hK => c3 W2 hW2 K (fun u W3 hW3 => hK.out _ _ (hT u W3 hW3) (fun _ => ?_))) (AllReadyH.cons hk (fun K hK => k0 _ W2 hW2 K (fun p W3 hW3 => hK.out _ _ (hS' p W3 hW3) (fun _ => by rw [f2]; exact B2 p W3 hW3))) AllReadyH.nil))
    rw [e3]
    exact wpAnyH_ready r3 (by simp) (AllReadyH.cons hk (fun K hK => k3 u _ W3 hW3 K (fun p W4 hW4 => hK.out _ _ (hT' p u W4 hW4) (fun hs => by rw [e4]; exact h p u W4 hW4 hs))) AllReadyH.nil)
  · rw [f0]
    exact wpAnyH_ready s0 (by simp) (AllReadyH.cons h1 (fun K hK => c1' p W hW K (fun W' hW' => hK.out _ _ (hS' p W' hW') (fun _ => by rw [g1, p1]; exact B1 p W' hW'))) AllReadyH.nil)

end Go.Proofs.Ytiepkablapjpmaa
