/-
  Two calls of a region that draws its order: whichever comes first.
-/
import Derived.Test.YtiepkablapjpmaaBase
import Derived.Deep.RegionHeld3
namespace Go.Proofs.Ytiepkablapjpmaa
open Go.RowKit

/-- An operation that gives v wherever R holds, and R holds behind it. -/
def Gives (P : Program) (ops : Array Oper) (Q : Exit → Act → World → Prop) (R : World → Prop) (o : Oper) (v : Value) (a : Act) : Prop :=
  ∀ W, R W → ∀ K : Act → World → Prop, Shut (∀ W', R W' → K (a.put o.dst v) W') → if Region.wanted o (yielded ops a.tmps) = true then Oper.wp P o a W K Q else K (a.put o.dst undef) W
theorem wpAnyH_pair {P : Program} {md : Region.Mode} {ops : Array Oper} {Q : Exit → Act → World → Prop} {S R : World → Prop} {i j : Nat} {oi oj : Oper} {vi vj : Value} {fuel : Nat} {listed l2 : Array Bool} {a b : Act} {w : World}
    (hr : Region.ready md ops listed = [i, j]) (hri : Region.ready md ops (listed.setIfInBounds i true) = [j]) (hrj : Region.ready md ops (listed.setIfInBounds j true) = [i])
    (hi : ops[i]? = some oi) (hj : ops[j]? = some oj) (hl1 : (listed.setIfInBounds i true).setIfInBounds j true = l2) (hl2 : (listed.setIfInBounds j true).setIfInBounds i true = l2)
    (hb1 : (a.put oi.dst vi).put oj.dst vj = b) (hb2 : (a.put oj.dst vj).put oi.dst vi = b)
    (hR : R w) (hS : ∀ W, R W → S W) (c1 : Gives P ops Q R oi vi a) (c2 : Gives P ops Q R oj vj (a.put oi.dst vi)) (c3 : Gives P ops Q R oj vj a) (c4 : Gives P ops Q R oi vi (a.put oj.dst vj))
    (h : ∀ W, R W → S W → wpAnyH P md ops Q S fuel l2 b W) : wpAnyH P md ops Q S (fuel + 2) listed a w := by
  refine wpAnyH_ready hr (by simp) (AllReadyH.cons hi (fun K hK => c1 w hR K (fun W hW => hK.out _ _ (hS W hW) (fun _ => ?_))) (AllReadyH.cons hj (fun K hK => c3 w hR K (fun W hW => hK.out _ _ (hS W hW) (fun _ => ?_))) AllReadyH.nil))
  · refine wpAnyH_ready hri (by simp) (AllReadyH.cons hj (fun K hK => c2 W hW K (fun W2 hW2 => hK.out _ _ (hS W2 hW2) (fun hs => ?_))) AllReadyH.nil)
    rw [hl1, hb1]; exact h W2 hW2 hs
  · refine wpAnyH_ready hrj (by simp) (AllReadyH.cons hi (fun K hK => c4 W hW K (fun W2 hW2 => hK.out _ _ (hS W2 hW2) (fun hs => ?_))) AllReadyH.nil)
    rw [hl2, hb2]; exact h W2 hW2 hs
theorem wpAnyH_lone {P : Program} {md : Region.Mode} {ops : Array Oper} {Q : Exit → Act → World → Prop} {S R : World → Prop} {i : Nat} {oi : Oper} {vi : Value} {fuel : Nat} {listed : Array Bool} {a : Act} {w : World}
    (hr : Region.ready md ops listed = [i]) (hi : ops[i]? = some oi) (hR : R w) (hS : ∀ W, R W → S W) (c1 : Gives P ops Q R oi vi a)
    (h : ∀ W, R W → S W → wpAnyH P md ops Q S fuel (listed.setIfInBounds i true) (a.put oi.dst vi) W) : wpAnyH P md ops Q S (fuel + 1) listed a w :=
  wpAnyH_ready hr (by simp) (AllReadyH.cons hi (fun K hK => c1 w hR K (fun W hW => hK.out _ _ (hS W hW) (fun hs => h W hW hs))) AllReadyH.nil)

end Go.Proofs.Ytiepkablapjpmaa
