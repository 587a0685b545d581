/-
  A call of a region that draws its order whose value is not known ahead; a number that does not go round.
-/
import Derived.Test.YtiepkablapjpmaaRegPair
namespace Go.Proofs.Ytiepkablapjpmaa
open Go.RowKit

theorem wpAnyH_loneE {P : Program} {md : Region.Mode} {ops : Array Oper} {Q : Exit → Act → World → Prop} {S : World → Prop} {T : Value → World → Prop} {i : Nat} {oi : Oper} {fuel : Nat} {listed : Array Bool} {a : Act} {w : World}
    (hr : Region.ready md ops listed = [i]) (hi : ops[i]? = some oi) (hS : ∀ v W, T v W → S W)
    (c1 : ∀ K : Act → World → Prop, Shut (∀ v W', T v W' → K (a.put oi.dst v) W') → if Region.wanted oi (yielded ops a.tmps) = true then Oper.wp P oi a w K Q else K (a.put oi.dst undef) w)
    (h : ∀ v W, T v W → S W → wpAnyH P md ops Q S fuel (listed.setIfInBounds i true) (a.put oi.dst v) W) : wpAnyH P md ops Q S (fuel + 1) listed a w :=
  wpAnyH_ready hr (by simp) (AllReadyH.cons hi (fun K hK => c1 K (fun v W hW => hK.out _ _ (hS v W hW) (fun hs => h v W hW hs))) AllReadyH.nil)
theorem wrap_i64 {x : Int} (h0 : -9223372036854775808 ≤ x) (h1 : x ≤ 9223372036854775807) : IntKind.i64.wrap x = x := by
  unfold IntKind.wrap
  simp [IntKind.bits, IntKind.signed]
  omega

end Go.Proofs.Ytiepkablapjpmaa
