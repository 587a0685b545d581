/-
  A swap in a variable, read in a region that draws its order; a call there whose value is not known ahead.
-/
import Derived.Test.YtccaaaifhiigcaaGreatZ26
import Derived.Test.YtccaaaifhiigcaaGreatZ10
namespace Go.Proofs.YtccaaaifhiigcaaGreat
open Go.RowKit

theorem yields_loadV {ops : Array Oper} {o : Oper} {a : Act} {S : World → Prop} (hw : Region.wanted o (yielded ops a.tmps) = true) (x : Operand) (ho : o.op = .load 27 x) (g : Nat) (cs : Array Value) (hx : a.eval x = .pointer (some ⟨g, 0, none⟩)) (h7 : Seven cs) (hS : ∀ W, S W → SvAt W g cs) : YieldsIf Tryz.prog ops S o (.agg cs) a :=
  .inl ⟨hw, fun W hW => by
    unfold execOp
    simp only [ho, hx, Instr.loadAt, Instr.sureAddr, Sem.run_bind, Sem.run_pure, Result.andThen_ok, run_loadVar_row W g 27 27 cs (0, 0) (.struct _) (hS W hW) Tryz.underlying27 rfl (by rw [h7.1]; exact sizeSpecK)]⟩
theorem wpAnyH_loneE {P : Program} {md : Region.Mode} {ops : Array Oper} {Q : Exit → Act → World → Prop} {S : World → Prop} {T : Value → World → Prop} {i : Nat} {oi : Oper} {fuel : Nat} {listed : Array Bool} {a : Act} {w : World}
    (hr : Region.ready md ops listed = [i]) (hi : ops[i]? = some oi) (hS : ∀ v W, T v W → S W)
    (c1 : ∀ K : Act → World → Prop, Shut (∀ v W', T v W' → K (a.put oi.dst v) W') → if Region.wanted oi (yielded ops a.tmps) = true then Oper.wp P oi a w K Q else K (a.put oi.dst undef) w)
    (h : ∀ v W, T v W → S W → wpAnyH P md ops Q S fuel (listed.setIfInBounds i true) (a.put oi.dst v) W) : wpAnyH P md ops Q S (fuel + 1) listed a w :=
  wpAnyH_ready hr (by simp) (AllReadyH.cons hi (fun K hK => c1 K (fun v W hW => hK.out _ _ (hS v W hW) (fun hs => h v W hW hs))) AllReadyH.nil)
theorem wrap_i64 {x : Int} (h0 : -9223372036854775808 ≤ x) (h1 : x ≤ 9223372036854775807) : IntKind.i64.wrap x = x := by
  unfold IntKind.wrap
  simp [IntKind.bits, IntKind.signed]
  omega

end Go.Proofs.YtccaaaifhiigcaaGreat
