/-
  A swap in a variable, read in a region that draws its order; a call there whose value is not known ahead.
-/
import Derived.Test.YthoimecljfcjmaaZ26
import Derived.Test.YthoimecljfcjmaaZ10
namespace Go.Proofs.Ythoimecljfcjmaa
open Go.RowKit

theorem yields_loadV {ops : Array Oper} {o : Oper} {a : Act} {S : World → Prop} (hw : Region.wanted o (yielded ops a.tmps) = true) (x : Operand) (ho : o.op = .load 27 x) (g : Nat) (cs : Array Value) (hx : a.eval x = .pointer (some ⟨g, 0, none⟩)) (h7 : Seven cs) (hS : ∀ W, S W → SvAt W g cs) : YieldsIf Try.prog ops S o (.agg cs) a :=
  .inl ⟨hw, fun W hW => by
    unfold execOp
    simp only [ho, hx, Instr.loadAt, Instr.sureAddr, Sem.run_bind, Sem.run_pure, Result.andThen_ok, run_loadVar_row W g 27 27 cs (0, 0) (.struct _) (hS W hW) Try.underlying27 rfl (by rw [h7.1]; exact sizeSpecK)]⟩
end Go.Proofs.Ythoimecljfcjmaa
