/-
  Package hashkey: Check.
-/
import Derived.Test.YthoimecljfcjmaaHkVer
import Derived.Test.YthoimecljfcjmaaZ39
import Derived.Test.YthoimecljfcjmaaZ15
import Derived.Test.YthoimecljfcjmaaZ26
import Derived.Test.YthoimecljfcjmaaZ34
import Derived.Test.YthoimecljfcjmaaZ10
import Derived.Test.YthoimecljfcjmaaYieldV
namespace Go.Proofs.Ythoimecljfcjmaa
open Go.RowKit

/-- What P7.2 asks. -/
def hkOpens (s : SpecM) (arc : Int) (K : HkM) : Prop :=
  validM s = true ∧ (0 ≤ arc ∧ arc < (s.arcs.length : Int)) ∧ (0 ≤ K.lock ∧ K.lock < (s.locks.length : Int)) ∧ K.secret.size ≤ 64 ∧ (⟨(digest K.secret.data.toList).toArray⟩ : ByteArray) = s.locks.getD K.lock.toNat ByteArray.empty
  ∧ (pathOk s K.path ∧ K.path.getD 0 0 = (s.arcs.getD arc.toNat noArc).dst ∧ K.path.getD (K.path.length - 1) 0 = s.leaders.getD K.lock.toNat 0) ∧ K.sigs.length = K.path.length ∧ ∀ i, i < K.path.length → verAt s K i = true
theorem yields_loadK {ops : Array Oper} {o : Oper} {a : Act} {S : World → Prop} (hw : Region.wanted o (yielded ops a.tmps) = true) (x : Operand) (ho : o.op = .load 31 x) (g : Nat) (cs : Array Value) (hx : a.eval x = .pointer (some ⟨g, 0, none⟩)) (h4 : cs.size = 4) (hS : ∀ W, S W → HvAt W g cs) : YieldsIf Try.prog ops S o (.agg cs) a :=
  .inl ⟨hw, fun W hW => by
    unfold execOp
    simp only [ho, hx, Instr.loadAt, Instr.sureAddr, Sem.run_bind, Sem.run_pure, Result.andThen_ok, run_loadVar_row W g 31 31 cs (0, 0) (.struct _) (hS W hW) Try.underlying31 rfl (by rw [h4]; exact sizeHk)]⟩
theorem valid_ok {s : SpecM} (h : validM s = true) : specOk s := by
  by_cases hok : specOk s
  · exact hok
  · unfold validM strM at h
    rw [told_no hok] at h
    exact Bool.noConfusion h

abbrev ck0 : Oper := { dst := some 7, op := Op.load 27 (Operand.tmp 3), type := 27, pos := "hashkey.go:38", after := #[], guard := none }
abbrev ck1 : Oper := { dst := some 8, op := Op.call { callee := Callee.value (Operand.func 19), args := #[Operand.tmp 7], argTypes := #[27] }, type := 4, pos := "hashkey.go:38", after := #[{ on := 0, ground := Ground.data }], guard := none }
abbrev ck2 : Oper := { dst := some 9, op := Op.move (Operand.tmp 8), type := 4, pos := "hashkey.go:38", after := #[{ on := 1, ground := Ground.data }, { on := 1, ground := Ground.chain }], guard := none }
abbrev ck3 : Oper := { dst := some 10, op := Op.move (Operand.tmp 1), type := 3, pos := "hashkey.go:38", after := #[{ on := 2, ground := Ground.guard }], guard := some (2, true) }
abbrev ck4 : Oper := { dst := some 11, op := Op.fieldAddr 27 (Operand.tmp 3) 2, type := 0, pos := "hashkey.go:38", after := #[{ on := 2, ground := Ground.guard }], guard := some (2, true) }
abbrev ck5 : Oper := { dst := some 12, op := Op.load 24 (Operand.tmp 11), type := 24, pos := "hashkey.go:38", after := #[{ on := 4, ground := Ground.data }, { on := 2, ground := Ground.guard }], guard := some (2, true) }
abbrev ck6 : Oper := { dst := some 13, op := Op.call { callee := Callee.builtin Builtin.len, args := #[Operand.tmp 12], argTypes := #[24] }, type := 3, pos := "hashkey.go:38", after := #[{ on := 5, ground := Ground.data }, { on := 2, ground := Ground.guard }], guard := some (2, true) }
abbrev ck7 : Oper := { dst := some 14, op := Op.call { callee := Callee.value (Operand.func 20), args := #[Operand.tmp 10, Operand.tmp 13], argTypes := #[3, 3] }, type := 4, pos := "hashkey.go:39", after := #[{ on := 3, ground := Ground.data }, { on := 6, ground := Ground.data }, { on := 2, ground := Ground.chain }, { on := 2, ground := Ground.guard }], guard := some (2, true) }
abbrev ck8 : Oper := { dst := some 15, op := Op.pick (Operand.tmp 9) (Operand.tmp 14) (Operand.const (Value.bool false)), type := 4, pos := "hashkey.go:38", after := #[{ on := 2, ground := Ground.data }, { on := 7, ground := Ground.data }], guard := none }
abbrev ck9 : Oper := { dst := some 16, op := Op.move (Operand.tmp 15), type := 4, pos := "hashkey.go:38", after := #[{ on := 8, ground := Ground.data }, { on := 7, ground := Ground.chain }], guard := none }
abbrev ck10 : Oper := { dst := some 17, op := Op.fieldAddr 31 (Operand.tmp 5) 0, type := 0, pos := "hashkey.go:38", after := #[{ on := 9, ground := Ground.guard }], guard := some (9, true) }
abbrev ck11 : Oper := { dst := some 18, op := Op.load 3 (Operand.tmp 17), type := 3, pos := "hashkey.go:38", after := #[{ on := 10, ground := Ground.data }, { on := 9, ground := Ground.guard }], guard := some (9, true) }
abbrev ck12 : Oper := { dst := some 19, op := Op.fieldAddr 27 (Operand.tmp 3) 4, type := 0, pos := "hashkey.go:38", after := #[{ on := 9, ground := Ground.guard }], guard := some (9, true) }
abbrev ck13 : Oper := { dst := some 20, op := Op.load 25 (Operand.tmp 19), type := 25, pos := "hashkey.go:38", after := #[{ on := 12, ground := Ground.data }, { on := 9, ground := Ground.guard }], guard := some (9, true) }
abbrev ck14 : Oper := { dst := some 21, op := Op.call { callee := Callee.builtin Builtin.len, args := #[Operand.tmp 20], argTypes := #[25] }, type := 3, pos := "hashkey.go:38", after := #[{ on := 13, ground := Ground.data }, { on := 9, ground := Ground.guard }], guard := some (9, true) }
abbrev ck15 : Oper := { dst := some 22, op := Op.call { callee := Callee.value (Operand.func 20), args := #[Operand.tmp 18, Operand.tmp 21], argTypes := #[3, 3] }, type := 4, pos := "hashkey.go:39", after := #[{ on := 11, ground := Ground.data }, { on := 14, ground := Ground.data }, { on := 9, ground := Ground.chain }, { on := 9, ground := Ground.guard }], guard := some (9, true) }
abbrev ck16 : Oper := { dst := some 23, op := Op.pick (Operand.tmp 16) (Operand.tmp 22) (Operand.const (Value.bool false)), type := 4, pos := "hashkey.go:38", after := #[{ on := 9, ground := Ground.data }, { on := 15, ground := Ground.data }], guard := none }
abbrev ck17 : Oper := { dst := some 24, op := Op.move (Operand.tmp 23), type := 4, pos := "hashkey.go:38", after := #[{ on := 16, ground := Ground.data }, { on := 15, ground := Ground.chain }], guard := none }
abbrev ck18 : Oper := { dst := some 25, op := Op.fieldAddr 31 (Operand.tmp 5) 1, type := 0, pos := "hashkey.go:38", after := #[{ on := 17, ground := Ground.guard }], guard := some (17, true) }
abbrev ck19 : Oper := { dst := some 26, op := Op.load 9 (Operand.tmp 25), type := 9, pos := "hashkey.go:38", after := #[{ on := 18, ground := Ground.data }, { on := 17, ground := Ground.guard }], guard := some (17, true) }
abbrev ck20 : Oper := { dst := some 27, op := Op.call { callee := Callee.builtin Builtin.len, args := #[Operand.tmp 26], argTypes := #[9] }, type := 3, pos := "hashkey.go:38", after := #[{ on := 19, ground := Ground.data }, { on := 17, ground := Ground.guard }], guard := some (17, true) }
abbrev ck21 : Oper := { dst := some 28, op := Op.binOp BinOp.leq 3 (Operand.tmp 27) (Operand.const (Value.int IntKind.i64 64)) 3, type := 4, pos := "hashkey.go:38", after := #[{ on := 20, ground := Ground.data }, { on := 17, ground := Ground.guard }], guard := some (17, true) }
abbrev ck22 : Oper := { dst := some 29, op := Op.pick (Operand.tmp 24) (Operand.tmp 28) (Operand.const (Value.bool false)), type := 4, pos := "hashkey.go:38", after := #[{ on := 17, ground := Ground.data }, { on := 21, ground := Ground.data }], guard := none }
abbrev ck23 : Oper := { dst := some 30, op := Op.move (Operand.tmp 29), type := 4, pos := "hashkey.go:38", after := #[{ on := 22, ground := Ground.data }, { on := 17, ground := Ground.chain }], guard := none }
abbrev ck24 : Oper := { dst := some 31, op := Op.fieldAddr 31 (Operand.tmp 5) 1, type := 0, pos := "hashkey.go:38", after := #[{ on := 23, ground := Ground.guard }], guard := some (23, true) }
abbrev ck25 : Oper := { dst := some 32, op := Op.load 9 (Operand.tmp 31), type := 9, pos := "hashkey.go:38", after := #[{ on := 24, ground := Ground.data }, { on := 23, ground := Ground.guard }], guard := some (23, true) }
abbrev ck27 : Oper := { dst := some 34, op := Op.fieldAddr 27 (Operand.tmp 3) 4, type := 0, pos := "hashkey.go:38", after := #[{ on := 23, ground := Ground.guard }], guard := some (23, true) }
abbrev ck28 : Oper := { dst := some 35, op := Op.load 25 (Operand.tmp 34), type := 25, pos := "hashkey.go:38", after := #[{ on := 27, ground := Ground.data }, { on := 23, ground := Ground.guard }], guard := some (23, true) }
abbrev ck29 : Oper := { dst := some 36, op := Op.fieldAddr 31 (Operand.tmp 5) 0, type := 0, pos := "hashkey.go:38", after := #[{ on := 23, ground := Ground.guard }], guard := some (23, true) }
abbrev ck30 : Oper := { dst := some 37, op := Op.load 3 (Operand.tmp 36), type := 3, pos := "hashkey.go:38", after := #[{ on := 29, ground := Ground.data }, { on := 23, ground := Ground.guard }], guard := some (23, true) }
abbrev ck31 : Oper := { dst := some 38, op := Op.indexAddr 25 (Operand.tmp 35) (Operand.tmp 37), type := 0, pos := "hashkey.go:38", after := #[{ on := 28, ground := Ground.data }, { on := 30, ground := Ground.data }, { on := 23, ground := Ground.guard }], guard := some (23, true) }
abbrev ck32 : Oper := { dst := some 39, op := Op.load 9 (Operand.tmp 38), type := 9, pos := "hashkey.go:38", after := #[{ on := 31, ground := Ground.data }, { on := 23, ground := Ground.guard }], guard := some (23, true) }
abbrev ck26 : Oper := { dst := some 33, op := Op.call { callee := Callee.value (Operand.func 21), args := #[Operand.tmp 32], argTypes := #[9] }, type := 9, pos := "hashkey.go:40", after := #[{ on := 25, ground := Ground.data }, { on := 23, ground := Ground.chain }, { on := 23, ground := Ground.guard }], guard := some (23, true) }
abbrev ck33 : Oper := { dst := some 40, op := Op.binOp BinOp.eql 9 (Operand.tmp 33) (Operand.tmp 39) 9, type := 4, pos := "hashkey.go:38", after := #[{ on := 26, ground := Ground.data }, { on := 32, ground := Ground.data }, { on := 23, ground := Ground.guard }], guard := some (23, true) }
abbrev ck34 : Oper := { dst := some 41, op := Op.pick (Operand.tmp 30) (Operand.tmp 40) (Operand.const (Value.bool false)), type := 4, pos := "hashkey.go:38", after := #[{ on := 23, ground := Ground.data }, { on := 33, ground := Ground.data }], guard := none }
abbrev ck35 : Oper := { dst := some 42, op := Op.move (Operand.tmp 41), type := 4, pos := "hashkey.go:38", after := #[{ on := 34, ground := Ground.data }, { on := 26, ground := Ground.chain }], guard := none }
abbrev ck36 : Oper := { dst := some 43, op := Op.load 27 (Operand.tmp 3), type := 27, pos := "hashkey.go:38", after := #[{ on := 35, ground := Ground.guard }], guard := some (35, true) }
abbrev ck37 : Oper := { dst := some 44, op := Op.fieldAddr 31 (Operand.tmp 5) 2, type := 0, pos := "hashkey.go:38", after := #[{ on := 35, ground := Ground.guard }], guard := some (35, true) }
abbrev ck38 : Oper := { dst := some 45, op := Op.load 22 (Operand.tmp 44), type := 22, pos := "hashkey.go:38", after := #[{ on := 37, ground := Ground.data }, { on := 35, ground := Ground.guard }], guard := some (35, true) }
abbrev ck39 : Oper := { dst := some 46, op := Op.fieldAddr 27 (Operand.tmp 3) 2, type := 0, pos := "hashkey.go:38", after := #[{ on := 35, ground := Ground.guard }], guard := some (35, true) }
abbrev ck40 : Oper := { dst := some 47, op := Op.load 24 (Operand.tmp 46), type := 24, pos := "hashkey.go:38", after := #[{ on := 39, ground := Ground.data }, { on := 35, ground := Ground.guard }], guard := some (35, true) }
abbrev ck41 : Oper := { dst := some 48, op := Op.move (Operand.tmp 1), type := 3, pos := "hashkey.go:38", after := #[{ on := 35, ground := Ground.guard }], guard := some (35, true) }
abbrev ck42 : Oper := { dst := some 49, op := Op.indexAddr 24 (Operand.tmp 47) (Operand.tmp 48), type := 0, pos := "hashkey.go:38", after := #[{ on := 40, ground := Ground.data }, { on := 41, ground := Ground.data }, { on := 35, ground := Ground.guard }], guard := some (35, true) }
abbrev ck43 : Oper := { dst := some 50, op := Op.fieldAddr 42 (Operand.tmp 49) 1, type := 0, pos := "hashkey.go:38", after := #[{ on := 42, ground := Ground.data }, { on := 35, ground := Ground.guard }], guard := some (35, true) }
abbrev ck44 : Oper := { dst := some 51, op := Op.load 3 (Operand.tmp 50), type := 3, pos := "hashkey.go:38", after := #[{ on := 43, ground := Ground.data }, { on := 35, ground := Ground.guard }], guard := some (35, true) }
abbrev ck45 : Oper := { dst := some 52, op := Op.fieldAddr 27 (Operand.tmp 3) 3, type := 0, pos := "hashkey.go:38", after := #[{ on := 35, ground := Ground.guard }], guard := some (35, true) }
abbrev ck46 : Oper := { dst := some 53, op := Op.load 22 (Operand.tmp 52), type := 22, pos := "hashkey.go:38", after := #[{ on := 45, ground := Ground.data }, { on := 35, ground := Ground.guard }], guard := some (35, true) }
abbrev ck47 : Oper := { dst := some 54, op := Op.fieldAddr 31 (Operand.tmp 5) 0, type := 0, pos := "hashkey.go:38", after := #[{ on := 35, ground := Ground.guard }], guard := some (35, true) }
abbrev ck48 : Oper := { dst := some 55, op := Op.load 3 (Operand.tmp 54), type := 3, pos := "hashkey.go:38", after := #[{ on := 47, ground := Ground.data }, { on := 35, ground := Ground.guard }], guard := some (35, true) }
abbrev ck49 : Oper := { dst := some 56, op := Op.indexAddr 22 (Operand.tmp 53) (Operand.tmp 55), type := 0, pos := "hashkey.go:38", after := #[{ on := 46, ground := Ground.data }, { on := 48, ground := Ground.data }, { on := 35, ground := Ground.guard }], guard := some (35, true) }
abbrev ck50 : Oper := { dst := some 57, op := Op.load 3 (Operand.tmp 56), type := 3, pos := "hashkey.go:38", after := #[{ on := 49, ground := Ground.data }, { on := 35, ground := Ground.guard }], guard := some (35, true) }
abbrev ck51 : Oper := { dst := some 58, op := Op.call { callee := Callee.value (Operand.func 22), args := #[Operand.tmp 43, Operand.tmp 45, Operand.tmp 51, Operand.tmp 57], argTypes := #[27, 22, 3, 3] }, type := 4, pos := "hashkey.go:41", after := #[{ on := 36, ground := Ground.data }, { on := 38, ground := Ground.data }, { on := 44, ground := Ground.data }, { on := 50, ground := Ground.data }, { on := 35, ground := Ground.chain }, { on := 35, ground := Ground.guard }], guard := some (35, true) }
abbrev ck52 : Oper := { dst := some 59, op := Op.pick (Operand.tmp 42) (Operand.tmp 58) (Operand.const (Value.bool false)), type := 4, pos := "hashkey.go:38", after := #[{ on := 35, ground := Ground.data }, { on := 51, ground := Ground.data }], guard := none }
abbrev ck53 : Oper := { dst := some 60, op := Op.move (Operand.tmp 59), type := 4, pos := "hashkey.go:38", after := #[{ on := 52, ground := Ground.data }, { on := 51, ground := Ground.chain }], guard := none }
abbrev ck54 : Oper := { dst := some 61, op := Op.fieldAddr 31 (Operand.tmp 5) 3, type := 0, pos := "hashkey.go:38", after := #[{ on := 53, ground := Ground.guard }], guard := some (53, true) }
abbrev ck55 : Oper := { dst := some 62, op := Op.load 25 (Operand.tmp 61), type := 25, pos := "hashkey.go:38", after := #[{ on := 54, ground := Ground.data }, { on := 53, ground := Ground.guard }], guard := some (53, true) }
abbrev ck56 : Oper := { dst := some 63, op := Op.call { callee := Callee.builtin Builtin.len, args := #[Operand.tmp 62], argTypes := #[25] }, type := 3, pos := "hashkey.go:38", after := #[{ on := 55, ground := Ground.data }, { on := 53, ground := Ground.guard }], guard := some (53, true) }
abbrev ck57 : Oper := { dst := some 64, op := Op.fieldAddr 31 (Operand.tmp 5) 2, type := 0, pos := "hashkey.go:38", after := #[{ on := 53, ground := Ground.guard }], guard := some (53, true) }
abbrev ck58 : Oper := { dst := some 65, op := Op.load 22 (Operand.tmp 64), type := 22, pos := "hashkey.go:38", after := #[{ on := 57, ground := Ground.data }, { on := 53, ground := Ground.guard }], guard := some (53, true) }
abbrev ck59 : Oper := { dst := some 66, op := Op.call { callee := Callee.builtin Builtin.len, args := #[Operand.tmp 65], argTypes := #[22] }, type := 3, pos := "hashkey.go:38", after := #[{ on := 58, ground := Ground.data }, { on := 53, ground := Ground.guard }], guard := some (53, true) }
abbrev ck60 : Oper := { dst := some 67, op := Op.binOp BinOp.eql 3 (Operand.tmp 63) (Operand.tmp 66) 3, type := 4, pos := "hashkey.go:38", after := #[{ on := 56, ground := Ground.data }, { on := 59, ground := Ground.data }, { on := 53, ground := Ground.guard }], guard := some (53, true) }
abbrev ck61 : Oper := { dst := some 68, op := Op.pick (Operand.tmp 60) (Operand.tmp 67) (Operand.const (Value.bool false)), type := 4, pos := "hashkey.go:38", after := #[{ on := 53, ground := Ground.data }, { on := 60, ground := Ground.data }], guard := none }
abbrev ck62 : Oper := { dst := some 69, op := Op.move (Operand.tmp 68), type := 4, pos := "hashkey.go:38", after := #[{ on := 61, ground := Ground.data }, { on := 53, ground := Ground.chain }], guard := none }
abbrev ck63 : Oper := { dst := some 70, op := Op.load 27 (Operand.tmp 3), type := 27, pos := "hashkey.go:38", after := #[{ on := 62, ground := Ground.guard }], guard := some (62, true) }
abbrev ck64 : Oper := { dst := some 71, op := Op.load 31 (Operand.tmp 5), type := 31, pos := "hashkey.go:38", after := #[{ on := 62, ground := Ground.guard }], guard := some (62, true) }
abbrev ck65 : Oper := { dst := some 72, op := Op.call { callee := Callee.value (Operand.func 23), args := #[Operand.tmp 70, Operand.tmp 71], argTypes := #[27, 31] }, type := 4, pos := "hashkey.go:42", after := #[{ on := 63, ground := Ground.data }, { on := 64, ground := Ground.data }, { on := 62, ground := Ground.chain }, { on := 62, ground := Ground.guard }], guard := some (62, true) }
abbrev ck66 : Oper := { dst := some 73, op := Op.pick (Operand.tmp 69) (Operand.tmp 72) (Operand.const (Value.bool false)), type := 4, pos := "hashkey.go:38", after := #[{ on := 62, ground := Ground.data }, { on := 65, ground := Ground.data }], guard := none }
abbrev ck67 : Oper := { dst := some 6, op := Op.assign (Operand.tmp 73), type := 4, pos := "hashkey.go:38", after := ([{ on := 66, ground := Ground.data }, { on := 65, ground := Ground.chain }, { on := 0, ground := Ground.phase }, { on := 1, ground := Ground.phase }, { on := 2, ground := Ground.phase }, { on := 3, ground := Ground.phase }, { on := 4, ground := Ground.phase }, { on := 5, ground := Ground.phase }, { on := 6, ground := Ground.phase }, { on := 7, ground := Ground.phase }, { on := 8, ground := Ground.phase }, { on := 9, ground := Ground.phase }, { on := 10, ground := Ground.phase }, { on := 11, ground := Ground.phase }, { on := 12, ground := Ground.phase }, { on := 13, ground := Ground.phase }, { on := 14, ground := Ground.phase }, { on := 15, ground := Ground.phase }, { on := 16, ground := Ground.phase }, { on := 17, ground := Ground.phase }, { on := 18, ground := Ground.phase }, { on := 19, ground := Ground.phase }, { on := 20, ground := Ground.phase }, { on := 21, ground := Ground.phase }, { on := 22, ground := Ground.phase }, { on := 23, ground := Ground.phase }, { on := 24, ground := Ground.phase }, { on := 25, ground := Ground.phase }, { on := 26, ground := Ground.phase }, { on := 27, ground := Ground.phase }, { on := 28, ground := Ground.phase }, { on := 29, ground := Ground.phase }, { on := 30, ground := Ground.phase }, { on := 31, ground := Ground.phase }].append [{ on := 32, ground := Ground.phase }, { on := 33, ground := Ground.phase }, { on := 34, ground := Ground.phase }, { on := 35, ground := Ground.phase }, { on := 36, ground := Ground.phase }, { on := 37, ground := Ground.phase }, { on := 38, ground := Ground.phase }, { on := 39, ground := Ground.phase }, { on := 40, ground := Ground.phase }, { on := 41, ground := Ground.phase }, { on := 42, ground := Ground.phase }, { on := 43, ground := Ground.phase }, { on := 44, ground := Ground.phase }, { on := 45, ground := Ground.phase }, { on := 46, ground := Ground.phase }, { on := 47, ground := Ground.phase }, { on := 48, ground := Ground.phase }, { on := 49, ground := Ground.phase }, { on := 50, ground := Ground.phase }, { on := 51, ground := Ground.phase }, { on := 52, ground := Ground.phase }, { on := 53, ground := Ground.phase }, { on := 54, ground := Ground.phase }, { on := 55, ground := Ground.phase }, { on := 56, ground := Ground.phase }, { on := 57, ground := Ground.phase }, { on := 58, ground := Ground.phase }, { on := 59, ground := Ground.phase }, { on := 60, ground := Ground.phase }, { on := 61, ground := Ground.phase }, { on := 62, ground := Ground.phase }, { on := 63, ground := Ground.phase }, { on := 64, ground := Ground.phase }, { on := 65, ground := Ground.phase }, { on := 66, ground := Ground.phase }]).toArray, guard := none }

end Go.Proofs.Ythoimecljfcjmaa

/-
  Hashkeys that were made by a leader and extended along a path: they open (plain data).
-/
namespace Go.Proofs.Ythoimecljfcjmaa
open Go.RowKit

/-- The keys and locks of a swap are those of the statements' seeds and secrets. -/
structure BySeeds (s : SpecM) : Prop where
  ok : specOk s
  keys : ∀ i, i < s.parties.length → ∀ k, k < s.leaders.length → (s.parties.getD i noParty).keys.getD k ByteArray.empty = keyOf i k
  locks : ∀ k, k < s.leaders.length → s.locks.getD k ByteArray.empty = lockOf k
/-- A key that was made and extended as the document says. -/
structure GrownK (s : SpecM) (K : HkM) : Prop where
  lk : 0 ≤ K.lock ∧ K.lock < (s.leaders.length : Int)
  secret : K.secret.data.toList = secretB K.lock.toNat
  ne : 1 ≤ K.path.length
  len : K.sigs.length = K.path.length
  rng : ∀ j, j < K.path.length → 0 ≤ K.path.getD j 0 ∧ K.path.getD j 0 < (s.parties.length : Int)
  sz : ∀ j, j < K.sigs.length → (K.sigs.getD j ByteArray.empty).size = 512
  ver : ∀ i, i < K.path.length → verAt s K i = true
  last : K.path.getD (K.path.length - 1) 0 = s.leaders.getD K.lock.toNat 0
theorem textAt_next (K : HkM) (p : Int) (seed : ByteArray) (i : Nat) : textAt (signedM K p seed) (i + 1) = textAt K i := by
  unfold textAt signedM
  by_cases h : i < K.sigs.length
  · simp [h]
  · simp [h]
theorem textAt_first (K : HkM) (p : Int) (seed : ByteArray) : textAt (signedM K p seed) 0 = sigM seed K.lock.toNat (textAt K 0) := by
  conv => lhs; unfold textAt signedM
  simp
theorem verAt_next (s : SpecM) (K : HkM) (p : Int) (seed : ByteArray) (i : Nat) : verAt s (signedM K p seed) (i + 1) = verAt s K i := by
  unfold verAt
  rw [textAt_next, textAt_next]
  rfl
theorem verAt_first {s : SpecM} (h : BySeeds s) (K : HkM) (p : Nat) (seed : ByteArray) (hseed : seed.data.toList = seedB p) (hp : p < s.parties.length) (hlk : 0 ≤ K.lock ∧ K.lock < (s.leaders.length : Int)) : verAt s (signedM K (p : Int) seed) 0 = true := by
  unfold verAt
  rw [textAt_next, textAt_first]
  have e : keyAt s (signedM K (p : Int) seed) 0 = keyOf p K.lock.toNat := by
    show (s.parties.getD (p : Int).toNat noParty).keys.getD K.lock.toNat ByteArray.empty = _
    exact h.keys p hp _ (by omega)
  rw [e]
  unfold keyOf sigM
  show verifyOf (publicOf (seedB p) K.lock.toNat) (textAt K 0).data.toList (signOf seed.data.toList K.lock.toNat (textAt K 0).data.toList) = true
  rw [hseed]
  exact verify_sign _ _ _
theorem signed_sizes {K : HkM} (hz : ∀ j, j < K.sigs.length → (K.sigs.getD j ByteArray.empty).size = 512) (p : Int) (seed : ByteArray) : ∀ j, j < (signedM K p seed).sigs.length → ((signedM K p seed).sigs.getD j ByteArray.empty).size = 512 := by
  intro j hj
  cases j with
  | zero => exact sigM_size _ _ _
  | succ j => exact hz j (by have : j + 1 < K.sigs.length + 1 := hj; omega)
/-- What a leader makes. -/
theorem GrownK.made {s : SpecM} (h : BySeeds s) (lk : Nat) (hlk : lk < s.leaders.length) (secret seed : ByteArray) (hsec : secret.data.toList = secretB lk) (p : Nat) (hp : s.leaders.getD lk 0 = (p : Int)) (hseed : seed.data.toList = seedB p) : GrownK s (signedM ⟨(lk : Int), secret, [], []⟩ (p : Int) seed) := by
  have hpn : p < s.parties.length := by have := (h.ok.2.1.2.2.2 lk hlk).2.1; rw [hp] at this; omega
  refine ⟨⟨by show (0 : Int) ≤ (lk : Int); omega, by show (lk : Int) < _; omega⟩, hsec, Nat.le_refl _, rfl, fun j hj => ?_, signed_sizes (fun j hj => absurd hj (by simp)) _ _, fun i hi => ?_, hp.symm⟩
  · have hj' : j < 0 + 1 := hj
    obtain rfl : j = 0 := by omega
    exact ⟨by show (0 : Int) ≤ (p : Int); omega, by show (p : Int) < _; omega⟩
  · have hi' : i < 0 + 1 := hi
    obtain rfl : i = 0 := by omega
    exact verAt_first h _ p seed hseed hpn ⟨by show (0 : Int) ≤ (lk : Int); omega, by show (lk : Int) < _; omega⟩
theorem GrownK.next {s : SpecM} (h : BySeeds s) {K : HkM} (hk : GrownK s K) (p : Nat) (hp : p < s.parties.length) (seed : ByteArray) (hseed : seed.data.toList = seedB p) : GrownK s (signedM K (p : Int) seed) := by
  refine ⟨hk.lk, hk.secret, Nat.succ_le_succ (Nat.zero_le _), by show K.sigs.length + 1 = K.path.length + 1; rw [hk.len], fun j hj => ?_, signed_sizes hk.sz _ _, fun i hi => ?_, ?_⟩
  · cases j with
    | zero => exact ⟨by show (0 : Int) ≤ (p : Int); omega, by show (p : Int) < _; omega⟩
    | succ j => exact hk.rng j (by have : j + 1 < K.path.length + 1 := hj; omega)
  · cases i with
    | zero => exact verAt_first h _ p seed hseed hp hk.lk
    | succ i => rw [verAt_next]; exact hk.ver i (by have : i + 1 < K.path.length + 1 := hi; omega)
  · have h1 := hk.ne
    show ((p : Int) :: K.path).getD (K.path.length + 1 - 1) 0 = _
    rw [Nat.add_sub_cancel, show K.path.length = (K.path.length - 1) + 1 by omega, List.getD_cons_succ]
    exact hk.last
theorem GrownK.sec7 {s : SpecM} {K : HkM} (hk : GrownK s K) : K.secret.size = 7 := by
  have h := congrArg List.length hk.secret
  rw [Array.length_toList] at h
  exact h
/-- Whom it opens. -/
theorem opens_grown {s : SpecM} (h : BySeeds s) {K : HkM} (hk : GrownK s K) (hv : validM s = true) (arc : Int) : hkOpens s arc K ↔ ((0 ≤ arc ∧ arc < (s.arcs.length : Int)) ∧ pathOk s K.path ∧ K.path.getD 0 0 = (s.arcs.getD arc.toNat noArc).dst) := by
  have hll : s.locks.length = s.leaders.length := h.ok.2.1.2.2.1
  constructor
  · intro q
    exact ⟨q.2.1, q.2.2.2.2.2.1.1, q.2.2.2.2.2.1.2.1⟩
  · rintro ⟨q1, q2, q3⟩
    refine ⟨hv, q1, ⟨hk.lk.1, by rw [hll]; exact hk.lk.2⟩, by rw [hk.sec7]; omega, ?_, ⟨q2, q3, hk.last⟩, hk.len, hk.ver⟩
    rw [h.locks _ (by have := hk.lk; omega), hk.secret]; rfl
/-- With another secret it opens nothing. -/
theorem opens_secret {s : SpecM} (h : BySeeds s) {K : HkM} (x : ByteArray) (hx : (⟨(digest x.data.toList).toArray⟩ : ByteArray) ≠ lockOf K.lock.toNat) (arc : Int) : ¬ hkOpens s arc ⟨K.lock, x, K.path, K.sigs⟩ := by
  intro q
  have hll : s.locks.length = s.leaders.length := h.ok.2.1.2.2.1
  have q3 := q.2.2.1
  have h9 := q.2.2.2.2.1
  apply hx
  rw [← h.locks K.lock.toNat (by have q4 : 0 ≤ K.lock ∧ K.lock < (s.locks.length : Int) := q3; omega)]
  exact h9
theorem ring_seeds (n : Nat) (h2 : 2 ≤ n) (h6 : n ≤ 6) (st de : Int) (s0 : 0 ≤ st) (s1 : st ≤ 1099511627776) (d0 : 1 ≤ de) (d1 : de ≤ 1048576) : BySeeds (ringM n st de) := by
  refine ⟨ring_ok n h2 h6 st de s0 s1 d0 d1, fun i hi k hk => ?_, fun k hk => ?_⟩
  · have hi' : i < (accs n).length := by have h9 : i < (withKeys (accs n) 1).length := hi; rw [withKeys_len] at h9; exact h9
    show ((withKeys (accs n) 1).getD i noParty).keys.getD k ByteArray.empty = _
    rw [withKeys_keys _ _ _ hi']
    exact keysL_get _ _ _ hk
  · exact locksL_get _ _ hk
/-- A Bool that the kernel reckons. -/
def unlikeB (a b : List UInt8) : Bool := !(a == b)
theorem other_unlike : unlikeB (digest [111, 116, 104, 101, 114]) (digest (secretB 0)) = true := by decide +kernel
theorem other_lock : (⟨(digest [111, 116, 104, 101, 114]).toArray⟩ : ByteArray) ≠ lockOf 0 := by
  intro e
  have h1 := other_unlike
  unfold unlikeB at h1
  have h2 : digest [111, 116, 104, 101, 114] = digest (secretB 0) := by
    have h3 := congrArg (fun b : ByteArray => b.data.toList) e
    simpa [lockOf] using h3
  rw [h2] at h1
  simp at h1

end Go.Proofs.Ythoimecljfcjmaa

/-
  A hashkey in a variable: made, written, one field of it written.
-/
namespace Go.Proofs.Ythoimecljfcjmaa
open Go.RowKit

theorem le_of_below {B : Nat} {w W : World} (h : Below B w W) (hB : w.heap.size = B) : B ≤ W.heap.size := by have := h.size; omega
theorem below_then3 {B : Nat} {w W W2 : World} (hB : w.heap.size = B) (h : Below B w W) (k : Below W.heap.size W W2) : Below B w W2 := h.trans (k.mono (le_of_below h hB))
theorem below_but3 {B g : Nat} {w W W2 : World} (hB : w.heap.size = B) (h : Below B w W) (k : But g W W2) (hg : B ≤ g) : Below B w W2 := h.trans (k.below hg (le_of_below h hB))
def Z4 : Array Value := #[.int .i64 0, .string ⟨#[]⟩, .slice none 0 0, .slice none 0 0]
/-- 'var x Hashkey' in a region that draws its order. -/
theorem gives_allocK {ops : Array Oper} {Q : Exit → Act → World → Prop} {R : World → Prop} {R' : Value → World → Prop} {o : Oper} (hg : o.guard = none) (ho : o.op = .alloc 31)
    (h : ∀ W, R W → ∀ W1, HvAt W1 W.heap.size Z4 → Below W.heap.size W W1 → R' (.pointer (some ⟨W.heap.size, 0, none⟩)) W1) : ∀ b, GivesE Try.prog ops Q R R' o b := by
  intro b W hW K hK
  have hr : (Instr.alloc 31 true (.tuple #[])).run Try.prog W = .ok (.pointer (some ⟨W.heap.size, 0, none⟩)) (W.alloc (.cells Z4 31)) := by
    have hz : (Try.prog.info? 31).map (fun i => (i.zero, i.size)) = some (some (.agg #[Value.int IntKind.i64 0, Value.string ⟨#[]⟩, Value.slice none 0 0, Value.slice none 0 0]), 4) := by kernel_rfl
    simp [Instr.alloc, (zero_of_info hz).1 W, go_sem, Value.cells, Z4]
  have hw : Region.wanted o (yielded ops b.tmps) = true := by unfold Region.wanted; rw [hg]
  rw [if_pos hw]
  unfold Oper.wp execOp
  simp only [ho, Sem.run_bind, hr, Result.andThen_ok]
  exact hK.out _ _ (h W hW _ (heap_alloc_new _ _) ((Below.refl _ _).alloc (Nat.le_refl _) _))
theorem sizeStr : (Try.prog.info? 9).map (·.size) = some 1 := by kernel_rfl
/-- A field of it is written. -/
theorem wpList_fieldK {ops : Array Oper} {rest : List Oper} {o : Oper} {a : Act} {w : World} {Q : Exit → Act → World → Prop} (hgd : o.guard = none) (ty : TypeId) (x y : Operand) (ho : o.op = .store ty x y)
    (g off : Nat) (v : Value) (cs cs' : Array Value) (hx : a.eval x = .pointer (some ⟨g, off, none⟩)) (hy : a.eval y = v) (hv : v.cells = #[v]) (hi : (Try.prog.info? ty).map (·.size) = some 1) (h1 : v.oneCell' = true)
    (hg : HvAt w g cs) (h4 : cs.size = 4) (hoff : off < 4) (hcs : cs' = (cs.toList.take off ++ [v] ++ cs.toList.drop (off + 1)).toArray)
    (h : ∀ w1, HvAt w1 g cs' → w1.heap.size = w.heap.size → But g w w1 → wpList Try.prog ops Q rest (a.put o.dst undef) w1) : wpList Try.prog ops Q (o :: rest) a w := by
  refine wpList_splice hgd ty x y ho g off #[v] v hx hy hv 31 cs.toList (by unfold Cells; rw [Array.toArray_toList]; exact hg) hi (by simp [h4]; omega) (by intro u hu; simp at hu; subst hu; exact h1) ?_
  intro w1 hc hz hb
  refine h w1 ?_ hz hb
  rw [hcs]
  exact hc
theorem GrownK.sane {s : SpecM} {K : HkM} (hk : GrownK s K) (hok : specOk s) (hp : K.path.length ≤ 100) : HkSane K := by
  have h6 := hok.2.2.1.2.1
  have h3 := hok.2.1.2.1
  refine ⟨⟨by have := hk.lk; omega, by have := hk.lk; omega⟩, by rw [hk.sec7]; omega, by omega, fun j hj => ?_, by rw [hk.len]; omega, fun j hj => by rw [hk.sz j hj]; omega⟩
  have := hk.rng j hj
  exact ⟨by omega, by omega⟩
/-- The rows of a key that lies in a variable. -/
theorem HkO.lies {w : World} {B : Nat} {K : HkM} {pa sa : Option Addr} {pc sc : Nat} (h : HkO w B (.agg (hcells pa sa pc sc K)) K) (hs : HkSane K) : HkL w pa sa pc sc K := by
  obtain ⟨pa', sa', pc', sc', he, L⟩ := h.wide hs
  injection he with he
  simp only [hcells] at he
  injection he with he
  injection he with _ he
  injection he with _ he
  injection he with h1 he
  injection he with h2 _
  injection h1 with h3 _ h4
  injection h2 with h5 _ h6
  subst h3 h4 h5 h6
  exact L
theorem HkO.cells {w : World} {B : Nat} {u : Value} {K : HkM} (h : HkO w B u K) (hs : HkSane K) : ∃ pa sa pc sc, u = .agg (hcells pa sa pc sc K) := by
  obtain ⟨pa, sa, pc, sc, he, _⟩ := h.wide hs
  exact ⟨pa, sa, pc, sc, he⟩

end Go.Proofs.Ythoimecljfcjmaa
