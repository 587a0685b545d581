/-
  Chapter 7's own Check.
-/
import Derived.Test.YthoimecljfcjmaaZ43
import Derived.Test.YthoimecljfcjmaaZ34
import Derived.Test.YthoimecljfcjmaaZ40
import Derived.Test.YthoimecljfcjmaaGrRefP
import Derived.Test.YthoimecljfcjmaaZ23
namespace Go.Proofs.Ythoimecljfcjmaa
open Go.RowKit

abbrev hr1 : Oper := { dst := some 13, op := Op.load 27 (Operand.tmp 3), type := 27, pos := "ref.go:33", after := #[], guard := none }
abbrev hr2 : Oper := { dst := some 14, op := Op.call { callee := Callee.value (Operand.func 24), args := #[Operand.tmp 13], argTypes := #[27] }, type := 4, pos := "ref.go:33", after := #[{ on := 0, ground := Ground.data }], guard := none }
abbrev hr3 : Oper := { dst := some 15, op := Op.unOp UnOp.not 4 (Operand.tmp 14), type := 4, pos := "ref.go:33", after := #[{ on := 1, ground := Ground.data }], guard := none }
abbrev hr4 : Oper := { dst := some 16, op := Op.move (Operand.tmp 15), type := 4, pos := "ref.go:33", after := #[{ on := 2, ground := Ground.data }, { on := 1, ground := Ground.chain }], guard := none }
abbrev hr5 : Oper := { dst := some 17, op := Op.move (Operand.tmp 1), type := 3, pos := "ref.go:33", after := #[{ on := 3, ground := Ground.guard }], guard := some (3, false) }
abbrev hr6 : Oper := { dst := some 18, op := Op.binOp BinOp.lss 3 (Operand.tmp 17) (Operand.const (Value.int IntKind.i64 0)) 3, type := 4, pos := "ref.go:33", after := #[{ on := 4, ground := Ground.data }, { on := 3, ground := Ground.guard }], guard := some (3, false) }
abbrev hr7 : Oper := { dst := some 19, op := Op.pick (Operand.tmp 16) (Operand.const (Value.bool true)) (Operand.tmp 18), type := 4, pos := "ref.go:33", after := #[{ on := 3, ground := Ground.data }, { on := 5, ground := Ground.data }], guard := none }
abbrev hr8 : Oper := { dst := some 20, op := Op.move (Operand.tmp 19), type := 4, pos := "ref.go:33", after := #[{ on := 6, ground := Ground.data }, { on := 3, ground := Ground.chain }], guard := none }
abbrev hr9 : Oper := { dst := some 21, op := Op.move (Operand.tmp 1), type := 3, pos := "ref.go:33", after := #[{ on := 7, ground := Ground.guard }], guard := some (7, false) }
abbrev hr10 : Oper := { dst := some 22, op := Op.fieldAddr 27 (Operand.tmp 3) 2, type := 0, pos := "ref.go:33", after := #[{ on := 7, ground := Ground.guard }], guard := some (7, false) }
abbrev hr11 : Oper := { dst := some 23, op := Op.load 24 (Operand.tmp 22), type := 24, pos := "ref.go:33", after := #[{ on := 9, ground := Ground.data }, { on := 7, ground := Ground.guard }], guard := some (7, false) }
abbrev hr12 : Oper := { dst := some 24, op := Op.call { callee := Callee.builtin Builtin.len, args := #[Operand.tmp 23], argTypes := #[24] }, type := 3, pos := "ref.go:33", after := #[{ on := 10, ground := Ground.data }, { on := 7, ground := Ground.guard }], guard := some (7, false) }
abbrev hr13 : Oper := { dst := some 25, op := Op.binOp BinOp.geq 3 (Operand.tmp 21) (Operand.tmp 24) 3, type := 4, pos := "ref.go:33", after := #[{ on := 8, ground := Ground.data }, { on := 11, ground := Ground.data }, { on := 7, ground := Ground.guard }], guard := some (7, false) }
abbrev hr14 : Oper := { dst := some 26, op := Op.pick (Operand.tmp 20) (Operand.const (Value.bool true)) (Operand.tmp 25), type := 4, pos := "ref.go:33", after := #[{ on := 7, ground := Ground.data }, { on := 12, ground := Ground.data }], guard := none }
abbrev hr15 : Oper := { dst := some 27, op := Op.move (Operand.tmp 26), type := 4, pos := "ref.go:33", after := #[{ on := 13, ground := Ground.data }, { on := 7, ground := Ground.chain }], guard := none }
abbrev hr16 : Oper := { dst := some 28, op := Op.fieldAddr 31 (Operand.tmp 5) 0, type := 0, pos := "ref.go:33", after := #[{ on := 14, ground := Ground.guard }], guard := some (14, false) }
abbrev hr17 : Oper := { dst := some 29, op := Op.load 3 (Operand.tmp 28), type := 3, pos := "ref.go:33", after := #[{ on := 15, ground := Ground.data }, { on := 14, ground := Ground.guard }], guard := some (14, false) }
abbrev hr18 : Oper := { dst := some 30, op := Op.binOp BinOp.lss 3 (Operand.tmp 29) (Operand.const (Value.int IntKind.i64 0)) 3, type := 4, pos := "ref.go:33", after := #[{ on := 16, ground := Ground.data }, { on := 14, ground := Ground.guard }], guard := some (14, false) }
abbrev hr19 : Oper := { dst := some 31, op := Op.pick (Operand.tmp 27) (Operand.const (Value.bool true)) (Operand.tmp 30), type := 4, pos := "ref.go:33", after := #[{ on := 14, ground := Ground.data }, { on := 17, ground := Ground.data }], guard := none }
abbrev hr20 : Oper := { dst := some 32, op := Op.move (Operand.tmp 31), type := 4, pos := "ref.go:33", after := #[{ on := 18, ground := Ground.data }, { on := 14, ground := Ground.chain }], guard := none }
abbrev hr21 : Oper := { dst := some 33, op := Op.fieldAddr 31 (Operand.tmp 5) 0, type := 0, pos := "ref.go:33", after := #[{ on := 19, ground := Ground.guard }], guard := some (19, false) }
abbrev hr22 : Oper := { dst := some 34, op := Op.load 3 (Operand.tmp 33), type := 3, pos := "ref.go:33", after := #[{ on := 20, ground := Ground.data }, { on := 19, ground := Ground.guard }], guard := some (19, false) }
abbrev hr23 : Oper := { dst := some 35, op := Op.fieldAddr 27 (Operand.tmp 3) 3, type := 0, pos := "ref.go:33", after := #[{ on := 19, ground := Ground.guard }], guard := some (19, false) }
abbrev hr24 : Oper := { dst := some 36, op := Op.load 22 (Operand.tmp 35), type := 22, pos := "ref.go:33", after := #[{ on := 22, ground := Ground.data }, { on := 19, ground := Ground.guard }], guard := some (19, false) }
abbrev hr25 : Oper := { dst := some 37, op := Op.call { callee := Callee.builtin Builtin.len, args := #[Operand.tmp 36], argTypes := #[22] }, type := 3, pos := "ref.go:33", after := #[{ on := 23, ground := Ground.data }, { on := 19, ground := Ground.guard }], guard := some (19, false) }
abbrev hr26 : Oper := { dst := some 38, op := Op.binOp BinOp.geq 3 (Operand.tmp 34) (Operand.tmp 37) 3, type := 4, pos := "ref.go:33", after := #[{ on := 21, ground := Ground.data }, { on := 24, ground := Ground.data }, { on := 19, ground := Ground.guard }], guard := some (19, false) }
abbrev hr27 : Oper := { dst := some 39, op := Op.pick (Operand.tmp 32) (Operand.const (Value.bool true)) (Operand.tmp 38), type := 4, pos := "ref.go:33", after := #[{ on := 19, ground := Ground.data }, { on := 25, ground := Ground.data }], guard := none }
abbrev hr28 : Oper := { dst := some 40, op := Op.move (Operand.tmp 39), type := 4, pos := "ref.go:33", after := #[{ on := 26, ground := Ground.data }, { on := 19, ground := Ground.chain }], guard := none }
abbrev hr29 : Oper := { dst := some 41, op := Op.fieldAddr 31 (Operand.tmp 5) 1, type := 0, pos := "ref.go:33", after := #[{ on := 27, ground := Ground.guard }], guard := some (27, false) }
abbrev hr30 : Oper := { dst := some 42, op := Op.load 9 (Operand.tmp 41), type := 9, pos := "ref.go:33", after := #[{ on := 28, ground := Ground.data }, { on := 27, ground := Ground.guard }], guard := some (27, false) }
abbrev hr31 : Oper := { dst := some 43, op := Op.call { callee := Callee.builtin Builtin.len, args := #[Operand.tmp 42], argTypes := #[9] }, type := 3, pos := "ref.go:33", after := #[{ on := 29, ground := Ground.data }, { on := 27, ground := Ground.guard }], guard := some (27, false) }
abbrev hr32 : Oper := { dst := some 44, op := Op.binOp BinOp.gtr 3 (Operand.tmp 43) (Operand.const (Value.int IntKind.i64 64)) 3, type := 4, pos := "ref.go:33", after := #[{ on := 30, ground := Ground.data }, { on := 27, ground := Ground.guard }], guard := some (27, false) }
abbrev hr33 : Oper := { dst := some 45, op := Op.pick (Operand.tmp 40) (Operand.const (Value.bool true)) (Operand.tmp 44), type := 4, pos := "ref.go:33", after := #[{ on := 27, ground := Ground.data }, { on := 31, ground := Ground.data }], guard := none }
abbrev hr34 : Oper := { dst := some 46, op := Op.move (Operand.tmp 45), type := 4, pos := "ref.go:33", after := #[{ on := 32, ground := Ground.data }, { on := 27, ground := Ground.chain }], guard := none }
abbrev hr35 : Oper := { dst := some 47, op := Op.fieldAddr 31 (Operand.tmp 5) 1, type := 0, pos := "ref.go:33", after := #[{ on := 33, ground := Ground.guard }], guard := some (33, false) }
abbrev hr36 : Oper := { dst := some 48, op := Op.load 9 (Operand.tmp 47), type := 9, pos := "ref.go:33", after := #[{ on := 34, ground := Ground.data }, { on := 33, ground := Ground.guard }], guard := some (33, false) }
abbrev hr37 : Oper := { dst := some 49, op := Op.call { callee := Callee.value (Operand.func 25), args := #[Operand.tmp 48], argTypes := #[9] }, type := 9, pos := "ref.go:33", after := #[{ on := 35, ground := Ground.data }, { on := 33, ground := Ground.chain }, { on := 33, ground := Ground.guard }], guard := some (33, false) }
abbrev hr38 : Oper := { dst := some 50, op := Op.fieldAddr 27 (Operand.tmp 3) 4, type := 0, pos := "ref.go:33", after := #[{ on := 33, ground := Ground.guard }], guard := some (33, false) }
abbrev hr39 : Oper := { dst := some 51, op := Op.load 25 (Operand.tmp 50), type := 25, pos := "ref.go:33", after := #[{ on := 37, ground := Ground.data }, { on := 33, ground := Ground.guard }], guard := some (33, false) }
abbrev hr40 : Oper := { dst := some 52, op := Op.fieldAddr 31 (Operand.tmp 5) 0, type := 0, pos := "ref.go:33", after := #[{ on := 33, ground := Ground.guard }], guard := some (33, false) }
abbrev hr41 : Oper := { dst := some 53, op := Op.load 3 (Operand.tmp 52), type := 3, pos := "ref.go:33", after := #[{ on := 39, ground := Ground.data }, { on := 33, ground := Ground.guard }], guard := some (33, false) }
abbrev hr42 : Oper := { dst := some 54, op := Op.indexAddr 25 (Operand.tmp 51) (Operand.tmp 53), type := 0, pos := "ref.go:33", after := #[{ on := 38, ground := Ground.data }, { on := 40, ground := Ground.data }, { on := 33, ground := Ground.guard }], guard := some (33, false) }
abbrev hr43 : Oper := { dst := some 55, op := Op.load 9 (Operand.tmp 54), type := 9, pos := "ref.go:33", after := #[{ on := 41, ground := Ground.data }, { on := 33, ground := Ground.guard }], guard := some (33, false) }
abbrev hr44 : Oper := { dst := some 56, op := Op.binOp BinOp.neq 9 (Operand.tmp 49) (Operand.tmp 55) 9, type := 4, pos := "ref.go:33", after := #[{ on := 36, ground := Ground.data }, { on := 42, ground := Ground.data }, { on := 33, ground := Ground.guard }], guard := some (33, false) }
abbrev hr45 : Oper := { dst := some 57, op := Op.pick (Operand.tmp 46) (Operand.const (Value.bool true)) (Operand.tmp 56), type := 4, pos := "ref.go:33", after := #[{ on := 33, ground := Ground.data }, { on := 43, ground := Ground.data }], guard := none }
abbrev hr46 : Oper := { dst := some 58, op := Op.load 27 (Operand.tmp 3), type := 27, pos := "ref.go:36", after := #[], guard := none }
abbrev hr47 : Oper := { dst := some 59, op := Op.fieldAddr 31 (Operand.tmp 5) 2, type := 0, pos := "ref.go:36", after := #[], guard := none }
abbrev hr48 : Oper := { dst := some 60, op := Op.load 22 (Operand.tmp 59), type := 22, pos := "ref.go:36", after := #[{ on := 1, ground := Ground.data }], guard := none }
abbrev hr49 : Oper := { dst := some 61, op := Op.call { callee := Callee.value (Operand.func 16), args := #[Operand.tmp 58, Operand.tmp 60], argTypes := #[27, 22] }, type := 4, pos := "ref.go:36", after := #[{ on := 0, ground := Ground.data }, { on := 2, ground := Ground.data }], guard := none }
abbrev hr50 : Oper := { dst := some 62, op := Op.unOp UnOp.not 4 (Operand.tmp 61), type := 4, pos := "ref.go:36", after := #[{ on := 3, ground := Ground.data }], guard := none }
abbrev hr51 : Oper := { dst := some 63, op := Op.move (Operand.tmp 62), type := 4, pos := "ref.go:36", after := #[{ on := 4, ground := Ground.data }, { on := 3, ground := Ground.chain }], guard := none }
abbrev hr52 : Oper := { dst := some 64, op := Op.fieldAddr 31 (Operand.tmp 5) 2, type := 0, pos := "ref.go:36", after := #[{ on := 5, ground := Ground.guard }], guard := some (5, false) }
abbrev hr53 : Oper := { dst := some 65, op := Op.load 22 (Operand.tmp 64), type := 22, pos := "ref.go:36", after := #[{ on := 6, ground := Ground.data }, { on := 5, ground := Ground.guard }], guard := some (5, false) }
abbrev hr54 : Oper := { dst := some 66, op := Op.indexAddr 22 (Operand.tmp 65) (Operand.const (Value.int IntKind.i64 0)), type := 0, pos := "ref.go:36", after := #[{ on := 7, ground := Ground.data }, { on := 5, ground := Ground.guard }], guard := some (5, false) }
abbrev hr55 : Oper := { dst := some 67, op := Op.load 3 (Operand.tmp 66), type := 3, pos := "ref.go:36", after := #[{ on := 8, ground := Ground.data }, { on := 5, ground := Ground.guard }], guard := some (5, false) }
abbrev hr56 : Oper := { dst := some 68, op := Op.fieldAddr 27 (Operand.tmp 3) 2, type := 0, pos := "ref.go:36", after := #[{ on := 5, ground := Ground.guard }], guard := some (5, false) }
abbrev hr57 : Oper := { dst := some 69, op := Op.load 24 (Operand.tmp 68), type := 24, pos := "ref.go:36", after := #[{ on := 10, ground := Ground.data }, { on := 5, ground := Ground.guard }], guard := some (5, false) }
abbrev hr58 : Oper := { dst := some 70, op := Op.move (Operand.tmp 1), type := 3, pos := "ref.go:36", after := #[{ on := 5, ground := Ground.guard }], guard := some (5, false) }
abbrev hr59 : Oper := { dst := some 71, op := Op.indexAddr 24 (Operand.tmp 69) (Operand.tmp 70), type := 0, pos := "ref.go:36", after := #[{ on := 11, ground := Ground.data }, { on := 12, ground := Ground.data }, { on := 5, ground := Ground.guard }], guard := some (5, false) }
abbrev hr60 : Oper := { dst := some 72, op := Op.fieldAddr 42 (Operand.tmp 71) 1, type := 0, pos := "ref.go:36", after := #[{ on := 13, ground := Ground.data }, { on := 5, ground := Ground.guard }], guard := some (5, false) }
abbrev hr61 : Oper := { dst := some 73, op := Op.load 3 (Operand.tmp 72), type := 3, pos := "ref.go:36", after := #[{ on := 14, ground := Ground.data }, { on := 5, ground := Ground.guard }], guard := some (5, false) }
abbrev hr62 : Oper := { dst := some 74, op := Op.binOp BinOp.neq 3 (Operand.tmp 67) (Operand.tmp 73) 3, type := 4, pos := "ref.go:36", after := #[{ on := 9, ground := Ground.data }, { on := 15, ground := Ground.data }, { on := 5, ground := Ground.guard }], guard := some (5, false) }
abbrev hr63 : Oper := { dst := some 75, op := Op.pick (Operand.tmp 63) (Operand.const (Value.bool true)) (Operand.tmp 74), type := 4, pos := "ref.go:36", after := #[{ on := 5, ground := Ground.data }, { on := 16, ground := Ground.data }], guard := none }
abbrev hr64 : Oper := { dst := some 76, op := Op.move (Operand.tmp 75), type := 4, pos := "ref.go:36", after := #[{ on := 17, ground := Ground.data }, { on := 5, ground := Ground.chain }], guard := none }
abbrev hr65 : Oper := { dst := some 77, op := Op.fieldAddr 31 (Operand.tmp 5) 2, type := 0, pos := "ref.go:36", after := #[{ on := 18, ground := Ground.guard }], guard := some (18, false) }
abbrev hr66 : Oper := { dst := some 78, op := Op.load 22 (Operand.tmp 77), type := 22, pos := "ref.go:36", after := #[{ on := 19, ground := Ground.data }, { on := 18, ground := Ground.guard }], guard := some (18, false) }
abbrev hr67 : Oper := { dst := some 79, op := Op.move (Operand.tmp 7), type := 3, pos := "ref.go:36", after := #[{ on := 18, ground := Ground.guard }], guard := some (18, false) }
abbrev hr68 : Oper := { dst := some 80, op := Op.binOp BinOp.sub 3 (Operand.tmp 79) (Operand.const (Value.int IntKind.i64 1)) 3, type := 3, pos := "ref.go:36", after := #[{ on := 21, ground := Ground.data }, { on := 18, ground := Ground.guard }], guard := some (18, false) }
abbrev hr69 : Oper := { dst := some 81, op := Op.indexAddr 22 (Operand.tmp 78) (Operand.tmp 80), type := 0, pos := "ref.go:36", after := #[{ on := 20, ground := Ground.data }, { on := 22, ground := Ground.data }, { on := 18, ground := Ground.guard }], guard := some (18, false) }
abbrev hr70 : Oper := { dst := some 82, op := Op.load 3 (Operand.tmp 81), type := 3, pos := "ref.go:36", after := #[{ on := 23, ground := Ground.data }, { on := 18, ground := Ground.guard }], guard := some (18, false) }
abbrev hr71 : Oper := { dst := some 83, op := Op.fieldAddr 27 (Operand.tmp 3) 3, type := 0, pos := "ref.go:36", after := #[{ on := 18, ground := Ground.guard }], guard := some (18, false) }
abbrev hr72 : Oper := { dst := some 84, op := Op.load 22 (Operand.tmp 83), type := 22, pos := "ref.go:36", after := #[{ on := 25, ground := Ground.data }, { on := 18, ground := Ground.guard }], guard := some (18, false) }
abbrev hr73 : Oper := { dst := some 85, op := Op.fieldAddr 31 (Operand.tmp 5) 0, type := 0, pos := "ref.go:36", after := #[{ on := 18, ground := Ground.guard }], guard := some (18, false) }
abbrev hr74 : Oper := { dst := some 86, op := Op.load 3 (Operand.tmp 85), type := 3, pos := "ref.go:36", after := #[{ on := 27, ground := Ground.data }, { on := 18, ground := Ground.guard }], guard := some (18, false) }
abbrev hr75 : Oper := { dst := some 87, op := Op.indexAddr 22 (Operand.tmp 84) (Operand.tmp 86), type := 0, pos := "ref.go:36", after := #[{ on := 26, ground := Ground.data }, { on := 28, ground := Ground.data }, { on := 18, ground := Ground.guard }], guard := some (18, false) }
abbrev hr76 : Oper := { dst := some 88, op := Op.load 3 (Operand.tmp 87), type := 3, pos := "ref.go:36", after := #[{ on := 29, ground := Ground.data }, { on := 18, ground := Ground.guard }], guard := some (18, false) }
abbrev hr77 : Oper := { dst := some 89, op := Op.binOp BinOp.neq 3 (Operand.tmp 82) (Operand.tmp 88) 3, type := 4, pos := "ref.go:36", after := #[{ on := 24, ground := Ground.data }, { on := 30, ground := Ground.data }, { on := 18, ground := Ground.guard }], guard := some (18, false) }
abbrev hr78 : Oper := { dst := some 90, op := Op.pick (Operand.tmp 76) (Operand.const (Value.bool true)) (Operand.tmp 89), type := 4, pos := "ref.go:36", after := #[{ on := 18, ground := Ground.data }, { on := 31, ground := Ground.data }], guard := none }
abbrev hr79 : Oper := { dst := some 91, op := Op.move (Operand.tmp 90), type := 4, pos := "ref.go:36", after := #[{ on := 32, ground := Ground.data }, { on := 18, ground := Ground.chain }], guard := none }
abbrev hr80 : Oper := { dst := some 92, op := Op.fieldAddr 31 (Operand.tmp 5) 3, type := 0, pos := "ref.go:36", after := #[{ on := 33, ground := Ground.guard }], guard := some (33, false) }
abbrev hr81 : Oper := { dst := some 93, op := Op.load 25 (Operand.tmp 92), type := 25, pos := "ref.go:36", after := #[{ on := 34, ground := Ground.data }, { on := 33, ground := Ground.guard }], guard := some (33, false) }
abbrev hr82 : Oper := { dst := some 94, op := Op.call { callee := Callee.builtin Builtin.len, args := #[Operand.tmp 93], argTypes := #[25] }, type := 3, pos := "ref.go:36", after := #[{ on := 35, ground := Ground.data }, { on := 33, ground := Ground.guard }], guard := some (33, false) }
abbrev hr83 : Oper := { dst := some 95, op := Op.move (Operand.tmp 7), type := 3, pos := "ref.go:36", after := #[{ on := 33, ground := Ground.guard }], guard := some (33, false) }
abbrev hr84 : Oper := { dst := some 96, op := Op.binOp BinOp.neq 3 (Operand.tmp 94) (Operand.tmp 95) 3, type := 4, pos := "ref.go:36", after := #[{ on := 36, ground := Ground.data }, { on := 37, ground := Ground.data }, { on := 33, ground := Ground.guard }], guard := some (33, false) }
abbrev hr85 : Oper := { dst := some 97, op := Op.pick (Operand.tmp 91) (Operand.const (Value.bool true)) (Operand.tmp 96), type := 4, pos := "ref.go:36", after := #[{ on := 33, ground := Ground.data }, { on := 38, ground := Ground.data }], guard := none }
abbrev hr86 : Oper := { dst := some 115, op := Op.fieldAddr 27 (Operand.tmp 3) 1, type := 0, pos := "ref.go:44", after := #[], guard := none }
abbrev hr87 : Oper := { dst := some 116, op := Op.load 23 (Operand.tmp 115), type := 23, pos := "ref.go:44", after := #[{ on := 0, ground := Ground.data }], guard := none }
abbrev hr88 : Oper := { dst := some 117, op := Op.fieldAddr 31 (Operand.tmp 5) 2, type := 0, pos := "ref.go:44", after := #[], guard := none }
abbrev hr89 : Oper := { dst := some 118, op := Op.load 22 (Operand.tmp 117), type := 22, pos := "ref.go:44", after := #[{ on := 2, ground := Ground.data }], guard := none }
abbrev hr90 : Oper := { dst := some 119, op := Op.move (Operand.tmp 8), type := 3, pos := "ref.go:44", after := #[], guard := none }
abbrev hr91 : Oper := { dst := some 120, op := Op.indexAddr 22 (Operand.tmp 118) (Operand.tmp 119), type := 0, pos := "ref.go:44", after := #[{ on := 3, ground := Ground.data }, { on := 4, ground := Ground.data }], guard := none }
abbrev hr92 : Oper := { dst := some 121, op := Op.load 3 (Operand.tmp 120), type := 3, pos := "ref.go:44", after := #[{ on := 5, ground := Ground.data }], guard := none }
abbrev hr93 : Oper := { dst := some 122, op := Op.indexAddr 23 (Operand.tmp 116) (Operand.tmp 121), type := 0, pos := "ref.go:44", after := #[{ on := 1, ground := Ground.data }, { on := 6, ground := Ground.data }], guard := none }
abbrev hr94 : Oper := { dst := some 123, op := Op.fieldAddr 52 (Operand.tmp 122) 1, type := 0, pos := "ref.go:44", after := #[{ on := 7, ground := Ground.data }], guard := none }
abbrev hr95 : Oper := { dst := some 124, op := Op.load 25 (Operand.tmp 123), type := 25, pos := "ref.go:44", after := #[{ on := 8, ground := Ground.data }], guard := none }
abbrev hr96 : Oper := { dst := some 125, op := Op.fieldAddr 31 (Operand.tmp 5) 0, type := 0, pos := "ref.go:44", after := #[], guard := none }
abbrev hr97 : Oper := { dst := some 126, op := Op.load 3 (Operand.tmp 125), type := 3, pos := "ref.go:44", after := #[{ on := 10, ground := Ground.data }], guard := none }
abbrev hr98 : Oper := { dst := some 127, op := Op.indexAddr 25 (Operand.tmp 124) (Operand.tmp 126), type := 0, pos := "ref.go:44", after := #[{ on := 9, ground := Ground.data }, { on := 11, ground := Ground.data }], guard := none }
abbrev hr99 : Oper := { dst := some 128, op := Op.load 9 (Operand.tmp 127), type := 9, pos := "ref.go:44", after := #[{ on := 12, ground := Ground.data }], guard := none }
abbrev hr100 : Oper := { dst := some 129, op := Op.move (Operand.tmp 9), type := 9, pos := "ref.go:44", after := #[], guard := none }
abbrev hr101 : Oper := { dst := some 130, op := Op.fieldAddr 31 (Operand.tmp 5) 3, type := 0, pos := "ref.go:44", after := #[], guard := none }
abbrev hr102 : Oper := { dst := some 131, op := Op.load 25 (Operand.tmp 130), type := 25, pos := "ref.go:44", after := #[{ on := 15, ground := Ground.data }], guard := none }
abbrev hr103 : Oper := { dst := some 132, op := Op.move (Operand.tmp 8), type := 3, pos := "ref.go:44", after := #[], guard := none }
abbrev hr104 : Oper := { dst := some 133, op := Op.indexAddr 25 (Operand.tmp 131) (Operand.tmp 132), type := 0, pos := "ref.go:44", after := #[{ on := 16, ground := Ground.data }, { on := 17, ground := Ground.data }], guard := none }
abbrev hr105 : Oper := { dst := some 134, op := Op.load 9 (Operand.tmp 133), type := 9, pos := "ref.go:44", after := #[{ on := 18, ground := Ground.data }], guard := none }
abbrev hr106 : Oper := { dst := some 135, op := Op.call { callee := Callee.value (Operand.func 26), args := #[Operand.tmp 128, Operand.tmp 129, Operand.tmp 134], argTypes := #[9, 9, 9] }, type := 4, pos := "ref.go:44", after := #[{ on := 13, ground := Ground.data }, { on := 14, ground := Ground.data }, { on := 19, ground := Ground.data }], guard := none }
abbrev hr107 : Oper := { dst := some 136, op := Op.unOp UnOp.not 4 (Operand.tmp 135), type := 4, pos := "ref.go:44", after := #[{ on := 20, ground := Ground.data }], guard := none }

theorem wrap_i64k {x : Int} (h0 : -9223372036854775808 ≤ x) (h1 : x ≤ 9223372036854775807) : IntKind.i64.wrap x = x := by
  unfold IntKind.wrap
  simp [IntKind.bits, IntKind.signed]
  omega
theorem refverify_all (p m s : ByteArray) (hm : m.size ≤ 1000000) (w : World) :
    Calls Try.prog 26 #[.string p, .string m, .string s] w fun e w' => e = .returned (.bool (verifyOf p.data.toList m.data.toList s.data.toList)) ∧ Below w.heap.size w w' := by
  by_cases h : s.size = 512
  · exact refverify_any p m s hm h w
  · refine (refverify_long p m s h w).mono ?_
    rintro e w' ⟨rfl, rfl⟩
    have e9 : verifyOf p.data.toList m.data.toList s.data.toList = false := by
      unfold verifyOf
      rw [decide_eq_false (by rw [Array.length_toList]; exact h)]; rfl
    rw [e9]
    exact ⟨rfl, Below.refl _ _⟩

set_option maxRecDepth 10000 in
set_option maxHeartbeats 4000000 in
theorem rhkcheck_any {w : World} {v : Value} {s : SpecM} (hv : SpecW w v s) (arc : Int) {pa sa : Option Addr} {pc sc : Nat} {K : HkM} (L : HkL w pa sa pc sc K) (hp100 : K.path.length ≤ 100) (hz : ∀ j, j < K.sigs.length → (K.sigs.getD j ByteArray.empty).size ≤ 1000) (hsec : K.secret.size ≤ 1000000) :
    Calls Try.prog 9 #[v, .int .i64 arc, .agg (hcells pa sa pc sc K)] w fun e w' => e = .returned (.bool (told (hkOpens s arc K))) ∧ Below w.heap.size w w' := by
  obtain ⟨cs, rfl, h7⟩ := hv.seven
  obtain ⟨g, hg⟩ : ∃ g, w.heap.size = g := ⟨_, rfl⟩
  rw [hg]
  obtain ⟨r, hr⟩ : ∃ r, told (hkOpens s arc K) = r := ⟨_, rfl⟩
  rw [hr]
  have hno : Hid (¬ hkOpens s arc K → r = false) := fun h => by rw [← hr, told_no h]
  have hyes : Hid (hkOpens s arc K → r = true) := fun h => by rw [← hr, told_yes h]
  clear hr
  have HW : Hid (∀ W, Below g w W → SpecW W (.agg cs) s) := fun W hW => hv.below (by rw [hg]; exact hW)
  have HL : Hid (∀ W, Below g w W → HkL W pa sa pc sc K) := fun W hW => L.below (by rw [hg]; exact hW)
  have htx : Hid (∀ i, (textAt K i).size ≤ 1000000) := fun i => by
    unfold textAt
    split
    · rename_i h; exact Nat.le_trans (hz i h) (by omega)
    · exact hsec
  obtain ⟨a1, a2, a3, a4, k1, k2, k3, k4, hcs, LI, hcap⟩ := hv
  injection hcs with hcs
  have HX : Hid (∀ W, SvAt W g cs → W.cell? ⟨g, 1, none⟩ = some (.slice a1 s.parties.length k1) ∧ W.cell? ⟨g, 2, none⟩ = some (.slice a2 s.arcs.length k2) ∧ W.cell? ⟨g, 3, none⟩ = some (.slice a3 s.leaders.length k3) ∧ W.cell? ⟨g, 4, none⟩ = some (.slice a4 s.locks.length k4)) := fun W hW => by
    have h9 : W.heap[g]? = some (.cells (cells7 a1 a2 a3 a4 k1 k2 k3 k4 s) 27 (0, 0)) := by rw [← hcs]; exact hW
    exact ⟨(cells7_at h9).2.1, (cells7_at h9).2.2.1, (cells7_at h9).2.2.2.1, (cells7_at h9).2.2.2.2.1⟩
  have HLI : Hid (∀ W, Below g w W → Lies W a1 a2 a3 a4 s) := fun W hW => LI.below (by rw [hg]; exact hW)
  have hK64 := L.lock
  clear hcs LI hcap L hz
  go_enter Try.func9, Try.ntmps9
  go_upto_region 1 with (first
    | ((with_reducible refine wpList_at ?_); refine wpList_boxv (by rfl) 27 (.tmp 0) (by rfl) _ (by rfl) ?_; rw [hg]; intro w1 hu1 hz1 hb1; have hx1 : SvAt w1 g cs := hu1; clear hu1)
    | ((with_reducible refine wpList_at ?_); refine wpList_boxv (by rfl) 31 (.tmp 2) (by rfl) _ (by rfl) ?_; rw [hz1]; intro w2 hu2 hz2 hb2; have hy2 : HvAt w2 (g + 1) (hcells pa sa pc sc K) := hu2; clear hu2))
  have hx2 := hx1.below (by rw [hz1]; exact hb2)
  have hB2 : Below g w w2 := hb1.trans (hb2.mono (by omega))
  have hs2 : g + 2 ≤ w2.heap.size := by omega
  clear hx1 hb1 hb2 hz1 hz2
  have HB : Hid (∀ W, Below w2.heap.size w2 W → Below g w W) := fun W hW => hB2.trans (hW.mono (by omega))
  obtain ⟨_, x2, x3, x4⟩ := HX.out _ hx2
  obtain ⟨y0, y1, y2, y3⟩ := hcells_at hy2
  obtain ⟨na, hna⟩ : ∃ n, s.arcs.length = n := ⟨_, rfl⟩
  obtain ⟨nl, hnl⟩ : ∃ n, s.leaders.length = n := ⟨_, rfl⟩
  obtain ⟨nk, hnk⟩ : ∃ n, s.locks.length = n := ⟨_, rfl⟩
  obtain ⟨np, hnp⟩ : ∃ n, K.path.length = n := ⟨_, rfl⟩
  obtain ⟨ns, hns⟩ : ∃ n, K.sigs.length = n := ⟨_, rfl⟩
  rw [hna] at x2
  rw [hnl] at x3
  rw [hnk] at x4
  rw [hnp] at y2
  rw [hns] at y3
  have hnp100 : np ≤ 100 := by omega
  replace hna := hide hna
  replace hnl := hide hnl
  replace hnk := hide hnk
  replace hnp := hide hnp
  replace hns := hide hns
  replace hsec := hide hsec
  have hB2' := hide hB2
  clear hB2
  go_upto_region 2 with fail
  by_cases c0 : validM s = true
  rotate_left
  · have hf : Hid (r = false) := hno.out (fun h => c0 h.1)
    have H1 : Hid (∀ W, Below w2.heap.size w2 W → Calls Try.prog 24 #[.agg cs] W fun e w' => e = .returned (.bool false) ∧ Below W.heap.size W w') := fun W hW => by have h9 := rvalid_any (HW.out W (HB.out W hW)); rw [show validM s = false from (by cases h : validM s with | true => exact absurd h c0 | false => rfl)] at h9; exact h9
    clear c0 hno hyes
    have hRw : Below w2.heap.size w2 w2.drew := ⟨rfl, rfl, rfl, Nat.le_refl _, fun _ _ => rfl⟩
    refine wp_region_held_drew (S := fun W => Below w2.heap.size w2 W) (by kernel_rfl) hRw (fun hHeld => ?_)
    refine wpAnyH_take (i := 0) (oi := hr1) (v := .agg cs) rfl (by kernel_rfl) (by kernel_rfl) (by kernel_rfl) (fun _ _ _ h => h) (yields_loadV (by rfl) (.tmp 3) (by rfl) _ cs (by rfl) h7 (fun W hW => hx2.below hW)) (by assumption) ?_
    try simp only [Act.put, pA, pB, pC]
    refine wpAnyH_lone (R := fun W => Below w2.heap.size w2 W) (i := 1) (oi := hr2) (vi := .bool false) (by kernel_rfl) rfl hRw (fun _ h => h) ?_ ?_
    · intro W hW K hK
      go_simp
      refine (H1.out W hW).mono ?_
      rintro e W2 ⟨rfl, hb⟩
      go_wp2_with fail
      exact hK.out _ (below_then hW hb)
    clear hRw hHeld
    intro W9 hRw hHeld
    try simp only [Act.put, pA, pB, pC]
    refine tkH 2 hr3 ?_ rfl (by kernel_rfl) (fun _ _ _ h => h) (by rfl) ‹_› ?_ ?_
    rotate_left
    · intro W hSW; first | (go_simp; done) | (go_simp; with_reducible rfl)
    try simp only [Act.put, pA, pB, pC]
    refine tkH 3 hr4 ?_ rfl (by kernel_rfl) (fun _ _ _ h => h) (by rfl) ‹_› ?_ ?_
    rotate_left
    · intro W hSW; first | (go_simp; done) | (go_simp; with_reducible rfl)
    try simp only [Act.put, pA, pB, pC]
    refine tkO 4 hr5 rfl (by kernel_rfl) (fun _ _ _ h => h) (by rfl) ‹_› ?_
    try simp only [Act.put, pA, pB, pC]
    refine tkO 5 hr6 rfl (by kernel_rfl) (fun _ _ _ h => h) (by rfl) ‹_› ?_
    try simp only [Act.put, pA, pB, pC]
    refine tkH 6 hr7 ?_ rfl (by kernel_rfl) (fun _ _ _ h => h) (by rfl) ‹_› ?_ ?_
    rotate_left
    · intro W hSW; first | (go_simp; done) | (go_simp; with_reducible rfl)
    try simp only [Act.put, pA, pB, pC]
    refine tkH 7 hr8 ?_ rfl (by kernel_rfl) (fun _ _ _ h => h) (by rfl) ‹_› ?_ ?_
    rotate_left
    · intro W hSW; first | (go_simp; done) | (go_simp; with_reducible rfl)
    try simp only [Act.put, pA, pB, pC]
    refine tkO 8 hr9 rfl (by kernel_rfl) (fun _ _ _ h => h) (by rfl) ‹_› ?_
    try simp only [Act.put, pA, pB, pC]
    refine tkO 9 hr10 rfl (by kernel_rfl) (fun _ _ _ h => h) (by rfl) ‹_› ?_
    try simp only [Act.put, pA, pB, pC]
    refine tkO 10 hr11 rfl (by kernel_rfl) (fun _ _ _ h => h) (by rfl) ‹_› ?_
    try simp only [Act.put, pA, pB, pC]
    refine tkO 11 hr12 rfl (by kernel_rfl) (fun _ _ _ h => h) (by rfl) ‹_› ?_
    try simp only [Act.put, pA, pB, pC]
    refine tkO 12 hr13 rfl (by kernel_rfl) (fun _ _ _ h => h) (by rfl) ‹_› ?_
    try simp only [Act.put, pA, pB, pC]
    refine tkH 13 hr14 ?_ rfl (by kernel_rfl) (fun _ _ _ h => h) (by rfl) ‹_› ?_ ?_
    rotate_left
    · intro W hSW; first | (go_simp; done) | (go_simp; with_reducible rfl)
    try simp only [Act.put, pA, pB, pC]
    refine tkH 14 hr15 ?_ rfl (by kernel_rfl) (fun _ _ _ h => h) (by rfl) ‹_› ?_ ?_
    rotate_left
    · intro W hSW; first | (go_simp; done) | (go_simp; with_reducible rfl)
    try simp only [Act.put, pA, pB, pC]
    refine tkO 15 hr16 rfl (by kernel_rfl) (fun _ _ _ h => h) (by rfl) ‹_› ?_
    try simp only [Act.put, pA, pB, pC]
    refine tkO 16 hr17 rfl (by kernel_rfl) (fun _ _ _ h => h) (by rfl) ‹_› ?_
    try simp only [Act.put, pA, pB, pC]
    refine tkO 17 hr18 rfl (by kernel_rfl) (fun _ _ _ h => h) (by rfl) ‹_› ?_
    try simp only [Act.put, pA, pB, pC]
    refine tkH 18 hr19 ?_ rfl (by kernel_rfl) (fun _ _ _ h => h) (by rfl) ‹_› ?_ ?_
    rotate_left
    · intro W hSW; first | (go_simp; done) | (go_simp; with_reducible rfl)
    try simp only [Act.put, pA, pB, pC]
    refine tkH 19 hr20 ?_ rfl (by kernel_rfl) (fun _ _ _ h => h) (by rfl) ‹_› ?_ ?_
    rotate_left
    · intro W hSW; first | (go_simp; done) | (go_simp; with_reducible rfl)
    try simp only [Act.put, pA, pB, pC]
    refine tkO 20 hr21 rfl (by kernel_rfl) (fun _ _ _ h => h) (by rfl) ‹_› ?_
    try simp only [Act.put, pA, pB, pC]
    refine tkO 21 hr22 rfl (by kernel_rfl) (fun _ _ _ h => h) (by rfl) ‹_› ?_
    try simp only [Act.put, pA, pB, pC]
    refine tkO 22 hr23 rfl (by kernel_rfl) (fun _ _ _ h => h) (by rfl) ‹_› ?_
    try simp only [Act.put, pA, pB, pC]
    refine tkO 23 hr24 rfl (by kernel_rfl) (fun _ _ _ h => h) (by rfl) ‹_› ?_
    try simp only [Act.put, pA, pB, pC]
    refine tkO 24 hr25 rfl (by kernel_rfl) (fun _ _ _ h => h) (by rfl) ‹_› ?_
    try simp only [Act.put, pA, pB, pC]
    refine tkO 25 hr26 rfl (by kernel_rfl) (fun _ _ _ h => h) (by rfl) ‹_› ?_
    try simp only [Act.put, pA, pB, pC]
    refine tkH 26 hr27 ?_ rfl (by kernel_rfl) (fun _ _ _ h => h) (by rfl) ‹_› ?_ ?_
    rotate_left
    · intro W hSW; first | (go_simp; done) | (go_simp; with_reducible rfl)
    try simp only [Act.put, pA, pB, pC]
    refine tkH 27 hr28 ?_ rfl (by kernel_rfl) (fun _ _ _ h => h) (by rfl) ‹_› ?_ ?_
    rotate_left
    · intro W hSW; first | (go_simp; done) | (go_simp; with_reducible rfl)
    try simp only [Act.put, pA, pB, pC]
    refine tkO 28 hr29 rfl (by kernel_rfl) (fun _ _ _ h => h) (by rfl) ‹_› ?_
    try simp only [Act.put, pA, pB, pC]
    refine tkO 29 hr30 rfl (by kernel_rfl) (fun _ _ _ h => h) (by rfl) ‹_› ?_
    try simp only [Act.put, pA, pB, pC]
    refine tkO 30 hr31 rfl (by kernel_rfl) (fun _ _ _ h => h) (by rfl) ‹_› ?_
    try simp only [Act.put, pA, pB, pC]
    refine tkO 31 hr32 rfl (by kernel_rfl) (fun _ _ _ h => h) (by rfl) ‹_› ?_
    try simp only [Act.put, pA, pB, pC]
    refine tkH 32 hr33 ?_ rfl (by kernel_rfl) (fun _ _ _ h => h) (by rfl) ‹_› ?_ ?_
    rotate_left
    · intro W hSW; first | (go_simp; done) | (go_simp; with_reducible rfl)
    try simp only [Act.put, pA, pB, pC]
    refine tkH 33 hr34 ?_ rfl (by kernel_rfl) (fun _ _ _ h => h) (by rfl) ‹_› ?_ ?_
    rotate_left
    · intro W hSW; first | (go_simp; done) | (go_simp; with_reducible rfl)
    try simp only [Act.put, pA, pB, pC]
    refine tkO 34 hr35 rfl (by kernel_rfl) (fun _ _ _ h => h) (by rfl) ‹_› ?_
    try simp only [Act.put, pA, pB, pC]
    refine tkO 35 hr36 rfl (by kernel_rfl) (fun _ _ _ h => h) (by rfl) ‹_› ?_
    try simp only [Act.put, pA, pB, pC]
    refine tkO 36 hr37 rfl (by kernel_rfl) (fun _ _ _ h => h) (by rfl) ‹_› ?_
    try simp only [Act.put, pA, pB, pC]
    refine tkO 37 hr38 rfl (by kernel_rfl) (fun _ _ _ h => h) (by rfl) ‹_› ?_
    try simp only [Act.put, pA, pB, pC]
    refine tkO 38 hr39 rfl (by kernel_rfl) (fun _ _ _ h => h) (by rfl) ‹_› ?_
    try simp only [Act.put, pA, pB, pC]
    refine tkO 39 hr40 rfl (by kernel_rfl) (fun _ _ _ h => h) (by rfl) ‹_› ?_
    try simp only [Act.put, pA, pB, pC]
    refine tkO 40 hr41 rfl (by kernel_rfl) (fun _ _ _ h => h) (by rfl) ‹_› ?_
    try simp only [Act.put, pA, pB, pC]
    refine tkO 41 hr42 rfl (by kernel_rfl) (fun _ _ _ h => h) (by rfl) ‹_› ?_
    try simp only [Act.put, pA, pB, pC]
    refine tkO 42 hr43 rfl (by kernel_rfl) (fun _ _ _ h => h) (by rfl) ‹_› ?_
    try simp only [Act.put, pA, pB, pC]
    refine tkO 43 hr44 rfl (by kernel_rfl) (fun _ _ _ h => h) (by rfl) ‹_› ?_
    try simp only [Act.put, pA, pB, pC]
    refine tkH 44 hr45 ?_ rfl (by kernel_rfl) (fun _ _ _ h => h) (by rfl) ‹_› ?_ ?_
    rotate_left
    · intro W hSW; first | (go_simp; done) | (go_simp; with_reducible rfl)
    try simp only [Act.put, pA, pB, pC]
    refine wpAnyH_done (by kernel_rfl) ?_ _
    have hB9 := HB.out _ hRw
    clear hRw hHeld
    go_wp2
    go_ret
    exact ⟨ret_bool hf.out.symm, hB9⟩
  have hok := hide (valid_ok c0)
  have m1 : na ≤ 12 := by rw [← hna.out]; exact hok.out.2.2.2.1.2.1
  have m2 : nl ≤ 3 := by rw [← hnl.out]; exact hok.out.2.1.2.1
  have m3 : nk = nl := by rw [← hnk.out, ← hnl.out]; exact hok.out.2.1.2.2.1
  replace c0 := hide c0
  have H1 : Hid (∀ W, Below w2.heap.size w2 W → Calls Try.prog 24 #[.agg cs] W fun e w' => e = .returned (.bool true) ∧ Below W.heap.size W w') := fun W hW => by have h9 := rvalid_any (HW.out W (HB.out W hW)); rw [show validM s = true from c0.out] at h9; exact h9
  by_cases c1 : 0 ≤ arc
  rotate_left
  · have hf : Hid (r = false) := hno.out (fun h => c1 h.2.1.1)
    have t1 : decide (arc < 0) = true := by simp; omega
    clear c1 hno hyes
    have hRw : Below w2.heap.size w2 w2.drew := ⟨rfl, rfl, rfl, Nat.le_refl _, fun _ _ => rfl⟩
    refine wp_region_held_drew (S := fun W => Below w2.heap.size w2 W) (by kernel_rfl) hRw (fun hHeld => ?_)
    refine wpAnyH_take (i := 0) (oi := hr1) (v := .agg cs) rfl (by kernel_rfl) (by kernel_rfl) (by kernel_rfl) (fun _ _ _ h => h) (yields_loadV (by rfl) (.tmp 3) (by rfl) _ cs (by rfl) h7 (fun W hW => hx2.below hW)) (by assumption) ?_
    try simp only [Act.put, pA, pB, pC]
    refine wpAnyH_lone (R := fun W => Below w2.heap.size w2 W) (i := 1) (oi := hr2) (vi := .bool true) (by kernel_rfl) rfl hRw (fun _ h => h) ?_ ?_
    · intro W hW K hK
      go_simp
      refine (H1.out W hW).mono ?_
      rintro e W2 ⟨rfl, hb⟩
      go_wp2_with fail
      exact hK.out _ (below_then hW hb)
    clear hRw hHeld
    intro W9 hRw hHeld
    try simp only [Act.put, pA, pB, pC]
    refine tkH 2 hr3 ?_ rfl (by kernel_rfl) (fun _ _ _ h => h) (by rfl) ‹_› ?_ ?_
    rotate_left
    · intro W hSW; first | (go_simp; done) | (go_simp; with_reducible rfl)
    try simp only [Act.put, pA, pB, pC]
    refine tkH 3 hr4 ?_ rfl (by kernel_rfl) (fun _ _ _ h => h) (by rfl) ‹_› ?_ ?_
    rotate_left
    · intro W hSW; first | (go_simp; done) | (go_simp; with_reducible rfl)
    try simp only [Act.put, pA, pB, pC]
    refine tkH 4 hr5 ?_ rfl (by kernel_rfl) (fun _ _ _ h => h) (by rfl) ‹_› ?_ ?_
    rotate_left
    · intro W hSW; first | (go_simp; done) | (go_simp; with_reducible rfl)
    try simp only [Act.put, pA, pB, pC]
    refine tkH 5 hr6 (.bool true) rfl (by kernel_rfl) (fun _ _ _ h => h) (by rfl) ‹_› ?_ ?_
    · intro W hSW; first | (go_simp; done) | (go_simp; with_reducible rfl)
    try simp only [Act.put, pA, pB, pC]
    refine tkH 6 hr7 ?_ rfl (by kernel_rfl) (fun _ _ _ h => h) (by rfl) ‹_› ?_ ?_
    rotate_left
    · intro W hSW; first | (go_simp; done) | (go_simp; with_reducible rfl)
    try simp only [Act.put, pA, pB, pC]
    refine tkH 7 hr8 ?_ rfl (by kernel_rfl) (fun _ _ _ h => h) (by rfl) ‹_› ?_ ?_
    rotate_left
    · intro W hSW; first | (go_simp; done) | (go_simp; with_reducible rfl)
    try simp only [Act.put, pA, pB, pC]
    refine tkO 8 hr9 rfl (by kernel_rfl) (fun _ _ _ h => h) (by rfl) ‹_› ?_
    try simp only [Act.put, pA, pB, pC]
    refine tkO 9 hr10 rfl (by kernel_rfl) (fun _ _ _ h => h) (by rfl) ‹_› ?_
    try simp only [Act.put, pA, pB, pC]
    refine tkO 10 hr11 rfl (by kernel_rfl) (fun _ _ _ h => h) (by rfl) ‹_› ?_
    try simp only [Act.put, pA, pB, pC]
    refine tkO 11 hr12 rfl (by kernel_rfl) (fun _ _ _ h => h) (by rfl) ‹_› ?_
    try simp only [Act.put, pA, pB, pC]
    refine tkO 12 hr13 rfl (by kernel_rfl) (fun _ _ _ h => h) (by rfl) ‹_› ?_
    try simp only [Act.put, pA, pB, pC]
    refine tkH 13 hr14 ?_ rfl (by kernel_rfl) (fun _ _ _ h => h) (by rfl) ‹_› ?_ ?_
    rotate_left
    · intro W hSW; first | (go_simp; done) | (go_simp; with_reducible rfl)
    try simp only [Act.put, pA, pB, pC]
    refine tkH 14 hr15 ?_ rfl (by kernel_rfl) (fun _ _ _ h => h) (by rfl) ‹_› ?_ ?_
    rotate_left
    · intro W hSW; first | (go_simp; done) | (go_simp; with_reducible rfl)
    try simp only [Act.put, pA, pB, pC]
    refine tkO 15 hr16 rfl (by kernel_rfl) (fun _ _ _ h => h) (by rfl) ‹_› ?_
    try simp only [Act.put, pA, pB, pC]
    refine tkO 16 hr17 rfl (by kernel_rfl) (fun _ _ _ h => h) (by rfl) ‹_› ?_
    try simp only [Act.put, pA, pB, pC]
    refine tkO 17 hr18 rfl (by kernel_rfl) (fun _ _ _ h => h) (by rfl) ‹_› ?_
    try simp only [Act.put, pA, pB, pC]
    refine tkH 18 hr19 ?_ rfl (by kernel_rfl) (fun _ _ _ h => h) (by rfl) ‹_› ?_ ?_
    rotate_left
    · intro W hSW; first | (go_simp; done) | (go_simp; with_reducible rfl)
    try simp only [Act.put, pA, pB, pC]
    refine tkH 19 hr20 ?_ rfl (by kernel_rfl) (fun _ _ _ h => h) (by rfl) ‹_› ?_ ?_
    rotate_left
    · intro W hSW; first | (go_simp; done) | (go_simp; with_reducible rfl)
    try simp only [Act.put, pA, pB, pC]
    refine tkO 20 hr21 rfl (by kernel_rfl) (fun _ _ _ h => h) (by rfl) ‹_› ?_
    try simp only [Act.put, pA, pB, pC]
    refine tkO 21 hr22 rfl (by kernel_rfl) (fun _ _ _ h => h) (by rfl) ‹_› ?_
    try simp only [Act.put, pA, pB, pC]
    refine tkO 22 hr23 rfl (by kernel_rfl) (fun _ _ _ h => h) (by rfl) ‹_› ?_
    try simp only [Act.put, pA, pB, pC]
    refine tkO 23 hr24 rfl (by kernel_rfl) (fun _ _ _ h => h) (by rfl) ‹_› ?_
    try simp only [Act.put, pA, pB, pC]
    refine tkO 24 hr25 rfl (by kernel_rfl) (fun _ _ _ h => h) (by rfl) ‹_› ?_
    try simp only [Act.put, pA, pB, pC]
    refine tkO 25 hr26 rfl (by kernel_rfl) (fun _ _ _ h => h) (by rfl) ‹_› ?_
    try simp only [Act.put, pA, pB, pC]
    refine tkH 26 hr27 ?_ rfl (by kernel_rfl) (fun _ _ _ h => h) (by rfl) ‹_› ?_ ?_
    rotate_left
    · intro W hSW; first | (go_simp; done) | (go_simp; with_reducible rfl)
    try simp only [Act.put, pA, pB, pC]
    refine tkH 27 hr28 ?_ rfl (by kernel_rfl) (fun _ _ _ h => h) (by rfl) ‹_› ?_ ?_
    rotate_left
    · intro W hSW; first | (go_simp; done) | (go_simp; with_reducible rfl)
    try simp only [Act.put, pA, pB, pC]
    refine tkO 28 hr29 rfl (by kernel_rfl) (fun _ _ _ h => h) (by rfl) ‹_› ?_
    try simp only [Act.put, pA, pB, pC]
    refine tkO 29 hr30 rfl (by kernel_rfl) (fun _ _ _ h => h) (by rfl) ‹_› ?_
    try simp only [Act.put, pA, pB, pC]
    refine tkO 30 hr31 rfl (by kernel_rfl) (fun _ _ _ h => h) (by rfl) ‹_› ?_
    try simp only [Act.put, pA, pB, pC]
    refine tkO 31 hr32 rfl (by kernel_rfl) (fun _ _ _ h => h) (by rfl) ‹_› ?_
    try simp only [Act.put, pA, pB, pC]
    refine tkH 32 hr33 ?_ rfl (by kernel_rfl) (fun _ _ _ h => h) (by rfl) ‹_› ?_ ?_
    rotate_left
    · intro W hSW; first | (go_simp; done) | (go_simp; with_reducible rfl)
    try simp only [Act.put, pA, pB, pC]
    refine tkH 33 hr34 ?_ rfl (by kernel_rfl) (fun _ _ _ h => h) (by rfl) ‹_› ?_ ?_
    rotate_left
    · intro W hSW; first | (go_simp; done) | (go_simp; with_reducible rfl)
    try simp only [Act.put, pA, pB, pC]
    refine tkO 34 hr35 rfl (by kernel_rfl) (fun _ _ _ h => h) (by rfl) ‹_› ?_
    try simp only [Act.put, pA, pB, pC]
    refine tkO 35 hr36 rfl (by kernel_rfl) (fun _ _ _ h => h) (by rfl) ‹_› ?_
    try simp only [Act.put, pA, pB, pC]
    refine tkO 36 hr37 rfl (by kernel_rfl) (fun _ _ _ h => h) (by rfl) ‹_› ?_
    try simp only [Act.put, pA, pB, pC]
    refine tkO 37 hr38 rfl (by kernel_rfl) (fun _ _ _ h => h) (by rfl) ‹_› ?_
    try simp only [Act.put, pA, pB, pC]
    refine tkO 38 hr39 rfl (by kernel_rfl) (fun _ _ _ h => h) (by rfl) ‹_› ?_
    try simp only [Act.put, pA, pB, pC]
    refine tkO 39 hr40 rfl (by kernel_rfl) (fun _ _ _ h => h) (by rfl) ‹_› ?_
    try simp only [Act.put, pA, pB, pC]
    refine tkO 40 hr41 rfl (by kernel_rfl) (fun _ _ _ h => h) (by rfl) ‹_› ?_
    try simp only [Act.put, pA, pB, pC]
    refine tkO 41 hr42 rfl (by kernel_rfl) (fun _ _ _ h => h) (by rfl) ‹_› ?_
    try simp only [Act.put, pA, pB, pC]
    refine tkO 42 hr43 rfl (by kernel_rfl) (fun _ _ _ h => h) (by rfl) ‹_› ?_
    try simp only [Act.put, pA, pB, pC]
    refine tkO 43 hr44 rfl (by kernel_rfl) (fun _ _ _ h => h) (by rfl) ‹_› ?_
    try simp only [Act.put, pA, pB, pC]
    refine tkH 44 hr45 ?_ rfl (by kernel_rfl) (fun _ _ _ h => h) (by rfl) ‹_› ?_ ?_
    rotate_left
    · intro W hSW; first | (go_simp; done) | (go_simp; with_reducible rfl)
    try simp only [Act.put, pA, pB, pC]
    refine wpAnyH_done (by kernel_rfl) ?_ _
    have hB9 := HB.out _ hRw
    clear hRw hHeld
    go_wp2
    go_ret
    exact ⟨ret_bool hf.out.symm, hB9⟩
  obtain ⟨ai, hai⟩ : ∃ n : Nat, arc = (n : Int) := ⟨arc.toNat, by omega⟩
  subst hai
  have t1 : decide ((ai : Int) < 0) = false := by simp
  clear c1
  by_cases c2 : ai < na
  rotate_left
  · have hf : Hid (r = false) := hno.out (fun h => c2 (by have h9 := h.2.1.2; rw [hna.out] at h9; omega))
    have t2 : decide ((na : Int) ≤ (ai : Int)) = true := by simp; omega
    have n2 : na ≤ ai := by omega
    clear c2 hno hyes
    have hRw : Below w2.heap.size w2 w2.drew := ⟨rfl, rfl, rfl, Nat.le_refl _, fun _ _ => rfl⟩
    refine wp_region_held_drew (S := fun W => Below w2.heap.size w2 W) (by kernel_rfl) hRw (fun hHeld => ?_)
    refine wpAnyH_take (i := 0) (oi := hr1) (v := .agg cs) rfl (by kernel_rfl) (by kernel_rfl) (by kernel_rfl) (fun _ _ _ h => h) (yields_loadV (by rfl) (.tmp 3) (by rfl) _ cs (by rfl) h7 (fun W hW => hx2.below hW)) (by assumption) ?_
    try simp only [Act.put, pA, pB, pC]
    refine wpAnyH_lone (R := fun W => Below w2.heap.size w2 W) (i := 1) (oi := hr2) (vi := .bool true) (by kernel_rfl) rfl hRw (fun _ h => h) ?_ ?_
    · intro W hW K hK
      go_simp
      refine (H1.out W hW).mono ?_
      rintro e W2 ⟨rfl, hb⟩
      go_wp2_with fail
      exact hK.out _ (below_then hW hb)
    clear hRw hHeld
    intro W9 hRw hHeld
    try simp only [Act.put, pA, pB, pC]
    refine tkH 2 hr3 ?_ rfl (by kernel_rfl) (fun _ _ _ h => h) (by rfl) ‹_› ?_ ?_
    rotate_left
    · intro W hSW; first | (go_simp; done) | (go_simp; with_reducible rfl)
    try simp only [Act.put, pA, pB, pC]
    refine tkH 3 hr4 ?_ rfl (by kernel_rfl) (fun _ _ _ h => h) (by rfl) ‹_› ?_ ?_
    rotate_left
    · intro W hSW; first | (go_simp; done) | (go_simp; with_reducible rfl)
    try simp only [Act.put, pA, pB, pC]
    refine tkH 4 hr5 ?_ rfl (by kernel_rfl) (fun _ _ _ h => h) (by rfl) ‹_› ?_ ?_
    rotate_left
    · intro W hSW; first | (go_simp; done) | (go_simp; with_reducible rfl)
    try simp only [Act.put, pA, pB, pC]
    refine tkH 5 hr6 (.bool false) rfl (by kernel_rfl) (fun _ _ _ h => h) (by rfl) ‹_› ?_ ?_
    · intro W hSW; first | (go_simp; done) | (go_simp; with_reducible rfl)
    try simp only [Act.put, pA, pB, pC]
    refine tkH 6 hr7 ?_ rfl (by kernel_rfl) (fun _ _ _ h => h) (by rfl) ‹_› ?_ ?_
    rotate_left
    · intro W hSW; first | (go_simp; done) | (go_simp; with_reducible rfl)
    try simp only [Act.put, pA, pB, pC]
    refine tkH 7 hr8 ?_ rfl (by kernel_rfl) (fun _ _ _ h => h) (by rfl) ‹_› ?_ ?_
    rotate_left
    · intro W hSW; first | (go_simp; done) | (go_simp; with_reducible rfl)
    try simp only [Act.put, pA, pB, pC]
    refine tkH 8 hr9 ?_ rfl (by kernel_rfl) (fun _ _ _ h => h) (by rfl) ‹_› ?_ ?_
    rotate_left
    · intro W hSW; first | (go_simp; done) | (go_simp; with_reducible rfl)
    try simp only [Act.put, pA, pB, pC]
    refine tkH 9 hr10 ?_ rfl (by kernel_rfl) (fun _ _ _ h => h) (by rfl) ‹_› ?_ ?_
    rotate_left
    · intro W hSW; first | (go_simp; done) | (go_simp; with_reducible rfl)
    try simp only [Act.put, pA, pB, pC]
    refine tkH 10 hr11 ?_ rfl (by kernel_rfl) (fun _ _ _ h => h) (by rfl) ‹_› ?_ ?_
    rotate_left
    · intro W hSW; have z0 := cell_on hSW x2; have z1 := cell_on hSW x3; have z2 := cell_on hSW x4; have z3 := cell_on hSW y0; have z4 := cell_on hSW y1; have z5 := cell_on hSW y2; have z6 := cell_on hSW y3; first | (go_simp; done) | (go_simp; with_reducible rfl)
    try simp only [Act.put, pA, pB, pC]
    refine tkH 11 hr12 ?_ rfl (by kernel_rfl) (fun _ _ _ h => h) (by rfl) ‹_› ?_ ?_
    rotate_left
    · intro W hSW; first | (go_simp; done) | (go_simp; with_reducible rfl)
    try simp only [Act.put, pA, pB, pC]
    refine tkH 12 hr13 (.bool true) rfl (by kernel_rfl) (fun _ _ _ h => h) (by rfl) ‹_› ?_ ?_
    · intro W hSW; first | (go_simp; done) | (go_simp; with_reducible rfl)
    try simp only [Act.put, pA, pB, pC]
    refine tkH 13 hr14 ?_ rfl (by kernel_rfl) (fun _ _ _ h => h) (by rfl) ‹_› ?_ ?_
    rotate_left
    · intro W hSW; first | (go_simp; done) | (go_simp; with_reducible rfl)
    try simp only [Act.put, pA, pB, pC]
    refine tkH 14 hr15 ?_ rfl (by kernel_rfl) (fun _ _ _ h => h) (by rfl) ‹_› ?_ ?_
    rotate_left
    · intro W hSW; first | (go_simp; done) | (go_simp; with_reducible rfl)
    try simp only [Act.put, pA, pB, pC]
    refine tkO 15 hr16 rfl (by kernel_rfl) (fun _ _ _ h => h) (by rfl) ‹_› ?_
    try simp only [Act.put, pA, pB, pC]
    refine tkO 16 hr17 rfl (by kernel_rfl) (fun _ _ _ h => h) (by rfl) ‹_› ?_
    try simp only [Act.put, pA, pB, pC]
    refine tkO 17 hr18 rfl (by kernel_rfl) (fun _ _ _ h => h) (by rfl) ‹_› ?_
    try simp only [Act.put, pA, pB, pC]
    refine tkH 18 hr19 ?_ rfl (by kernel_rfl) (fun _ _ _ h => h) (by rfl) ‹_› ?_ ?_
    rotate_left
    · intro W hSW; first | (go_simp; done) | (go_simp; with_reducible rfl)
    try simp only [Act.put, pA, pB, pC]
    refine tkH 19 hr20 ?_ rfl (by kernel_rfl) (fun _ _ _ h => h) (by rfl) ‹_› ?_ ?_
    rotate_left
    · intro W hSW; first | (go_simp; done) | (go_simp; with_reducible rfl)
    try simp only [Act.put, pA, pB, pC]
    refine tkO 20 hr21 rfl (by kernel_rfl) (fun _ _ _ h => h) (by rfl) ‹_› ?_
    try simp only [Act.put, pA, pB, pC]
    refine tkO 21 hr22 rfl (by kernel_rfl) (fun _ _ _ h => h) (by rfl) ‹_› ?_
    try simp only [Act.put, pA, pB, pC]
    refine tkO 22 hr23 rfl (by kernel_rfl) (fun _ _ _ h => h) (by rfl) ‹_› ?_
    try simp only [Act.put, pA, pB, pC]
    refine tkO 23 hr24 rfl (by kernel_rfl) (fun _ _ _ h => h) (by rfl) ‹_› ?_
    try simp only [Act.put, pA, pB, pC]
    refine tkO 24 hr25 rfl (by kernel_rfl) (fun _ _ _ h => h) (by rfl) ‹_› ?_
    try simp only [Act.put, pA, pB, pC]
    refine tkO 25 hr26 rfl (by kernel_rfl) (fun _ _ _ h => h) (by rfl) ‹_› ?_
    try simp only [Act.put, pA, pB, pC]
    refine tkH 26 hr27 ?_ rfl (by kernel_rfl) (fun _ _ _ h => h) (by rfl) ‹_› ?_ ?_
    rotate_left
    · intro W hSW; first | (go_simp; done) | (go_simp; with_reducible rfl)
    try simp only [Act.put, pA, pB, pC]
    refine tkH 27 hr28 ?_ rfl (by kernel_rfl) (fun _ _ _ h => h) (by rfl) ‹_› ?_ ?_
    rotate_left
    · intro W hSW; first | (go_simp; done) | (go_simp; with_reducible rfl)
    try simp only [Act.put, pA, pB, pC]
    refine tkO 28 hr29 rfl (by kernel_rfl) (fun _ _ _ h => h) (by rfl) ‹_› ?_
    try simp only [Act.put, pA, pB, pC]
    refine tkO 29 hr30 rfl (by kernel_rfl) (fun _ _ _ h => h) (by rfl) ‹_› ?_
    try simp only [Act.put, pA, pB, pC]
    refine tkO 30 hr31 rfl (by kernel_rfl) (fun _ _ _ h => h) (by rfl) ‹_› ?_
    try simp only [Act.put, pA, pB, pC]
    refine tkO 31 hr32 rfl (by kernel_rfl) (fun _ _ _ h => h) (by rfl) ‹_› ?_
    try simp only [Act.put, pA, pB, pC]
    refine tkH 32 hr33 ?_ rfl (by kernel_rfl) (fun _ _ _ h => h) (by rfl) ‹_› ?_ ?_
    rotate_left
    · intro W hSW; first | (go_simp; done) | (go_simp; with_reducible rfl)
    try simp only [Act.put, pA, pB, pC]
    refine tkH 33 hr34 ?_ rfl (by kernel_rfl) (fun _ _ _ h => h) (by rfl) ‹_› ?_ ?_
    rotate_left
    · intro W hSW; first | (go_simp; done) | (go_simp; with_reducible rfl)
    try simp only [Act.put, pA, pB, pC]
    refine tkO 34 hr35 rfl (by kernel_rfl) (fun _ _ _ h => h) (by rfl) ‹_› ?_
    try simp only [Act.put, pA, pB, pC]
    refine tkO 35 hr36 rfl (by kernel_rfl) (fun _ _ _ h => h) (by rfl) ‹_› ?_
    try simp only [Act.put, pA, pB, pC]
    refine tkO 36 hr37 rfl (by kernel_rfl) (fun _ _ _ h => h) (by rfl) ‹_› ?_
    try simp only [Act.put, pA, pB, pC]
    refine tkO 37 hr38 rfl (by kernel_rfl) (fun _ _ _ h => h) (by rfl) ‹_› ?_
    try simp only [Act.put, pA, pB, pC]
    refine tkO 38 hr39 rfl (by kernel_rfl) (fun _ _ _ h => h) (by rfl) ‹_› ?_
    try simp only [Act.put, pA, pB, pC]
    refine tkO 39 hr40 rfl (by kernel_rfl) (fun _ _ _ h => h) (by rfl) ‹_› ?_
    try simp only [Act.put, pA, pB, pC]
    refine tkO 40 hr41 rfl (by kernel_rfl) (fun _ _ _ h => h) (by rfl) ‹_› ?_
    try simp only [Act.put, pA, pB, pC]
    refine tkO 41 hr42 rfl (by kernel_rfl) (fun _ _ _ h => h) (by rfl) ‹_› ?_
    try simp only [Act.put, pA, pB, pC]
    refine tkO 42 hr43 rfl (by kernel_rfl) (fun _ _ _ h => h) (by rfl) ‹_› ?_
    try simp only [Act.put, pA, pB, pC]
    refine tkO 43 hr44 rfl (by kernel_rfl) (fun _ _ _ h => h) (by rfl) ‹_› ?_
    try simp only [Act.put, pA, pB, pC]
    refine tkH 44 hr45 ?_ rfl (by kernel_rfl) (fun _ _ _ h => h) (by rfl) ‹_› ?_ ?_
    rotate_left
    · intro W hSW; first | (go_simp; done) | (go_simp; with_reducible rfl)
    try simp only [Act.put, pA, pB, pC]
    refine wpAnyH_done (by kernel_rfl) ?_ _
    have hB9 := HB.out _ hRw
    clear hRw hHeld
    go_wp2
    go_ret
    exact ⟨ret_bool hf.out.symm, hB9⟩
  have t2 : decide ((na : Int) ≤ (ai : Int)) = false := by simp; omega
  by_cases c3 : 0 ≤ K.lock
  rotate_left
  · have hf : Hid (r = false) := hno.out (fun h => c3 h.2.2.1.1)
    have t3 : decide (K.lock < 0) = true := by simp; omega
    clear c3 hno hyes
    have hRw : Below w2.heap.size w2 w2.drew := ⟨rfl, rfl, rfl, Nat.le_refl _, fun _ _ => rfl⟩
    refine wp_region_held_drew (S := fun W => Below w2.heap.size w2 W) (by kernel_rfl) hRw (fun hHeld => ?_)
    refine wpAnyH_take (i := 0) (oi := hr1) (v := .agg cs) rfl (by kernel_rfl) (by kernel_rfl) (by kernel_rfl) (fun _ _ _ h => h) (yields_loadV (by rfl) (.tmp 3) (by rfl) _ cs (by rfl) h7 (fun W hW => hx2.below hW)) (by assumption) ?_
    try simp only [Act.put, pA, pB, pC]
    refine wpAnyH_lone (R := fun W => Below w2.heap.size w2 W) (i := 1) (oi := hr2) (vi := .bool true) (by kernel_rfl) rfl hRw (fun _ h => h) ?_ ?_
    · intro W hW K hK
      go_simp
      refine (H1.out W hW).mono ?_
      rintro e W2 ⟨rfl, hb⟩
      go_wp2_with fail
      exact hK.out _ (below_then hW hb)
    clear hRw hHeld
    intro W9 hRw hHeld
    try simp only [Act.put, pA, pB, pC]
    refine tkH 2 hr3 ?_ rfl (by kernel_rfl) (fun _ _ _ h => h) (by rfl) ‹_› ?_ ?_
    rotate_left
    · intro W hSW; first | (go_simp; done) | (go_simp; with_reducible rfl)
    try simp only [Act.put, pA, pB, pC]
    refine tkH 3 hr4 ?_ rfl (by kernel_rfl) (fun _ _ _ h => h) (by rfl) ‹_› ?_ ?_
    rotate_left
    · intro W hSW; first | (go_simp; done) | (go_simp; with_reducible rfl)
    try simp only [Act.put, pA, pB, pC]
    refine tkH 4 hr5 ?_ rfl (by kernel_rfl) (fun _ _ _ h => h) (by rfl) ‹_› ?_ ?_
    rotate_left
    · intro W hSW; first | (go_simp; done) | (go_simp; with_reducible rfl)
    try simp only [Act.put, pA, pB, pC]
    refine tkH 5 hr6 (.bool false) rfl (by kernel_rfl) (fun _ _ _ h => h) (by rfl) ‹_› ?_ ?_
    · intro W hSW; first | (go_simp; done) | (go_simp; with_reducible rfl)
    try simp only [Act.put, pA, pB, pC]
    refine tkH 6 hr7 ?_ rfl (by kernel_rfl) (fun _ _ _ h => h) (by rfl) ‹_› ?_ ?_
    rotate_left
    · intro W hSW; first | (go_simp; done) | (go_simp; with_reducible rfl)
    try simp only [Act.put, pA, pB, pC]
    refine tkH 7 hr8 ?_ rfl (by kernel_rfl) (fun _ _ _ h => h) (by rfl) ‹_› ?_ ?_
    rotate_left
    · intro W hSW; first | (go_simp; done) | (go_simp; with_reducible rfl)
    try simp only [Act.put, pA, pB, pC]
    refine tkH 8 hr9 ?_ rfl (by kernel_rfl) (fun _ _ _ h => h) (by rfl) ‹_› ?_ ?_
    rotate_left
    · intro W hSW; first | (go_simp; done) | (go_simp; with_reducible rfl)
    try simp only [Act.put, pA, pB, pC]
    refine tkH 9 hr10 ?_ rfl (by kernel_rfl) (fun _ _ _ h => h) (by rfl) ‹_› ?_ ?_
    rotate_left
    · intro W hSW; first | (go_simp; done) | (go_simp; with_reducible rfl)
    try simp only [Act.put, pA, pB, pC]
    refine tkH 10 hr11 ?_ rfl (by kernel_rfl) (fun _ _ _ h => h) (by rfl) ‹_› ?_ ?_
    rotate_left
    · intro W hSW; have z0 := cell_on hSW x2; have z1 := cell_on hSW x3; have z2 := cell_on hSW x4; have z3 := cell_on hSW y0; have z4 := cell_on hSW y1; have z5 := cell_on hSW y2; have z6 := cell_on hSW y3; first | (go_simp; done) | (go_simp; with_reducible rfl)
    try simp only [Act.put, pA, pB, pC]
    refine tkH 11 hr12 ?_ rfl (by kernel_rfl) (fun _ _ _ h => h) (by rfl) ‹_› ?_ ?_
    rotate_left
    · intro W hSW; first | (go_simp; done) | (go_simp; with_reducible rfl)
    try simp only [Act.put, pA, pB, pC]
    refine tkH 12 hr13 (.bool false) rfl (by kernel_rfl) (fun _ _ _ h => h) (by rfl) ‹_› ?_ ?_
    · intro W hSW; first | (go_simp; done) | (go_simp; with_reducible rfl)
    try simp only [Act.put, pA, pB, pC]
    refine tkH 13 hr14 ?_ rfl (by kernel_rfl) (fun _ _ _ h => h) (by rfl) ‹_› ?_ ?_
    rotate_left
    · intro W hSW; first | (go_simp; done) | (go_simp; with_reducible rfl)
    try simp only [Act.put, pA, pB, pC]
    refine tkH 14 hr15 ?_ rfl (by kernel_rfl) (fun _ _ _ h => h) (by rfl) ‹_› ?_ ?_
    rotate_left
    · intro W hSW; first | (go_simp; done) | (go_simp; with_reducible rfl)
    try simp only [Act.put, pA, pB, pC]
    refine tkH 15 hr16 ?_ rfl (by kernel_rfl) (fun _ _ _ h => h) (by rfl) ‹_› ?_ ?_
    rotate_left
    · intro W hSW; first | (go_simp; done) | (go_simp; with_reducible rfl)
    try simp only [Act.put, pA, pB, pC]
    refine tkH 16 hr17 ?_ rfl (by kernel_rfl) (fun _ _ _ h => h) (by rfl) ‹_› ?_ ?_
    rotate_left
    · intro W hSW; have z0 := cell_on hSW x2; have z1 := cell_on hSW x3; have z2 := cell_on hSW x4; have z3 := cell_on hSW y0; have z4 := cell_on hSW y1; have z5 := cell_on hSW y2; have z6 := cell_on hSW y3; first | (go_simp; done) | (go_simp; with_reducible rfl)
    try simp only [Act.put, pA, pB, pC]
    refine tkH 17 hr18 (.bool true) rfl (by kernel_rfl) (fun _ _ _ h => h) (by rfl) ‹_› ?_ ?_
    · intro W hSW; first | (go_simp; done) | (go_simp; with_reducible rfl)
    try simp only [Act.put, pA, pB, pC]
    refine tkH 18 hr19 ?_ rfl (by kernel_rfl) (fun _ _ _ h => h) (by rfl) ‹_› ?_ ?_
    rotate_left
    · intro W hSW; first | (go_simp; done) | (go_simp; with_reducible rfl)
    try simp only [Act.put, pA, pB, pC]
    refine tkH 19 hr20 ?_ rfl (by kernel_rfl) (fun _ _ _ h => h) (by rfl) ‹_› ?_ ?_
    rotate_left
    · intro W hSW; first | (go_simp; done) | (go_simp; with_reducible rfl)
    try simp only [Act.put, pA, pB, pC]
    refine tkO 20 hr21 rfl (by kernel_rfl) (fun _ _ _ h => h) (by rfl) ‹_› ?_
    try simp only [Act.put, pA, pB, pC]
    refine tkO 21 hr22 rfl (by kernel_rfl) (fun _ _ _ h => h) (by rfl) ‹_› ?_
    try simp only [Act.put, pA, pB, pC]
    refine tkO 22 hr23 rfl (by kernel_rfl) (fun _ _ _ h => h) (by rfl) ‹_› ?_
    try simp only [Act.put, pA, pB, pC]
    refine tkO 23 hr24 rfl (by kernel_rfl) (fun _ _ _ h => h) (by rfl) ‹_› ?_
    try simp only [Act.put, pA, pB, pC]
    refine tkO 24 hr25 rfl (by kernel_rfl) (fun _ _ _ h => h) (by rfl) ‹_› ?_
    try simp only [Act.put, pA, pB, pC]
    refine tkO 25 hr26 rfl (by kernel_rfl) (fun _ _ _ h => h) (by rfl) ‹_› ?_
    try simp only [Act.put, pA, pB, pC]
    refine tkH 26 hr27 ?_ rfl (by kernel_rfl) (fun _ _ _ h => h) (by rfl) ‹_› ?_ ?_
    rotate_left
    · intro W hSW; first | (go_simp; done) | (go_simp; with_reducible rfl)
    try simp only [Act.put, pA, pB, pC]
    refine tkH 27 hr28 ?_ rfl (by kernel_rfl) (fun _ _ _ h => h) (by rfl) ‹_› ?_ ?_
    rotate_left
    · intro W hSW; first | (go_simp; done) | (go_simp; with_reducible rfl)
    try simp only [Act.put, pA, pB, pC]
    refine tkO 28 hr29 rfl (by kernel_rfl) (fun _ _ _ h => h) (by rfl) ‹_› ?_
    try simp only [Act.put, pA, pB, pC]
    refine tkO 29 hr30 rfl (by kernel_rfl) (fun _ _ _ h => h) (by rfl) ‹_› ?_
    try simp only [Act.put, pA, pB, pC]
    refine tkO 30 hr31 rfl (by kernel_rfl) (fun _ _ _ h => h) (by rfl) ‹_› ?_
    try simp only [Act.put, pA, pB, pC]
    refine tkO 31 hr32 rfl (by kernel_rfl) (fun _ _ _ h => h) (by rfl) ‹_› ?_
    try simp only [Act.put, pA, pB, pC]
    refine tkH 32 hr33 ?_ rfl (by kernel_rfl) (fun _ _ _ h => h) (by rfl) ‹_› ?_ ?_
    rotate_left
    · intro W hSW; first | (go_simp; done) | (go_simp; with_reducible rfl)
    try simp only [Act.put, pA, pB, pC]
    refine tkH 33 hr34 ?_ rfl (by kernel_rfl) (fun _ _ _ h => h) (by rfl) ‹_› ?_ ?_
    rotate_left
    · intro W hSW; first | (go_simp; done) | (go_simp; with_reducible rfl)
    try simp only [Act.put, pA, pB, pC]
    refine tkO 34 hr35 rfl (by kernel_rfl) (fun _ _ _ h => h) (by rfl) ‹_› ?_
    try simp only [Act.put, pA, pB, pC]
    refine tkO 35 hr36 rfl (by kernel_rfl) (fun _ _ _ h => h) (by rfl) ‹_› ?_
    try simp only [Act.put, pA, pB, pC]
    refine tkO 36 hr37 rfl (by kernel_rfl) (fun _ _ _ h => h) (by rfl) ‹_› ?_
    try simp only [Act.put, pA, pB, pC]
    refine tkO 37 hr38 rfl (by kernel_rfl) (fun _ _ _ h => h) (by rfl) ‹_› ?_
    try simp only [Act.put, pA, pB, pC]
    refine tkO 38 hr39 rfl (by kernel_rfl) (fun _ _ _ h => h) (by rfl) ‹_› ?_
    try simp only [Act.put, pA, pB, pC]
    refine tkO 39 hr40 rfl (by kernel_rfl) (fun _ _ _ h => h) (by rfl) ‹_› ?_
    try simp only [Act.put, pA, pB, pC]
    refine tkO 40 hr41 rfl (by kernel_rfl) (fun _ _ _ h => h) (by rfl) ‹_› ?_
    try simp only [Act.put, pA, pB, pC]
    refine tkO 41 hr42 rfl (by kernel_rfl) (fun _ _ _ h => h) (by rfl) ‹_› ?_
    try simp only [Act.put, pA, pB, pC]
    refine tkO 42 hr43 rfl (by kernel_rfl) (fun _ _ _ h => h) (by rfl) ‹_› ?_
    try simp only [Act.put, pA, pB, pC]
    refine tkO 43 hr44 rfl (by kernel_rfl) (fun _ _ _ h => h) (by rfl) ‹_› ?_
    try simp only [Act.put, pA, pB, pC]
    refine tkH 44 hr45 ?_ rfl (by kernel_rfl) (fun _ _ _ h => h) (by rfl) ‹_› ?_ ?_
    rotate_left
    · intro W hSW; first | (go_simp; done) | (go_simp; with_reducible rfl)
    try simp only [Act.put, pA, pB, pC]
    refine wpAnyH_done (by kernel_rfl) ?_ _
    have hB9 := HB.out _ hRw
    clear hRw hHeld
    go_wp2
    go_ret
    exact ⟨ret_bool hf.out.symm, hB9⟩
  obtain ⟨lk, hlk⟩ : ∃ n : Nat, K.lock = (n : Int) := ⟨K.lock.toNat, by omega⟩
  have hlkt : K.lock.toNat = lk := by omega
  rw [hlk] at y0
  have t3 : decide ((lk : Int) < 0) = false := by simp
  replace hlk := hide hlk
  replace hlkt := hide hlkt
  clear c3
  by_cases c4 : lk < nl
  rotate_left
  · have hf : Hid (r = false) := hno.out (fun h => c4 (by have h9 := h.2.2.1.2; rw [hnk.out, hlk.out] at h9; omega))
    have t4 : decide ((nl : Int) ≤ (lk : Int)) = true := by simp; omega
    have n4 : nl ≤ lk := by omega
    clear c4 hno hyes
    have hRw : Below w2.heap.size w2 w2.drew := ⟨rfl, rfl, rfl, Nat.le_refl _, fun _ _ => rfl⟩
    refine wp_region_held_drew (S := fun W => Below w2.heap.size w2 W) (by kernel_rfl) hRw (fun hHeld => ?_)
    refine wpAnyH_take (i := 0) (oi := hr1) (v := .agg cs) rfl (by kernel_rfl) (by kernel_rfl) (by kernel_rfl) (fun _ _ _ h => h) (yields_loadV (by rfl) (.tmp 3) (by rfl) _ cs (by rfl) h7 (fun W hW => hx2.below hW)) (by assumption) ?_
    try simp only [Act.put, pA, pB, pC]
    refine wpAnyH_lone (R := fun W => Below w2.heap.size w2 W) (i := 1) (oi := hr2) (vi := .bool true) (by kernel_rfl) rfl hRw (fun _ h => h) ?_ ?_
    · intro W hW K hK
      go_simp
      refine (H1.out W hW).mono ?_
      rintro e W2 ⟨rfl, hb⟩
      go_wp2_with fail
      exact hK.out _ (below_then hW hb)
    clear hRw hHeld
    intro W9 hRw hHeld
    try simp only [Act.put, pA, pB, pC]
    refine tkH 2 hr3 ?_ rfl (by kernel_rfl) (fun _ _ _ h => h) (by rfl) ‹_› ?_ ?_
    rotate_left
    · intro W hSW; first | (go_simp; done) | (go_simp; with_reducible rfl)
    try simp only [Act.put, pA, pB, pC]
    refine tkH 3 hr4 ?_ rfl (by kernel_rfl) (fun _ _ _ h => h) (by rfl) ‹_› ?_ ?_
    rotate_left
    · intro W hSW; first | (go_simp; done) | (go_simp; with_reducible rfl)
    try simp only [Act.put, pA, pB, pC]
    refine tkH 4 hr5 ?_ rfl (by kernel_rfl) (fun _ _ _ h => h) (by rfl) ‹_› ?_ ?_
    rotate_left
    · intro W hSW; first | (go_simp; done) | (go_simp; with_reducible rfl)
    try simp only [Act.put, pA, pB, pC]
    refine tkH 5 hr6 (.bool false) rfl (by kernel_rfl) (fun _ _ _ h => h) (by rfl) ‹_› ?_ ?_
    · intro W hSW; first | (go_simp; done) | (go_simp; with_reducible rfl)
    try simp only [Act.put, pA, pB, pC]
    refine tkH 6 hr7 ?_ rfl (by kernel_rfl) (fun _ _ _ h => h) (by rfl) ‹_› ?_ ?_
    rotate_left
    · intro W hSW; first | (go_simp; done) | (go_simp; with_reducible rfl)
    try simp only [Act.put, pA, pB, pC]
    refine tkH 7 hr8 ?_ rfl (by kernel_rfl) (fun _ _ _ h => h) (by rfl) ‹_› ?_ ?_
    rotate_left
    · intro W hSW; first | (go_simp; done) | (go_simp; with_reducible rfl)
    try simp only [Act.put, pA, pB, pC]
    refine tkH 8 hr9 ?_ rfl (by kernel_rfl) (fun _ _ _ h => h) (by rfl) ‹_› ?_ ?_
    rotate_left
    · intro W hSW; first | (go_simp; done) | (go_simp; with_reducible rfl)
    try simp only [Act.put, pA, pB, pC]
    refine tkH 9 hr10 ?_ rfl (by kernel_rfl) (fun _ _ _ h => h) (by rfl) ‹_› ?_ ?_
    rotate_left
    · intro W hSW; first | (go_simp; done) | (go_simp; with_reducible rfl)
    try simp only [Act.put, pA, pB, pC]
    refine tkH 10 hr11 ?_ rfl (by kernel_rfl) (fun _ _ _ h => h) (by rfl) ‹_› ?_ ?_
    rotate_left
    · intro W hSW; have z0 := cell_on hSW x2; have z1 := cell_on hSW x3; have z2 := cell_on hSW x4; have z3 := cell_on hSW y0; have z4 := cell_on hSW y1; have z5 := cell_on hSW y2; have z6 := cell_on hSW y3; first | (go_simp; done) | (go_simp; with_reducible rfl)
    try simp only [Act.put, pA, pB, pC]
    refine tkH 11 hr12 ?_ rfl (by kernel_rfl) (fun _ _ _ h => h) (by rfl) ‹_› ?_ ?_
    rotate_left
    · intro W hSW; first | (go_simp; done) | (go_simp; with_reducible rfl)
    try simp only [Act.put, pA, pB, pC]
    refine tkH 12 hr13 (.bool false) rfl (by kernel_rfl) (fun _ _ _ h => h) (by rfl) ‹_› ?_ ?_
    · intro W hSW; first | (go_simp; done) | (go_simp; with_reducible rfl)
    try simp only [Act.put, pA, pB, pC]
    refine tkH 13 hr14 ?_ rfl (by kernel_rfl) (fun _ _ _ h => h) (by rfl) ‹_› ?_ ?_
    rotate_left
    · intro W hSW; first | (go_simp; done) | (go_simp; with_reducible rfl)
    try simp only [Act.put, pA, pB, pC]
    refine tkH 14 hr15 ?_ rfl (by kernel_rfl) (fun _ _ _ h => h) (by rfl) ‹_› ?_ ?_
    rotate_left
    · intro W hSW; first | (go_simp; done) | (go_simp; with_reducible rfl)
    try simp only [Act.put, pA, pB, pC]
    refine tkH 15 hr16 ?_ rfl (by kernel_rfl) (fun _ _ _ h => h) (by rfl) ‹_› ?_ ?_
    rotate_left
    · intro W hSW; first | (go_simp; done) | (go_simp; with_reducible rfl)
    try simp only [Act.put, pA, pB, pC]
    refine tkH 16 hr17 ?_ rfl (by kernel_rfl) (fun _ _ _ h => h) (by rfl) ‹_› ?_ ?_
    rotate_left
    · intro W hSW; have z0 := cell_on hSW x2; have z1 := cell_on hSW x3; have z2 := cell_on hSW x4; have z3 := cell_on hSW y0; have z4 := cell_on hSW y1; have z5 := cell_on hSW y2; have z6 := cell_on hSW y3; first | (go_simp; done) | (go_simp; with_reducible rfl)
    try simp only [Act.put, pA, pB, pC]
    refine tkH 17 hr18 (.bool false) rfl (by kernel_rfl) (fun _ _ _ h => h) (by rfl) ‹_› ?_ ?_
    · intro W hSW; first | (go_simp; done) | (go_simp; with_reducible rfl)
    try simp only [Act.put, pA, pB, pC]
    refine tkH 18 hr19 ?_ rfl (by kernel_rfl) (fun _ _ _ h => h) (by rfl) ‹_› ?_ ?_
    rotate_left
    · intro W hSW; first | (go_simp; done) | (go_simp; with_reducible rfl)
    try simp only [Act.put, pA, pB, pC]
    refine tkH 19 hr20 ?_ rfl (by kernel_rfl) (fun _ _ _ h => h) (by rfl) ‹_› ?_ ?_
    rotate_left
    · intro W hSW; first | (go_simp; done) | (go_simp; with_reducible rfl)
    try simp only [Act.put, pA, pB, pC]
    refine tkH 20 hr21 ?_ rfl (by kernel_rfl) (fun _ _ _ h => h) (by rfl) ‹_› ?_ ?_
    rotate_left
    · intro W hSW; first | (go_simp; done) | (go_simp; with_reducible rfl)
    try simp only [Act.put, pA, pB, pC]
    refine tkH 21 hr22 ?_ rfl (by kernel_rfl) (fun _ _ _ h => h) (by rfl) ‹_› ?_ ?_
    rotate_left
    · intro W hSW; have z0 := cell_on hSW x2; have z1 := cell_on hSW x3; have z2 := cell_on hSW x4; have z3 := cell_on hSW y0; have z4 := cell_on hSW y1; have z5 := cell_on hSW y2; have z6 := cell_on hSW y3; first | (go_simp; done) | (go_simp; with_reducible rfl)
    try simp only [Act.put, pA, pB, pC]
    refine tkH 22 hr23 ?_ rfl (by kernel_rfl) (fun _ _ _ h => h) (by rfl) ‹_› ?_ ?_
    rotate_left
    · intro W hSW; first | (go_simp; done) | (go_simp; with_reducible rfl)
    try simp only [Act.put, pA, pB, pC]
    refine tkH 23 hr24 ?_ rfl (by kernel_rfl) (fun _ _ _ h => h) (by rfl) ‹_› ?_ ?_
    rotate_left
    · intro W hSW; have z0 := cell_on hSW x2; have z1 := cell_on hSW x3; have z2 := cell_on hSW x4; have z3 := cell_on hSW y0; have z4 := cell_on hSW y1; have z5 := cell_on hSW y2; have z6 := cell_on hSW y3; first | (go_simp; done) | (go_simp; with_reducible rfl)
    try simp only [Act.put, pA, pB, pC]
    refine tkH 24 hr25 ?_ rfl (by kernel_rfl) (fun _ _ _ h => h) (by rfl) ‹_› ?_ ?_
    rotate_left
    · intro W hSW; first | (go_simp; done) | (go_simp; with_reducible rfl)
    try simp only [Act.put, pA, pB, pC]
    refine tkH 25 hr26 (.bool true) rfl (by kernel_rfl) (fun _ _ _ h => h) (by rfl) ‹_› ?_ ?_
    · intro W hSW; first | (go_simp; done) | (go_simp; with_reducible rfl)
    try simp only [Act.put, pA, pB, pC]
    refine tkH 26 hr27 ?_ rfl (by kernel_rfl) (fun _ _ _ h => h) (by rfl) ‹_› ?_ ?_
    rotate_left
    · intro W hSW; first | (go_simp; done) | (go_simp; with_reducible rfl)
    try simp only [Act.put, pA, pB, pC]
    refine tkH 27 hr28 ?_ rfl (by kernel_rfl) (fun _ _ _ h => h) (by rfl) ‹_› ?_ ?_
    rotate_left
    · intro W hSW; first | (go_simp; done) | (go_simp; with_reducible rfl)
    try simp only [Act.put, pA, pB, pC]
    refine tkO 28 hr29 rfl (by kernel_rfl) (fun _ _ _ h => h) (by rfl) ‹_› ?_
    try simp only [Act.put, pA, pB, pC]
    refine tkO 29 hr30 rfl (by kernel_rfl) (fun _ _ _ h => h) (by rfl) ‹_› ?_
    try simp only [Act.put, pA, pB, pC]
    refine tkO 30 hr31 rfl (by kernel_rfl) (fun _ _ _ h => h) (by rfl) ‹_› ?_
    try simp only [Act.put, pA, pB, pC]
    refine tkO 31 hr32 rfl (by kernel_rfl) (fun _ _ _ h => h) (by rfl) ‹_› ?_
    try simp only [Act.put, pA, pB, pC]
    refine tkH 32 hr33 ?_ rfl (by kernel_rfl) (fun _ _ _ h => h) (by rfl) ‹_› ?_ ?_
    rotate_left
    · intro W hSW; first | (go_simp; done) | (go_simp; with_reducible rfl)
    try simp only [Act.put, pA, pB, pC]
    refine tkH 33 hr34 ?_ rfl (by kernel_rfl) (fun _ _ _ h => h) (by rfl) ‹_› ?_ ?_
    rotate_left
    · intro W hSW; first | (go_simp; done) | (go_simp; with_reducible rfl)
    try simp only [Act.put, pA, pB, pC]
    refine tkO 34 hr35 rfl (by kernel_rfl) (fun _ _ _ h => h) (by rfl) ‹_› ?_
    try simp only [Act.put, pA, pB, pC]
    refine tkO 35 hr36 rfl (by kernel_rfl) (fun _ _ _ h => h) (by rfl) ‹_› ?_
    try simp only [Act.put, pA, pB, pC]
    refine tkO 36 hr37 rfl (by kernel_rfl) (fun _ _ _ h => h) (by rfl) ‹_› ?_
    try simp only [Act.put, pA, pB, pC]
    refine tkO 37 hr38 rfl (by kernel_rfl) (fun _ _ _ h => h) (by rfl) ‹_› ?_
    try simp only [Act.put, pA, pB, pC]
    refine tkO 38 hr39 rfl (by kernel_rfl) (fun _ _ _ h => h) (by rfl) ‹_› ?_
    try simp only [Act.put, pA, pB, pC]
    refine tkO 39 hr40 rfl (by kernel_rfl) (fun _ _ _ h => h) (by rfl) ‹_› ?_
    try simp only [Act.put, pA, pB, pC]
    refine tkO 40 hr41 rfl (by kernel_rfl) (fun _ _ _ h => h) (by rfl) ‹_› ?_
    try simp only [Act.put, pA, pB, pC]
    refine tkO 41 hr42 rfl (by kernel_rfl) (fun _ _ _ h => h) (by rfl) ‹_› ?_
    try simp only [Act.put, pA, pB, pC]
    refine tkO 42 hr43 rfl (by kernel_rfl) (fun _ _ _ h => h) (by rfl) ‹_› ?_
    try simp only [Act.put, pA, pB, pC]
    refine tkO 43 hr44 rfl (by kernel_rfl) (fun _ _ _ h => h) (by rfl) ‹_› ?_
    try simp only [Act.put, pA, pB, pC]
    refine tkH 44 hr45 ?_ rfl (by kernel_rfl) (fun _ _ _ h => h) (by rfl) ‹_› ?_ ?_
    rotate_left
    · intro W hSW; first | (go_simp; done) | (go_simp; with_reducible rfl)
    try simp only [Act.put, pA, pB, pC]
    refine wpAnyH_done (by kernel_rfl) ?_ _
    have hB9 := HB.out _ hRw
    clear hRw hHeld
    go_wp2
    go_ret
    exact ⟨ret_bool hf.out.symm, hB9⟩
  have t4 : decide ((nl : Int) ≤ (lk : Int)) = false := by simp; omega
  by_cases c5 : K.secret.size ≤ 64
  rotate_left
  · have hf : Hid (r = false) := hno.out (fun h => c5 h.2.2.2.1)
    have t5 : decide ((64 : Int) < (K.secret.size : Int)) = true := by simp; omega
    clear c5 hno hyes
    have hRw : Below w2.heap.size w2 w2.drew := ⟨rfl, rfl, rfl, Nat.le_refl _, fun _ _ => rfl⟩
    refine wp_region_held_drew (S := fun W => Below w2.heap.size w2 W) (by kernel_rfl) hRw (fun hHeld => ?_)
    refine wpAnyH_take (i := 0) (oi := hr1) (v := .agg cs) rfl (by kernel_rfl) (by kernel_rfl) (by kernel_rfl) (fun _ _ _ h => h) (yields_loadV (by rfl) (.tmp 3) (by rfl) _ cs (by rfl) h7 (fun W hW => hx2.below hW)) (by assumption) ?_
    try simp only [Act.put, pA, pB, pC]
    refine wpAnyH_lone (R := fun W => Below w2.heap.size w2 W) (i := 1) (oi := hr2) (vi := .bool true) (by kernel_rfl) rfl hRw (fun _ h => h) ?_ ?_
    · intro W hW K hK
      go_simp
      refine (H1.out W hW).mono ?_
      rintro e W2 ⟨rfl, hb⟩
      go_wp2_with fail
      exact hK.out _ (below_then hW hb)
    clear hRw hHeld
    intro W9 hRw hHeld
    try simp only [Act.put, pA, pB, pC]
    refine tkH 2 hr3 ?_ rfl (by kernel_rfl) (fun _ _ _ h => h) (by rfl) ‹_› ?_ ?_
    rotate_left
    · intro W hSW; first | (go_simp; done) | (go_simp; with_reducible rfl)
    try simp only [Act.put, pA, pB, pC]
    refine tkH 3 hr4 ?_ rfl (by kernel_rfl) (fun _ _ _ h => h) (by rfl) ‹_› ?_ ?_
    rotate_left
    · intro W hSW; first | (go_simp; done) | (go_simp; with_reducible rfl)
    try simp only [Act.put, pA, pB, pC]
    refine tkH 4 hr5 ?_ rfl (by kernel_rfl) (fun _ _ _ h => h) (by rfl) ‹_› ?_ ?_
    rotate_left
    · intro W hSW; first | (go_simp; done) | (go_simp; with_reducible rfl)
    try simp only [Act.put, pA, pB, pC]
    refine tkH 5 hr6 (.bool false) rfl (by kernel_rfl) (fun _ _ _ h => h) (by rfl) ‹_› ?_ ?_
    · intro W hSW; first | (go_simp; done) | (go_simp; with_reducible rfl)
    try simp only [Act.put, pA, pB, pC]
    refine tkH 6 hr7 ?_ rfl (by kernel_rfl) (fun _ _ _ h => h) (by rfl) ‹_› ?_ ?_
    rotate_left
    · intro W hSW; first | (go_simp; done) | (go_simp; with_reducible rfl)
    try simp only [Act.put, pA, pB, pC]
    refine tkH 7 hr8 ?_ rfl (by kernel_rfl) (fun _ _ _ h => h) (by rfl) ‹_› ?_ ?_
    rotate_left
    · intro W hSW; first | (go_simp; done) | (go_simp; with_reducible rfl)
    try simp only [Act.put, pA, pB, pC]
    refine tkH 8 hr9 ?_ rfl (by kernel_rfl) (fun _ _ _ h => h) (by rfl) ‹_› ?_ ?_
    rotate_left
    · intro W hSW; first | (go_simp; done) | (go_simp; with_reducible rfl)
    try simp only [Act.put, pA, pB, pC]
    refine tkH 9 hr10 ?_ rfl (by kernel_rfl) (fun _ _ _ h => h) (by rfl) ‹_› ?_ ?_
    rotate_left
    · intro W hSW; first | (go_simp; done) | (go_simp; with_reducible rfl)
    try simp only [Act.put, pA, pB, pC]
    refine tkH 10 hr11 ?_ rfl (by kernel_rfl) (fun _ _ _ h => h) (by rfl) ‹_› ?_ ?_
    rotate_left
    · intro W hSW; have z0 := cell_on hSW x2; have z1 := cell_on hSW x3; have z2 := cell_on hSW x4; have z3 := cell_on hSW y0; have z4 := cell_on hSW y1; have z5 := cell_on hSW y2; have z6 := cell_on hSW y3; first | (go_simp; done) | (go_simp; with_reducible rfl)
    try simp only [Act.put, pA, pB, pC]
    refine tkH 11 hr12 ?_ rfl (by kernel_rfl) (fun _ _ _ h => h) (by rfl) ‹_› ?_ ?_
    rotate_left
    · intro W hSW; first | (go_simp; done) | (go_simp; with_reducible rfl)
    try simp only [Act.put, pA, pB, pC]
    refine tkH 12 hr13 (.bool false) rfl (by kernel_rfl) (fun _ _ _ h => h) (by rfl) ‹_› ?_ ?_
    · intro W hSW; first | (go_simp; done) | (go_simp; with_reducible rfl)
    try simp only [Act.put, pA, pB, pC]
    refine tkH 13 hr14 ?_ rfl (by kernel_rfl) (fun _ _ _ h => h) (by rfl) ‹_› ?_ ?_
    rotate_left
    · intro W hSW; first | (go_simp; done) | (go_simp; with_reducible rfl)
    try simp only [Act.put, pA, pB, pC]
    refine tkH 14 hr15 ?_ rfl (by kernel_rfl) (fun _ _ _ h => h) (by rfl) ‹_› ?_ ?_
    rotate_left
    · intro W hSW; first | (go_simp; done) | (go_simp; with_reducible rfl)
    try simp only [Act.put, pA, pB, pC]
    refine tkH 15 hr16 ?_ rfl (by kernel_rfl) (fun _ _ _ h => h) (by rfl) ‹_› ?_ ?_
    rotate_left
    · intro W hSW; first | (go_simp; done) | (go_simp; with_reducible rfl)
    try simp only [Act.put, pA, pB, pC]
    refine tkH 16 hr17 ?_ rfl (by kernel_rfl) (fun _ _ _ h => h) (by rfl) ‹_› ?_ ?_
    rotate_left
    · intro W hSW; have z0 := cell_on hSW x2; have z1 := cell_on hSW x3; have z2 := cell_on hSW x4; have z3 := cell_on hSW y0; have z4 := cell_on hSW y1; have z5 := cell_on hSW y2; have z6 := cell_on hSW y3; first | (go_simp; done) | (go_simp; with_reducible rfl)
    try simp only [Act.put, pA, pB, pC]
    refine tkH 17 hr18 (.bool false) rfl (by kernel_rfl) (fun _ _ _ h => h) (by rfl) ‹_› ?_ ?_
    · intro W hSW; first | (go_simp; done) | (go_simp; with_reducible rfl)
    try simp only [Act.put, pA, pB, pC]
    refine tkH 18 hr19 ?_ rfl (by kernel_rfl) (fun _ _ _ h => h) (by rfl) ‹_› ?_ ?_
    rotate_left
    · intro W hSW; first | (go_simp; done) | (go_simp; with_reducible rfl)
    try simp only [Act.put, pA, pB, pC]
    refine tkH 19 hr20 ?_ rfl (by kernel_rfl) (fun _ _ _ h => h) (by rfl) ‹_› ?_ ?_
    rotate_left
    · intro W hSW; first | (go_simp; done) | (go_simp; with_reducible rfl)
    try simp only [Act.put, pA, pB, pC]
    refine tkH 20 hr21 ?_ rfl (by kernel_rfl) (fun _ _ _ h => h) (by rfl) ‹_› ?_ ?_
    rotate_left
    · intro W hSW; first | (go_simp; done) | (go_simp; with_reducible rfl)
    try simp only [Act.put, pA, pB, pC]
    refine tkH 21 hr22 ?_ rfl (by kernel_rfl) (fun _ _ _ h => h) (by rfl) ‹_› ?_ ?_
    rotate_left
    · intro W hSW; have z0 := cell_on hSW x2; have z1 := cell_on hSW x3; have z2 := cell_on hSW x4; have z3 := cell_on hSW y0; have z4 := cell_on hSW y1; have z5 := cell_on hSW y2; have z6 := cell_on hSW y3; first | (go_simp; done) | (go_simp; with_reducible rfl)
    try simp only [Act.put, pA, pB, pC]
    refine tkH 22 hr23 ?_ rfl (by kernel_rfl) (fun _ _ _ h => h) (by rfl) ‹_› ?_ ?_
    rotate_left
    · intro W hSW; first | (go_simp; done) | (go_simp; with_reducible rfl)
    try simp only [Act.put, pA, pB, pC]
    refine tkH 23 hr24 ?_ rfl (by kernel_rfl) (fun _ _ _ h => h) (by rfl) ‹_› ?_ ?_
    rotate_left
    · intro W hSW; have z0 := cell_on hSW x2; have z1 := cell_on hSW x3; have z2 := cell_on hSW x4; have z3 := cell_on hSW y0; have z4 := cell_on hSW y1; have z5 := cell_on hSW y2; have z6 := cell_on hSW y3; first | (go_simp; done) | (go_simp; with_reducible rfl)
    try simp only [Act.put, pA, pB, pC]
    refine tkH 24 hr25 ?_ rfl (by kernel_rfl) (fun _ _ _ h => h) (by rfl) ‹_› ?_ ?_
    rotate_left
    · intro W hSW; first | (go_simp; done) | (go_simp; with_reducible rfl)
    try simp only [Act.put, pA, pB, pC]
    refine tkH 25 hr26 (.bool false) rfl (by kernel_rfl) (fun _ _ _ h => h) (by rfl) ‹_› ?_ ?_
    · intro W hSW; first | (go_simp; done) | (go_simp; with_reducible rfl)
    try simp only [Act.put, pA, pB, pC]
    refine tkH 26 hr27 ?_ rfl (by kernel_rfl) (fun _ _ _ h => h) (by rfl) ‹_› ?_ ?_
    rotate_left
    · intro W hSW; first | (go_simp; done) | (go_simp; with_reducible rfl)
    try simp only [Act.put, pA, pB, pC]
    refine tkH 27 hr28 ?_ rfl (by kernel_rfl) (fun _ _ _ h => h) (by rfl) ‹_› ?_ ?_
    rotate_left
    · intro W hSW; first | (go_simp; done) | (go_simp; with_reducible rfl)
    try simp only [Act.put, pA, pB, pC]
    refine tkH 28 hr29 ?_ rfl (by kernel_rfl) (fun _ _ _ h => h) (by rfl) ‹_› ?_ ?_
    rotate_left
    · intro W hSW; first | (go_simp; done) | (go_simp; with_reducible rfl)
    try simp only [Act.put, pA, pB, pC]
    refine tkH 29 hr30 ?_ rfl (by kernel_rfl) (fun _ _ _ h => h) (by rfl) ‹_› ?_ ?_
    rotate_left
    · intro W hSW; have z0 := cell_on hSW x2; have z1 := cell_on hSW x3; have z2 := cell_on hSW x4; have z3 := cell_on hSW y0; have z4 := cell_on hSW y1; have z5 := cell_on hSW y2; have z6 := cell_on hSW y3; first | (go_simp; done) | (go_simp; with_reducible rfl)
    try simp only [Act.put, pA, pB, pC]
    refine tkH 30 hr31 ?_ rfl (by kernel_rfl) (fun _ _ _ h => h) (by rfl) ‹_› ?_ ?_
    rotate_left
    · intro W hSW; first | (go_simp; done) | (go_simp; with_reducible rfl)
    try simp only [Act.put, pA, pB, pC]
    refine tkH 31 hr32 (.bool true) rfl (by kernel_rfl) (fun _ _ _ h => h) (by rfl) ‹_› ?_ ?_
    · intro W hSW; first | (go_simp; done) | (go_simp; with_reducible rfl)
    try simp only [Act.put, pA, pB, pC]
    refine tkH 32 hr33 ?_ rfl (by kernel_rfl) (fun _ _ _ h => h) (by rfl) ‹_› ?_ ?_
    rotate_left
    · intro W hSW; first | (go_simp; done) | (go_simp; with_reducible rfl)
    try simp only [Act.put, pA, pB, pC]
    refine tkH 33 hr34 ?_ rfl (by kernel_rfl) (fun _ _ _ h => h) (by rfl) ‹_› ?_ ?_
    rotate_left
    · intro W hSW; first | (go_simp; done) | (go_simp; with_reducible rfl)
    try simp only [Act.put, pA, pB, pC]
    refine tkO 34 hr35 rfl (by kernel_rfl) (fun _ _ _ h => h) (by rfl) ‹_› ?_
    try simp only [Act.put, pA, pB, pC]
    refine tkO 35 hr36 rfl (by kernel_rfl) (fun _ _ _ h => h) (by rfl) ‹_› ?_
    try simp only [Act.put, pA, pB, pC]
    refine tkO 36 hr37 rfl (by kernel_rfl) (fun _ _ _ h => h) (by rfl) ‹_› ?_
    try simp only [Act.put, pA, pB, pC]
    refine tkO 37 hr38 rfl (by kernel_rfl) (fun _ _ _ h => h) (by rfl) ‹_› ?_
    try simp only [Act.put, pA, pB, pC]
    refine tkO 38 hr39 rfl (by kernel_rfl) (fun _ _ _ h => h) (by rfl) ‹_› ?_
    try simp only [Act.put, pA, pB, pC]
    refine tkO 39 hr40 rfl (by kernel_rfl) (fun _ _ _ h => h) (by rfl) ‹_› ?_
    try simp only [Act.put, pA, pB, pC]
    refine tkO 40 hr41 rfl (by kernel_rfl) (fun _ _ _ h => h) (by rfl) ‹_› ?_
    try simp only [Act.put, pA, pB, pC]
    refine tkO 41 hr42 rfl (by kernel_rfl) (fun _ _ _ h => h) (by rfl) ‹_› ?_
    try simp only [Act.put, pA, pB, pC]
    refine tkO 42 hr43 rfl (by kernel_rfl) (fun _ _ _ h => h) (by rfl) ‹_› ?_
    try simp only [Act.put, pA, pB, pC]
    refine tkO 43 hr44 rfl (by kernel_rfl) (fun _ _ _ h => h) (by rfl) ‹_› ?_
    try simp only [Act.put, pA, pB, pC]
    refine tkH 44 hr45 ?_ rfl (by kernel_rfl) (fun _ _ _ h => h) (by rfl) ‹_› ?_ ?_
    rotate_left
    · intro W hSW; first | (go_simp; done) | (go_simp; with_reducible rfl)
    try simp only [Act.put, pA, pB, pC]
    refine wpAnyH_done (by kernel_rfl) ?_ _
    have hB9 := HB.out _ hRw
    clear hRw hHeld
    go_wp2
    go_ret
    exact ⟨ret_bool hf.out.symm, hB9⟩
  have t5 : decide ((64 : Int) < (K.secret.size : Int)) = false := by simp; omega
  have HSum : Hid (∀ W, Calls Try.prog 25 #[.string K.secret] W fun e w' => e = .returned (.string ⟨(digest K.secret.data.toList).toArray⟩) ∧ Below W.heap.size W w') := fun W => refsum_any K.secret (by omega) W
  obtain ⟨D, hD⟩ : ∃ d : ByteArray, (⟨(digest K.secret.data.toList).toArray⟩ : ByteArray) = d := ⟨_, rfl⟩
  rw [hD] at HSum
  have H36 : Hid (∀ W, Below w2.heap.size w2 W → Calls Try.prog 25 #[.string K.secret] W fun e w' => e = .returned (.string D) ∧ Below W.heap.size W w') := fun W _ => HSum.out W
  replace hD := hide hD
  clear HSum
  obtain ⟨b4, o4, hb4, q4⟩ := (HLI.out w2 hB2'.out).locks.2.2.2 lk (by rw [hnk.out]; omega)
  rw [hb4] at x4
  obtain ⟨Lk, hLk⟩ : ∃ d, s.locks.getD K.lock.toNat ByteArray.empty = d := ⟨_, rfl⟩
  rw [show s.locks.getD lk ByteArray.empty = Lk from (by rw [← hlkt.out]; exact hLk)] at q4
  have hlkk : lk < nk := by omega
  replace hLk := hide hLk
  replace m3 := hide m3
  by_cases c6 : D = Lk
  rotate_left
  · have hf : Hid (r = false) := hno.out (fun h => c6 (by rw [← hD.out, ← hLk.out]; exact h.2.2.2.2.1))
    have t6 : (D.toList != Lk.toList) = true := by rw [bne_iff_ne]; intro e; rw [ByteArray.toList_eq, ByteArray.toList_eq] at e; exact c6 (ByteArray.ext (Array.toList_inj.1 e))
    have e6 : ¬ D.toList = Lk.toList := by rw [bne_iff_ne] at t6; exact t6
    clear c6 hno hyes
    have hRw : Below w2.heap.size w2 w2.drew := ⟨rfl, rfl, rfl, Nat.le_refl _, fun _ _ => rfl⟩
    refine wp_region_held_drew (S := fun W => Below w2.heap.size w2 W) (by kernel_rfl) hRw (fun hHeld => ?_)
    refine wpAnyH_take (i := 0) (oi := hr1) (v := .agg cs) rfl (by kernel_rfl) (by kernel_rfl) (by kernel_rfl) (fun _ _ _ h => h) (yields_loadV (by rfl) (.tmp 3) (by rfl) _ cs (by rfl) h7 (fun W hW => hx2.below hW)) (by assumption) ?_
    try simp only [Act.put, pA, pB, pC]
    refine wpAnyH_lone (R := fun W => Below w2.heap.size w2 W) (i := 1) (oi := hr2) (vi := .bool true) (by kernel_rfl) rfl hRw (fun _ h => h) ?_ ?_
    · intro W hW K hK
      go_simp
      refine (H1.out W hW).mono ?_
      rintro e W2 ⟨rfl, hb⟩
      go_wp2_with fail
      exact hK.out _ (below_then hW hb)
    clear hRw hHeld
    intro W9 hRw hHeld
    try simp only [Act.put, pA, pB, pC]
    refine tkH 2 hr3 ?_ rfl (by kernel_rfl) (fun _ _ _ h => h) (by rfl) ‹_› ?_ ?_
    rotate_left
    · intro W hSW; first | (go_simp; done) | (go_simp; with_reducible rfl)
    try simp only [Act.put, pA, pB, pC]
    refine tkH 3 hr4 ?_ rfl (by kernel_rfl) (fun _ _ _ h => h) (by rfl) ‹_› ?_ ?_
    rotate_left
    · intro W hSW; first | (go_simp; done) | (go_simp; with_reducible rfl)
    try simp only [Act.put, pA, pB, pC]
    refine tkH 4 hr5 ?_ rfl (by kernel_rfl) (fun _ _ _ h => h) (by rfl) ‹_› ?_ ?_
    rotate_left
    · intro W hSW; first | (go_simp; done) | (go_simp; with_reducible rfl)
    try simp only [Act.put, pA, pB, pC]
    refine tkH 5 hr6 (.bool false) rfl (by kernel_rfl) (fun _ _ _ h => h) (by rfl) ‹_› ?_ ?_
    · intro W hSW; first | (go_simp; done) | (go_simp; with_reducible rfl)
    try simp only [Act.put, pA, pB, pC]
    refine tkH 6 hr7 ?_ rfl (by kernel_rfl) (fun _ _ _ h => h) (by rfl) ‹_› ?_ ?_
    rotate_left
    · intro W hSW; first | (go_simp; done) | (go_simp; with_reducible rfl)
    try simp only [Act.put, pA, pB, pC]
    refine tkH 7 hr8 ?_ rfl (by kernel_rfl) (fun _ _ _ h => h) (by rfl) ‹_› ?_ ?_
    rotate_left
    · intro W hSW; first | (go_simp; done) | (go_simp; with_reducible rfl)
    try simp only [Act.put, pA, pB, pC]
    refine tkH 8 hr9 ?_ rfl (by kernel_rfl) (fun _ _ _ h => h) (by rfl) ‹_› ?_ ?_
    rotate_left
    · intro W hSW; first | (go_simp; done) | (go_simp; with_reducible rfl)
    try simp only [Act.put, pA, pB, pC]
    refine tkH 9 hr10 ?_ rfl (by kernel_rfl) (fun _ _ _ h => h) (by rfl) ‹_› ?_ ?_
    rotate_left
    · intro W hSW; first | (go_simp; done) | (go_simp; with_reducible rfl)
    try simp only [Act.put, pA, pB, pC]
    refine tkH 10 hr11 ?_ rfl (by kernel_rfl) (fun _ _ _ h => h) (by rfl) ‹_› ?_ ?_
    rotate_left
    · intro W hSW; have z0 := cell_on hSW x2; have z1 := cell_on hSW x3; have z2 := cell_on hSW x4; have z3 := cell_on hSW y0; have z4 := cell_on hSW y1; have z5 := cell_on hSW y2; have z6 := cell_on hSW y3; have z7 := cell_on hSW q4; first | (go_simp; done) | (go_simp; with_reducible rfl)
    try simp only [Act.put, pA, pB, pC]
    refine tkH 11 hr12 ?_ rfl (by kernel_rfl) (fun _ _ _ h => h) (by rfl) ‹_› ?_ ?_
    rotate_left
    · intro W hSW; first | (go_simp; done) | (go_simp; with_reducible rfl)
    try simp only [Act.put, pA, pB, pC]
    refine tkH 12 hr13 (.bool false) rfl (by kernel_rfl) (fun _ _ _ h => h) (by rfl) ‹_› ?_ ?_
    · intro W hSW; first | (go_simp; done) | (go_simp; with_reducible rfl)
    try simp only [Act.put, pA, pB, pC]
    refine tkH 13 hr14 ?_ rfl (by kernel_rfl) (fun _ _ _ h => h) (by rfl) ‹_› ?_ ?_
    rotate_left
    · intro W hSW; first | (go_simp; done) | (go_simp; with_reducible rfl)
    try simp only [Act.put, pA, pB, pC]
    refine tkH 14 hr15 ?_ rfl (by kernel_rfl) (fun _ _ _ h => h) (by rfl) ‹_› ?_ ?_
    rotate_left
    · intro W hSW; first | (go_simp; done) | (go_simp; with_reducible rfl)
    try simp only [Act.put, pA, pB, pC]
    refine tkH 15 hr16 ?_ rfl (by kernel_rfl) (fun _ _ _ h => h) (by rfl) ‹_› ?_ ?_
    rotate_left
    · intro W hSW; first | (go_simp; done) | (go_simp; with_reducible rfl)
    try simp only [Act.put, pA, pB, pC]
    refine tkH 16 hr17 ?_ rfl (by kernel_rfl) (fun _ _ _ h => h) (by rfl) ‹_› ?_ ?_
    rotate_left
    · intro W hSW; have z0 := cell_on hSW x2; have z1 := cell_on hSW x3; have z2 := cell_on hSW x4; have z3 := cell_on hSW y0; have z4 := cell_on hSW y1; have z5 := cell_on hSW y2; have z6 := cell_on hSW y3; have z7 := cell_on hSW q4; first | (go_simp; done) | (go_simp; with_reducible rfl)
    try simp only [Act.put, pA, pB, pC]
    refine tkH 17 hr18 (.bool false) rfl (by kernel_rfl) (fun _ _ _ h => h) (by rfl) ‹_› ?_ ?_
    · intro W hSW; first | (go_simp; done) | (go_simp; with_reducible rfl)
    try simp only [Act.put, pA, pB, pC]
    refine tkH 18 hr19 ?_ rfl (by kernel_rfl) (fun _ _ _ h => h) (by rfl) ‹_› ?_ ?_
    rotate_left
    · intro W hSW; first | (go_simp; done) | (go_simp; with_reducible rfl)
    try simp only [Act.put, pA, pB, pC]
    refine tkH 19 hr20 ?_ rfl (by kernel_rfl) (fun _ _ _ h => h) (by rfl) ‹_› ?_ ?_
    rotate_left
    · intro W hSW; first | (go_simp; done) | (go_simp; with_reducible rfl)
    try simp only [Act.put, pA, pB, pC]
    refine tkH 20 hr21 ?_ rfl (by kernel_rfl) (fun _ _ _ h => h) (by rfl) ‹_› ?_ ?_
    rotate_left
    · intro W hSW; first | (go_simp; done) | (go_simp; with_reducible rfl)
    try simp only [Act.put, pA, pB, pC]
    refine tkH 21 hr22 ?_ rfl (by kernel_rfl) (fun _ _ _ h => h) (by rfl) ‹_› ?_ ?_
    rotate_left
    · intro W hSW; have z0 := cell_on hSW x2; have z1 := cell_on hSW x3; have z2 := cell_on hSW x4; have z3 := cell_on hSW y0; have z4 := cell_on hSW y1; have z5 := cell_on hSW y2; have z6 := cell_on hSW y3; have z7 := cell_on hSW q4; first | (go_simp; done) | (go_simp; with_reducible rfl)
    try simp only [Act.put, pA, pB, pC]
    refine tkH 22 hr23 ?_ rfl (by kernel_rfl) (fun _ _ _ h => h) (by rfl) ‹_› ?_ ?_
    rotate_left
    · intro W hSW; first | (go_simp; done) | (go_simp; with_reducible rfl)
    try simp only [Act.put, pA, pB, pC]
    refine tkH 23 hr24 ?_ rfl (by kernel_rfl) (fun _ _ _ h => h) (by rfl) ‹_› ?_ ?_
    rotate_left
    · intro W hSW; have z0 := cell_on hSW x2; have z1 := cell_on hSW x3; have z2 := cell_on hSW x4; have z3 := cell_on hSW y0; have z4 := cell_on hSW y1; have z5 := cell_on hSW y2; have z6 := cell_on hSW y3; have z7 := cell_on hSW q4; first | (go_simp; done) | (go_simp; with_reducible rfl)
    try simp only [Act.put, pA, pB, pC]
    refine tkH 24 hr25 ?_ rfl (by kernel_rfl) (fun _ _ _ h => h) (by rfl) ‹_› ?_ ?_
    rotate_left
    · intro W hSW; first | (go_simp; done) | (go_simp; with_reducible rfl)
    try simp only [Act.put, pA, pB, pC]
    refine tkH 25 hr26 (.bool false) rfl (by kernel_rfl) (fun _ _ _ h => h) (by rfl) ‹_› ?_ ?_
    · intro W hSW; first | (go_simp; done) | (go_simp; with_reducible rfl)
    try simp only [Act.put, pA, pB, pC]
    refine tkH 26 hr27 ?_ rfl (by kernel_rfl) (fun _ _ _ h => h) (by rfl) ‹_› ?_ ?_
    rotate_left
    · intro W hSW; first | (go_simp; done) | (go_simp; with_reducible rfl)
    try simp only [Act.put, pA, pB, pC]
    refine tkH 27 hr28 ?_ rfl (by kernel_rfl) (fun _ _ _ h => h) (by rfl) ‹_› ?_ ?_
    rotate_left
    · intro W hSW; first | (go_simp; done) | (go_simp; with_reducible rfl)
    try simp only [Act.put, pA, pB, pC]
    refine tkH 28 hr29 ?_ rfl (by kernel_rfl) (fun _ _ _ h => h) (by rfl) ‹_› ?_ ?_
    rotate_left
    · intro W hSW; first | (go_simp; done) | (go_simp; with_reducible rfl)
    try simp only [Act.put, pA, pB, pC]
    refine tkH 29 hr30 ?_ rfl (by kernel_rfl) (fun _ _ _ h => h) (by rfl) ‹_› ?_ ?_
    rotate_left
    · intro W hSW; have z0 := cell_on hSW x2; have z1 := cell_on hSW x3; have z2 := cell_on hSW x4; have z3 := cell_on hSW y0; have z4 := cell_on hSW y1; have z5 := cell_on hSW y2; have z6 := cell_on hSW y3; have z7 := cell_on hSW q4; first | (go_simp; done) | (go_simp; with_reducible rfl)
    try simp only [Act.put, pA, pB, pC]
    refine tkH 30 hr31 ?_ rfl (by kernel_rfl) (fun _ _ _ h => h) (by rfl) ‹_› ?_ ?_
    rotate_left
    · intro W hSW; first | (go_simp; done) | (go_simp; with_reducible rfl)
    try simp only [Act.put, pA, pB, pC]
    refine tkH 31 hr32 (.bool false) rfl (by kernel_rfl) (fun _ _ _ h => h) (by rfl) ‹_› ?_ ?_
    · intro W hSW; first | (go_simp; done) | (go_simp; with_reducible rfl)
    try simp only [Act.put, pA, pB, pC]
    refine tkH 32 hr33 ?_ rfl (by kernel_rfl) (fun _ _ _ h => h) (by rfl) ‹_› ?_ ?_
    rotate_left
    · intro W hSW; first | (go_simp; done) | (go_simp; with_reducible rfl)
    try simp only [Act.put, pA, pB, pC]
    refine tkH 33 hr34 ?_ rfl (by kernel_rfl) (fun _ _ _ h => h) (by rfl) ‹_› ?_ ?_
    rotate_left
    · intro W hSW; first | (go_simp; done) | (go_simp; with_reducible rfl)
    try simp only [Act.put, pA, pB, pC]
    refine tkH 34 hr35 ?_ rfl (by kernel_rfl) (fun _ _ _ h => h) (by rfl) ‹_› ?_ ?_
    rotate_left
    · intro W hSW; first | (go_simp; done) | (go_simp; with_reducible rfl)
    try simp only [Act.put, pA, pB, pC]
    refine tkH 35 hr36 ?_ rfl (by kernel_rfl) (fun _ _ _ h => h) (by rfl) ‹_› ?_ ?_
    rotate_left
    · intro W hSW; have z0 := cell_on hSW x2; have z1 := cell_on hSW x3; have z2 := cell_on hSW x4; have z3 := cell_on hSW y0; have z4 := cell_on hSW y1; have z5 := cell_on hSW y2; have z6 := cell_on hSW y3; have z7 := cell_on hSW q4; first | (go_simp; done) | (go_simp; with_reducible rfl)
    try simp only [Act.put, pA, pB, pC]
    refine tkH 37 hr38 ?_ rfl (by kernel_rfl) (fun _ _ _ h => h) (by rfl) ‹_› ?_ ?_
    rotate_left
    · intro W hSW; first | (go_simp; done) | (go_simp; with_reducible rfl)
    try simp only [Act.put, pA, pB, pC]
    refine tkH 38 hr39 ?_ rfl (by kernel_rfl) (fun _ _ _ h => h) (by rfl) ‹_› ?_ ?_
    rotate_left
    · intro W hSW; have z0 := cell_on hSW x2; have z1 := cell_on hSW x3; have z2 := cell_on hSW x4; have z3 := cell_on hSW y0; have z4 := cell_on hSW y1; have z5 := cell_on hSW y2; have z6 := cell_on hSW y3; have z7 := cell_on hSW q4; first | (go_simp; done) | (go_simp; with_reducible rfl)
    try simp only [Act.put, pA, pB, pC]
    refine tkH 39 hr40 ?_ rfl (by kernel_rfl) (fun _ _ _ h => h) (by rfl) ‹_› ?_ ?_
    rotate_left
    · intro W hSW; first | (go_simp; done) | (go_simp; with_reducible rfl)
    try simp only [Act.put, pA, pB, pC]
    refine tkH 40 hr41 ?_ rfl (by kernel_rfl) (fun _ _ _ h => h) (by rfl) ‹_› ?_ ?_
    rotate_left
    · intro W hSW; have z0 := cell_on hSW x2; have z1 := cell_on hSW x3; have z2 := cell_on hSW x4; have z3 := cell_on hSW y0; have z4 := cell_on hSW y1; have z5 := cell_on hSW y2; have z6 := cell_on hSW y3; have z7 := cell_on hSW q4; first | (go_simp; done) | (go_simp; with_reducible rfl)
    try simp only [Act.put, pA, pB, pC]
    refine tkH 41 hr42 ?_ rfl (by kernel_rfl) (fun _ _ _ h => h) (by rfl) ‹_› ?_ ?_
    rotate_left
    · intro W hSW; first | (go_simp; done) | (go_simp; with_reducible rfl)
    try simp only [Act.put, pA, pB, pC]
    refine tkH 42 hr43 ?_ rfl (by kernel_rfl) (fun _ _ _ h => h) (by rfl) ‹_› ?_ ?_
    rotate_left
    · intro W hSW; have z0 := cell_on hSW x2; have z1 := cell_on hSW x3; have z2 := cell_on hSW x4; have z3 := cell_on hSW y0; have z4 := cell_on hSW y1; have z5 := cell_on hSW y2; have z6 := cell_on hSW y3; have z7 := cell_on hSW q4; first | (go_simp; done) | (go_simp; with_reducible rfl)
    try simp only [Act.put, pA, pB, pC]
    refine wpAnyH_lone (R := fun W => Below w2.heap.size w2 W) (i := 36) (oi := hr37) (vi := .string D) (by kernel_rfl) rfl hRw (fun _ h => h) ?_ ?_
    · intro W hW K hK
      go_simp
      refine (H36.out W hW).mono ?_
      rintro e W2 ⟨rfl, hb⟩
      go_wp2_with fail
      exact hK.out _ (below_then hW hb)
    clear hRw hHeld
    intro W9 hRw hHeld
    try simp only [Act.put, pA, pB, pC]
    refine tkH 43 hr44 (.bool true) rfl (by kernel_rfl) (fun _ _ _ h => h) (by rfl) ‹_› ?_ ?_
    · intro W hSW; first | (go_simp; done) | (go_simp; with_reducible rfl)
    try simp only [Act.put, pA, pB, pC]
    refine tkH 44 hr45 ?_ rfl (by kernel_rfl) (fun _ _ _ h => h) (by rfl) ‹_› ?_ ?_
    rotate_left
    · intro W hSW; first | (go_simp; done) | (go_simp; with_reducible rfl)
    try simp only [Act.put, pA, pB, pC]
    refine wpAnyH_done (by kernel_rfl) ?_ _
    have hB9 := HB.out _ hRw
    clear hRw hHeld
    go_wp2
    go_ret
    exact ⟨ret_bool hf.out.symm, hB9⟩
  have t6 : (D.toList != Lk.toList) = false := by rw [c6]; simp
  have e6 : D.toList = Lk.toList := by rw [c6]
  replace c6 := hide c6
  have hRw : Below w2.heap.size w2 w2.drew := ⟨rfl, rfl, rfl, Nat.le_refl _, fun _ _ => rfl⟩
  refine wp_region_held_drew (S := fun W => Below w2.heap.size w2 W) (by kernel_rfl) hRw (fun hHeld => ?_)
  refine wpAnyH_take (i := 0) (oi := hr1) (v := .agg cs) rfl (by kernel_rfl) (by kernel_rfl) (by kernel_rfl) (fun _ _ _ h => h) (yields_loadV (by rfl) (.tmp 3) (by rfl) _ cs (by rfl) h7 (fun W hW => hx2.below hW)) (by assumption) ?_
  try simp only [Act.put, pA, pB, pC]
  refine wpAnyH_lone (R := fun W => Below w2.heap.size w2 W) (i := 1) (oi := hr2) (vi := .bool true) (by kernel_rfl) rfl hRw (fun _ h => h) ?_ ?_
  · intro W hW K hK
    go_simp
    refine (H1.out W hW).mono ?_
    rintro e W2 ⟨rfl, hb⟩
    go_wp2_with fail
    exact hK.out _ (below_then hW hb)
  clear hRw hHeld
  intro w4 hRw hHeld
  try simp only [Act.put, pA, pB, pC]
  refine tkH 2 hr3 ?_ rfl (by kernel_rfl) (fun _ _ _ h => h) (by rfl) ‹_› ?_ ?_
  rotate_left
  · intro W hSW; first | (go_simp; done) | (go_simp; with_reducible rfl)
  try simp only [Act.put, pA, pB, pC]
  refine tkH 3 hr4 ?_ rfl (by kernel_rfl) (fun _ _ _ h => h) (by rfl) ‹_› ?_ ?_
  rotate_left
  · intro W hSW; first | (go_simp; done) | (go_simp; with_reducible rfl)
  try simp only [Act.put, pA, pB, pC]
  refine tkH 4 hr5 ?_ rfl (by kernel_rfl) (fun _ _ _ h => h) (by rfl) ‹_› ?_ ?_
  rotate_left
  · intro W hSW; first | (go_simp; done) | (go_simp; with_reducible rfl)
  try simp only [Act.put, pA, pB, pC]
  refine tkH 5 hr6 (.bool false) rfl (by kernel_rfl) (fun _ _ _ h => h) (by rfl) ‹_› ?_ ?_
  · intro W hSW; first | (go_simp; done) | (go_simp; with_reducible rfl)
  try simp only [Act.put, pA, pB, pC]
  refine tkH 6 hr7 ?_ rfl (by kernel_rfl) (fun _ _ _ h => h) (by rfl) ‹_› ?_ ?_
  rotate_left
  · intro W hSW; first | (go_simp; done) | (go_simp; with_reducible rfl)
  try simp only [Act.put, pA, pB, pC]
  refine tkH 7 hr8 ?_ rfl (by kernel_rfl) (fun _ _ _ h => h) (by rfl) ‹_› ?_ ?_
  rotate_left
  · intro W hSW; first | (go_simp; done) | (go_simp; with_reducible rfl)
  try simp only [Act.put, pA, pB, pC]
  refine tkH 8 hr9 ?_ rfl (by kernel_rfl) (fun _ _ _ h => h) (by rfl) ‹_› ?_ ?_
  rotate_left
  · intro W hSW; first | (go_simp; done) | (go_simp; with_reducible rfl)
  try simp only [Act.put, pA, pB, pC]
  refine tkH 9 hr10 ?_ rfl (by kernel_rfl) (fun _ _ _ h => h) (by rfl) ‹_› ?_ ?_
  rotate_left
  · intro W hSW; first | (go_simp; done) | (go_simp; with_reducible rfl)
  try simp only [Act.put, pA, pB, pC]
  refine tkH 10 hr11 ?_ rfl (by kernel_rfl) (fun _ _ _ h => h) (by rfl) ‹_› ?_ ?_
  rotate_left
  · intro W hSW; have z0 := cell_on hSW x2; have z1 := cell_on hSW x3; have z2 := cell_on hSW x4; have z3 := cell_on hSW y0; have z4 := cell_on hSW y1; have z5 := cell_on hSW y2; have z6 := cell_on hSW y3; have z7 := cell_on hSW q4; first | (go_simp; done) | (go_simp; with_reducible rfl)
  try simp only [Act.put, pA, pB, pC]
  refine tkH 11 hr12 ?_ rfl (by kernel_rfl) (fun _ _ _ h => h) (by rfl) ‹_› ?_ ?_
  rotate_left
  · intro W hSW; first | (go_simp; done) | (go_simp; with_reducible rfl)
  try simp only [Act.put, pA, pB, pC]
  refine tkH 12 hr13 (.bool false) rfl (by kernel_rfl) (fun _ _ _ h => h) (by rfl) ‹_› ?_ ?_
  · intro W hSW; first | (go_simp; done) | (go_simp; with_reducible rfl)
  try simp only [Act.put, pA, pB, pC]
  refine tkH 13 hr14 ?_ rfl (by kernel_rfl) (fun _ _ _ h => h) (by rfl) ‹_› ?_ ?_
  rotate_left
  · intro W hSW; first | (go_simp; done) | (go_simp; with_reducible rfl)
  try simp only [Act.put, pA, pB, pC]
  refine tkH 14 hr15 ?_ rfl (by kernel_rfl) (fun _ _ _ h => h) (by rfl) ‹_› ?_ ?_
  rotate_left
  · intro W hSW; first | (go_simp; done) | (go_simp; with_reducible rfl)
  try simp only [Act.put, pA, pB, pC]
  refine tkH 15 hr16 ?_ rfl (by kernel_rfl) (fun _ _ _ h => h) (by rfl) ‹_› ?_ ?_
  rotate_left
  · intro W hSW; first | (go_simp; done) | (go_simp; with_reducible rfl)
  try simp only [Act.put, pA, pB, pC]
  refine tkH 16 hr17 ?_ rfl (by kernel_rfl) (fun _ _ _ h => h) (by rfl) ‹_› ?_ ?_
  rotate_left
  · intro W hSW; have z0 := cell_on hSW x2; have z1 := cell_on hSW x3; have z2 := cell_on hSW x4; have z3 := cell_on hSW y0; have z4 := cell_on hSW y1; have z5 := cell_on hSW y2; have z6 := cell_on hSW y3; have z7 := cell_on hSW q4; first | (go_simp; done) | (go_simp; with_reducible rfl)
  try simp only [Act.put, pA, pB, pC]
  refine tkH 17 hr18 (.bool false) rfl (by kernel_rfl) (fun _ _ _ h => h) (by rfl) ‹_› ?_ ?_
  · intro W hSW; first | (go_simp; done) | (go_simp; with_reducible rfl)
  try simp only [Act.put, pA, pB, pC]
  refine tkH 18 hr19 ?_ rfl (by kernel_rfl) (fun _ _ _ h => h) (by rfl) ‹_› ?_ ?_
  rotate_left
  · intro W hSW; first | (go_simp; done) | (go_simp; with_reducible rfl)
  try simp only [Act.put, pA, pB, pC]
  refine tkH 19 hr20 ?_ rfl (by kernel_rfl) (fun _ _ _ h => h) (by rfl) ‹_› ?_ ?_
  rotate_left
  · intro W hSW; first | (go_simp; done) | (go_simp; with_reducible rfl)
  try simp only [Act.put, pA, pB, pC]
  refine tkH 20 hr21 ?_ rfl (by kernel_rfl) (fun _ _ _ h => h) (by rfl) ‹_› ?_ ?_
  rotate_left
  · intro W hSW; first | (go_simp; done) | (go_simp; with_reducible rfl)
  try simp only [Act.put, pA, pB, pC]
  refine tkH 21 hr22 ?_ rfl (by kernel_rfl) (fun _ _ _ h => h) (by rfl) ‹_› ?_ ?_
  rotate_left
  · intro W hSW; have z0 := cell_on hSW x2; have z1 := cell_on hSW x3; have z2 := cell_on hSW x4; have z3 := cell_on hSW y0; have z4 := cell_on hSW y1; have z5 := cell_on hSW y2; have z6 := cell_on hSW y3; have z7 := cell_on hSW q4; first | (go_simp; done) | (go_simp; with_reducible rfl)
  try simp only [Act.put, pA, pB, pC]
  refine tkH 22 hr23 ?_ rfl (by kernel_rfl) (fun _ _ _ h => h) (by rfl) ‹_› ?_ ?_
  rotate_left
  · intro W hSW; first | (go_simp; done) | (go_simp; with_reducible rfl)
  try simp only [Act.put, pA, pB, pC]
  refine tkH 23 hr24 ?_ rfl (by kernel_rfl) (fun _ _ _ h => h) (by rfl) ‹_› ?_ ?_
  rotate_left
  · intro W hSW; have z0 := cell_on hSW x2; have z1 := cell_on hSW x3; have z2 := cell_on hSW x4; have z3 := cell_on hSW y0; have z4 := cell_on hSW y1; have z5 := cell_on hSW y2; have z6 := cell_on hSW y3; have z7 := cell_on hSW q4; first | (go_simp; done) | (go_simp; with_reducible rfl)
  try simp only [Act.put, pA, pB, pC]
  refine tkH 24 hr25 ?_ rfl (by kernel_rfl) (fun _ _ _ h => h) (by rfl) ‹_› ?_ ?_
  rotate_left
  · intro W hSW; first | (go_simp; done) | (go_simp; with_reducible rfl)
  try simp only [Act.put, pA, pB, pC]
  refine tkH 25 hr26 (.bool false) rfl (by kernel_rfl) (fun _ _ _ h => h) (by rfl) ‹_› ?_ ?_
  · intro W hSW; first | (go_simp; done) | (go_simp; with_reducible rfl)
  try simp only [Act.put, pA, pB, pC]
  refine tkH 26 hr27 ?_ rfl (by kernel_rfl) (fun _ _ _ h => h) (by rfl) ‹_› ?_ ?_
  rotate_left
  · intro W hSW; first | (go_simp; done) | (go_simp; with_reducible rfl)
  try simp only [Act.put, pA, pB, pC]
  refine tkH 27 hr28 ?_ rfl (by kernel_rfl) (fun _ _ _ h => h) (by rfl) ‹_› ?_ ?_
  rotate_left
  · intro W hSW; first | (go_simp; done) | (go_simp; with_reducible rfl)
  try simp only [Act.put, pA, pB, pC]
  refine tkH 28 hr29 ?_ rfl (by kernel_rfl) (fun _ _ _ h => h) (by rfl) ‹_› ?_ ?_
  rotate_left
  · intro W hSW; first | (go_simp; done) | (go_simp; with_reducible rfl)
  try simp only [Act.put, pA, pB, pC]
  refine tkH 29 hr30 ?_ rfl (by kernel_rfl) (fun _ _ _ h => h) (by rfl) ‹_› ?_ ?_
  rotate_left
  · intro W hSW; have z0 := cell_on hSW x2; have z1 := cell_on hSW x3; have z2 := cell_on hSW x4; have z3 := cell_on hSW y0; have z4 := cell_on hSW y1; have z5 := cell_on hSW y2; have z6 := cell_on hSW y3; have z7 := cell_on hSW q4; first | (go_simp; done) | (go_simp; with_reducible rfl)
  try simp only [Act.put, pA, pB, pC]
  refine tkH 30 hr31 ?_ rfl (by kernel_rfl) (fun _ _ _ h => h) (by rfl) ‹_› ?_ ?_
  rotate_left
  · intro W hSW; first | (go_simp; done) | (go_simp; with_reducible rfl)
  try simp only [Act.put, pA, pB, pC]
  refine tkH 31 hr32 (.bool false) rfl (by kernel_rfl) (fun _ _ _ h => h) (by rfl) ‹_› ?_ ?_
  · intro W hSW; first | (go_simp; done) | (go_simp; with_reducible rfl)
  try simp only [Act.put, pA, pB, pC]
  refine tkH 32 hr33 ?_ rfl (by kernel_rfl) (fun _ _ _ h => h) (by rfl) ‹_› ?_ ?_
  rotate_left
  · intro W hSW; first | (go_simp; done) | (go_simp; with_reducible rfl)
  try simp only [Act.put, pA, pB, pC]
  refine tkH 33 hr34 ?_ rfl (by kernel_rfl) (fun _ _ _ h => h) (by rfl) ‹_› ?_ ?_
  rotate_left
  · intro W hSW; first | (go_simp; done) | (go_simp; with_reducible rfl)
  try simp only [Act.put, pA, pB, pC]
  refine tkH 34 hr35 ?_ rfl (by kernel_rfl) (fun _ _ _ h => h) (by rfl) ‹_› ?_ ?_
  rotate_left
  · intro W hSW; first | (go_simp; done) | (go_simp; with_reducible rfl)
  try simp only [Act.put, pA, pB, pC]
  refine tkH 35 hr36 ?_ rfl (by kernel_rfl) (fun _ _ _ h => h) (by rfl) ‹_› ?_ ?_
  rotate_left
  · intro W hSW; have z0 := cell_on hSW x2; have z1 := cell_on hSW x3; have z2 := cell_on hSW x4; have z3 := cell_on hSW y0; have z4 := cell_on hSW y1; have z5 := cell_on hSW y2; have z6 := cell_on hSW y3; have z7 := cell_on hSW q4; first | (go_simp; done) | (go_simp; with_reducible rfl)
  try simp only [Act.put, pA, pB, pC]
  refine tkH 37 hr38 ?_ rfl (by kernel_rfl) (fun _ _ _ h => h) (by rfl) ‹_› ?_ ?_
  rotate_left
  · intro W hSW; first | (go_simp; done) | (go_simp; with_reducible rfl)
  try simp only [Act.put, pA, pB, pC]
  refine tkH 38 hr39 ?_ rfl (by kernel_rfl) (fun _ _ _ h => h) (by rfl) ‹_› ?_ ?_
  rotate_left
  · intro W hSW; have z0 := cell_on hSW x2; have z1 := cell_on hSW x3; have z2 := cell_on hSW x4; have z3 := cell_on hSW y0; have z4 := cell_on hSW y1; have z5 := cell_on hSW y2; have z6 := cell_on hSW y3; have z7 := cell_on hSW q4; first | (go_simp; done) | (go_simp; with_reducible rfl)
  try simp only [Act.put, pA, pB, pC]
  refine tkH 39 hr40 ?_ rfl (by kernel_rfl) (fun _ _ _ h => h) (by rfl) ‹_› ?_ ?_
  rotate_left
  · intro W hSW; first | (go_simp; done) | (go_simp; with_reducible rfl)
  try simp only [Act.put, pA, pB, pC]
  refine tkH 40 hr41 ?_ rfl (by kernel_rfl) (fun _ _ _ h => h) (by rfl) ‹_› ?_ ?_
  rotate_left
  · intro W hSW; have z0 := cell_on hSW x2; have z1 := cell_on hSW x3; have z2 := cell_on hSW x4; have z3 := cell_on hSW y0; have z4 := cell_on hSW y1; have z5 := cell_on hSW y2; have z6 := cell_on hSW y3; have z7 := cell_on hSW q4; first | (go_simp; done) | (go_simp; with_reducible rfl)
  try simp only [Act.put, pA, pB, pC]
  refine tkH 41 hr42 ?_ rfl (by kernel_rfl) (fun _ _ _ h => h) (by rfl) ‹_› ?_ ?_
  rotate_left
  · intro W hSW; first | (go_simp; done) | (go_simp; with_reducible rfl)
  try simp only [Act.put, pA, pB, pC]
  refine tkH 42 hr43 ?_ rfl (by kernel_rfl) (fun _ _ _ h => h) (by rfl) ‹_› ?_ ?_
  rotate_left
  · intro W hSW; have z0 := cell_on hSW x2; have z1 := cell_on hSW x3; have z2 := cell_on hSW x4; have z3 := cell_on hSW y0; have z4 := cell_on hSW y1; have z5 := cell_on hSW y2; have z6 := cell_on hSW y3; have z7 := cell_on hSW q4; first | (go_simp; done) | (go_simp; with_reducible rfl)
  try simp only [Act.put, pA, pB, pC]
  refine wpAnyH_lone (R := fun W => Below w2.heap.size w2 W) (i := 36) (oi := hr37) (vi := .string D) (by kernel_rfl) rfl hRw (fun _ h => h) ?_ ?_
  · intro W hW K hK
    go_simp
    refine (H36.out W hW).mono ?_
    rintro e W2 ⟨rfl, hb⟩
    go_wp2_with fail
    exact hK.out _ (below_then hW hb)
  clear hRw hHeld
  intro w4 hRw hHeld
  try simp only [Act.put, pA, pB, pC]
  refine tkH 43 hr44 (.bool false) rfl (by kernel_rfl) (fun _ _ _ h => h) (by rfl) ‹_› ?_ ?_
  · intro W hSW; first | (go_simp; done) | (go_simp; with_reducible rfl)
  try simp only [Act.put, pA, pB, pC]
  refine tkH 44 hr45 ?_ rfl (by kernel_rfl) (fun _ _ _ h => h) (by rfl) ‹_› ?_ ?_
  rotate_left
  · intro W hSW; first | (go_simp; done) | (go_simp; with_reducible rfl)
  try simp only [Act.put, pA, pB, pC]
  refine wpAnyH_done (by kernel_rfl) ?_ _
  have hx4 := hx2.below hRw
  have hy4 := hy2.below hRw hy2.lt
  have hB4 := hide (HB.out _ hRw)
  have hs4 : g + 2 ≤ w4.heap.size := by have := hRw.size; omega
  clear hRw hHeld H1 H36 x2 x3 x4 y0 y1 y2 y3 q4 t1 t2 t3 t4 t5 t6 e6 hx2 hy2 hs2 HB hb4 hB2'
  have HB : Hid (∀ W, Below w4.heap.size w4 W → Below g w W) := fun W hW => hB4.out.trans (hW.mono (by omega))
  obtain ⟨x1, x2, x3, _⟩ := HX.out _ hx4
  obtain ⟨y0, y1, y2, y3⟩ := hcells_at hy4
  rw [hna.out] at x2
  rw [hnl.out] at x3
  rw [hnp.out] at y2
  rw [hns.out] at y3
  rw [hlk.out] at y0
  have L4 := HL.out w4 hB4.out
  obtain ⟨ba, oa, hba, hAa⟩ := (HLI.out w4 hB4.out).arcs.2 ai (by rw [hna.out]; exact c2)
  rw [hba] at x2
  have da := hAa.2.2.2.2.2.2.1
  obtain ⟨xd, hxd⟩ : ∃ d, (s.arcs.getD (ai : Int).toNat noArc).dst = d := ⟨_, rfl⟩
  rw [show (s.arcs.getD ai noArc).dst = xd from hxd] at da
  replace hxd := hide hxd
  obtain ⟨b3, o3, hb3, d3⟩ := (HLI.out w4 hB4.out).leaders.2.2.2 lk (by rw [hnl.out]; exact c4)
  rw [hb3] at x3
  obtain ⟨ll, hll⟩ : ∃ d, s.leaders.getD K.lock.toNat 0 = d := ⟨_, rfl⟩
  rw [show s.leaders.getD lk 0 = ll from (by rw [← hlkt.out]; exact hll)] at d3
  replace hll := hide hll
  clear hba hAa hb3 x1
  have HP : Hid (∀ W, Below w4.heap.size w4 W → Calls Try.prog 16 #[.agg cs, .slice pa np pc] W fun e w' => e = .returned (.bool (told (pathOk s K.path))) ∧ Below W.heap.size W w') := fun W hW => by
    have h9 := rpath_any (cl := pc) (HW.out W (HB.out W hW)) (HL.out W (HB.out W hW)).path
    rw [hnp.out] at h9
    exact h9
  replace L4 := hide L4
  go_upto_region 4 with fail
  by_cases p0 : pathOk s K.path
  rotate_left
  · have hf : Hid (r = false) := hno.out (fun h => p0 h.2.2.2.2.2.1.1)
    rw [told_no p0] at HP
    clear p0 hno hyes
    have hRw : Below w4.heap.size w4 w4.drew := ⟨rfl, rfl, rfl, Nat.le_refl _, fun _ _ => rfl⟩
    refine wp_region_held_drew (S := fun W => Below w4.heap.size w4 W) (by kernel_rfl) hRw (fun hHeld => ?_)
    refine wpAnyH_take (i := 0) (oi := hr46) (v := .agg cs) rfl (by kernel_rfl) (by kernel_rfl) (by kernel_rfl) (fun _ _ _ h => h) (yields_loadV (by rfl) (.tmp 3) (by rfl) _ cs (by rfl) h7 (fun W hW => hx4.below hW)) (by assumption) ?_
    try simp only [Act.put, pA, pB, pC]
    refine tkH 1 hr47 ?_ rfl (by kernel_rfl) (fun _ _ _ h => h) (by rfl) ‹_› ?_ ?_
    rotate_left
    · intro W hSW; first | (go_simp; done) | (go_simp; with_reducible rfl)
    try simp only [Act.put, pA, pB, pC]
    refine tkH 2 hr48 ?_ rfl (by kernel_rfl) (fun _ _ _ h => h) (by rfl) ‹_› ?_ ?_
    rotate_left
    · intro W hSW; have z0 := cell_on hSW x2; have z1 := cell_on hSW x3; have z2 := cell_on hSW y0; have z3 := cell_on hSW y1; have z4 := cell_on hSW y2; have z5 := cell_on hSW y3; have z6 := cell_on hSW da; have z7 := cell_on hSW d3; first | (go_simp; done) | (go_simp; with_reducible rfl)
    try simp only [Act.put, pA, pB, pC]
    refine wpAnyH_lone (R := fun W => Below w4.heap.size w4 W) (i := 3) (oi := hr49) (vi := .bool false) (by kernel_rfl) rfl hRw (fun _ h => h) ?_ ?_
    · intro W hW K hK
      go_simp
      refine (HP.out W hW).mono ?_
      rintro e W2 ⟨rfl, hb⟩
      go_wp2_with fail
      exact hK.out _ (below_then hW hb)
    clear hRw hHeld
    intro W9 hRw hHeld
    try simp only [Act.put, pA, pB, pC]
    refine tkH 4 hr50 ?_ rfl (by kernel_rfl) (fun _ _ _ h => h) (by rfl) ‹_› ?_ ?_
    rotate_left
    · intro W hSW; first | (go_simp; done) | (go_simp; with_reducible rfl)
    try simp only [Act.put, pA, pB, pC]
    refine tkH 5 hr51 ?_ rfl (by kernel_rfl) (fun _ _ _ h => h) (by rfl) ‹_› ?_ ?_
    rotate_left
    · intro W hSW; first | (go_simp; done) | (go_simp; with_reducible rfl)
    try simp only [Act.put, pA, pB, pC]
    refine tkO 6 hr52 rfl (by kernel_rfl) (fun _ _ _ h => h) (by rfl) ‹_› ?_
    try simp only [Act.put, pA, pB, pC]
    refine tkO 7 hr53 rfl (by kernel_rfl) (fun _ _ _ h => h) (by rfl) ‹_› ?_
    try simp only [Act.put, pA, pB, pC]
    refine tkO 8 hr54 rfl (by kernel_rfl) (fun _ _ _ h => h) (by rfl) ‹_› ?_
    try simp only [Act.put, pA, pB, pC]
    refine tkO 9 hr55 rfl (by kernel_rfl) (fun _ _ _ h => h) (by rfl) ‹_› ?_
    try simp only [Act.put, pA, pB, pC]
    refine tkO 10 hr56 rfl (by kernel_rfl) (fun _ _ _ h => h) (by rfl) ‹_› ?_
    try simp only [Act.put, pA, pB, pC]
    refine tkO 11 hr57 rfl (by kernel_rfl) (fun _ _ _ h => h) (by rfl) ‹_› ?_
    try simp only [Act.put, pA, pB, pC]
    refine tkO 12 hr58 rfl (by kernel_rfl) (fun _ _ _ h => h) (by rfl) ‹_› ?_
    try simp only [Act.put, pA, pB, pC]
    refine tkO 13 hr59 rfl (by kernel_rfl) (fun _ _ _ h => h) (by rfl) ‹_› ?_
    try simp only [Act.put, pA, pB, pC]
    refine tkO 14 hr60 rfl (by kernel_rfl) (fun _ _ _ h => h) (by rfl) ‹_› ?_
    try simp only [Act.put, pA, pB, pC]
    refine tkO 15 hr61 rfl (by kernel_rfl) (fun _ _ _ h => h) (by rfl) ‹_› ?_
    try simp only [Act.put, pA, pB, pC]
    refine tkO 16 hr62 rfl (by kernel_rfl) (fun _ _ _ h => h) (by rfl) ‹_› ?_
    try simp only [Act.put, pA, pB, pC]
    refine tkH 17 hr63 ?_ rfl (by kernel_rfl) (fun _ _ _ h => h) (by rfl) ‹_› ?_ ?_
    rotate_left
    · intro W hSW; first | (go_simp; done) | (go_simp; with_reducible rfl)
    try simp only [Act.put, pA, pB, pC]
    refine tkH 18 hr64 ?_ rfl (by kernel_rfl) (fun _ _ _ h => h) (by rfl) ‹_› ?_ ?_
    rotate_left
    · intro W hSW; first | (go_simp; done) | (go_simp; with_reducible rfl)
    try simp only [Act.put, pA, pB, pC]
    refine tkO 19 hr65 rfl (by kernel_rfl) (fun _ _ _ h => h) (by rfl) ‹_› ?_
    try simp only [Act.put, pA, pB, pC]
    refine tkO 20 hr66 rfl (by kernel_rfl) (fun _ _ _ h => h) (by rfl) ‹_› ?_
    try simp only [Act.put, pA, pB, pC]
    refine tkO 21 hr67 rfl (by kernel_rfl) (fun _ _ _ h => h) (by rfl) ‹_› ?_
    try simp only [Act.put, pA, pB, pC]
    refine tkO 22 hr68 rfl (by kernel_rfl) (fun _ _ _ h => h) (by rfl) ‹_› ?_
    try simp only [Act.put, pA, pB, pC]
    refine tkO 23 hr69 rfl (by kernel_rfl) (fun _ _ _ h => h) (by rfl) ‹_› ?_
    try simp only [Act.put, pA, pB, pC]
    refine tkO 24 hr70 rfl (by kernel_rfl) (fun _ _ _ h => h) (by rfl) ‹_› ?_
    try simp only [Act.put, pA, pB, pC]
    refine tkO 25 hr71 rfl (by kernel_rfl) (fun _ _ _ h => h) (by rfl) ‹_› ?_
    try simp only [Act.put, pA, pB, pC]
    refine tkO 26 hr72 rfl (by kernel_rfl) (fun _ _ _ h => h) (by rfl) ‹_› ?_
    try simp only [Act.put, pA, pB, pC]
    refine tkO 27 hr73 rfl (by kernel_rfl) (fun _ _ _ h => h) (by rfl) ‹_› ?_
    try simp only [Act.put, pA, pB, pC]
    refine tkO 28 hr74 rfl (by kernel_rfl) (fun _ _ _ h => h) (by rfl) ‹_› ?_
    try simp only [Act.put, pA, pB, pC]
    refine tkO 29 hr75 rfl (by kernel_rfl) (fun _ _ _ h => h) (by rfl) ‹_› ?_
    try simp only [Act.put, pA, pB, pC]
    refine tkO 30 hr76 rfl (by kernel_rfl) (fun _ _ _ h => h) (by rfl) ‹_› ?_
    try simp only [Act.put, pA, pB, pC]
    refine tkO 31 hr77 rfl (by kernel_rfl) (fun _ _ _ h => h) (by rfl) ‹_› ?_
    try simp only [Act.put, pA, pB, pC]
    refine tkH 32 hr78 ?_ rfl (by kernel_rfl) (fun _ _ _ h => h) (by rfl) ‹_› ?_ ?_
    rotate_left
    · intro W hSW; first | (go_simp; done) | (go_simp; with_reducible rfl)
    try simp only [Act.put, pA, pB, pC]
    refine tkH 33 hr79 ?_ rfl (by kernel_rfl) (fun _ _ _ h => h) (by rfl) ‹_› ?_ ?_
    rotate_left
    · intro W hSW; first | (go_simp; done) | (go_simp; with_reducible rfl)
    try simp only [Act.put, pA, pB, pC]
    refine tkO 34 hr80 rfl (by kernel_rfl) (fun _ _ _ h => h) (by rfl) ‹_› ?_
    try simp only [Act.put, pA, pB, pC]
    refine tkO 35 hr81 rfl (by kernel_rfl) (fun _ _ _ h => h) (by rfl) ‹_› ?_
    try simp only [Act.put, pA, pB, pC]
    refine tkO 36 hr82 rfl (by kernel_rfl) (fun _ _ _ h => h) (by rfl) ‹_› ?_
    try simp only [Act.put, pA, pB, pC]
    refine tkO 37 hr83 rfl (by kernel_rfl) (fun _ _ _ h => h) (by rfl) ‹_› ?_
    try simp only [Act.put, pA, pB, pC]
    refine tkO 38 hr84 rfl (by kernel_rfl) (fun _ _ _ h => h) (by rfl) ‹_› ?_
    try simp only [Act.put, pA, pB, pC]
    refine tkH 39 hr85 ?_ rfl (by kernel_rfl) (fun _ _ _ h => h) (by rfl) ‹_› ?_ ?_
    rotate_left
    · intro W hSW; first | (go_simp; done) | (go_simp; with_reducible rfl)
    try simp only [Act.put, pA, pB, pC]
    refine wpAnyH_done (by kernel_rfl) ?_ _
    have hB9 := HB.out _ hRw
    clear hRw hHeld
    go_wp2
    go_ret
    exact ⟨ret_bool hf.out.symm, hB9⟩
  rw [told_yes p0] at HP
  have hpp : Hid (∀ j, j < np → 0 ≤ K.path.getD j 0 ∧ K.path.getD j 0 < (s.parties.length : Int)) := fun j hj => (p0.2.2 j (by rw [hnp.out]; exact hj)).1
  have hn0 : 0 < np := by have := p0.2.1; rw [hnp.out] at this; omega
  obtain ⟨b0, o0, hpa, d0⟩ := L4.out.path.2.2.2 0 (by rw [hnp.out]; exact hn0)
  rw [hpa] at y2 HP
  have d0 : w4.cell? ⟨b0, o0, none⟩ = some (.int .i64 (K.path.getD 0 0)) := d0
  obtain ⟨xf, hxf⟩ : ∃ x, K.path.getD 0 0 = x := ⟨_, rfl⟩
  rw [hxf] at d0
  obtain ⟨np1, hnp1⟩ : ∃ m, np = m + 1 := ⟨np - 1, by omega⟩
  obtain ⟨bl, ol, hbl, dl⟩ := L4.out.path.2.2.2 np1 (by rw [hnp.out]; omega)
  rw [hpa] at hbl
  injection hbl with hbl
  injection hbl with hbl1 hbl2 _
  subst hbl1 hbl2
  obtain ⟨xl, hxl⟩ : ∃ x, K.path.getD (K.path.length - 1) 0 = x := ⟨_, rfl⟩
  rw [show K.path.getD np1 0 = xl from (by rw [← hxl, hnp.out, hnp1]; rfl)] at dl
  have hwp : IntKind.i64.wrap ((np : Int) - 1) = (np1 : Int) := by rw [wrap_i64k (by omega) (by omega)]; omega
  have hnn : np1 < np := by omega
  replace p0 := hide p0
  replace hxf := hide hxf
  replace hxl := hide hxl
  replace hnp1 := hide hnp1
  replace hpa := hide hpa
  by_cases p1 : xf = xd
  rotate_left
  · have hf : Hid (r = false) := hno.out (fun h => p1 (by rw [← hxf.out, ← hxd.out]; exact h.2.2.2.2.2.1.2.1))
    have u1 : (xf != xd) = true := by rw [bne_iff_ne]; exact p1
    clear hno hyes
    have hRw : Below w4.heap.size w4 w4.drew := ⟨rfl, rfl, rfl, Nat.le_refl _, fun _ _ => rfl⟩
    refine wp_region_held_drew (S := fun W => Below w4.heap.size w4 W) (by kernel_rfl) hRw (fun hHeld => ?_)
    refine wpAnyH_take (i := 0) (oi := hr46) (v := .agg cs) rfl (by kernel_rfl) (by kernel_rfl) (by kernel_rfl) (fun _ _ _ h => h) (yields_loadV (by rfl) (.tmp 3) (by rfl) _ cs (by rfl) h7 (fun W hW => hx4.below hW)) (by assumption) ?_
    try simp only [Act.put, pA, pB, pC]
    refine tkH 1 hr47 ?_ rfl (by kernel_rfl) (fun _ _ _ h => h) (by rfl) ‹_› ?_ ?_
    rotate_left
    · intro W hSW; first | (go_simp; done) | (go_simp; with_reducible rfl)
    try simp only [Act.put, pA, pB, pC]
    refine tkH 2 hr48 ?_ rfl (by kernel_rfl) (fun _ _ _ h => h) (by rfl) ‹_› ?_ ?_
    rotate_left
    · intro W hSW; have z0 := cell_on hSW x2; have z1 := cell_on hSW x3; have z2 := cell_on hSW y0; have z3 := cell_on hSW y1; have z4 := cell_on hSW y2; have z5 := cell_on hSW y3; have z6 := cell_on hSW da; have z7 := cell_on hSW d3; have z8 := cell_on hSW d0; have z9 := cell_on hSW dl; first | (go_simp; done) | (go_simp; with_reducible rfl)
    try simp only [Act.put, pA, pB, pC]
    refine wpAnyH_lone (R := fun W => Below w4.heap.size w4 W) (i := 3) (oi := hr49) (vi := .bool true) (by kernel_rfl) rfl hRw (fun _ h => h) ?_ ?_
    · intro W hW K hK
      go_simp
      refine (HP.out W hW).mono ?_
      rintro e W2 ⟨rfl, hb⟩
      go_wp2_with fail
      exact hK.out _ (below_then hW hb)
    clear hRw hHeld
    intro W9 hRw hHeld
    try simp only [Act.put, pA, pB, pC]
    refine tkH 4 hr50 ?_ rfl (by kernel_rfl) (fun _ _ _ h => h) (by rfl) ‹_› ?_ ?_
    rotate_left
    · intro W hSW; first | (go_simp; done) | (go_simp; with_reducible rfl)
    try simp only [Act.put, pA, pB, pC]
    refine tkH 5 hr51 ?_ rfl (by kernel_rfl) (fun _ _ _ h => h) (by rfl) ‹_› ?_ ?_
    rotate_left
    · intro W hSW; first | (go_simp; done) | (go_simp; with_reducible rfl)
    try simp only [Act.put, pA, pB, pC]
    refine tkH 6 hr52 ?_ rfl (by kernel_rfl) (fun _ _ _ h => h) (by rfl) ‹_› ?_ ?_
    rotate_left
    · intro W hSW; first | (go_simp; done) | (go_simp; with_reducible rfl)
    try simp only [Act.put, pA, pB, pC]
    refine tkH 7 hr53 ?_ rfl (by kernel_rfl) (fun _ _ _ h => h) (by rfl) ‹_› ?_ ?_
    rotate_left
    · intro W hSW; have z0 := cell_on hSW x2; have z1 := cell_on hSW x3; have z2 := cell_on hSW y0; have z3 := cell_on hSW y1; have z4 := cell_on hSW y2; have z5 := cell_on hSW y3; have z6 := cell_on hSW da; have z7 := cell_on hSW d3; have z8 := cell_on hSW d0; have z9 := cell_on hSW dl; first | (go_simp; done) | (go_simp; with_reducible rfl)
    try simp only [Act.put, pA, pB, pC]
    refine tkH 8 hr54 ?_ rfl (by kernel_rfl) (fun _ _ _ h => h) (by rfl) ‹_› ?_ ?_
    rotate_left
    · intro W hSW; first | (go_simp; done) | (go_simp; with_reducible rfl)
    try simp only [Act.put, pA, pB, pC]
    refine tkH 9 hr55 ?_ rfl (by kernel_rfl) (fun _ _ _ h => h) (by rfl) ‹_› ?_ ?_
    rotate_left
    · intro W hSW; have z0 := cell_on hSW x2; have z1 := cell_on hSW x3; have z2 := cell_on hSW y0; have z3 := cell_on hSW y1; have z4 := cell_on hSW y2; have z5 := cell_on hSW y3; have z6 := cell_on hSW da; have z7 := cell_on hSW d3; have z8 := cell_on hSW d0; have z9 := cell_on hSW dl; first | (go_simp; done) | (go_simp; with_reducible rfl)
    try simp only [Act.put, pA, pB, pC]
    refine tkH 10 hr56 ?_ rfl (by kernel_rfl) (fun _ _ _ h => h) (by rfl) ‹_› ?_ ?_
    rotate_left
    · intro W hSW; first | (go_simp; done) | (go_simp; with_reducible rfl)
    try simp only [Act.put, pA, pB, pC]
    refine tkH 11 hr57 ?_ rfl (by kernel_rfl) (fun _ _ _ h => h) (by rfl) ‹_› ?_ ?_
    rotate_left
    · intro W hSW; have z0 := cell_on hSW x2; have z1 := cell_on hSW x3; have z2 := cell_on hSW y0; have z3 := cell_on hSW y1; have z4 := cell_on hSW y2; have z5 := cell_on hSW y3; have z6 := cell_on hSW da; have z7 := cell_on hSW d3; have z8 := cell_on hSW d0; have z9 := cell_on hSW dl; first | (go_simp; done) | (go_simp; with_reducible rfl)
    try simp only [Act.put, pA, pB, pC]
    refine tkH 12 hr58 ?_ rfl (by kernel_rfl) (fun _ _ _ h => h) (by rfl) ‹_› ?_ ?_
    rotate_left
    · intro W hSW; first | (go_simp; done) | (go_simp; with_reducible rfl)
    try simp only [Act.put, pA, pB, pC]
    refine tkH 13 hr59 ?_ rfl (by kernel_rfl) (fun _ _ _ h => h) (by rfl) ‹_› ?_ ?_
    rotate_left
    · intro W hSW; first | (go_simp; done) | (go_simp; with_reducible rfl)
    try simp only [Act.put, pA, pB, pC]
    refine tkH 14 hr60 ?_ rfl (by kernel_rfl) (fun _ _ _ h => h) (by rfl) ‹_› ?_ ?_
    rotate_left
    · intro W hSW; first | (go_simp; done) | (go_simp; with_reducible rfl)
    try simp only [Act.put, pA, pB, pC]
    refine tkH 15 hr61 (.int .i64 xd) rfl (by kernel_rfl) (fun _ _ _ h => h) (by rfl) ‹_› ?_ ?_
    · intro W hSW; have z0 := cell_on hSW x2; have z1 := cell_on hSW x3; have z2 := cell_on hSW y0; have z3 := cell_on hSW y1; have z4 := cell_on hSW y2; have z5 := cell_on hSW y3; have z6 := cell_on hSW da; have z7 := cell_on hSW d3; have z8 := cell_on hSW d0; have z9 := cell_on hSW dl; first | (go_simp; done) | (go_simp; with_reducible rfl)
    try simp only [Act.put, pA, pB, pC]
    refine tkH 16 hr62 (.bool true) rfl (by kernel_rfl) (fun _ _ _ h => h) (by rfl) ‹_› ?_ ?_
    · intro W hSW; first | (go_simp; done) | (go_simp; with_reducible rfl)
    try simp only [Act.put, pA, pB, pC]
    refine tkH 17 hr63 ?_ rfl (by kernel_rfl) (fun _ _ _ h => h) (by rfl) ‹_› ?_ ?_
    rotate_left
    · intro W hSW; first | (go_simp; done) | (go_simp; with_reducible rfl)
    try simp only [Act.put, pA, pB, pC]
    refine tkH 18 hr64 ?_ rfl (by kernel_rfl) (fun _ _ _ h => h) (by rfl) ‹_› ?_ ?_
    rotate_left
    · intro W hSW; first | (go_simp; done) | (go_simp; with_reducible rfl)
    try simp only [Act.put, pA, pB, pC]
    refine tkO 19 hr65 rfl (by kernel_rfl) (fun _ _ _ h => h) (by rfl) ‹_› ?_
    try simp only [Act.put, pA, pB, pC]
    refine tkO 20 hr66 rfl (by kernel_rfl) (fun _ _ _ h => h) (by rfl) ‹_› ?_
    try simp only [Act.put, pA, pB, pC]
    refine tkO 21 hr67 rfl (by kernel_rfl) (fun _ _ _ h => h) (by rfl) ‹_› ?_
    try simp only [Act.put, pA, pB, pC]
    refine tkO 22 hr68 rfl (by kernel_rfl) (fun _ _ _ h => h) (by rfl) ‹_› ?_
    try simp only [Act.put, pA, pB, pC]
    refine tkO 23 hr69 rfl (by kernel_rfl) (fun _ _ _ h => h) (by rfl) ‹_› ?_
    try simp only [Act.put, pA, pB, pC]
    refine tkO 24 hr70 rfl (by kernel_rfl) (fun _ _ _ h => h) (by rfl) ‹_› ?_
    try simp only [Act.put, pA, pB, pC]
    refine tkO 25 hr71 rfl (by kernel_rfl) (fun _ _ _ h => h) (by rfl) ‹_› ?_
    try simp only [Act.put, pA, pB, pC]
    refine tkO 26 hr72 rfl (by kernel_rfl) (fun _ _ _ h => h) (by rfl) ‹_› ?_
    try simp only [Act.put, pA, pB, pC]
    refine tkO 27 hr73 rfl (by kernel_rfl) (fun _ _ _ h => h) (by rfl) ‹_› ?_
    try simp only [Act.put, pA, pB, pC]
    refine tkO 28 hr74 rfl (by kernel_rfl) (fun _ _ _ h => h) (by rfl) ‹_› ?_
    try simp only [Act.put, pA, pB, pC]
    refine tkO 29 hr75 rfl (by kernel_rfl) (fun _ _ _ h => h) (by rfl) ‹_› ?_
    try simp only [Act.put, pA, pB, pC]
    refine tkO 30 hr76 rfl (by kernel_rfl) (fun _ _ _ h => h) (by rfl) ‹_› ?_
    try simp only [Act.put, pA, pB, pC]
    refine tkO 31 hr77 rfl (by kernel_rfl) (fun _ _ _ h => h) (by rfl) ‹_› ?_
    try simp only [Act.put, pA, pB, pC]
    refine tkH 32 hr78 ?_ rfl (by kernel_rfl) (fun _ _ _ h => h) (by rfl) ‹_› ?_ ?_
    rotate_left
    · intro W hSW; first | (go_simp; done) | (go_simp; with_reducible rfl)
    try simp only [Act.put, pA, pB, pC]
    refine tkH 33 hr79 ?_ rfl (by kernel_rfl) (fun _ _ _ h => h) (by rfl) ‹_› ?_ ?_
    rotate_left
    · intro W hSW; first | (go_simp; done) | (go_simp; with_reducible rfl)
    try simp only [Act.put, pA, pB, pC]
    refine tkO 34 hr80 rfl (by kernel_rfl) (fun _ _ _ h => h) (by rfl) ‹_› ?_
    try simp only [Act.put, pA, pB, pC]
    refine tkO 35 hr81 rfl (by kernel_rfl) (fun _ _ _ h => h) (by rfl) ‹_› ?_
    try simp only [Act.put, pA, pB, pC]
    refine tkO 36 hr82 rfl (by kernel_rfl) (fun _ _ _ h => h) (by rfl) ‹_› ?_
    try simp only [Act.put, pA, pB, pC]
    refine tkO 37 hr83 rfl (by kernel_rfl) (fun _ _ _ h => h) (by rfl) ‹_› ?_
    try simp only [Act.put, pA, pB, pC]
    refine tkO 38 hr84 rfl (by kernel_rfl) (fun _ _ _ h => h) (by rfl) ‹_› ?_
    try simp only [Act.put, pA, pB, pC]
    refine tkH 39 hr85 ?_ rfl (by kernel_rfl) (fun _ _ _ h => h) (by rfl) ‹_› ?_ ?_
    rotate_left
    · intro W hSW; first | (go_simp; done) | (go_simp; with_reducible rfl)
    try simp only [Act.put, pA, pB, pC]
    refine wpAnyH_done (by kernel_rfl) ?_ _
    have hB9 := HB.out _ hRw
    clear hRw hHeld
    go_wp2
    go_ret
    exact ⟨ret_bool hf.out.symm, hB9⟩
  have u1 : (xf != xd) = false := by rw [p1]; simp
  replace p1 := hide p1
  by_cases p2 : xl = ll
  rotate_left
  · have hf : Hid (r = false) := hno.out (fun h => p2 (by rw [← hxl.out, ← hll.out]; exact h.2.2.2.2.2.1.2.2))
    have u2 : (xl != ll) = true := by rw [bne_iff_ne]; exact p2
    clear hno hyes
    have hRw : Below w4.heap.size w4 w4.drew := ⟨rfl, rfl, rfl, Nat.le_refl _, fun _ _ => rfl⟩
    refine wp_region_held_drew (S := fun W => Below w4.heap.size w4 W) (by kernel_rfl) hRw (fun hHeld => ?_)
    refine wpAnyH_take (i := 0) (oi := hr46) (v := .agg cs) rfl (by kernel_rfl) (by kernel_rfl) (by kernel_rfl) (fun _ _ _ h => h) (yields_loadV (by rfl) (.tmp 3) (by rfl) _ cs (by rfl) h7 (fun W hW => hx4.below hW)) (by assumption) ?_
    try simp only [Act.put, pA, pB, pC]
    refine tkH 1 hr47 ?_ rfl (by kernel_rfl) (fun _ _ _ h => h) (by rfl) ‹_› ?_ ?_
    rotate_left
    · intro W hSW; first | (go_simp; done) | (go_simp; with_reducible rfl)
    try simp only [Act.put, pA, pB, pC]
    refine tkH 2 hr48 ?_ rfl (by kernel_rfl) (fun _ _ _ h => h) (by rfl) ‹_› ?_ ?_
    rotate_left
    · intro W hSW; have z0 := cell_on hSW x2; have z1 := cell_on hSW x3; have z2 := cell_on hSW y0; have z3 := cell_on hSW y1; have z4 := cell_on hSW y2; have z5 := cell_on hSW y3; have z6 := cell_on hSW da; have z7 := cell_on hSW d3; have z8 := cell_on hSW d0; have z9 := cell_on hSW dl; first | (go_simp; done) | (go_simp; with_reducible rfl)
    try simp only [Act.put, pA, pB, pC]
    refine wpAnyH_lone (R := fun W => Below w4.heap.size w4 W) (i := 3) (oi := hr49) (vi := .bool true) (by kernel_rfl) rfl hRw (fun _ h => h) ?_ ?_
    · intro W hW K hK
      go_simp
      refine (HP.out W hW).mono ?_
      rintro e W2 ⟨rfl, hb⟩
      go_wp2_with fail
      exact hK.out _ (below_then hW hb)
    clear hRw hHeld
    intro W9 hRw hHeld
    try simp only [Act.put, pA, pB, pC]
    refine tkH 4 hr50 ?_ rfl (by kernel_rfl) (fun _ _ _ h => h) (by rfl) ‹_› ?_ ?_
    rotate_left
    · intro W hSW; first | (go_simp; done) | (go_simp; with_reducible rfl)
    try simp only [Act.put, pA, pB, pC]
    refine tkH 5 hr51 ?_ rfl (by kernel_rfl) (fun _ _ _ h => h) (by rfl) ‹_› ?_ ?_
    rotate_left
    · intro W hSW; first | (go_simp; done) | (go_simp; with_reducible rfl)
    try simp only [Act.put, pA, pB, pC]
    refine tkH 6 hr52 ?_ rfl (by kernel_rfl) (fun _ _ _ h => h) (by rfl) ‹_› ?_ ?_
    rotate_left
    · intro W hSW; first | (go_simp; done) | (go_simp; with_reducible rfl)
    try simp only [Act.put, pA, pB, pC]
    refine tkH 7 hr53 ?_ rfl (by kernel_rfl) (fun _ _ _ h => h) (by rfl) ‹_› ?_ ?_
    rotate_left
    · intro W hSW; have z0 := cell_on hSW x2; have z1 := cell_on hSW x3; have z2 := cell_on hSW y0; have z3 := cell_on hSW y1; have z4 := cell_on hSW y2; have z5 := cell_on hSW y3; have z6 := cell_on hSW da; have z7 := cell_on hSW d3; have z8 := cell_on hSW d0; have z9 := cell_on hSW dl; first | (go_simp; done) | (go_simp; with_reducible rfl)
    try simp only [Act.put, pA, pB, pC]
    refine tkH 8 hr54 ?_ rfl (by kernel_rfl) (fun _ _ _ h => h) (by rfl) ‹_› ?_ ?_
    rotate_left
    · intro W hSW; first | (go_simp; done) | (go_simp; with_reducible rfl)
    try simp only [Act.put, pA, pB, pC]
    refine tkH 9 hr55 ?_ rfl (by kernel_rfl) (fun _ _ _ h => h) (by rfl) ‹_› ?_ ?_
    rotate_left
    · intro W hSW; have z0 := cell_on hSW x2; have z1 := cell_on hSW x3; have z2 := cell_on hSW y0; have z3 := cell_on hSW y1; have z4 := cell_on hSW y2; have z5 := cell_on hSW y3; have z6 := cell_on hSW da; have z7 := cell_on hSW d3; have z8 := cell_on hSW d0; have z9 := cell_on hSW dl; first | (go_simp; done) | (go_simp; with_reducible rfl)
    try simp only [Act.put, pA, pB, pC]
    refine tkH 10 hr56 ?_ rfl (by kernel_rfl) (fun _ _ _ h => h) (by rfl) ‹_› ?_ ?_
    rotate_left
    · intro W hSW; first | (go_simp; done) | (go_simp; with_reducible rfl)
    try simp only [Act.put, pA, pB, pC]
    refine tkH 11 hr57 ?_ rfl (by kernel_rfl) (fun _ _ _ h => h) (by rfl) ‹_› ?_ ?_
    rotate_left
    · intro W hSW; have z0 := cell_on hSW x2; have z1 := cell_on hSW x3; have z2 := cell_on hSW y0; have z3 := cell_on hSW y1; have z4 := cell_on hSW y2; have z5 := cell_on hSW y3; have z6 := cell_on hSW da; have z7 := cell_on hSW d3; have z8 := cell_on hSW d0; have z9 := cell_on hSW dl; first | (go_simp; done) | (go_simp; with_reducible rfl)
    try simp only [Act.put, pA, pB, pC]
    refine tkH 12 hr58 ?_ rfl (by kernel_rfl) (fun _ _ _ h => h) (by rfl) ‹_› ?_ ?_
    rotate_left
    · intro W hSW; first | (go_simp; done) | (go_simp; with_reducible rfl)
    try simp only [Act.put, pA, pB, pC]
    refine tkH 13 hr59 ?_ rfl (by kernel_rfl) (fun _ _ _ h => h) (by rfl) ‹_› ?_ ?_
    rotate_left
    · intro W hSW; first | (go_simp; done) | (go_simp; with_reducible rfl)
    try simp only [Act.put, pA, pB, pC]
    refine tkH 14 hr60 ?_ rfl (by kernel_rfl) (fun _ _ _ h => h) (by rfl) ‹_› ?_ ?_
    rotate_left
    · intro W hSW; first | (go_simp; done) | (go_simp; with_reducible rfl)
    try simp only [Act.put, pA, pB, pC]
    refine tkH 15 hr61 (.int .i64 xd) rfl (by kernel_rfl) (fun _ _ _ h => h) (by rfl) ‹_› ?_ ?_
    · intro W hSW; have z0 := cell_on hSW x2; have z1 := cell_on hSW x3; have z2 := cell_on hSW y0; have z3 := cell_on hSW y1; have z4 := cell_on hSW y2; have z5 := cell_on hSW y3; have z6 := cell_on hSW da; have z7 := cell_on hSW d3; have z8 := cell_on hSW d0; have z9 := cell_on hSW dl; first | (go_simp; done) | (go_simp; with_reducible rfl)
    try simp only [Act.put, pA, pB, pC]
    refine tkH 16 hr62 (.bool false) rfl (by kernel_rfl) (fun _ _ _ h => h) (by rfl) ‹_› ?_ ?_
    · intro W hSW; first | (go_simp; done) | (go_simp; with_reducible rfl)
    try simp only [Act.put, pA, pB, pC]
    refine tkH 17 hr63 ?_ rfl (by kernel_rfl) (fun _ _ _ h => h) (by rfl) ‹_› ?_ ?_
    rotate_left
    · intro W hSW; first | (go_simp; done) | (go_simp; with_reducible rfl)
    try simp only [Act.put, pA, pB, pC]
    refine tkH 18 hr64 ?_ rfl (by kernel_rfl) (fun _ _ _ h => h) (by rfl) ‹_› ?_ ?_
    rotate_left
    · intro W hSW; first | (go_simp; done) | (go_simp; with_reducible rfl)
    try simp only [Act.put, pA, pB, pC]
    refine tkH 19 hr65 ?_ rfl (by kernel_rfl) (fun _ _ _ h => h) (by rfl) ‹_› ?_ ?_
    rotate_left
    · intro W hSW; first | (go_simp; done) | (go_simp; with_reducible rfl)
    try simp only [Act.put, pA, pB, pC]
    refine tkH 20 hr66 ?_ rfl (by kernel_rfl) (fun _ _ _ h => h) (by rfl) ‹_› ?_ ?_
    rotate_left
    · intro W hSW; have z0 := cell_on hSW x2; have z1 := cell_on hSW x3; have z2 := cell_on hSW y0; have z3 := cell_on hSW y1; have z4 := cell_on hSW y2; have z5 := cell_on hSW y3; have z6 := cell_on hSW da; have z7 := cell_on hSW d3; have z8 := cell_on hSW d0; have z9 := cell_on hSW dl; first | (go_simp; done) | (go_simp; with_reducible rfl)
    try simp only [Act.put, pA, pB, pC]
    refine tkH 21 hr67 ?_ rfl (by kernel_rfl) (fun _ _ _ h => h) (by rfl) ‹_› ?_ ?_
    rotate_left
    · intro W hSW; first | (go_simp; done) | (go_simp; with_reducible rfl)
    try simp only [Act.put, pA, pB, pC]
    refine tkH 22 hr68 (.int .i64 (np1 : Int)) rfl (by kernel_rfl) (fun _ _ _ h => h) (by rfl) ‹_› ?_ ?_
    · intro W hSW; first | (go_simp; done) | (go_simp; with_reducible rfl)
    try simp only [Act.put, pA, pB, pC]
    refine tkH 23 hr69 ?_ rfl (by kernel_rfl) (fun _ _ _ h => h) (by rfl) ‹_› ?_ ?_
    rotate_left
    · intro W hSW; first | (go_simp; done) | (go_simp; with_reducible rfl)
    try simp only [Act.put, pA, pB, pC]
    refine tkH 24 hr70 ?_ rfl (by kernel_rfl) (fun _ _ _ h => h) (by rfl) ‹_› ?_ ?_
    rotate_left
    · intro W hSW; have z0 := cell_on hSW x2; have z1 := cell_on hSW x3; have z2 := cell_on hSW y0; have z3 := cell_on hSW y1; have z4 := cell_on hSW y2; have z5 := cell_on hSW y3; have z6 := cell_on hSW da; have z7 := cell_on hSW d3; have z8 := cell_on hSW d0; have z9 := cell_on hSW dl; first | (go_simp; done) | (go_simp; with_reducible rfl)
    try simp only [Act.put, pA, pB, pC]
    refine tkH 25 hr71 ?_ rfl (by kernel_rfl) (fun _ _ _ h => h) (by rfl) ‹_› ?_ ?_
    rotate_left
    · intro W hSW; first | (go_simp; done) | (go_simp; with_reducible rfl)
    try simp only [Act.put, pA, pB, pC]
    refine tkH 26 hr72 ?_ rfl (by kernel_rfl) (fun _ _ _ h => h) (by rfl) ‹_› ?_ ?_
    rotate_left
    · intro W hSW; have z0 := cell_on hSW x2; have z1 := cell_on hSW x3; have z2 := cell_on hSW y0; have z3 := cell_on hSW y1; have z4 := cell_on hSW y2; have z5 := cell_on hSW y3; have z6 := cell_on hSW da; have z7 := cell_on hSW d3; have z8 := cell_on hSW d0; have z9 := cell_on hSW dl; first | (go_simp; done) | (go_simp; with_reducible rfl)
    try simp only [Act.put, pA, pB, pC]
    refine tkH 27 hr73 ?_ rfl (by kernel_rfl) (fun _ _ _ h => h) (by rfl) ‹_› ?_ ?_
    rotate_left
    · intro W hSW; first | (go_simp; done) | (go_simp; with_reducible rfl)
    try simp only [Act.put, pA, pB, pC]
    refine tkH 28 hr74 ?_ rfl (by kernel_rfl) (fun _ _ _ h => h) (by rfl) ‹_› ?_ ?_
    rotate_left
    · intro W hSW; have z0 := cell_on hSW x2; have z1 := cell_on hSW x3; have z2 := cell_on hSW y0; have z3 := cell_on hSW y1; have z4 := cell_on hSW y2; have z5 := cell_on hSW y3; have z6 := cell_on hSW da; have z7 := cell_on hSW d3; have z8 := cell_on hSW d0; have z9 := cell_on hSW dl; first | (go_simp; done) | (go_simp; with_reducible rfl)
    try simp only [Act.put, pA, pB, pC]
    refine tkH 29 hr75 ?_ rfl (by kernel_rfl) (fun _ _ _ h => h) (by rfl) ‹_› ?_ ?_
    rotate_left
    · intro W hSW; first | (go_simp; done) | (go_simp; with_reducible rfl)
    try simp only [Act.put, pA, pB, pC]
    refine tkH 30 hr76 ?_ rfl (by kernel_rfl) (fun _ _ _ h => h) (by rfl) ‹_› ?_ ?_
    rotate_left
    · intro W hSW; have z0 := cell_on hSW x2; have z1 := cell_on hSW x3; have z2 := cell_on hSW y0; have z3 := cell_on hSW y1; have z4 := cell_on hSW y2; have z5 := cell_on hSW y3; have z6 := cell_on hSW da; have z7 := cell_on hSW d3; have z8 := cell_on hSW d0; have z9 := cell_on hSW dl; first | (go_simp; done) | (go_simp; with_reducible rfl)
    try simp only [Act.put, pA, pB, pC]
    refine tkH 31 hr77 (.bool true) rfl (by kernel_rfl) (fun _ _ _ h => h) (by rfl) ‹_› ?_ ?_
    · intro W hSW; first | (go_simp; done) | (go_simp; with_reducible rfl)
    try simp only [Act.put, pA, pB, pC]
    refine tkH 32 hr78 ?_ rfl (by kernel_rfl) (fun _ _ _ h => h) (by rfl) ‹_› ?_ ?_
    rotate_left
    · intro W hSW; first | (go_simp; done) | (go_simp; with_reducible rfl)
    try simp only [Act.put, pA, pB, pC]
    refine tkH 33 hr79 ?_ rfl (by kernel_rfl) (fun _ _ _ h => h) (by rfl) ‹_› ?_ ?_
    rotate_left
    · intro W hSW; first | (go_simp; done) | (go_simp; with_reducible rfl)
    try simp only [Act.put, pA, pB, pC]
    refine tkO 34 hr80 rfl (by kernel_rfl) (fun _ _ _ h => h) (by rfl) ‹_› ?_
    try simp only [Act.put, pA, pB, pC]
    refine tkO 35 hr81 rfl (by kernel_rfl) (fun _ _ _ h => h) (by rfl) ‹_› ?_
    try simp only [Act.put, pA, pB, pC]
    refine tkO 36 hr82 rfl (by kernel_rfl) (fun _ _ _ h => h) (by rfl) ‹_› ?_
    try simp only [Act.put, pA, pB, pC]
    refine tkO 37 hr83 rfl (by kernel_rfl) (fun _ _ _ h => h) (by rfl) ‹_› ?_
    try simp only [Act.put, pA, pB, pC]
    refine tkO 38 hr84 rfl (by kernel_rfl) (fun _ _ _ h => h) (by rfl) ‹_› ?_
    try simp only [Act.put, pA, pB, pC]
    refine tkH 39 hr85 ?_ rfl (by kernel_rfl) (fun _ _ _ h => h) (by rfl) ‹_› ?_ ?_
    rotate_left
    · intro W hSW; first | (go_simp; done) | (go_simp; with_reducible rfl)
    try simp only [Act.put, pA, pB, pC]
    refine wpAnyH_done (by kernel_rfl) ?_ _
    have hB9 := HB.out _ hRw
    clear hRw hHeld
    go_wp2
    go_ret
    exact ⟨ret_bool hf.out.symm, hB9⟩
  have u2 : (xl != ll) = false := by rw [p2]; simp
  replace p2 := hide p2
  by_cases p3 : ns = np
  rotate_left
  · have hf : Hid (r = false) := hno.out (fun h => p3 (by rw [← hns.out, ← hnp.out]; exact h.2.2.2.2.2.2.1))
    have u3 : ((ns : Int) != (np : Int)) = true := by rw [bne_iff_ne]; omega
    have v3 : ¬ ns = np := p3
    clear hno hyes p3
    have hRw : Below w4.heap.size w4 w4.drew := ⟨rfl, rfl, rfl, Nat.le_refl _, fun _ _ => rfl⟩
    refine wp_region_held_drew (S := fun W => Below w4.heap.size w4 W) (by kernel_rfl) hRw (fun hHeld => ?_)
    refine wpAnyH_take (i := 0) (oi := hr46) (v := .agg cs) rfl (by kernel_rfl) (by kernel_rfl) (by kernel_rfl) (fun _ _ _ h => h) (yields_loadV (by rfl) (.tmp 3) (by rfl) _ cs (by rfl) h7 (fun W hW => hx4.below hW)) (by assumption) ?_
    try simp only [Act.put, pA, pB, pC]
    refine tkH 1 hr47 ?_ rfl (by kernel_rfl) (fun _ _ _ h => h) (by rfl) ‹_› ?_ ?_
    rotate_left
    · intro W hSW; first | (go_simp; done) | (go_simp; with_reducible rfl)
    try simp only [Act.put, pA, pB, pC]
    refine tkH 2 hr48 ?_ rfl (by kernel_rfl) (fun _ _ _ h => h) (by rfl) ‹_› ?_ ?_
    rotate_left
    · intro W hSW; have z0 := cell_on hSW x2; have z1 := cell_on hSW x3; have z2 := cell_on hSW y0; have z3 := cell_on hSW y1; have z4 := cell_on hSW y2; have z5 := cell_on hSW y3; have z6 := cell_on hSW da; have z7 := cell_on hSW d3; have z8 := cell_on hSW d0; have z9 := cell_on hSW dl; first | (go_simp; done) | (go_simp; with_reducible rfl)
    try simp only [Act.put, pA, pB, pC]
    refine wpAnyH_lone (R := fun W => Below w4.heap.size w4 W) (i := 3) (oi := hr49) (vi := .bool true) (by kernel_rfl) rfl hRw (fun _ h => h) ?_ ?_
    · intro W hW K hK
      go_simp
      refine (HP.out W hW).mono ?_
      rintro e W2 ⟨rfl, hb⟩
      go_wp2_with fail
      exact hK.out _ (below_then hW hb)
    clear hRw hHeld
    intro W9 hRw hHeld
    try simp only [Act.put, pA, pB, pC]
    refine tkH 4 hr50 ?_ rfl (by kernel_rfl) (fun _ _ _ h => h) (by rfl) ‹_› ?_ ?_
    rotate_left
    · intro W hSW; first | (go_simp; done) | (go_simp; with_reducible rfl)
    try simp only [Act.put, pA, pB, pC]
    refine tkH 5 hr51 ?_ rfl (by kernel_rfl) (fun _ _ _ h => h) (by rfl) ‹_› ?_ ?_
    rotate_left
    · intro W hSW; first | (go_simp; done) | (go_simp; with_reducible rfl)
    try simp only [Act.put, pA, pB, pC]
    refine tkH 6 hr52 ?_ rfl (by kernel_rfl) (fun _ _ _ h => h) (by rfl) ‹_› ?_ ?_
    rotate_left
    · intro W hSW; first | (go_simp; done) | (go_simp; with_reducible rfl)
    try simp only [Act.put, pA, pB, pC]
    refine tkH 7 hr53 ?_ rfl (by kernel_rfl) (fun _ _ _ h => h) (by rfl) ‹_› ?_ ?_
    rotate_left
    · intro W hSW; have z0 := cell_on hSW x2; have z1 := cell_on hSW x3; have z2 := cell_on hSW y0; have z3 := cell_on hSW y1; have z4 := cell_on hSW y2; have z5 := cell_on hSW y3; have z6 := cell_on hSW da; have z7 := cell_on hSW d3; have z8 := cell_on hSW d0; have z9 := cell_on hSW dl; first | (go_simp; done) | (go_simp; with_reducible rfl)
    try simp only [Act.put, pA, pB, pC]
    refine tkH 8 hr54 ?_ rfl (by kernel_rfl) (fun _ _ _ h => h) (by rfl) ‹_› ?_ ?_
    rotate_left
    · intro W hSW; first | (go_simp; done) | (go_simp; with_reducible rfl)
    try simp only [Act.put, pA, pB, pC]
    refine tkH 9 hr55 ?_ rfl (by kernel_rfl) (fun _ _ _ h => h) (by rfl) ‹_› ?_ ?_
    rotate_left
    · intro W hSW; have z0 := cell_on hSW x2; have z1 := cell_on hSW x3; have z2 := cell_on hSW y0; have z3 := cell_on hSW y1; have z4 := cell_on hSW y2; have z5 := cell_on hSW y3; have z6 := cell_on hSW da; have z7 := cell_on hSW d3; have z8 := cell_on hSW d0; have z9 := cell_on hSW dl; first | (go_simp; done) | (go_simp; with_reducible rfl)
    try simp only [Act.put, pA, pB, pC]
    refine tkH 10 hr56 ?_ rfl (by kernel_rfl) (fun _ _ _ h => h) (by rfl) ‹_› ?_ ?_
    rotate_left
    · intro W hSW; first | (go_simp; done) | (go_simp; with_reducible rfl)
    try simp only [Act.put, pA, pB, pC]
    refine tkH 11 hr57 ?_ rfl (by kernel_rfl) (fun _ _ _ h => h) (by rfl) ‹_› ?_ ?_
    rotate_left
    · intro W hSW; have z0 := cell_on hSW x2; have z1 := cell_on hSW x3; have z2 := cell_on hSW y0; have z3 := cell_on hSW y1; have z4 := cell_on hSW y2; have z5 := cell_on hSW y3; have z6 := cell_on hSW da; have z7 := cell_on hSW d3; have z8 := cell_on hSW d0; have z9 := cell_on hSW dl; first | (go_simp; done) | (go_simp; with_reducible rfl)
    try simp only [Act.put, pA, pB, pC]
    refine tkH 12 hr58 ?_ rfl (by kernel_rfl) (fun _ _ _ h => h) (by rfl) ‹_› ?_ ?_
    rotate_left
    · intro W hSW; first | (go_simp; done) | (go_simp; with_reducible rfl)
    try simp only [Act.put, pA, pB, pC]
    refine tkH 13 hr59 ?_ rfl (by kernel_rfl) (fun _ _ _ h => h) (by rfl) ‹_› ?_ ?_
    rotate_left
    · intro W hSW; first | (go_simp; done) | (go_simp; with_reducible rfl)
    try simp only [Act.put, pA, pB, pC]
    refine tkH 14 hr60 ?_ rfl (by kernel_rfl) (fun _ _ _ h => h) (by rfl) ‹_› ?_ ?_
    rotate_left
    · intro W hSW; first | (go_simp; done) | (go_simp; with_reducible rfl)
    try simp only [Act.put, pA, pB, pC]
    refine tkH 15 hr61 (.int .i64 xd) rfl (by kernel_rfl) (fun _ _ _ h => h) (by rfl) ‹_› ?_ ?_
    · intro W hSW; have z0 := cell_on hSW x2; have z1 := cell_on hSW x3; have z2 := cell_on hSW y0; have z3 := cell_on hSW y1; have z4 := cell_on hSW y2; have z5 := cell_on hSW y3; have z6 := cell_on hSW da; have z7 := cell_on hSW d3; have z8 := cell_on hSW d0; have z9 := cell_on hSW dl; first | (go_simp; done) | (go_simp; with_reducible rfl)
    try simp only [Act.put, pA, pB, pC]
    refine tkH 16 hr62 (.bool false) rfl (by kernel_rfl) (fun _ _ _ h => h) (by rfl) ‹_› ?_ ?_
    · intro W hSW; first | (go_simp; done) | (go_simp; with_reducible rfl)
    try simp only [Act.put, pA, pB, pC]
    refine tkH 17 hr63 ?_ rfl (by kernel_rfl) (fun _ _ _ h => h) (by rfl) ‹_› ?_ ?_
    rotate_left
    · intro W hSW; first | (go_simp; done) | (go_simp; with_reducible rfl)
    try simp only [Act.put, pA, pB, pC]
    refine tkH 18 hr64 ?_ rfl (by kernel_rfl) (fun _ _ _ h => h) (by rfl) ‹_› ?_ ?_
    rotate_left
    · intro W hSW; first | (go_simp; done) | (go_simp; with_reducible rfl)
    try simp only [Act.put, pA, pB, pC]
    refine tkH 19 hr65 ?_ rfl (by kernel_rfl) (fun _ _ _ h => h) (by rfl) ‹_› ?_ ?_
    rotate_left
    · intro W hSW; first | (go_simp; done) | (go_simp; with_reducible rfl)
    try simp only [Act.put, pA, pB, pC]
    refine tkH 20 hr66 ?_ rfl (by kernel_rfl) (fun _ _ _ h => h) (by rfl) ‹_› ?_ ?_
    rotate_left
    · intro W hSW; have z0 := cell_on hSW x2; have z1 := cell_on hSW x3; have z2 := cell_on hSW y0; have z3 := cell_on hSW y1; have z4 := cell_on hSW y2; have z5 := cell_on hSW y3; have z6 := cell_on hSW da; have z7 := cell_on hSW d3; have z8 := cell_on hSW d0; have z9 := cell_on hSW dl; first | (go_simp; done) | (go_simp; with_reducible rfl)
    try simp only [Act.put, pA, pB, pC]
    refine tkH 21 hr67 ?_ rfl (by kernel_rfl) (fun _ _ _ h => h) (by rfl) ‹_› ?_ ?_
    rotate_left
    · intro W hSW; first | (go_simp; done) | (go_simp; with_reducible rfl)
    try simp only [Act.put, pA, pB, pC]
    refine tkH 22 hr68 (.int .i64 (np1 : Int)) rfl (by kernel_rfl) (fun _ _ _ h => h) (by rfl) ‹_› ?_ ?_
    · intro W hSW; first | (go_simp; done) | (go_simp; with_reducible rfl)
    try simp only [Act.put, pA, pB, pC]
    refine tkH 23 hr69 ?_ rfl (by kernel_rfl) (fun _ _ _ h => h) (by rfl) ‹_› ?_ ?_
    rotate_left
    · intro W hSW; first | (go_simp; done) | (go_simp; with_reducible rfl)
    try simp only [Act.put, pA, pB, pC]
    refine tkH 24 hr70 ?_ rfl (by kernel_rfl) (fun _ _ _ h => h) (by rfl) ‹_› ?_ ?_
    rotate_left
    · intro W hSW; have z0 := cell_on hSW x2; have z1 := cell_on hSW x3; have z2 := cell_on hSW y0; have z3 := cell_on hSW y1; have z4 := cell_on hSW y2; have z5 := cell_on hSW y3; have z6 := cell_on hSW da; have z7 := cell_on hSW d3; have z8 := cell_on hSW d0; have z9 := cell_on hSW dl; first | (go_simp; done) | (go_simp; with_reducible rfl)
    try simp only [Act.put, pA, pB, pC]
    refine tkH 25 hr71 ?_ rfl (by kernel_rfl) (fun _ _ _ h => h) (by rfl) ‹_› ?_ ?_
    rotate_left
    · intro W hSW; first | (go_simp; done) | (go_simp; with_reducible rfl)
    try simp only [Act.put, pA, pB, pC]
    refine tkH 26 hr72 ?_ rfl (by kernel_rfl) (fun _ _ _ h => h) (by rfl) ‹_› ?_ ?_
    rotate_left
    · intro W hSW; have z0 := cell_on hSW x2; have z1 := cell_on hSW x3; have z2 := cell_on hSW y0; have z3 := cell_on hSW y1; have z4 := cell_on hSW y2; have z5 := cell_on hSW y3; have z6 := cell_on hSW da; have z7 := cell_on hSW d3; have z8 := cell_on hSW d0; have z9 := cell_on hSW dl; first | (go_simp; done) | (go_simp; with_reducible rfl)
    try simp only [Act.put, pA, pB, pC]
    refine tkH 27 hr73 ?_ rfl (by kernel_rfl) (fun _ _ _ h => h) (by rfl) ‹_› ?_ ?_
    rotate_left
    · intro W hSW; first | (go_simp; done) | (go_simp; with_reducible rfl)
    try simp only [Act.put, pA, pB, pC]
    refine tkH 28 hr74 ?_ rfl (by kernel_rfl) (fun _ _ _ h => h) (by rfl) ‹_› ?_ ?_
    rotate_left
    · intro W hSW; have z0 := cell_on hSW x2; have z1 := cell_on hSW x3; have z2 := cell_on hSW y0; have z3 := cell_on hSW y1; have z4 := cell_on hSW y2; have z5 := cell_on hSW y3; have z6 := cell_on hSW da; have z7 := cell_on hSW d3; have z8 := cell_on hSW d0; have z9 := cell_on hSW dl; first | (go_simp; done) | (go_simp; with_reducible rfl)
    try simp only [Act.put, pA, pB, pC]
    refine tkH 29 hr75 ?_ rfl (by kernel_rfl) (fun _ _ _ h => h) (by rfl) ‹_› ?_ ?_
    rotate_left
    · intro W hSW; first | (go_simp; done) | (go_simp; with_reducible rfl)
    try simp only [Act.put, pA, pB, pC]
    refine tkH 30 hr76 ?_ rfl (by kernel_rfl) (fun _ _ _ h => h) (by rfl) ‹_› ?_ ?_
    rotate_left
    · intro W hSW; have z0 := cell_on hSW x2; have z1 := cell_on hSW x3; have z2 := cell_on hSW y0; have z3 := cell_on hSW y1; have z4 := cell_on hSW y2; have z5 := cell_on hSW y3; have z6 := cell_on hSW da; have z7 := cell_on hSW d3; have z8 := cell_on hSW d0; have z9 := cell_on hSW dl; first | (go_simp; done) | (go_simp; with_reducible rfl)
    try simp only [Act.put, pA, pB, pC]
    refine tkH 31 hr77 (.bool false) rfl (by kernel_rfl) (fun _ _ _ h => h) (by rfl) ‹_› ?_ ?_
    · intro W hSW; first | (go_simp; done) | (go_simp; with_reducible rfl)
    try simp only [Act.put, pA, pB, pC]
    refine tkH 32 hr78 ?_ rfl (by kernel_rfl) (fun _ _ _ h => h) (by rfl) ‹_› ?_ ?_
    rotate_left
    · intro W hSW; first | (go_simp; done) | (go_simp; with_reducible rfl)
    try simp only [Act.put, pA, pB, pC]
    refine tkH 33 hr79 ?_ rfl (by kernel_rfl) (fun _ _ _ h => h) (by rfl) ‹_› ?_ ?_
    rotate_left
    · intro W hSW; first | (go_simp; done) | (go_simp; with_reducible rfl)
    try simp only [Act.put, pA, pB, pC]
    refine tkH 34 hr80 ?_ rfl (by kernel_rfl) (fun _ _ _ h => h) (by rfl) ‹_› ?_ ?_
    rotate_left
    · intro W hSW; first | (go_simp; done) | (go_simp; with_reducible rfl)
    try simp only [Act.put, pA, pB, pC]
    refine tkH 35 hr81 ?_ rfl (by kernel_rfl) (fun _ _ _ h => h) (by rfl) ‹_› ?_ ?_
    rotate_left
    · intro W hSW; have z0 := cell_on hSW x2; have z1 := cell_on hSW x3; have z2 := cell_on hSW y0; have z3 := cell_on hSW y1; have z4 := cell_on hSW y2; have z5 := cell_on hSW y3; have z6 := cell_on hSW da; have z7 := cell_on hSW d3; have z8 := cell_on hSW d0; have z9 := cell_on hSW dl; first | (go_simp; done) | (go_simp; with_reducible rfl)
    try simp only [Act.put, pA, pB, pC]
    refine tkH 36 hr82 ?_ rfl (by kernel_rfl) (fun _ _ _ h => h) (by rfl) ‹_› ?_ ?_
    rotate_left
    · intro W hSW; first | (go_simp; done) | (go_simp; with_reducible rfl)
    try simp only [Act.put, pA, pB, pC]
    refine tkH 37 hr83 ?_ rfl (by kernel_rfl) (fun _ _ _ h => h) (by rfl) ‹_› ?_ ?_
    rotate_left
    · intro W hSW; first | (go_simp; done) | (go_simp; with_reducible rfl)
    try simp only [Act.put, pA, pB, pC]
    refine tkH 38 hr84 (.bool true) rfl (by kernel_rfl) (fun _ _ _ h => h) (by rfl) ‹_› ?_ ?_
    · intro W hSW; first | (go_simp; done) | (go_simp; with_reducible rfl)
    try simp only [Act.put, pA, pB, pC]
    refine tkH 39 hr85 ?_ rfl (by kernel_rfl) (fun _ _ _ h => h) (by rfl) ‹_› ?_ ?_
    rotate_left
    · intro W hSW; first | (go_simp; done) | (go_simp; with_reducible rfl)
    try simp only [Act.put, pA, pB, pC]
    refine wpAnyH_done (by kernel_rfl) ?_ _
    have hB9 := HB.out _ hRw
    clear hRw hHeld
    go_wp2
    go_ret
    exact ⟨ret_bool hf.out.symm, hB9⟩
  have u3 : ((ns : Int) != (np : Int)) = false := by rw [p3]; simp
  have v3 : ns = np := p3
  replace p3 := hide p3
  have V3 := hide v3
  have hRw : Below w4.heap.size w4 w4.drew := ⟨rfl, rfl, rfl, Nat.le_refl _, fun _ _ => rfl⟩
  refine wp_region_held_drew (S := fun W => Below w4.heap.size w4 W) (by kernel_rfl) hRw (fun hHeld => ?_)
  refine wpAnyH_take (i := 0) (oi := hr46) (v := .agg cs) rfl (by kernel_rfl) (by kernel_rfl) (by kernel_rfl) (fun _ _ _ h => h) (yields_loadV (by rfl) (.tmp 3) (by rfl) _ cs (by rfl) h7 (fun W hW => hx4.below hW)) (by assumption) ?_
  try simp only [Act.put, pA, pB, pC]
  refine tkH 1 hr47 ?_ rfl (by kernel_rfl) (fun _ _ _ h => h) (by rfl) ‹_› ?_ ?_
  rotate_left
  · intro W hSW; first | (go_simp; done) | (go_simp; with_reducible rfl)
  try simp only [Act.put, pA, pB, pC]
  refine tkH 2 hr48 ?_ rfl (by kernel_rfl) (fun _ _ _ h => h) (by rfl) ‹_› ?_ ?_
  rotate_left
  · intro W hSW; have z0 := cell_on hSW x2; have z1 := cell_on hSW x3; have z2 := cell_on hSW y0; have z3 := cell_on hSW y1; have z4 := cell_on hSW y2; have z5 := cell_on hSW y3; have z6 := cell_on hSW da; have z7 := cell_on hSW d3; have z8 := cell_on hSW d0; have z9 := cell_on hSW dl; first | (go_simp; done) | (go_simp; with_reducible rfl)
  try simp only [Act.put, pA, pB, pC]
  refine wpAnyH_lone (R := fun W => Below w4.heap.size w4 W) (i := 3) (oi := hr49) (vi := .bool true) (by kernel_rfl) rfl hRw (fun _ h => h) ?_ ?_
  · intro W hW K hK
    go_simp
    refine (HP.out W hW).mono ?_
    rintro e W2 ⟨rfl, hb⟩
    go_wp2_with fail
    exact hK.out _ (below_then hW hb)
  clear hRw hHeld
  intro w5 hRw hHeld
  try simp only [Act.put, pA, pB, pC]
  refine tkH 4 hr50 ?_ rfl (by kernel_rfl) (fun _ _ _ h => h) (by rfl) ‹_› ?_ ?_
  rotate_left
  · intro W hSW; first | (go_simp; done) | (go_simp; with_reducible rfl)
  try simp only [Act.put, pA, pB, pC]
  refine tkH 5 hr51 ?_ rfl (by kernel_rfl) (fun _ _ _ h => h) (by rfl) ‹_› ?_ ?_
  rotate_left
  · intro W hSW; first | (go_simp; done) | (go_simp; with_reducible rfl)
  try simp only [Act.put, pA, pB, pC]
  refine tkH 6 hr52 ?_ rfl (by kernel_rfl) (fun _ _ _ h => h) (by rfl) ‹_› ?_ ?_
  rotate_left
  · intro W hSW; first | (go_simp; done) | (go_simp; with_reducible rfl)
  try simp only [Act.put, pA, pB, pC]
  refine tkH 7 hr53 ?_ rfl (by kernel_rfl) (fun _ _ _ h => h) (by rfl) ‹_› ?_ ?_
  rotate_left
  · intro W hSW; have z0 := cell_on hSW x2; have z1 := cell_on hSW x3; have z2 := cell_on hSW y0; have z3 := cell_on hSW y1; have z4 := cell_on hSW y2; have z5 := cell_on hSW y3; have z6 := cell_on hSW da; have z7 := cell_on hSW d3; have z8 := cell_on hSW d0; have z9 := cell_on hSW dl; first | (go_simp; done) | (go_simp; with_reducible rfl)
  try simp only [Act.put, pA, pB, pC]
  refine tkH 8 hr54 ?_ rfl (by kernel_rfl) (fun _ _ _ h => h) (by rfl) ‹_› ?_ ?_
  rotate_left
  · intro W hSW; first | (go_simp; done) | (go_simp; with_reducible rfl)
  try simp only [Act.put, pA, pB, pC]
  refine tkH 9 hr55 ?_ rfl (by kernel_rfl) (fun _ _ _ h => h) (by rfl) ‹_› ?_ ?_
  rotate_left
  · intro W hSW; have z0 := cell_on hSW x2; have z1 := cell_on hSW x3; have z2 := cell_on hSW y0; have z3 := cell_on hSW y1; have z4 := cell_on hSW y2; have z5 := cell_on hSW y3; have z6 := cell_on hSW da; have z7 := cell_on hSW d3; have z8 := cell_on hSW d0; have z9 := cell_on hSW dl; first | (go_simp; done) | (go_simp; with_reducible rfl)
  try simp only [Act.put, pA, pB, pC]
  refine tkH 10 hr56 ?_ rfl (by kernel_rfl) (fun _ _ _ h => h) (by rfl) ‹_› ?_ ?_
  rotate_left
  · intro W hSW; first | (go_simp; done) | (go_simp; with_reducible rfl)
  try simp only [Act.put, pA, pB, pC]
  refine tkH 11 hr57 ?_ rfl (by kernel_rfl) (fun _ _ _ h => h) (by rfl) ‹_› ?_ ?_
  rotate_left
  · intro W hSW; have z0 := cell_on hSW x2; have z1 := cell_on hSW x3; have z2 := cell_on hSW y0; have z3 := cell_on hSW y1; have z4 := cell_on hSW y2; have z5 := cell_on hSW y3; have z6 := cell_on hSW da; have z7 := cell_on hSW d3; have z8 := cell_on hSW d0; have z9 := cell_on hSW dl; first | (go_simp; done) | (go_simp; with_reducible rfl)
  try simp only [Act.put, pA, pB, pC]
  refine tkH 12 hr58 ?_ rfl (by kernel_rfl) (fun _ _ _ h => h) (by rfl) ‹_› ?_ ?_
  rotate_left
  · intro W hSW; first | (go_simp; done) | (go_simp; with_reducible rfl)
  try simp only [Act.put, pA, pB, pC]
  refine tkH 13 hr59 ?_ rfl (by kernel_rfl) (fun _ _ _ h => h) (by rfl) ‹_› ?_ ?_
  rotate_left
  · intro W hSW; first | (go_simp; done) | (go_simp; with_reducible rfl)
  try simp only [Act.put, pA, pB, pC]
  refine tkH 14 hr60 ?_ rfl (by kernel_rfl) (fun _ _ _ h => h) (by rfl) ‹_› ?_ ?_
  rotate_left
  · intro W hSW; first | (go_simp; done) | (go_simp; with_reducible rfl)
  try simp only [Act.put, pA, pB, pC]
  refine tkH 15 hr61 (.int .i64 xd) rfl (by kernel_rfl) (fun _ _ _ h => h) (by rfl) ‹_› ?_ ?_
  · intro W hSW; have z0 := cell_on hSW x2; have z1 := cell_on hSW x3; have z2 := cell_on hSW y0; have z3 := cell_on hSW y1; have z4 := cell_on hSW y2; have z5 := cell_on hSW y3; have z6 := cell_on hSW da; have z7 := cell_on hSW d3; have z8 := cell_on hSW d0; have z9 := cell_on hSW dl; first | (go_simp; done) | (go_simp; with_reducible rfl)
  try simp only [Act.put, pA, pB, pC]
  refine tkH 16 hr62 (.bool false) rfl (by kernel_rfl) (fun _ _ _ h => h) (by rfl) ‹_› ?_ ?_
  · intro W hSW; first | (go_simp; done) | (go_simp; with_reducible rfl)
  try simp only [Act.put, pA, pB, pC]
  refine tkH 17 hr63 ?_ rfl (by kernel_rfl) (fun _ _ _ h => h) (by rfl) ‹_› ?_ ?_
  rotate_left
  · intro W hSW; first | (go_simp; done) | (go_simp; with_reducible rfl)
  try simp only [Act.put, pA, pB, pC]
  refine tkH 18 hr64 ?_ rfl (by kernel_rfl) (fun _ _ _ h => h) (by rfl) ‹_› ?_ ?_
  rotate_left
  · intro W hSW; first | (go_simp; done) | (go_simp; with_reducible rfl)
  try simp only [Act.put, pA, pB, pC]
  refine tkH 19 hr65 ?_ rfl (by kernel_rfl) (fun _ _ _ h => h) (by rfl) ‹_› ?_ ?_
  rotate_left
  · intro W hSW; first | (go_simp; done) | (go_simp; with_reducible rfl)
  try simp only [Act.put, pA, pB, pC]
  refine tkH 20 hr66 ?_ rfl (by kernel_rfl) (fun _ _ _ h => h) (by rfl) ‹_› ?_ ?_
  rotate_left
  · intro W hSW; have z0 := cell_on hSW x2; have z1 := cell_on hSW x3; have z2 := cell_on hSW y0; have z3 := cell_on hSW y1; have z4 := cell_on hSW y2; have z5 := cell_on hSW y3; have z6 := cell_on hSW da; have z7 := cell_on hSW d3; have z8 := cell_on hSW d0; have z9 := cell_on hSW dl; first | (go_simp; done) | (go_simp; with_reducible rfl)
  try simp only [Act.put, pA, pB, pC]
  refine tkH 21 hr67 ?_ rfl (by kernel_rfl) (fun _ _ _ h => h) (by rfl) ‹_› ?_ ?_
  rotate_left
  · intro W hSW; first | (go_simp; done) | (go_simp; with_reducible rfl)
  try simp only [Act.put, pA, pB, pC]
  refine tkH 22 hr68 (.int .i64 (np1 : Int)) rfl (by kernel_rfl) (fun _ _ _ h => h) (by rfl) ‹_› ?_ ?_
  · intro W hSW; first | (go_simp; done) | (go_simp; with_reducible rfl)
  try simp only [Act.put, pA, pB, pC]
  refine tkH 23 hr69 ?_ rfl (by kernel_rfl) (fun _ _ _ h => h) (by rfl) ‹_› ?_ ?_
  rotate_left
  · intro W hSW; first | (go_simp; done) | (go_simp; with_reducible rfl)
  try simp only [Act.put, pA, pB, pC]
  refine tkH 24 hr70 ?_ rfl (by kernel_rfl) (fun _ _ _ h => h) (by rfl) ‹_› ?_ ?_
  rotate_left
  · intro W hSW; have z0 := cell_on hSW x2; have z1 := cell_on hSW x3; have z2 := cell_on hSW y0; have z3 := cell_on hSW y1; have z4 := cell_on hSW y2; have z5 := cell_on hSW y3; have z6 := cell_on hSW da; have z7 := cell_on hSW d3; have z8 := cell_on hSW d0; have z9 := cell_on hSW dl; first | (go_simp; done) | (go_simp; with_reducible rfl)
  try simp only [Act.put, pA, pB, pC]
  refine tkH 25 hr71 ?_ rfl (by kernel_rfl) (fun _ _ _ h => h) (by rfl) ‹_› ?_ ?_
  rotate_left
  · intro W hSW; first | (go_simp; done) | (go_simp; with_reducible rfl)
  try simp only [Act.put, pA, pB, pC]
  refine tkH 26 hr72 ?_ rfl (by kernel_rfl) (fun _ _ _ h => h) (by rfl) ‹_› ?_ ?_
  rotate_left
  · intro W hSW; have z0 := cell_on hSW x2; have z1 := cell_on hSW x3; have z2 := cell_on hSW y0; have z3 := cell_on hSW y1; have z4 := cell_on hSW y2; have z5 := cell_on hSW y3; have z6 := cell_on hSW da; have z7 := cell_on hSW d3; have z8 := cell_on hSW d0; have z9 := cell_on hSW dl; first | (go_simp; done) | (go_simp; with_reducible rfl)
  try simp only [Act.put, pA, pB, pC]
  refine tkH 27 hr73 ?_ rfl (by kernel_rfl) (fun _ _ _ h => h) (by rfl) ‹_› ?_ ?_
  rotate_left
  · intro W hSW; first | (go_simp; done) | (go_simp; with_reducible rfl)
  try simp only [Act.put, pA, pB, pC]
  refine tkH 28 hr74 ?_ rfl (by kernel_rfl) (fun _ _ _ h => h) (by rfl) ‹_› ?_ ?_
  rotate_left
  · intro W hSW; have z0 := cell_on hSW x2; have z1 := cell_on hSW x3; have z2 := cell_on hSW y0; have z3 := cell_on hSW y1; have z4 := cell_on hSW y2; have z5 := cell_on hSW y3; have z6 := cell_on hSW da; have z7 := cell_on hSW d3; have z8 := cell_on hSW d0; have z9 := cell_on hSW dl; first | (go_simp; done) | (go_simp; with_reducible rfl)
  try simp only [Act.put, pA, pB, pC]
  refine tkH 29 hr75 ?_ rfl (by kernel_rfl) (fun _ _ _ h => h) (by rfl) ‹_› ?_ ?_
  rotate_left
  · intro W hSW; first | (go_simp; done) | (go_simp; with_reducible rfl)
  try simp only [Act.put, pA, pB, pC]
  refine tkH 30 hr76 ?_ rfl (by kernel_rfl) (fun _ _ _ h => h) (by rfl) ‹_› ?_ ?_
  rotate_left
  · intro W hSW; have z0 := cell_on hSW x2; have z1 := cell_on hSW x3; have z2 := cell_on hSW y0; have z3 := cell_on hSW y1; have z4 := cell_on hSW y2; have z5 := cell_on hSW y3; have z6 := cell_on hSW da; have z7 := cell_on hSW d3; have z8 := cell_on hSW d0; have z9 := cell_on hSW dl; first | (go_simp; done) | (go_simp; with_reducible rfl)
  try simp only [Act.put, pA, pB, pC]
  refine tkH 31 hr77 (.bool false) rfl (by kernel_rfl) (fun _ _ _ h => h) (by rfl) ‹_› ?_ ?_
  · intro W hSW; first | (go_simp; done) | (go_simp; with_reducible rfl)
  try simp only [Act.put, pA, pB, pC]
  refine tkH 32 hr78 ?_ rfl (by kernel_rfl) (fun _ _ _ h => h) (by rfl) ‹_› ?_ ?_
  rotate_left
  · intro W hSW; first | (go_simp; done) | (go_simp; with_reducible rfl)
  try simp only [Act.put, pA, pB, pC]
  refine tkH 33 hr79 ?_ rfl (by kernel_rfl) (fun _ _ _ h => h) (by rfl) ‹_› ?_ ?_
  rotate_left
  · intro W hSW; first | (go_simp; done) | (go_simp; with_reducible rfl)
  try simp only [Act.put, pA, pB, pC]
  refine tkH 34 hr80 ?_ rfl (by kernel_rfl) (fun _ _ _ h => h) (by rfl) ‹_› ?_ ?_
  rotate_left
  · intro W hSW; first | (go_simp; done) | (go_simp; with_reducible rfl)
  try simp only [Act.put, pA, pB, pC]
  refine tkH 35 hr81 ?_ rfl (by kernel_rfl) (fun _ _ _ h => h) (by rfl) ‹_› ?_ ?_
  rotate_left
  · intro W hSW; have z0 := cell_on hSW x2; have z1 := cell_on hSW x3; have z2 := cell_on hSW y0; have z3 := cell_on hSW y1; have z4 := cell_on hSW y2; have z5 := cell_on hSW y3; have z6 := cell_on hSW da; have z7 := cell_on hSW d3; have z8 := cell_on hSW d0; have z9 := cell_on hSW dl; first | (go_simp; done) | (go_simp; with_reducible rfl)
  try simp only [Act.put, pA, pB, pC]
  refine tkH 36 hr82 ?_ rfl (by kernel_rfl) (fun _ _ _ h => h) (by rfl) ‹_› ?_ ?_
  rotate_left
  · intro W hSW; first | (go_simp; done) | (go_simp; with_reducible rfl)
  try simp only [Act.put, pA, pB, pC]
  refine tkH 37 hr83 ?_ rfl (by kernel_rfl) (fun _ _ _ h => h) (by rfl) ‹_› ?_ ?_
  rotate_left
  · intro W hSW; first | (go_simp; done) | (go_simp; with_reducible rfl)
  try simp only [Act.put, pA, pB, pC]
  refine tkH 38 hr84 (.bool false) rfl (by kernel_rfl) (fun _ _ _ h => h) (by rfl) ‹_› ?_ ?_
  · intro W hSW; first | (go_simp; done) | (go_simp; with_reducible rfl)
  try simp only [Act.put, pA, pB, pC]
  refine tkH 39 hr85 ?_ rfl (by kernel_rfl) (fun _ _ _ h => h) (by rfl) ‹_› ?_ ?_
  rotate_left
  · intro W hSW; first | (go_simp; done) | (go_simp; with_reducible rfl)
  try simp only [Act.put, pA, pB, pC]
  refine wpAnyH_done (by kernel_rfl) ?_ _
  have hx5 := hx4.below hRw
  have hy5 := hy4.below hRw hy4.lt
  have hB5 := hide (HB.out _ hRw)
  clear hRw hHeld HP x2 x3 y0 y1 y2 y3 da d3 d0 dl u1 u2 u3 v3 hwp hnn hx4 hy4 hs4 HB hB4 L4
  obtain ⟨B, hBe⟩ : ∃ B, w5.heap.size = B := ⟨_, rfl⟩
  have hBs := hide hBe
  have hgB : g + 1 < B := by have := hy5.lt; omega
  have HS : Hid (∀ W, Below B w5 W → SvAt W g cs ∧ HvAt W (g + 1) (hcells pa sa pc sc K) ∧ Below g w W) := fun W hW => ⟨hx5.below (by rw [hBs.out]; exact hW), hy5.below hW hgB, hB5.out.trans (hW.mono (by omega))⟩
  have hkl : Hid (∀ i, i < s.parties.length → (s.parties.getD i noParty).keys.length = nl) := fun i hi => by rw [← hnl.out]; exact (hok.out.2.2.1.2.2 i hi).2.1
  have hn6 : s.parties.length ≤ 6 := hok.out.2.2.1.2.1
  have HVf : Hid (∀ i W, Calls Try.prog 26 #[.string (keyAt s K i), .string (textAt K (i + 1)), .string (textAt K i)] W fun e w' => e = .returned (.bool (verAt s K i)) ∧ Below W.heap.size W w') := fun i W => refverify_all _ _ _ (htx.out (i + 1)) W
  have hY5 := (hcells_at hy5).2.2.1
  rw [hnp.out] at hY5
  clear hx5 hBe
  go_wp2_with fail
  clear hY5 hy5
  go_loopw [8] (fun i wr => ∃ j : Nat, j ≤ np ∧ i = .int .i64 j ∧ Hid (∀ i, i < j → verAt s K i = true) ∧ Hid (Below B w5 wr)) (fun i _ => np - (intOf i).toNat)
  case atStart => exact ⟨0, by omega, rfl, fun j hj => absurd hj (by omega), Below.refl _ _⟩
  case round =>
    obtain ⟨j, hj, rfl, HO, hB⟩ := hrel
    obtain ⟨hx, hy, hBg⟩ := HS.out wr hB.out
    by_cases hlt : j < np
    · have j1 : (j : Int) < (np : Int) := by omega
      obtain ⟨c0, cse, cp, csg⟩ := hcells_at hy
      rw [hlk.out] at c0
      rw [hnp.out] at cp
      rw [hns.out] at csg
      have c1 := (HX.out wr hx).1
      obtain ⟨b1, o1, hb1, d1⟩ := (HL.out wr hBg).path.2.2.2 j (by rw [hnp.out]; exact hlt)
      rw [hb1] at cp
      obtain ⟨xp, hxp⟩ : ∃ x, K.path.getD j 0 = x := ⟨_, rfl⟩
      rw [hxp] at d1
      obtain ⟨xp0, xp1⟩ := hpp.out j hlt
      rw [hxp] at xp0 xp1
      obtain ⟨p, hp⟩ : ∃ p : Nat, xp = (p : Int) := ⟨xp.toNat, by omega⟩
      subst hp
      have hpn : p < s.parties.length := by omega
      obtain ⟨bp, op, hbp, _, _, ka, kc, e1, hkS⟩ := (HLI.out wr hBg).parties.2 p hpn
      rw [hbp] at c1
      rw [hkl.out p hpn] at e1 hkS
      obtain ⟨bk, ok, hbk, e2⟩ := hkS.2.2.2 lk c4
      rw [hbk] at e1
      have hkey : (s.parties.getD p noParty).keys.getD lk ByteArray.empty = keyAt s K j := by unfold keyAt; rw [hxp, hlkt.out]; rfl
      rw [hkey] at e2
      obtain ⟨bs, os, hbs, e3⟩ := (HL.out wr hBg).sigs.2.2.2 j (by rw [hns.out, V3.out]; exact hlt)
      rw [hbs] at csg
      have ht0 : K.sigs.getD j ByteArray.empty = textAt K j := by unfold textAt; rw [if_pos (by rw [hns.out, V3.out]; exact hlt)]
      rw [ht0] at e3
      have hjs : j < ns := by rw [V3.out]; exact hlt
      obtain ⟨nn, hnn⟩ : ∃ n, s.parties.length = n := ⟨_, rfl⟩
      rw [hnn] at c1 hpn
      have hnn6 : nn ≤ 6 := by rw [← hnn]; exact hn6
      have hw0 : IntKind.i64.wrap ((j : Int) + 1) = ((j + 1 : Nat) : Int) := by rw [wrap_i64k (by omega) (by omega)]; omega
      have H20 : Hid (∀ W, Below wr.heap.size wr W → Calls Try.prog 26 #[.string (keyAt s K j), .string (textAt K (j + 1)), .string (textAt K j)] W fun e w' => e = .returned (.bool (verAt s K j)) ∧ Below W.heap.size W w') := fun W _ => HVf.out j W
      obtain ⟨t, ht⟩ : ∃ t, verAt s K j = t := ⟨_, rfl⟩
      rw [ht] at H20
      replace ht := hide ht
      by_cases hl2 : j + 1 < np
      · have j2 : (j : Int) + 1 < (np : Int) := by omega
        obtain ⟨bs2, os2, hbs2, e4⟩ := (HL.out wr hBg).sigs.2.2.2 (j + 1) (by rw [hns.out, V3.out]; exact hl2)
        rw [hbs] at hbs2
        injection hbs2 with hbs2
        injection hbs2 with hbs3 hbs4 _
        subst hbs3 hbs4
        have ht1 : K.sigs.getD (j + 1) ByteArray.empty = textAt K (j + 1) := by unfold textAt; rw [if_pos (by rw [hns.out, V3.out]; exact hl2)]
        rw [ht1] at e4
        have hjs2 : j + 1 < ns := by rw [V3.out]; exact hl2
        have j3 : (j : Int) + 1 < (ns : Int) := by omega
        generalize textAt K (j + 1) = T1 at H20 e4
        generalize textAt K j = T0 at H20 e3
        generalize keyAt s K j = KK at e2 H20
        clear hkS hkey hx hy hBg hnn ht0 ht1 xp0 xp1 hxp hb1 hbp hbk hbs hn6
        go_upto_region 12 with fail
        clear e4 j3 hjs2 cse
        have hRw : Below wr.heap.size wr wr.drew := ⟨rfl, rfl, rfl, Nat.le_refl _, fun _ _ => rfl⟩
        refine wp_region_held_drew (S := fun W => Below wr.heap.size wr W) (by kernel_rfl) hRw (fun hHeld => ?_)
        refine tkH 0 hr86 ?_ rfl (by kernel_rfl) (fun _ _ _ h => h) (by rfl) ‹_› ?_ ?_
        rotate_left
        · intro W hSW; first | (go_simp; done) | (go_simp; with_reducible rfl)
        try simp only [Act.put, pA, pB, pC]
        refine tkH 1 hr87 ?_ rfl (by kernel_rfl) (fun _ _ _ h => h) (by rfl) ‹_› ?_ ?_
        rotate_left
        · intro W hSW; have z0 := cell_on hSW c1; have z1 := cell_on hSW cp; have z2 := cell_on hSW d1; have z3 := cell_on hSW e1; have z4 := cell_on hSW c0; have z5 := cell_on hSW e2; have z6 := cell_on hSW csg; have z7 := cell_on hSW e3; first | (go_simp; done) | (go_simp; with_reducible rfl)
        try simp only [Act.put, pA, pB, pC]
        refine tkH 2 hr88 ?_ rfl (by kernel_rfl) (fun _ _ _ h => h) (by rfl) ‹_› ?_ ?_
        rotate_left
        · intro W hSW; first | (go_simp; done) | (go_simp; with_reducible rfl)
        try simp only [Act.put, pA, pB, pC]
        refine tkH 3 hr89 ?_ rfl (by kernel_rfl) (fun _ _ _ h => h) (by rfl) ‹_› ?_ ?_
        rotate_left
        · intro W hSW; have z0 := cell_on hSW c1; have z1 := cell_on hSW cp; have z2 := cell_on hSW d1; have z3 := cell_on hSW e1; have z4 := cell_on hSW c0; have z5 := cell_on hSW e2; have z6 := cell_on hSW csg; have z7 := cell_on hSW e3; first | (go_simp; done) | (go_simp; with_reducible rfl)
        try simp only [Act.put, pA, pB, pC]
        refine tkH 4 hr90 ?_ rfl (by kernel_rfl) (fun _ _ _ h => h) (by rfl) ‹_› ?_ ?_
        rotate_left
        · intro W hSW; first | (go_simp; done) | (go_simp; with_reducible rfl)
        try simp only [Act.put, pA, pB, pC]
        refine tkH 5 hr91 ?_ rfl (by kernel_rfl) (fun _ _ _ h => h) (by rfl) ‹_› ?_ ?_
        rotate_left
        · intro W hSW; first | (go_simp; done) | (go_simp; with_reducible rfl)
        try simp only [Act.put, pA, pB, pC]
        refine tkH 6 hr92 (.int .i64 (p : Int)) rfl (by kernel_rfl) (fun _ _ _ h => h) (by rfl) ‹_› ?_ ?_
        · intro W hSW; have z0 := cell_on hSW c1; have z1 := cell_on hSW cp; have z2 := cell_on hSW d1; have z3 := cell_on hSW e1; have z4 := cell_on hSW c0; have z5 := cell_on hSW e2; have z6 := cell_on hSW csg; have z7 := cell_on hSW e3; first | (go_simp; done) | (go_simp; with_reducible rfl)
        try simp only [Act.put, pA, pB, pC]
        refine tkH 7 hr93 ?_ rfl (by kernel_rfl) (fun _ _ _ h => h) (by rfl) ‹_› ?_ ?_
        rotate_left
        · intro W hSW; first | (go_simp; done) | (go_simp; with_reducible rfl)
        try simp only [Act.put, pA, pB, pC]
        refine tkH 8 hr94 ?_ rfl (by kernel_rfl) (fun _ _ _ h => h) (by rfl) ‹_› ?_ ?_
        rotate_left
        · intro W hSW; first | (go_simp; done) | (go_simp; with_reducible rfl)
        try simp only [Act.put, pA, pB, pC]
        refine tkH 9 hr95 ?_ rfl (by kernel_rfl) (fun _ _ _ h => h) (by rfl) ‹_› ?_ ?_
        rotate_left
        · intro W hSW; have z0 := cell_on hSW c1; have z1 := cell_on hSW cp; have z2 := cell_on hSW d1; have z3 := cell_on hSW e1; have z4 := cell_on hSW c0; have z5 := cell_on hSW e2; have z6 := cell_on hSW csg; have z7 := cell_on hSW e3; first | (go_simp; done) | (go_simp; with_reducible rfl)
        try simp only [Act.put, pA, pB, pC]
        refine tkH 10 hr96 ?_ rfl (by kernel_rfl) (fun _ _ _ h => h) (by rfl) ‹_› ?_ ?_
        rotate_left
        · intro W hSW; first | (go_simp; done) | (go_simp; with_reducible rfl)
        try simp only [Act.put, pA, pB, pC]
        refine tkH 11 hr97 ?_ rfl (by kernel_rfl) (fun _ _ _ h => h) (by rfl) ‹_› ?_ ?_
        rotate_left
        · intro W hSW; have z0 := cell_on hSW c1; have z1 := cell_on hSW cp; have z2 := cell_on hSW d1; have z3 := cell_on hSW e1; have z4 := cell_on hSW c0; have z5 := cell_on hSW e2; have z6 := cell_on hSW csg; have z7 := cell_on hSW e3; first | (go_simp; done) | (go_simp; with_reducible rfl)
        try simp only [Act.put, pA, pB, pC]
        refine tkH 12 hr98 ?_ rfl (by kernel_rfl) (fun _ _ _ h => h) (by rfl) ‹_› ?_ ?_
        rotate_left
        · intro W hSW; first | (go_simp; done) | (go_simp; with_reducible rfl)
        try simp only [Act.put, pA, pB, pC]
        refine tkH 13 hr99 (.string KK) rfl (by kernel_rfl) (fun _ _ _ h => h) (by rfl) ‹_› ?_ ?_
        · intro W hSW; have z0 := cell_on hSW c1; have z1 := cell_on hSW cp; have z2 := cell_on hSW d1; have z3 := cell_on hSW e1; have z4 := cell_on hSW c0; have z5 := cell_on hSW e2; have z6 := cell_on hSW csg; have z7 := cell_on hSW e3; first | (go_simp; done) | (go_simp; with_reducible rfl)
        try simp only [Act.put, pA, pB, pC]
        refine tkH 14 hr100 ?_ rfl (by kernel_rfl) (fun _ _ _ h => h) (by rfl) ‹_› ?_ ?_
        rotate_left
        · intro W hSW; first | (go_simp; done) | (go_simp; with_reducible rfl)
        try simp only [Act.put, pA, pB, pC]
        refine tkH 15 hr101 ?_ rfl (by kernel_rfl) (fun _ _ _ h => h) (by rfl) ‹_› ?_ ?_
        rotate_left
        · intro W hSW; first | (go_simp; done) | (go_simp; with_reducible rfl)
        try simp only [Act.put, pA, pB, pC]
        refine tkH 16 hr102 ?_ rfl (by kernel_rfl) (fun _ _ _ h => h) (by rfl) ‹_› ?_ ?_
        rotate_left
        · intro W hSW; have z0 := cell_on hSW c1; have z1 := cell_on hSW cp; have z2 := cell_on hSW d1; have z3 := cell_on hSW e1; have z4 := cell_on hSW c0; have z5 := cell_on hSW e2; have z6 := cell_on hSW csg; have z7 := cell_on hSW e3; first | (go_simp; done) | (go_simp; with_reducible rfl)
        try simp only [Act.put, pA, pB, pC]
        refine tkH 17 hr103 ?_ rfl (by kernel_rfl) (fun _ _ _ h => h) (by rfl) ‹_› ?_ ?_
        rotate_left
        · intro W hSW; first | (go_simp; done) | (go_simp; with_reducible rfl)
        try simp only [Act.put, pA, pB, pC]
        refine tkH 18 hr104 ?_ rfl (by kernel_rfl) (fun _ _ _ h => h) (by rfl) ‹_› ?_ ?_
        rotate_left
        · intro W hSW; first | (go_simp; done) | (go_simp; with_reducible rfl)
        try simp only [Act.put, pA, pB, pC]
        refine tkH 19 hr105 (.string T0) rfl (by kernel_rfl) (fun _ _ _ h => h) (by rfl) ‹_› ?_ ?_
        · intro W hSW; have z0 := cell_on hSW c1; have z1 := cell_on hSW cp; have z2 := cell_on hSW d1; have z3 := cell_on hSW e1; have z4 := cell_on hSW c0; have z5 := cell_on hSW e2; have z6 := cell_on hSW csg; have z7 := cell_on hSW e3; first | (go_simp; done) | (go_simp; with_reducible rfl)
        try simp only [Act.put, pA, pB, pC]
        refine wpAnyH_lone (R := fun W => Below wr.heap.size wr W) (i := 20) (oi := hr106) (vi := .bool t) (by kernel_rfl) rfl hRw (fun _ h => h) ?_ ?_
        · intro W hW K hK
          go_simp
          refine (H20.out W hW).mono ?_
          rintro e W2 ⟨rfl, hb⟩
          go_wp2_with fail
          exact hK.out _ (below_then hW hb)
        clear hRw hHeld
        intro W9 hRw hHeld
        try simp only [Act.put, pA, pB, pC]
        refine tkH 21 hr107 ?_ rfl (by kernel_rfl) (fun _ _ _ h => h) (by rfl) ‹_› ?_ ?_
        rotate_left
        · intro W hSW; first | (go_simp; done) | (go_simp; with_reducible rfl)
        try simp only [Act.put, pA, pB, pC]
        refine wpAnyH_done (by kernel_rfl) ?_ _
        have hB7 := hide (below_then3 hBs.out hB.out hRw)
        have hB9 := (HS.out _ hB7.out).2.2
        clear hRw hHeld c1 cp d1 e1 c0 e2 csg e3 hB
        cases t
        · have hf : Hid (r = false) := hno.out (fun h => by have h9 := h.2.2.2.2.2.2.2 j (by rw [hnp.out]; exact hlt); rw [ht.out] at h9; exact Bool.noConfusion h9)
          go_wp2
          go_ret
          exact ⟨ret_bool hf.out.symm, hB9⟩
        · go_wp2
          go_roundw
          case rel => exact ⟨j + 1, by omega, by go_num, fun i hi => (by by_cases h9 : i < j; exact HO.out i h9; rw [show i = j by omega]; exact ht.out), hB7⟩
          case measure => simp [intOf]; omega
      · have j2 : ¬ (j : Int) + 1 < (np : Int) := by omega
        have ht1 : K.secret = textAt K (j + 1) := by unfold textAt; rw [if_neg (by rw [hns.out, V3.out]; exact hl2)]
        rw [ht1] at cse
        generalize textAt K (j + 1) = T1 at H20 cse
        generalize textAt K j = T0 at H20 e3
        generalize keyAt s K j = KK at e2 H20
        clear hkS hkey hx hy hBg hnn ht0 xp0 xp1 hxp hb1 hbp hbk hbs hn6
        have HT1 := hide ht1
        clear ht1
        go_upto_region 12 with fail
        clear cse
        have hRw : Below wr.heap.size wr wr.drew := ⟨rfl, rfl, rfl, Nat.le_refl _, fun _ _ => rfl⟩
        refine wp_region_held_drew (S := fun W => Below wr.heap.size wr W) (by kernel_rfl) hRw (fun hHeld => ?_)
        refine tkH 0 hr86 ?_ rfl (by kernel_rfl) (fun _ _ _ h => h) (by rfl) ‹_› ?_ ?_
        rotate_left
        · intro W hSW; first | (go_simp; done) | (go_simp; with_reducible rfl)
        try simp only [Act.put, pA, pB, pC]
        refine tkH 1 hr87 ?_ rfl (by kernel_rfl) (fun _ _ _ h => h) (by rfl) ‹_› ?_ ?_
        rotate_left
        · intro W hSW; have z0 := cell_on hSW c1; have z1 := cell_on hSW cp; have z2 := cell_on hSW d1; have z3 := cell_on hSW e1; have z4 := cell_on hSW c0; have z5 := cell_on hSW e2; have z6 := cell_on hSW csg; have z7 := cell_on hSW e3; first | (go_simp; done) | (go_simp; with_reducible rfl)
        try simp only [Act.put, pA, pB, pC]
        refine tkH 2 hr88 ?_ rfl (by kernel_rfl) (fun _ _ _ h => h) (by rfl) ‹_› ?_ ?_
        rotate_left
        · intro W hSW; first | (go_simp; done) | (go_simp; with_reducible rfl)
        try simp only [Act.put, pA, pB, pC]
        refine tkH 3 hr89 ?_ rfl (by kernel_rfl) (fun _ _ _ h => h) (by rfl) ‹_› ?_ ?_
        rotate_left
        · intro W hSW; have z0 := cell_on hSW c1; have z1 := cell_on hSW cp; have z2 := cell_on hSW d1; have z3 := cell_on hSW e1; have z4 := cell_on hSW c0; have z5 := cell_on hSW e2; have z6 := cell_on hSW csg; have z7 := cell_on hSW e3; first | (go_simp; done) | (go_simp; with_reducible rfl)
        try simp only [Act.put, pA, pB, pC]
        refine tkH 4 hr90 ?_ rfl (by kernel_rfl) (fun _ _ _ h => h) (by rfl) ‹_› ?_ ?_
        rotate_left
        · intro W hSW; first | (go_simp; done) | (go_simp; with_reducible rfl)
        try simp only [Act.put, pA, pB, pC]
        refine tkH 5 hr91 ?_ rfl (by kernel_rfl) (fun _ _ _ h => h) (by rfl) ‹_› ?_ ?_
        rotate_left
        · intro W hSW; first | (go_simp; done) | (go_simp; with_reducible rfl)
        try simp only [Act.put, pA, pB, pC]
        refine tkH 6 hr92 (.int .i64 (p : Int)) rfl (by kernel_rfl) (fun _ _ _ h => h) (by rfl) ‹_› ?_ ?_
        · intro W hSW; have z0 := cell_on hSW c1; have z1 := cell_on hSW cp; have z2 := cell_on hSW d1; have z3 := cell_on hSW e1; have z4 := cell_on hSW c0; have z5 := cell_on hSW e2; have z6 := cell_on hSW csg; have z7 := cell_on hSW e3; first | (go_simp; done) | (go_simp; with_reducible rfl)
        try simp only [Act.put, pA, pB, pC]
        refine tkH 7 hr93 ?_ rfl (by kernel_rfl) (fun _ _ _ h => h) (by rfl) ‹_› ?_ ?_
        rotate_left
        · intro W hSW; first | (go_simp; done) | (go_simp; with_reducible rfl)
        try simp only [Act.put, pA, pB, pC]
        refine tkH 8 hr94 ?_ rfl (by kernel_rfl) (fun _ _ _ h => h) (by rfl) ‹_› ?_ ?_
        rotate_left
        · intro W hSW; first | (go_simp; done) | (go_simp; with_reducible rfl)
        try simp only [Act.put, pA, pB, pC]
        refine tkH 9 hr95 ?_ rfl (by kernel_rfl) (fun _ _ _ h => h) (by rfl) ‹_› ?_ ?_
        rotate_left
        · intro W hSW; have z0 := cell_on hSW c1; have z1 := cell_on hSW cp; have z2 := cell_on hSW d1; have z3 := cell_on hSW e1; have z4 := cell_on hSW c0; have z5 := cell_on hSW e2; have z6 := cell_on hSW csg; have z7 := cell_on hSW e3; first | (go_simp; done) | (go_simp; with_reducible rfl)
        try simp only [Act.put, pA, pB, pC]
        refine tkH 10 hr96 ?_ rfl (by kernel_rfl) (fun _ _ _ h => h) (by rfl) ‹_› ?_ ?_
        rotate_left
        · intro W hSW; first | (go_simp; done) | (go_simp; with_reducible rfl)
        try simp only [Act.put, pA, pB, pC]
        refine tkH 11 hr97 ?_ rfl (by kernel_rfl) (fun _ _ _ h => h) (by rfl) ‹_› ?_ ?_
        rotate_left
        · intro W hSW; have z0 := cell_on hSW c1; have z1 := cell_on hSW cp; have z2 := cell_on hSW d1; have z3 := cell_on hSW e1; have z4 := cell_on hSW c0; have z5 := cell_on hSW e2; have z6 := cell_on hSW csg; have z7 := cell_on hSW e3; first | (go_simp; done) | (go_simp; with_reducible rfl)
        try simp only [Act.put, pA, pB, pC]
        refine tkH 12 hr98 ?_ rfl (by kernel_rfl) (fun _ _ _ h => h) (by rfl) ‹_› ?_ ?_
        rotate_left
        · intro W hSW; first | (go_simp; done) | (go_simp; with_reducible rfl)
        try simp only [Act.put, pA, pB, pC]
        refine tkH 13 hr99 (.string KK) rfl (by kernel_rfl) (fun _ _ _ h => h) (by rfl) ‹_› ?_ ?_
        · intro W hSW; have z0 := cell_on hSW c1; have z1 := cell_on hSW cp; have z2 := cell_on hSW d1; have z3 := cell_on hSW e1; have z4 := cell_on hSW c0; have z5 := cell_on hSW e2; have z6 := cell_on hSW csg; have z7 := cell_on hSW e3; first | (go_simp; done) | (go_simp; with_reducible rfl)
        try simp only [Act.put, pA, pB, pC]
        refine tkH 14 hr100 ?_ rfl (by kernel_rfl) (fun _ _ _ h => h) (by rfl) ‹_› ?_ ?_
        rotate_left
        · intro W hSW; first | (go_simp; done) | (go_simp; with_reducible rfl)
        try simp only [Act.put, pA, pB, pC]
        refine tkH 15 hr101 ?_ rfl (by kernel_rfl) (fun _ _ _ h => h) (by rfl) ‹_› ?_ ?_
        rotate_left
        · intro W hSW; first | (go_simp; done) | (go_simp; with_reducible rfl)
        try simp only [Act.put, pA, pB, pC]
        refine tkH 16 hr102 ?_ rfl (by kernel_rfl) (fun _ _ _ h => h) (by rfl) ‹_› ?_ ?_
        rotate_left
        · intro W hSW; have z0 := cell_on hSW c1; have z1 := cell_on hSW cp; have z2 := cell_on hSW d1; have z3 := cell_on hSW e1; have z4 := cell_on hSW c0; have z5 := cell_on hSW e2; have z6 := cell_on hSW csg; have z7 := cell_on hSW e3; first | (go_simp; done) | (go_simp; with_reducible rfl)
        try simp only [Act.put, pA, pB, pC]
        refine tkH 17 hr103 ?_ rfl (by kernel_rfl) (fun _ _ _ h => h) (by rfl) ‹_› ?_ ?_
        rotate_left
        · intro W hSW; first | (go_simp; done) | (go_simp; with_reducible rfl)
        try simp only [Act.put, pA, pB, pC]
        refine tkH 18 hr104 ?_ rfl (by kernel_rfl) (fun _ _ _ h => h) (by rfl) ‹_› ?_ ?_
        rotate_left
        · intro W hSW; first | (go_simp; done) | (go_simp; with_reducible rfl)
        try simp only [Act.put, pA, pB, pC]
        refine tkH 19 hr105 (.string T0) rfl (by kernel_rfl) (fun _ _ _ h => h) (by rfl) ‹_› ?_ ?_
        · intro W hSW; have z0 := cell_on hSW c1; have z1 := cell_on hSW cp; have z2 := cell_on hSW d1; have z3 := cell_on hSW e1; have z4 := cell_on hSW c0; have z5 := cell_on hSW e2; have z6 := cell_on hSW csg; have z7 := cell_on hSW e3; first | (go_simp; done) | (go_simp; with_reducible rfl)
        try simp only [Act.put, pA, pB, pC]
        refine wpAnyH_lone (R := fun W => Below wr.heap.size wr W) (i := 20) (oi := hr106) (vi := .bool t) (by kernel_rfl) rfl hRw (fun _ h => h) ?_ ?_
        · intro W hW K hK
          go_simp
          refine (H20.out W hW).mono ?_
          rintro e W2 ⟨rfl, hb⟩
          go_wp2_with fail
          exact hK.out _ (below_then hW hb)
        clear hRw hHeld
        intro W9 hRw hHeld
        try simp only [Act.put, pA, pB, pC]
        refine tkH 21 hr107 ?_ rfl (by kernel_rfl) (fun _ _ _ h => h) (by rfl) ‹_› ?_ ?_
        rotate_left
        · intro W hSW; first | (go_simp; done) | (go_simp; with_reducible rfl)
        try simp only [Act.put, pA, pB, pC]
        refine wpAnyH_done (by kernel_rfl) ?_ _
        have hB7 := hide (below_then3 hBs.out hB.out hRw)
        have hB9 := (HS.out _ hB7.out).2.2
        clear hRw hHeld c1 cp d1 e1 c0 e2 csg e3 hB
        cases t
        · have hf : Hid (r = false) := hno.out (fun h => by have h9 := h.2.2.2.2.2.2.2 j (by rw [hnp.out]; exact hlt); rw [ht.out] at h9; exact Bool.noConfusion h9)
          go_wp2
          go_ret
          exact ⟨ret_bool hf.out.symm, hB9⟩
        · go_wp2
          go_roundw
          case rel => exact ⟨j + 1, by omega, by go_num, fun i hi => (by by_cases h9 : i < j; exact HO.out i h9; rw [show i = j by omega]; exact ht.out), hB7⟩
          case measure => simp [intOf]; omega
    · have j1 : ¬ (j : Int) < (np : Int) := by omega
      have hf : Hid (r = true) := hyes.out ⟨c0.out, ⟨by omega, by rw [hna.out]; omega⟩, ⟨by rw [hlk.out]; omega, by rw [hlk.out, hnk.out, m3.out]; omega⟩, c5, by rw [hD.out, hLk.out]; exact c6.out, ⟨p0.out, by rw [hxf.out, hxd.out]; exact p1.out, by rw [hxl.out, hll.out]; exact p2.out⟩, by rw [hns.out, hnp.out]; exact V3.out, fun i hi => HO.out i (by rw [hnp.out] at hi; omega)⟩
      go_wp2
      go_ret
      exact ⟨ret_bool hf.out.symm, hBg⟩

end Go.Proofs.Ythoimecljfcjmaa
