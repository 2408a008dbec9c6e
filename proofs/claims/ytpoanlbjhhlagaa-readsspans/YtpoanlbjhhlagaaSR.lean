/- ReadsSpans: the walk. -/
import Derived.Test.YtpoanlbjhhlagaaSM
namespace Go.Proofs.Ytpoanlbjhhlagaa
open Go.RowKit Go.Maps
set_option linter.unusedVariables false

abbrev sn0 : Oper := { dst := some 76, op := Op.fieldAddr 65 (Operand.tmp 12) 1, type := 0, pos := "law.go:110", after := #[], guard := none }
abbrev sn1 : Oper := { dst := some 77, op := Op.load 33 (Operand.tmp 76), type := 33, pos := "law.go:110", after := #[{ on := 0, ground := Ground.data }], guard := none }
abbrev sn2 : Oper := { dst := some 78, op := Op.convert 33 9 (Operand.tmp 77), type := 9, pos := "law.go:110", after := #[{ on := 1, ground := Ground.data }], guard := none }
abbrev sn3 : Oper := { dst := some 79, op := Op.fieldAddr 65 (Operand.tmp 12) 0, type := 0, pos := "law.go:110", after := #[], guard := none }
abbrev sn4 : Oper := { dst := some 80, op := Op.load 33 (Operand.tmp 79), type := 33, pos := "law.go:110", after := #[{ on := 3, ground := Ground.data }], guard := none }
abbrev sn5 : Oper := { dst := some 81, op := Op.convert 33 9 (Operand.tmp 80), type := 9, pos := "law.go:110", after := #[{ on := 4, ground := Ground.data }], guard := none }
abbrev sn6 : Oper := { dst := some 82, op := Op.binOp BinOp.leq 9 (Operand.tmp 78) (Operand.tmp 81) 9, type := 4, pos := "law.go:110", after := #[{ on := 2, ground := Ground.data }, { on := 5, ground := Ground.data }], guard := none }
abbrev sn7 : Oper := { dst := some 83, op := Op.move (Operand.tmp 82), type := 4, pos := "law.go:110", after := #[{ on := 6, ground := Ground.data }], guard := none }
abbrev sn8 : Oper := { dst := some 84, op := Op.move (Operand.tmp 7), type := 26, pos := "law.go:110", after := #[{ on := 7, ground := Ground.guard }], guard := some (7, false) }
abbrev sn9 : Oper := { dst := some 85, op := Op.fieldAddr 65 (Operand.tmp 12) 0, type := 0, pos := "law.go:110", after := #[{ on := 7, ground := Ground.guard }], guard := some (7, false) }
abbrev sn10 : Oper := { dst := some 86, op := Op.load 33 (Operand.tmp 85), type := 33, pos := "law.go:110", after := #[{ on := 9, ground := Ground.data }, { on := 7, ground := Ground.guard }], guard := some (7, false) }
abbrev sn11 : Oper := { dst := some 87, op := Op.call { callee := Callee.value (Operand.func 12), args := #[Operand.tmp 84, Operand.tmp 86], argTypes := #[26, 33] }, type := 4, pos := "law.go:110", after := #[{ on := 8, ground := Ground.data }, { on := 10, ground := Ground.data }, { on := 7, ground := Ground.chain }, { on := 7, ground := Ground.guard }], guard := some (7, false) }
abbrev sn12 : Oper := { dst := some 88, op := Op.unOp UnOp.not 4 (Operand.tmp 87), type := 4, pos := "law.go:110", after := #[{ on := 11, ground := Ground.data }, { on := 7, ground := Ground.guard }], guard := some (7, false) }
abbrev sn13 : Oper := { dst := some 89, op := Op.pick (Operand.tmp 83) (Operand.const (Value.bool true)) (Operand.tmp 88), type := 4, pos := "law.go:110", after := #[{ on := 7, ground := Ground.data }, { on := 12, ground := Ground.data }], guard := none }
abbrev sn14 : Oper := { dst := some 90, op := Op.move (Operand.tmp 89), type := 4, pos := "law.go:110", after := #[{ on := 13, ground := Ground.data }, { on := 11, ground := Ground.chain }], guard := none }
abbrev sn15 : Oper := { dst := some 91, op := Op.move (Operand.tmp 7), type := 26, pos := "law.go:110", after := #[{ on := 14, ground := Ground.guard }], guard := some (14, false) }
abbrev sn16 : Oper := { dst := some 92, op := Op.fieldAddr 65 (Operand.tmp 12) 1, type := 0, pos := "law.go:110", after := #[{ on := 14, ground := Ground.guard }], guard := some (14, false) }
abbrev sn17 : Oper := { dst := some 93, op := Op.load 33 (Operand.tmp 92), type := 33, pos := "law.go:110", after := #[{ on := 16, ground := Ground.data }, { on := 14, ground := Ground.guard }], guard := some (14, false) }
abbrev sn18 : Oper := { dst := some 94, op := Op.call { callee := Callee.value (Operand.func 12), args := #[Operand.tmp 91, Operand.tmp 93], argTypes := #[26, 33] }, type := 4, pos := "law.go:110", after := #[{ on := 15, ground := Ground.data }, { on := 17, ground := Ground.data }, { on := 14, ground := Ground.chain }, { on := 14, ground := Ground.guard }], guard := some (14, false) }
abbrev sn19 : Oper := { dst := some 95, op := Op.pick (Operand.tmp 90) (Operand.const (Value.bool true)) (Operand.tmp 94), type := 4, pos := "law.go:110", after := #[{ on := 14, ground := Ground.data }, { on := 18, ground := Ground.data }], guard := none }
abbrev sn20 : Oper := { dst := some 96, op := Op.move (Operand.tmp 95), type := 4, pos := "law.go:110", after := #[{ on := 19, ground := Ground.data }, { on := 18, ground := Ground.chain }], guard := none }
abbrev sn21 : Oper := { dst := some 97, op := Op.move (Operand.tmp 11), type := 3, pos := "law.go:110", after := #[{ on := 20, ground := Ground.guard }], guard := some (20, false) }
abbrev sn22 : Oper := { dst := some 98, op := Op.binOp BinOp.add 3 (Operand.tmp 97) (Operand.const (Value.int IntKind.i64 1)) 3, type := 3, pos := "law.go:110", after := #[{ on := 21, ground := Ground.data }, { on := 20, ground := Ground.guard }], guard := some (20, false) }
abbrev sn23 : Oper := { dst := some 99, op := Op.move (Operand.tmp 10), type := 23, pos := "law.go:110", after := #[{ on := 20, ground := Ground.guard }], guard := some (20, false) }
abbrev sn24 : Oper := { dst := some 100, op := Op.call { callee := Callee.builtin Builtin.len, args := #[Operand.tmp 99], argTypes := #[23] }, type := 3, pos := "law.go:110", after := #[{ on := 23, ground := Ground.data }, { on := 20, ground := Ground.guard }], guard := some (20, false) }
abbrev sn25 : Oper := { dst := some 101, op := Op.binOp BinOp.lss 3 (Operand.tmp 98) (Operand.tmp 100) 3, type := 4, pos := "law.go:110", after := #[{ on := 22, ground := Ground.data }, { on := 24, ground := Ground.data }, { on := 20, ground := Ground.guard }], guard := some (20, false) }
abbrev sn26 : Oper := { dst := some 102, op := Op.move (Operand.tmp 101), type := 4, pos := "law.go:110", after := #[{ on := 25, ground := Ground.data }, { on := 20, ground := Ground.chain }, { on := 20, ground := Ground.guard }], guard := some (20, false) }
abbrev sn27 : Oper := { dst := some 103, op := Op.move (Operand.tmp 10), type := 23, pos := "law.go:110", after := #[{ on := 26, ground := Ground.guard }], guard := some (26, true) }
abbrev sn28 : Oper := { dst := some 104, op := Op.move (Operand.tmp 11), type := 3, pos := "law.go:110", after := #[{ on := 26, ground := Ground.guard }], guard := some (26, true) }
abbrev sn29 : Oper := { dst := some 105, op := Op.binOp BinOp.add 3 (Operand.tmp 104) (Operand.const (Value.int IntKind.i64 1)) 3, type := 3, pos := "law.go:110", after := #[{ on := 28, ground := Ground.data }, { on := 26, ground := Ground.guard }], guard := some (26, true) }
abbrev sn30 : Oper := { dst := some 106, op := Op.indexAddr 23 (Operand.tmp 103) (Operand.tmp 105), type := 0, pos := "law.go:110", after := #[{ on := 27, ground := Ground.data }, { on := 29, ground := Ground.data }, { on := 26, ground := Ground.guard }], guard := some (26, true) }
abbrev sn31 : Oper := { dst := some 107, op := Op.fieldAddr 65 (Operand.tmp 106) 0, type := 0, pos := "law.go:110", after := #[{ on := 30, ground := Ground.data }, { on := 26, ground := Ground.guard }], guard := some (26, true) }
abbrev sn32 : Oper := { dst := some 108, op := Op.load 33 (Operand.tmp 107), type := 33, pos := "law.go:110", after := #[{ on := 31, ground := Ground.data }, { on := 26, ground := Ground.guard }], guard := some (26, true) }
abbrev sn33 : Oper := { dst := some 109, op := Op.convert 33 9 (Operand.tmp 108), type := 9, pos := "law.go:110", after := #[{ on := 32, ground := Ground.data }, { on := 26, ground := Ground.guard }], guard := some (26, true) }
abbrev sn34 : Oper := { dst := some 110, op := Op.fieldAddr 65 (Operand.tmp 12) 1, type := 0, pos := "law.go:110", after := #[{ on := 26, ground := Ground.guard }], guard := some (26, true) }
abbrev sn35 : Oper := { dst := some 111, op := Op.load 33 (Operand.tmp 110), type := 33, pos := "law.go:110", after := #[{ on := 34, ground := Ground.data }, { on := 26, ground := Ground.guard }], guard := some (26, true) }
abbrev sn36 : Oper := { dst := some 112, op := Op.convert 33 9 (Operand.tmp 111), type := 9, pos := "law.go:110", after := #[{ on := 35, ground := Ground.data }, { on := 26, ground := Ground.guard }], guard := some (26, true) }
abbrev sn37 : Oper := { dst := some 113, op := Op.binOp BinOp.leq 9 (Operand.tmp 109) (Operand.tmp 112) 9, type := 4, pos := "law.go:110", after := #[{ on := 33, ground := Ground.data }, { on := 36, ground := Ground.data }, { on := 26, ground := Ground.guard }], guard := some (26, true) }
abbrev sn38 : Oper := { dst := some 114, op := Op.pick (Operand.tmp 102) (Operand.tmp 113) (Operand.const (Value.bool false)), type := 4, pos := "law.go:110", after := #[{ on := 26, ground := Ground.data }, { on := 37, ground := Ground.data }, { on := 20, ground := Ground.guard }], guard := some (20, false) }
abbrev sn39 : Oper := { dst := some 115, op := Op.pick (Operand.tmp 96) (Operand.const (Value.bool true)) (Operand.tmp 114), type := 4, pos := "law.go:110", after := #[{ on := 20, ground := Ground.data }, { on := 38, ground := Ground.data }], guard := none }
abbrev sl0 : Oper := { dst := some 76, op := Op.fieldAddr 65 (Operand.tmp 12) 1, type := 0, pos := "law.go:110", after := #[], guard := none }
abbrev sl1 : Oper := { dst := some 77, op := Op.load 33 (Operand.tmp 76), type := 33, pos := "law.go:110", after := #[{ on := 0, ground := Ground.data }], guard := none }
abbrev sl2 : Oper := { dst := some 78, op := Op.convert 33 9 (Operand.tmp 77), type := 9, pos := "law.go:110", after := #[{ on := 1, ground := Ground.data }], guard := none }
abbrev sl3 : Oper := { dst := some 79, op := Op.fieldAddr 65 (Operand.tmp 12) 0, type := 0, pos := "law.go:110", after := #[], guard := none }
abbrev sl4 : Oper := { dst := some 80, op := Op.load 33 (Operand.tmp 79), type := 33, pos := "law.go:110", after := #[{ on := 3, ground := Ground.data }], guard := none }
abbrev sl5 : Oper := { dst := some 81, op := Op.convert 33 9 (Operand.tmp 80), type := 9, pos := "law.go:110", after := #[{ on := 4, ground := Ground.data }], guard := none }
abbrev sl6 : Oper := { dst := some 82, op := Op.binOp BinOp.leq 9 (Operand.tmp 78) (Operand.tmp 81) 9, type := 4, pos := "law.go:110", after := #[{ on := 2, ground := Ground.data }, { on := 5, ground := Ground.data }], guard := none }
abbrev sl7 : Oper := { dst := some 83, op := Op.move (Operand.tmp 82), type := 4, pos := "law.go:110", after := #[{ on := 6, ground := Ground.data }], guard := none }
abbrev sl8 : Oper := { dst := some 84, op := Op.move (Operand.tmp 7), type := 26, pos := "law.go:110", after := #[{ on := 7, ground := Ground.guard }], guard := some (7, false) }
abbrev sl9 : Oper := { dst := some 85, op := Op.fieldAddr 65 (Operand.tmp 12) 0, type := 0, pos := "law.go:110", after := #[{ on := 7, ground := Ground.guard }], guard := some (7, false) }
abbrev sl10 : Oper := { dst := some 86, op := Op.load 33 (Operand.tmp 85), type := 33, pos := "law.go:110", after := #[{ on := 9, ground := Ground.data }, { on := 7, ground := Ground.guard }], guard := some (7, false) }
abbrev sl11 : Oper := { dst := some 87, op := Op.call { callee := Callee.value (Operand.func 12), args := #[Operand.tmp 84, Operand.tmp 86], argTypes := #[26, 33] }, type := 4, pos := "law.go:110", after := #[{ on := 8, ground := Ground.data }, { on := 10, ground := Ground.data }, { on := 7, ground := Ground.chain }, { on := 7, ground := Ground.guard }], guard := some (7, false) }
abbrev sl12 : Oper := { dst := some 88, op := Op.unOp UnOp.not 4 (Operand.tmp 87), type := 4, pos := "law.go:110", after := #[{ on := 11, ground := Ground.data }, { on := 7, ground := Ground.guard }], guard := some (7, false) }
abbrev sl13 : Oper := { dst := some 89, op := Op.pick (Operand.tmp 83) (Operand.const (Value.bool true)) (Operand.tmp 88), type := 4, pos := "law.go:110", after := #[{ on := 7, ground := Ground.data }, { on := 12, ground := Ground.data }], guard := none }
abbrev sl14 : Oper := { dst := some 90, op := Op.move (Operand.tmp 89), type := 4, pos := "law.go:110", after := #[{ on := 13, ground := Ground.data }, { on := 11, ground := Ground.chain }], guard := none }
abbrev sl15 : Oper := { dst := some 91, op := Op.move (Operand.tmp 7), type := 26, pos := "law.go:110", after := #[{ on := 14, ground := Ground.guard }], guard := some (14, false) }
abbrev sl16 : Oper := { dst := some 92, op := Op.fieldAddr 65 (Operand.tmp 12) 1, type := 0, pos := "law.go:110", after := #[{ on := 14, ground := Ground.guard }], guard := some (14, false) }
abbrev sl17 : Oper := { dst := some 93, op := Op.load 33 (Operand.tmp 92), type := 33, pos := "law.go:110", after := #[{ on := 16, ground := Ground.data }, { on := 14, ground := Ground.guard }], guard := some (14, false) }
abbrev sl18 : Oper := { dst := some 94, op := Op.call { callee := Callee.value (Operand.func 12), args := #[Operand.tmp 91, Operand.tmp 93], argTypes := #[26, 33] }, type := 4, pos := "law.go:110", after := #[{ on := 15, ground := Ground.data }, { on := 17, ground := Ground.data }, { on := 14, ground := Ground.chain }, { on := 14, ground := Ground.guard }], guard := some (14, false) }
abbrev sl19 : Oper := { dst := some 95, op := Op.pick (Operand.tmp 90) (Operand.const (Value.bool true)) (Operand.tmp 94), type := 4, pos := "law.go:110", after := #[{ on := 14, ground := Ground.data }, { on := 18, ground := Ground.data }], guard := none }
abbrev sl20 : Oper := { dst := some 96, op := Op.move (Operand.tmp 95), type := 4, pos := "law.go:110", after := #[{ on := 19, ground := Ground.data }, { on := 18, ground := Ground.chain }], guard := none }
abbrev sl21 : Oper := { dst := some 97, op := Op.move (Operand.tmp 11), type := 3, pos := "law.go:110", after := #[{ on := 20, ground := Ground.guard }], guard := some (20, false) }
abbrev sl22 : Oper := { dst := some 98, op := Op.binOp BinOp.add 3 (Operand.tmp 97) (Operand.const (Value.int IntKind.i64 1)) 3, type := 3, pos := "law.go:110", after := #[{ on := 21, ground := Ground.data }, { on := 20, ground := Ground.guard }], guard := some (20, false) }
abbrev sl23 : Oper := { dst := some 99, op := Op.move (Operand.tmp 10), type := 23, pos := "law.go:110", after := #[{ on := 20, ground := Ground.guard }], guard := some (20, false) }
abbrev sl24 : Oper := { dst := some 100, op := Op.call { callee := Callee.builtin Builtin.len, args := #[Operand.tmp 99], argTypes := #[23] }, type := 3, pos := "law.go:110", after := #[{ on := 23, ground := Ground.data }, { on := 20, ground := Ground.guard }], guard := some (20, false) }
abbrev sl25 : Oper := { dst := some 101, op := Op.binOp BinOp.lss 3 (Operand.tmp 98) (Operand.tmp 100) 3, type := 4, pos := "law.go:110", after := #[{ on := 22, ground := Ground.data }, { on := 24, ground := Ground.data }, { on := 20, ground := Ground.guard }], guard := some (20, false) }
abbrev sl26 : Oper := { dst := some 102, op := Op.move (Operand.tmp 101), type := 4, pos := "law.go:110", after := #[{ on := 25, ground := Ground.data }, { on := 20, ground := Ground.chain }, { on := 20, ground := Ground.guard }], guard := some (20, false) }
abbrev sl27 : Oper := { dst := some 103, op := Op.move (Operand.tmp 10), type := 23, pos := "law.go:110", after := #[{ on := 26, ground := Ground.guard }], guard := some (26, true) }
abbrev sl28 : Oper := { dst := some 104, op := Op.move (Operand.tmp 11), type := 3, pos := "law.go:110", after := #[{ on := 26, ground := Ground.guard }], guard := some (26, true) }
abbrev sl29 : Oper := { dst := some 105, op := Op.binOp BinOp.add 3 (Operand.tmp 104) (Operand.const (Value.int IntKind.i64 1)) 3, type := 3, pos := "law.go:110", after := #[{ on := 28, ground := Ground.data }, { on := 26, ground := Ground.guard }], guard := some (26, true) }
abbrev sl30 : Oper := { dst := some 106, op := Op.indexAddr 23 (Operand.tmp 103) (Operand.tmp 105), type := 0, pos := "law.go:110", after := #[{ on := 27, ground := Ground.data }, { on := 29, ground := Ground.data }, { on := 26, ground := Ground.guard }], guard := some (26, true) }
abbrev sl31 : Oper := { dst := some 107, op := Op.fieldAddr 65 (Operand.tmp 106) 0, type := 0, pos := "law.go:110", after := #[{ on := 30, ground := Ground.data }, { on := 26, ground := Ground.guard }], guard := some (26, true) }
abbrev sl32 : Oper := { dst := some 108, op := Op.load 33 (Operand.tmp 107), type := 33, pos := "law.go:110", after := #[{ on := 31, ground := Ground.data }, { on := 26, ground := Ground.guard }], guard := some (26, true) }
abbrev sl33 : Oper := { dst := some 109, op := Op.convert 33 9 (Operand.tmp 108), type := 9, pos := "law.go:110", after := #[{ on := 32, ground := Ground.data }, { on := 26, ground := Ground.guard }], guard := some (26, true) }
abbrev sl34 : Oper := { dst := some 110, op := Op.fieldAddr 65 (Operand.tmp 12) 1, type := 0, pos := "law.go:110", after := #[{ on := 26, ground := Ground.guard }], guard := some (26, true) }
abbrev sl35 : Oper := { dst := some 111, op := Op.load 33 (Operand.tmp 110), type := 33, pos := "law.go:110", after := #[{ on := 34, ground := Ground.data }, { on := 26, ground := Ground.guard }], guard := some (26, true) }
abbrev sl36 : Oper := { dst := some 112, op := Op.convert 33 9 (Operand.tmp 111), type := 9, pos := "law.go:110", after := #[{ on := 35, ground := Ground.data }, { on := 26, ground := Ground.guard }], guard := some (26, true) }
abbrev sl37 : Oper := { dst := some 113, op := Op.binOp BinOp.leq 9 (Operand.tmp 109) (Operand.tmp 112) 9, type := 4, pos := "law.go:110", after := #[{ on := 33, ground := Ground.data }, { on := 36, ground := Ground.data }, { on := 26, ground := Ground.guard }], guard := some (26, true) }
abbrev sl38 : Oper := { dst := some 114, op := Op.pick (Operand.tmp 102) (Operand.tmp 113) (Operand.const (Value.bool false)), type := 4, pos := "law.go:110", after := #[{ on := 26, ground := Ground.data }, { on := 37, ground := Ground.data }, { on := 20, ground := Ground.guard }], guard := some (20, false) }
abbrev sl39 : Oper := { dst := some 115, op := Op.pick (Operand.tmp 96) (Operand.const (Value.bool true)) (Operand.tmp 114), type := 4, pos := "law.go:110", after := #[{ on := 20, ground := Ground.data }, { on := 38, ground := Ground.data }], guard := none }
abbrev tA0 : Oper := { dst := some 128, op := Op.move (Operand.tmp 14), type := 4, pos := "law.go:117", after := #[], guard := none }
abbrev tA1 : Oper := { dst := some 129, op := Op.move (Operand.tmp 128), type := 4, pos := "law.go:117", after := #[{ on := 0, ground := Ground.data }], guard := none }
abbrev tA2 : Oper := { dst := some 130, op := Op.move (Operand.tmp 2), type := 22, pos := "law.go:117", after := #[{ on := 1, ground := Ground.guard }], guard := some (1, false) }
abbrev tA3 : Oper := { dst := some 131, op := Op.move (Operand.tmp 13), type := 3, pos := "law.go:117", after := #[{ on := 1, ground := Ground.guard }], guard := some (1, false) }
abbrev tA4 : Oper := { dst := some 132, op := Op.indexAddr 22 (Operand.tmp 130) (Operand.tmp 131), type := 0, pos := "law.go:117", after := #[{ on := 2, ground := Ground.data }, { on := 3, ground := Ground.data }, { on := 1, ground := Ground.guard }], guard := some (1, false) }
abbrev tA5 : Oper := { dst := some 133, op := Op.load 33 (Operand.tmp 132), type := 33, pos := "law.go:117", after := #[{ on := 4, ground := Ground.data }, { on := 1, ground := Ground.guard }], guard := some (1, false) }
abbrev tA6 : Oper := { dst := some 134, op := Op.convert 33 9 (Operand.tmp 133), type := 9, pos := "law.go:117", after := #[{ on := 5, ground := Ground.data }, { on := 1, ground := Ground.guard }], guard := some (1, false) }
abbrev tA7 : Oper := { dst := some 135, op := Op.move (Operand.tmp 10), type := 23, pos := "law.go:117", after := #[{ on := 1, ground := Ground.guard }], guard := some (1, false) }
abbrev tA8 : Oper := { dst := some 136, op := Op.move (Operand.tmp 15), type := 3, pos := "law.go:117", after := #[{ on := 1, ground := Ground.guard }], guard := some (1, false) }
abbrev tA9 : Oper := { dst := some 137, op := Op.indexAddr 23 (Operand.tmp 135) (Operand.tmp 136), type := 0, pos := "law.go:117", after := #[{ on := 7, ground := Ground.data }, { on := 8, ground := Ground.data }, { on := 1, ground := Ground.guard }], guard := some (1, false) }
abbrev tA10 : Oper := { dst := some 138, op := Op.fieldAddr 65 (Operand.tmp 137) 0, type := 0, pos := "law.go:117", after := #[{ on := 9, ground := Ground.data }, { on := 1, ground := Ground.guard }], guard := some (1, false) }
abbrev tA11 : Oper := { dst := some 139, op := Op.load 33 (Operand.tmp 138), type := 33, pos := "law.go:117", after := #[{ on := 10, ground := Ground.data }, { on := 1, ground := Ground.guard }], guard := some (1, false) }
abbrev tA12 : Oper := { dst := some 140, op := Op.convert 33 9 (Operand.tmp 139), type := 9, pos := "law.go:117", after := #[{ on := 11, ground := Ground.data }, { on := 1, ground := Ground.guard }], guard := some (1, false) }
abbrev tA13 : Oper := { dst := some 141, op := Op.binOp BinOp.geq 9 (Operand.tmp 134) (Operand.tmp 140) 9, type := 4, pos := "law.go:117", after := #[{ on := 6, ground := Ground.data }, { on := 12, ground := Ground.data }, { on := 1, ground := Ground.guard }], guard := some (1, false) }
abbrev tA14 : Oper := { dst := some 142, op := Op.move (Operand.tmp 141), type := 4, pos := "law.go:117", after := #[{ on := 13, ground := Ground.data }, { on := 1, ground := Ground.chain }, { on := 1, ground := Ground.guard }], guard := some (1, false) }
abbrev tA15 : Oper := { dst := some 143, op := Op.move (Operand.tmp 10), type := 23, pos := "law.go:117", after := #[{ on := 14, ground := Ground.guard }], guard := some (14, true) }
abbrev tA16 : Oper := { dst := some 144, op := Op.move (Operand.tmp 15), type := 3, pos := "law.go:117", after := #[{ on := 14, ground := Ground.guard }], guard := some (14, true) }
abbrev tA17 : Oper := { dst := some 145, op := Op.indexAddr 23 (Operand.tmp 143) (Operand.tmp 144), type := 0, pos := "law.go:117", after := #[{ on := 15, ground := Ground.data }, { on := 16, ground := Ground.data }, { on := 14, ground := Ground.guard }], guard := some (14, true) }
abbrev tA18 : Oper := { dst := some 146, op := Op.fieldAddr 65 (Operand.tmp 145) 2, type := 0, pos := "law.go:117", after := #[{ on := 17, ground := Ground.data }, { on := 14, ground := Ground.guard }], guard := some (14, true) }
abbrev tA19 : Oper := { dst := some 147, op := Op.load 4 (Operand.tmp 146), type := 4, pos := "law.go:117", after := #[{ on := 18, ground := Ground.data }, { on := 14, ground := Ground.guard }], guard := some (14, true) }
abbrev tA20 : Oper := { dst := some 148, op := Op.move (Operand.tmp 147), type := 4, pos := "law.go:117", after := #[{ on := 19, ground := Ground.data }, { on := 14, ground := Ground.chain }, { on := 14, ground := Ground.guard }], guard := some (14, true) }
abbrev tA21 : Oper := { dst := some 149, op := Op.move (Operand.tmp 2), type := 22, pos := "law.go:117", after := #[{ on := 20, ground := Ground.guard }], guard := some (20, false) }
abbrev tA22 : Oper := { dst := some 150, op := Op.move (Operand.tmp 13), type := 3, pos := "law.go:117", after := #[{ on := 20, ground := Ground.guard }], guard := some (20, false) }
abbrev tA23 : Oper := { dst := some 151, op := Op.indexAddr 22 (Operand.tmp 149) (Operand.tmp 150), type := 0, pos := "law.go:117", after := #[{ on := 21, ground := Ground.data }, { on := 22, ground := Ground.data }, { on := 20, ground := Ground.guard }], guard := some (20, false) }
abbrev tA24 : Oper := { dst := some 152, op := Op.load 33 (Operand.tmp 151), type := 33, pos := "law.go:117", after := #[{ on := 23, ground := Ground.data }, { on := 20, ground := Ground.guard }], guard := some (20, false) }
abbrev tA25 : Oper := { dst := some 153, op := Op.convert 33 9 (Operand.tmp 152), type := 9, pos := "law.go:117", after := #[{ on := 24, ground := Ground.data }, { on := 20, ground := Ground.guard }], guard := some (20, false) }
abbrev tA26 : Oper := { dst := some 154, op := Op.move (Operand.tmp 10), type := 23, pos := "law.go:117", after := #[{ on := 20, ground := Ground.guard }], guard := some (20, false) }
abbrev tA27 : Oper := { dst := some 155, op := Op.move (Operand.tmp 15), type := 3, pos := "law.go:117", after := #[{ on := 20, ground := Ground.guard }], guard := some (20, false) }
abbrev tA28 : Oper := { dst := some 156, op := Op.indexAddr 23 (Operand.tmp 154) (Operand.tmp 155), type := 0, pos := "law.go:117", after := #[{ on := 26, ground := Ground.data }, { on := 27, ground := Ground.data }, { on := 20, ground := Ground.guard }], guard := some (20, false) }
abbrev tA29 : Oper := { dst := some 157, op := Op.fieldAddr 65 (Operand.tmp 156) 1, type := 0, pos := "law.go:117", after := #[{ on := 28, ground := Ground.data }, { on := 20, ground := Ground.guard }], guard := some (20, false) }
abbrev tA30 : Oper := { dst := some 158, op := Op.load 33 (Operand.tmp 157), type := 33, pos := "law.go:117", after := #[{ on := 29, ground := Ground.data }, { on := 20, ground := Ground.guard }], guard := some (20, false) }
abbrev tA31 : Oper := { dst := some 159, op := Op.convert 33 9 (Operand.tmp 158), type := 9, pos := "law.go:117", after := #[{ on := 30, ground := Ground.data }, { on := 20, ground := Ground.guard }], guard := some (20, false) }
abbrev tA32 : Oper := { dst := some 160, op := Op.binOp BinOp.lss 9 (Operand.tmp 153) (Operand.tmp 159) 9, type := 4, pos := "law.go:117", after := #[{ on := 25, ground := Ground.data }, { on := 31, ground := Ground.data }, { on := 20, ground := Ground.guard }], guard := some (20, false) }
abbrev tA33 : Oper := { dst := some 161, op := Op.pick (Operand.tmp 148) (Operand.const (Value.bool true)) (Operand.tmp 160), type := 4, pos := "law.go:117", after := #[{ on := 20, ground := Ground.data }, { on := 32, ground := Ground.data }, { on := 14, ground := Ground.guard }], guard := some (14, true) }
abbrev tA34 : Oper := { dst := some 162, op := Op.pick (Operand.tmp 142) (Operand.tmp 161) (Operand.const (Value.bool false)), type := 4, pos := "law.go:117", after := #[{ on := 14, ground := Ground.data }, { on := 33, ground := Ground.data }, { on := 1, ground := Ground.guard }], guard := some (1, false) }
abbrev tA35 : Oper := { dst := some 163, op := Op.pick (Operand.tmp 129) (Operand.const (Value.bool true)) (Operand.tmp 162), type := 4, pos := "law.go:117", after := #[{ on := 1, ground := Ground.data }, { on := 34, ground := Ground.data }], guard := none }
abbrev tA36 : Oper := { dst := some 14, op := Op.assign (Operand.tmp 163), type := 4, pos := "law.go:117", after := #[{ on := 35, ground := Ground.data }, { on := 20, ground := Ground.chain }, { on := 0, ground := Ground.phase }, { on := 1, ground := Ground.phase }, { on := 2, ground := Ground.phase }, { on := 3, ground := Ground.phase }, { on := 4, ground := Ground.phase }, { on := 5, ground := Ground.phase }, { on := 6, ground := Ground.phase }, { on := 7, ground := Ground.phase }, { on := 8, ground := Ground.phase }, { on := 9, ground := Ground.phase }, { on := 10, ground := Ground.phase }, { on := 11, ground := Ground.phase }, { on := 12, ground := Ground.phase }, { on := 13, ground := Ground.phase }, { on := 14, ground := Ground.phase }, { on := 15, ground := Ground.phase }, { on := 16, ground := Ground.phase }, { on := 17, ground := Ground.phase }, { on := 18, ground := Ground.phase }, { on := 19, ground := Ground.phase }, { on := 20, ground := Ground.phase }, { on := 21, ground := Ground.phase }, { on := 22, ground := Ground.phase }, { on := 23, ground := Ground.phase }, { on := 24, ground := Ground.phase }, { on := 25, ground := Ground.phase }, { on := 26, ground := Ground.phase }, { on := 27, ground := Ground.phase }, { on := 28, ground := Ground.phase }, { on := 29, ground := Ground.phase }, { on := 30, ground := Ground.phase }, { on := 31, ground := Ground.phase }, { on := 32, ground := Ground.phase }, { on := 33, ground := Ground.phase }, { on := 34, ground := Ground.phase }, { on := 35, ground := Ground.phase }], guard := none }
abbrev tB0 : Oper := { dst := some 128, op := Op.move (Operand.tmp 14), type := 4, pos := "law.go:117", after := #[], guard := none }
abbrev tB1 : Oper := { dst := some 129, op := Op.move (Operand.tmp 128), type := 4, pos := "law.go:117", after := #[{ on := 0, ground := Ground.data }], guard := none }
abbrev tB2 : Oper := { dst := some 130, op := Op.move (Operand.tmp 2), type := 22, pos := "law.go:117", after := #[{ on := 1, ground := Ground.guard }], guard := some (1, false) }
abbrev tB3 : Oper := { dst := some 131, op := Op.move (Operand.tmp 13), type := 3, pos := "law.go:117", after := #[{ on := 1, ground := Ground.guard }], guard := some (1, false) }
abbrev tB4 : Oper := { dst := some 132, op := Op.indexAddr 22 (Operand.tmp 130) (Operand.tmp 131), type := 0, pos := "law.go:117", after := #[{ on := 2, ground := Ground.data }, { on := 3, ground := Ground.data }, { on := 1, ground := Ground.guard }], guard := some (1, false) }
abbrev tB5 : Oper := { dst := some 133, op := Op.load 33 (Operand.tmp 132), type := 33, pos := "law.go:117", after := #[{ on := 4, ground := Ground.data }, { on := 1, ground := Ground.guard }], guard := some (1, false) }
abbrev tB6 : Oper := { dst := some 134, op := Op.convert 33 9 (Operand.tmp 133), type := 9, pos := "law.go:117", after := #[{ on := 5, ground := Ground.data }, { on := 1, ground := Ground.guard }], guard := some (1, false) }
abbrev tB7 : Oper := { dst := some 135, op := Op.move (Operand.tmp 10), type := 23, pos := "law.go:117", after := #[{ on := 1, ground := Ground.guard }], guard := some (1, false) }
abbrev tB8 : Oper := { dst := some 136, op := Op.move (Operand.tmp 15), type := 3, pos := "law.go:117", after := #[{ on := 1, ground := Ground.guard }], guard := some (1, false) }
abbrev tB9 : Oper := { dst := some 137, op := Op.indexAddr 23 (Operand.tmp 135) (Operand.tmp 136), type := 0, pos := "law.go:117", after := #[{ on := 7, ground := Ground.data }, { on := 8, ground := Ground.data }, { on := 1, ground := Ground.guard }], guard := some (1, false) }
abbrev tB10 : Oper := { dst := some 138, op := Op.fieldAddr 65 (Operand.tmp 137) 0, type := 0, pos := "law.go:117", after := #[{ on := 9, ground := Ground.data }, { on := 1, ground := Ground.guard }], guard := some (1, false) }
abbrev tB11 : Oper := { dst := some 139, op := Op.load 33 (Operand.tmp 138), type := 33, pos := "law.go:117", after := #[{ on := 10, ground := Ground.data }, { on := 1, ground := Ground.guard }], guard := some (1, false) }
abbrev tB12 : Oper := { dst := some 140, op := Op.convert 33 9 (Operand.tmp 139), type := 9, pos := "law.go:117", after := #[{ on := 11, ground := Ground.data }, { on := 1, ground := Ground.guard }], guard := some (1, false) }
abbrev tB13 : Oper := { dst := some 141, op := Op.binOp BinOp.geq 9 (Operand.tmp 134) (Operand.tmp 140) 9, type := 4, pos := "law.go:117", after := #[{ on := 6, ground := Ground.data }, { on := 12, ground := Ground.data }, { on := 1, ground := Ground.guard }], guard := some (1, false) }
abbrev tB14 : Oper := { dst := some 142, op := Op.move (Operand.tmp 141), type := 4, pos := "law.go:117", after := #[{ on := 13, ground := Ground.data }, { on := 1, ground := Ground.chain }, { on := 1, ground := Ground.guard }], guard := some (1, false) }
abbrev tB15 : Oper := { dst := some 143, op := Op.move (Operand.tmp 10), type := 23, pos := "law.go:117", after := #[{ on := 14, ground := Ground.guard }], guard := some (14, true) }
abbrev tB16 : Oper := { dst := some 144, op := Op.move (Operand.tmp 15), type := 3, pos := "law.go:117", after := #[{ on := 14, ground := Ground.guard }], guard := some (14, true) }
abbrev tB17 : Oper := { dst := some 145, op := Op.indexAddr 23 (Operand.tmp 143) (Operand.tmp 144), type := 0, pos := "law.go:117", after := #[{ on := 15, ground := Ground.data }, { on := 16, ground := Ground.data }, { on := 14, ground := Ground.guard }], guard := some (14, true) }
abbrev tB18 : Oper := { dst := some 146, op := Op.fieldAddr 65 (Operand.tmp 145) 2, type := 0, pos := "law.go:117", after := #[{ on := 17, ground := Ground.data }, { on := 14, ground := Ground.guard }], guard := some (14, true) }
abbrev tB19 : Oper := { dst := some 147, op := Op.load 4 (Operand.tmp 146), type := 4, pos := "law.go:117", after := #[{ on := 18, ground := Ground.data }, { on := 14, ground := Ground.guard }], guard := some (14, true) }
abbrev tB20 : Oper := { dst := some 148, op := Op.move (Operand.tmp 147), type := 4, pos := "law.go:117", after := #[{ on := 19, ground := Ground.data }, { on := 14, ground := Ground.chain }, { on := 14, ground := Ground.guard }], guard := some (14, true) }
abbrev tB21 : Oper := { dst := some 149, op := Op.move (Operand.tmp 2), type := 22, pos := "law.go:117", after := #[{ on := 20, ground := Ground.guard }], guard := some (20, false) }
abbrev tB22 : Oper := { dst := some 150, op := Op.move (Operand.tmp 13), type := 3, pos := "law.go:117", after := #[{ on := 20, ground := Ground.guard }], guard := some (20, false) }
abbrev tB23 : Oper := { dst := some 151, op := Op.indexAddr 22 (Operand.tmp 149) (Operand.tmp 150), type := 0, pos := "law.go:117", after := #[{ on := 21, ground := Ground.data }, { on := 22, ground := Ground.data }, { on := 20, ground := Ground.guard }], guard := some (20, false) }
abbrev tB24 : Oper := { dst := some 152, op := Op.load 33 (Operand.tmp 151), type := 33, pos := "law.go:117", after := #[{ on := 23, ground := Ground.data }, { on := 20, ground := Ground.guard }], guard := some (20, false) }
abbrev tB25 : Oper := { dst := some 153, op := Op.convert 33 9 (Operand.tmp 152), type := 9, pos := "law.go:117", after := #[{ on := 24, ground := Ground.data }, { on := 20, ground := Ground.guard }], guard := some (20, false) }
abbrev tB26 : Oper := { dst := some 154, op := Op.move (Operand.tmp 10), type := 23, pos := "law.go:117", after := #[{ on := 20, ground := Ground.guard }], guard := some (20, false) }
abbrev tB27 : Oper := { dst := some 155, op := Op.move (Operand.tmp 15), type := 3, pos := "law.go:117", after := #[{ on := 20, ground := Ground.guard }], guard := some (20, false) }
abbrev tB28 : Oper := { dst := some 156, op := Op.indexAddr 23 (Operand.tmp 154) (Operand.tmp 155), type := 0, pos := "law.go:117", after := #[{ on := 26, ground := Ground.data }, { on := 27, ground := Ground.data }, { on := 20, ground := Ground.guard }], guard := some (20, false) }
abbrev tB29 : Oper := { dst := some 157, op := Op.fieldAddr 65 (Operand.tmp 156) 1, type := 0, pos := "law.go:117", after := #[{ on := 28, ground := Ground.data }, { on := 20, ground := Ground.guard }], guard := some (20, false) }
abbrev tB30 : Oper := { dst := some 158, op := Op.load 33 (Operand.tmp 157), type := 33, pos := "law.go:117", after := #[{ on := 29, ground := Ground.data }, { on := 20, ground := Ground.guard }], guard := some (20, false) }
abbrev tB31 : Oper := { dst := some 159, op := Op.convert 33 9 (Operand.tmp 158), type := 9, pos := "law.go:117", after := #[{ on := 30, ground := Ground.data }, { on := 20, ground := Ground.guard }], guard := some (20, false) }
abbrev tB32 : Oper := { dst := some 160, op := Op.binOp BinOp.lss 9 (Operand.tmp 153) (Operand.tmp 159) 9, type := 4, pos := "law.go:117", after := #[{ on := 25, ground := Ground.data }, { on := 31, ground := Ground.data }, { on := 20, ground := Ground.guard }], guard := some (20, false) }
abbrev tB33 : Oper := { dst := some 161, op := Op.pick (Operand.tmp 148) (Operand.const (Value.bool true)) (Operand.tmp 160), type := 4, pos := "law.go:117", after := #[{ on := 20, ground := Ground.data }, { on := 32, ground := Ground.data }, { on := 14, ground := Ground.guard }], guard := some (14, true) }
abbrev tB34 : Oper := { dst := some 162, op := Op.pick (Operand.tmp 142) (Operand.tmp 161) (Operand.const (Value.bool false)), type := 4, pos := "law.go:117", after := #[{ on := 14, ground := Ground.data }, { on := 33, ground := Ground.data }, { on := 1, ground := Ground.guard }], guard := some (1, false) }
abbrev tB35 : Oper := { dst := some 163, op := Op.pick (Operand.tmp 129) (Operand.const (Value.bool true)) (Operand.tmp 162), type := 4, pos := "law.go:117", after := #[{ on := 1, ground := Ground.data }, { on := 34, ground := Ground.data }], guard := none }
abbrev tB36 : Oper := { dst := some 14, op := Op.assign (Operand.tmp 163), type := 4, pos := "law.go:117", after := #[{ on := 35, ground := Ground.data }, { on := 20, ground := Ground.chain }, { on := 0, ground := Ground.phase }, { on := 1, ground := Ground.phase }, { on := 2, ground := Ground.phase }, { on := 3, ground := Ground.phase }, { on := 4, ground := Ground.phase }, { on := 5, ground := Ground.phase }, { on := 6, ground := Ground.phase }, { on := 7, ground := Ground.phase }, { on := 8, ground := Ground.phase }, { on := 9, ground := Ground.phase }, { on := 10, ground := Ground.phase }, { on := 11, ground := Ground.phase }, { on := 12, ground := Ground.phase }, { on := 13, ground := Ground.phase }, { on := 14, ground := Ground.phase }, { on := 15, ground := Ground.phase }, { on := 16, ground := Ground.phase }, { on := 17, ground := Ground.phase }, { on := 18, ground := Ground.phase }, { on := 19, ground := Ground.phase }, { on := 20, ground := Ground.phase }, { on := 21, ground := Ground.phase }, { on := 22, ground := Ground.phase }, { on := 23, ground := Ground.phase }, { on := 24, ground := Ground.phase }, { on := 25, ground := Ground.phase }, { on := 26, ground := Ground.phase }, { on := 27, ground := Ground.phase }, { on := 28, ground := Ground.phase }, { on := 29, ground := Ground.phase }, { on := 30, ground := Ground.phase }, { on := 31, ground := Ground.phase }, { on := 32, ground := Ground.phase }, { on := 33, ground := Ground.phase }, { on := 34, ground := Ground.phase }, { on := 35, ground := Ground.phase }], guard := none }
abbrev tC0 : Oper := { dst := some 128, op := Op.move (Operand.tmp 14), type := 4, pos := "law.go:117", after := #[], guard := none }
abbrev tC1 : Oper := { dst := some 129, op := Op.move (Operand.tmp 128), type := 4, pos := "law.go:117", after := #[{ on := 0, ground := Ground.data }], guard := none }
abbrev tC2 : Oper := { dst := some 130, op := Op.move (Operand.tmp 2), type := 22, pos := "law.go:117", after := #[{ on := 1, ground := Ground.guard }], guard := some (1, false) }
abbrev tC3 : Oper := { dst := some 131, op := Op.move (Operand.tmp 13), type := 3, pos := "law.go:117", after := #[{ on := 1, ground := Ground.guard }], guard := some (1, false) }
abbrev tC4 : Oper := { dst := some 132, op := Op.indexAddr 22 (Operand.tmp 130) (Operand.tmp 131), type := 0, pos := "law.go:117", after := #[{ on := 2, ground := Ground.data }, { on := 3, ground := Ground.data }, { on := 1, ground := Ground.guard }], guard := some (1, false) }
abbrev tC5 : Oper := { dst := some 133, op := Op.load 33 (Operand.tmp 132), type := 33, pos := "law.go:117", after := #[{ on := 4, ground := Ground.data }, { on := 1, ground := Ground.guard }], guard := some (1, false) }
abbrev tC6 : Oper := { dst := some 134, op := Op.convert 33 9 (Operand.tmp 133), type := 9, pos := "law.go:117", after := #[{ on := 5, ground := Ground.data }, { on := 1, ground := Ground.guard }], guard := some (1, false) }
abbrev tC7 : Oper := { dst := some 135, op := Op.move (Operand.tmp 10), type := 23, pos := "law.go:117", after := #[{ on := 1, ground := Ground.guard }], guard := some (1, false) }
abbrev tC8 : Oper := { dst := some 136, op := Op.move (Operand.tmp 15), type := 3, pos := "law.go:117", after := #[{ on := 1, ground := Ground.guard }], guard := some (1, false) }
abbrev tC9 : Oper := { dst := some 137, op := Op.indexAddr 23 (Operand.tmp 135) (Operand.tmp 136), type := 0, pos := "law.go:117", after := #[{ on := 7, ground := Ground.data }, { on := 8, ground := Ground.data }, { on := 1, ground := Ground.guard }], guard := some (1, false) }
abbrev tC10 : Oper := { dst := some 138, op := Op.fieldAddr 65 (Operand.tmp 137) 0, type := 0, pos := "law.go:117", after := #[{ on := 9, ground := Ground.data }, { on := 1, ground := Ground.guard }], guard := some (1, false) }
abbrev tC11 : Oper := { dst := some 139, op := Op.load 33 (Operand.tmp 138), type := 33, pos := "law.go:117", after := #[{ on := 10, ground := Ground.data }, { on := 1, ground := Ground.guard }], guard := some (1, false) }
abbrev tC12 : Oper := { dst := some 140, op := Op.convert 33 9 (Operand.tmp 139), type := 9, pos := "law.go:117", after := #[{ on := 11, ground := Ground.data }, { on := 1, ground := Ground.guard }], guard := some (1, false) }
abbrev tC13 : Oper := { dst := some 141, op := Op.binOp BinOp.geq 9 (Operand.tmp 134) (Operand.tmp 140) 9, type := 4, pos := "law.go:117", after := #[{ on := 6, ground := Ground.data }, { on := 12, ground := Ground.data }, { on := 1, ground := Ground.guard }], guard := some (1, false) }
abbrev tC14 : Oper := { dst := some 142, op := Op.move (Operand.tmp 141), type := 4, pos := "law.go:117", after := #[{ on := 13, ground := Ground.data }, { on := 1, ground := Ground.chain }, { on := 1, ground := Ground.guard }], guard := some (1, false) }
abbrev tC15 : Oper := { dst := some 143, op := Op.move (Operand.tmp 10), type := 23, pos := "law.go:117", after := #[{ on := 14, ground := Ground.guard }], guard := some (14, true) }
abbrev tC16 : Oper := { dst := some 144, op := Op.move (Operand.tmp 15), type := 3, pos := "law.go:117", after := #[{ on := 14, ground := Ground.guard }], guard := some (14, true) }
abbrev tC17 : Oper := { dst := some 145, op := Op.indexAddr 23 (Operand.tmp 143) (Operand.tmp 144), type := 0, pos := "law.go:117", after := #[{ on := 15, ground := Ground.data }, { on := 16, ground := Ground.data }, { on := 14, ground := Ground.guard }], guard := some (14, true) }
abbrev tC18 : Oper := { dst := some 146, op := Op.fieldAddr 65 (Operand.tmp 145) 2, type := 0, pos := "law.go:117", after := #[{ on := 17, ground := Ground.data }, { on := 14, ground := Ground.guard }], guard := some (14, true) }
abbrev tC19 : Oper := { dst := some 147, op := Op.load 4 (Operand.tmp 146), type := 4, pos := "law.go:117", after := #[{ on := 18, ground := Ground.data }, { on := 14, ground := Ground.guard }], guard := some (14, true) }
abbrev tC20 : Oper := { dst := some 148, op := Op.move (Operand.tmp 147), type := 4, pos := "law.go:117", after := #[{ on := 19, ground := Ground.data }, { on := 14, ground := Ground.chain }, { on := 14, ground := Ground.guard }], guard := some (14, true) }
abbrev tC21 : Oper := { dst := some 149, op := Op.move (Operand.tmp 2), type := 22, pos := "law.go:117", after := #[{ on := 20, ground := Ground.guard }], guard := some (20, false) }
abbrev tC22 : Oper := { dst := some 150, op := Op.move (Operand.tmp 13), type := 3, pos := "law.go:117", after := #[{ on := 20, ground := Ground.guard }], guard := some (20, false) }
abbrev tC23 : Oper := { dst := some 151, op := Op.indexAddr 22 (Operand.tmp 149) (Operand.tmp 150), type := 0, pos := "law.go:117", after := #[{ on := 21, ground := Ground.data }, { on := 22, ground := Ground.data }, { on := 20, ground := Ground.guard }], guard := some (20, false) }
abbrev tC24 : Oper := { dst := some 152, op := Op.load 33 (Operand.tmp 151), type := 33, pos := "law.go:117", after := #[{ on := 23, ground := Ground.data }, { on := 20, ground := Ground.guard }], guard := some (20, false) }
abbrev tC25 : Oper := { dst := some 153, op := Op.convert 33 9 (Operand.tmp 152), type := 9, pos := "law.go:117", after := #[{ on := 24, ground := Ground.data }, { on := 20, ground := Ground.guard }], guard := some (20, false) }
abbrev tC26 : Oper := { dst := some 154, op := Op.move (Operand.tmp 10), type := 23, pos := "law.go:117", after := #[{ on := 20, ground := Ground.guard }], guard := some (20, false) }
abbrev tC27 : Oper := { dst := some 155, op := Op.move (Operand.tmp 15), type := 3, pos := "law.go:117", after := #[{ on := 20, ground := Ground.guard }], guard := some (20, false) }
abbrev tC28 : Oper := { dst := some 156, op := Op.indexAddr 23 (Operand.tmp 154) (Operand.tmp 155), type := 0, pos := "law.go:117", after := #[{ on := 26, ground := Ground.data }, { on := 27, ground := Ground.data }, { on := 20, ground := Ground.guard }], guard := some (20, false) }
abbrev tC29 : Oper := { dst := some 157, op := Op.fieldAddr 65 (Operand.tmp 156) 1, type := 0, pos := "law.go:117", after := #[{ on := 28, ground := Ground.data }, { on := 20, ground := Ground.guard }], guard := some (20, false) }
abbrev tC30 : Oper := { dst := some 158, op := Op.load 33 (Operand.tmp 157), type := 33, pos := "law.go:117", after := #[{ on := 29, ground := Ground.data }, { on := 20, ground := Ground.guard }], guard := some (20, false) }
abbrev tC31 : Oper := { dst := some 159, op := Op.convert 33 9 (Operand.tmp 158), type := 9, pos := "law.go:117", after := #[{ on := 30, ground := Ground.data }, { on := 20, ground := Ground.guard }], guard := some (20, false) }
abbrev tC32 : Oper := { dst := some 160, op := Op.binOp BinOp.lss 9 (Operand.tmp 153) (Operand.tmp 159) 9, type := 4, pos := "law.go:117", after := #[{ on := 25, ground := Ground.data }, { on := 31, ground := Ground.data }, { on := 20, ground := Ground.guard }], guard := some (20, false) }
abbrev tC33 : Oper := { dst := some 161, op := Op.pick (Operand.tmp 148) (Operand.const (Value.bool true)) (Operand.tmp 160), type := 4, pos := "law.go:117", after := #[{ on := 20, ground := Ground.data }, { on := 32, ground := Ground.data }, { on := 14, ground := Ground.guard }], guard := some (14, true) }
abbrev tC34 : Oper := { dst := some 162, op := Op.pick (Operand.tmp 142) (Operand.tmp 161) (Operand.const (Value.bool false)), type := 4, pos := "law.go:117", after := #[{ on := 14, ground := Ground.data }, { on := 33, ground := Ground.data }, { on := 1, ground := Ground.guard }], guard := some (1, false) }
abbrev tC35 : Oper := { dst := some 163, op := Op.pick (Operand.tmp 129) (Operand.const (Value.bool true)) (Operand.tmp 162), type := 4, pos := "law.go:117", after := #[{ on := 1, ground := Ground.data }, { on := 34, ground := Ground.data }], guard := none }
abbrev tC36 : Oper := { dst := some 14, op := Op.assign (Operand.tmp 163), type := 4, pos := "law.go:117", after := #[{ on := 35, ground := Ground.data }, { on := 20, ground := Ground.chain }, { on := 0, ground := Ground.phase }, { on := 1, ground := Ground.phase }, { on := 2, ground := Ground.phase }, { on := 3, ground := Ground.phase }, { on := 4, ground := Ground.phase }, { on := 5, ground := Ground.phase }, { on := 6, ground := Ground.phase }, { on := 7, ground := Ground.phase }, { on := 8, ground := Ground.phase }, { on := 9, ground := Ground.phase }, { on := 10, ground := Ground.phase }, { on := 11, ground := Ground.phase }, { on := 12, ground := Ground.phase }, { on := 13, ground := Ground.phase }, { on := 14, ground := Ground.phase }, { on := 15, ground := Ground.phase }, { on := 16, ground := Ground.phase }, { on := 17, ground := Ground.phase }, { on := 18, ground := Ground.phase }, { on := 19, ground := Ground.phase }, { on := 20, ground := Ground.phase }, { on := 21, ground := Ground.phase }, { on := 22, ground := Ground.phase }, { on := 23, ground := Ground.phase }, { on := 24, ground := Ground.phase }, { on := 25, ground := Ground.phase }, { on := 26, ground := Ground.phase }, { on := 27, ground := Ground.phase }, { on := 28, ground := Ground.phase }, { on := 29, ground := Ground.phase }, { on := 30, ground := Ground.phase }, { on := 31, ground := Ground.phase }, { on := 32, ground := Ground.phase }, { on := 33, ground := Ground.phase }, { on := 34, ground := Ground.phase }, { on := 35, ground := Ground.phase }], guard := none }
abbrev tD0 : Oper := { dst := some 128, op := Op.move (Operand.tmp 14), type := 4, pos := "law.go:117", after := #[], guard := none }
abbrev tD1 : Oper := { dst := some 129, op := Op.move (Operand.tmp 128), type := 4, pos := "law.go:117", after := #[{ on := 0, ground := Ground.data }], guard := none }
abbrev tD2 : Oper := { dst := some 130, op := Op.move (Operand.tmp 2), type := 22, pos := "law.go:117", after := #[{ on := 1, ground := Ground.guard }], guard := some (1, false) }
abbrev tD3 : Oper := { dst := some 131, op := Op.move (Operand.tmp 13), type := 3, pos := "law.go:117", after := #[{ on := 1, ground := Ground.guard }], guard := some (1, false) }
abbrev tD4 : Oper := { dst := some 132, op := Op.indexAddr 22 (Operand.tmp 130) (Operand.tmp 131), type := 0, pos := "law.go:117", after := #[{ on := 2, ground := Ground.data }, { on := 3, ground := Ground.data }, { on := 1, ground := Ground.guard }], guard := some (1, false) }
abbrev tD5 : Oper := { dst := some 133, op := Op.load 33 (Operand.tmp 132), type := 33, pos := "law.go:117", after := #[{ on := 4, ground := Ground.data }, { on := 1, ground := Ground.guard }], guard := some (1, false) }
abbrev tD6 : Oper := { dst := some 134, op := Op.convert 33 9 (Operand.tmp 133), type := 9, pos := "law.go:117", after := #[{ on := 5, ground := Ground.data }, { on := 1, ground := Ground.guard }], guard := some (1, false) }
abbrev tD7 : Oper := { dst := some 135, op := Op.move (Operand.tmp 10), type := 23, pos := "law.go:117", after := #[{ on := 1, ground := Ground.guard }], guard := some (1, false) }
abbrev tD8 : Oper := { dst := some 136, op := Op.move (Operand.tmp 15), type := 3, pos := "law.go:117", after := #[{ on := 1, ground := Ground.guard }], guard := some (1, false) }
abbrev tD9 : Oper := { dst := some 137, op := Op.indexAddr 23 (Operand.tmp 135) (Operand.tmp 136), type := 0, pos := "law.go:117", after := #[{ on := 7, ground := Ground.data }, { on := 8, ground := Ground.data }, { on := 1, ground := Ground.guard }], guard := some (1, false) }
abbrev tD10 : Oper := { dst := some 138, op := Op.fieldAddr 65 (Operand.tmp 137) 0, type := 0, pos := "law.go:117", after := #[{ on := 9, ground := Ground.data }, { on := 1, ground := Ground.guard }], guard := some (1, false) }
abbrev tD11 : Oper := { dst := some 139, op := Op.load 33 (Operand.tmp 138), type := 33, pos := "law.go:117", after := #[{ on := 10, ground := Ground.data }, { on := 1, ground := Ground.guard }], guard := some (1, false) }
abbrev tD12 : Oper := { dst := some 140, op := Op.convert 33 9 (Operand.tmp 139), type := 9, pos := "law.go:117", after := #[{ on := 11, ground := Ground.data }, { on := 1, ground := Ground.guard }], guard := some (1, false) }
abbrev tD13 : Oper := { dst := some 141, op := Op.binOp BinOp.geq 9 (Operand.tmp 134) (Operand.tmp 140) 9, type := 4, pos := "law.go:117", after := #[{ on := 6, ground := Ground.data }, { on := 12, ground := Ground.data }, { on := 1, ground := Ground.guard }], guard := some (1, false) }
abbrev tD14 : Oper := { dst := some 142, op := Op.move (Operand.tmp 141), type := 4, pos := "law.go:117", after := #[{ on := 13, ground := Ground.data }, { on := 1, ground := Ground.chain }, { on := 1, ground := Ground.guard }], guard := some (1, false) }
abbrev tD15 : Oper := { dst := some 143, op := Op.move (Operand.tmp 10), type := 23, pos := "law.go:117", after := #[{ on := 14, ground := Ground.guard }], guard := some (14, true) }
abbrev tD16 : Oper := { dst := some 144, op := Op.move (Operand.tmp 15), type := 3, pos := "law.go:117", after := #[{ on := 14, ground := Ground.guard }], guard := some (14, true) }
abbrev tD17 : Oper := { dst := some 145, op := Op.indexAddr 23 (Operand.tmp 143) (Operand.tmp 144), type := 0, pos := "law.go:117", after := #[{ on := 15, ground := Ground.data }, { on := 16, ground := Ground.data }, { on := 14, ground := Ground.guard }], guard := some (14, true) }
abbrev tD18 : Oper := { dst := some 146, op := Op.fieldAddr 65 (Operand.tmp 145) 2, type := 0, pos := "law.go:117", after := #[{ on := 17, ground := Ground.data }, { on := 14, ground := Ground.guard }], guard := some (14, true) }
abbrev tD19 : Oper := { dst := some 147, op := Op.load 4 (Operand.tmp 146), type := 4, pos := "law.go:117", after := #[{ on := 18, ground := Ground.data }, { on := 14, ground := Ground.guard }], guard := some (14, true) }
abbrev tD20 : Oper := { dst := some 148, op := Op.move (Operand.tmp 147), type := 4, pos := "law.go:117", after := #[{ on := 19, ground := Ground.data }, { on := 14, ground := Ground.chain }, { on := 14, ground := Ground.guard }], guard := some (14, true) }
abbrev tD21 : Oper := { dst := some 149, op := Op.move (Operand.tmp 2), type := 22, pos := "law.go:117", after := #[{ on := 20, ground := Ground.guard }], guard := some (20, false) }
abbrev tD22 : Oper := { dst := some 150, op := Op.move (Operand.tmp 13), type := 3, pos := "law.go:117", after := #[{ on := 20, ground := Ground.guard }], guard := some (20, false) }
abbrev tD23 : Oper := { dst := some 151, op := Op.indexAddr 22 (Operand.tmp 149) (Operand.tmp 150), type := 0, pos := "law.go:117", after := #[{ on := 21, ground := Ground.data }, { on := 22, ground := Ground.data }, { on := 20, ground := Ground.guard }], guard := some (20, false) }
abbrev tD24 : Oper := { dst := some 152, op := Op.load 33 (Operand.tmp 151), type := 33, pos := "law.go:117", after := #[{ on := 23, ground := Ground.data }, { on := 20, ground := Ground.guard }], guard := some (20, false) }
abbrev tD25 : Oper := { dst := some 153, op := Op.convert 33 9 (Operand.tmp 152), type := 9, pos := "law.go:117", after := #[{ on := 24, ground := Ground.data }, { on := 20, ground := Ground.guard }], guard := some (20, false) }
abbrev tD26 : Oper := { dst := some 154, op := Op.move (Operand.tmp 10), type := 23, pos := "law.go:117", after := #[{ on := 20, ground := Ground.guard }], guard := some (20, false) }
abbrev tD27 : Oper := { dst := some 155, op := Op.move (Operand.tmp 15), type := 3, pos := "law.go:117", after := #[{ on := 20, ground := Ground.guard }], guard := some (20, false) }
abbrev tD28 : Oper := { dst := some 156, op := Op.indexAddr 23 (Operand.tmp 154) (Operand.tmp 155), type := 0, pos := "law.go:117", after := #[{ on := 26, ground := Ground.data }, { on := 27, ground := Ground.data }, { on := 20, ground := Ground.guard }], guard := some (20, false) }
abbrev tD29 : Oper := { dst := some 157, op := Op.fieldAddr 65 (Operand.tmp 156) 1, type := 0, pos := "law.go:117", after := #[{ on := 28, ground := Ground.data }, { on := 20, ground := Ground.guard }], guard := some (20, false) }
abbrev tD30 : Oper := { dst := some 158, op := Op.load 33 (Operand.tmp 157), type := 33, pos := "law.go:117", after := #[{ on := 29, ground := Ground.data }, { on := 20, ground := Ground.guard }], guard := some (20, false) }
abbrev tD31 : Oper := { dst := some 159, op := Op.convert 33 9 (Operand.tmp 158), type := 9, pos := "law.go:117", after := #[{ on := 30, ground := Ground.data }, { on := 20, ground := Ground.guard }], guard := some (20, false) }
abbrev tD32 : Oper := { dst := some 160, op := Op.binOp BinOp.lss 9 (Operand.tmp 153) (Operand.tmp 159) 9, type := 4, pos := "law.go:117", after := #[{ on := 25, ground := Ground.data }, { on := 31, ground := Ground.data }, { on := 20, ground := Ground.guard }], guard := some (20, false) }
abbrev tD33 : Oper := { dst := some 161, op := Op.pick (Operand.tmp 148) (Operand.const (Value.bool true)) (Operand.tmp 160), type := 4, pos := "law.go:117", after := #[{ on := 20, ground := Ground.data }, { on := 32, ground := Ground.data }, { on := 14, ground := Ground.guard }], guard := some (14, true) }
abbrev tD34 : Oper := { dst := some 162, op := Op.pick (Operand.tmp 142) (Operand.tmp 161) (Operand.const (Value.bool false)), type := 4, pos := "law.go:117", after := #[{ on := 14, ground := Ground.data }, { on := 33, ground := Ground.data }, { on := 1, ground := Ground.guard }], guard := some (1, false) }
abbrev tD35 : Oper := { dst := some 163, op := Op.pick (Operand.tmp 129) (Operand.const (Value.bool true)) (Operand.tmp 162), type := 4, pos := "law.go:117", after := #[{ on := 1, ground := Ground.data }, { on := 34, ground := Ground.data }], guard := none }
abbrev tD36 : Oper := { dst := some 14, op := Op.assign (Operand.tmp 163), type := 4, pos := "law.go:117", after := #[{ on := 35, ground := Ground.data }, { on := 20, ground := Ground.chain }, { on := 0, ground := Ground.phase }, { on := 1, ground := Ground.phase }, { on := 2, ground := Ground.phase }, { on := 3, ground := Ground.phase }, { on := 4, ground := Ground.phase }, { on := 5, ground := Ground.phase }, { on := 6, ground := Ground.phase }, { on := 7, ground := Ground.phase }, { on := 8, ground := Ground.phase }, { on := 9, ground := Ground.phase }, { on := 10, ground := Ground.phase }, { on := 11, ground := Ground.phase }, { on := 12, ground := Ground.phase }, { on := 13, ground := Ground.phase }, { on := 14, ground := Ground.phase }, { on := 15, ground := Ground.phase }, { on := 16, ground := Ground.phase }, { on := 17, ground := Ground.phase }, { on := 18, ground := Ground.phase }, { on := 19, ground := Ground.phase }, { on := 20, ground := Ground.phase }, { on := 21, ground := Ground.phase }, { on := 22, ground := Ground.phase }, { on := 23, ground := Ground.phase }, { on := 24, ground := Ground.phase }, { on := 25, ground := Ground.phase }, { on := 26, ground := Ground.phase }, { on := 27, ground := Ground.phase }, { on := 28, ground := Ground.phase }, { on := 29, ground := Ground.phase }, { on := 30, ground := Ground.phase }, { on := 31, ground := Ground.phase }, { on := 32, ground := Ground.phase }, { on := 33, ground := Ground.phase }, { on := 34, ground := Ground.phase }, { on := 35, ground := Ground.phase }], guard := none }
abbrev tE0 : Oper := { dst := some 128, op := Op.move (Operand.tmp 14), type := 4, pos := "law.go:117", after := #[], guard := none }
abbrev tE1 : Oper := { dst := some 129, op := Op.move (Operand.tmp 128), type := 4, pos := "law.go:117", after := #[{ on := 0, ground := Ground.data }], guard := none }
abbrev tE2 : Oper := { dst := some 130, op := Op.move (Operand.tmp 2), type := 22, pos := "law.go:117", after := #[{ on := 1, ground := Ground.guard }], guard := some (1, false) }
abbrev tE3 : Oper := { dst := some 131, op := Op.move (Operand.tmp 13), type := 3, pos := "law.go:117", after := #[{ on := 1, ground := Ground.guard }], guard := some (1, false) }
abbrev tE4 : Oper := { dst := some 132, op := Op.indexAddr 22 (Operand.tmp 130) (Operand.tmp 131), type := 0, pos := "law.go:117", after := #[{ on := 2, ground := Ground.data }, { on := 3, ground := Ground.data }, { on := 1, ground := Ground.guard }], guard := some (1, false) }
abbrev tE5 : Oper := { dst := some 133, op := Op.load 33 (Operand.tmp 132), type := 33, pos := "law.go:117", after := #[{ on := 4, ground := Ground.data }, { on := 1, ground := Ground.guard }], guard := some (1, false) }
abbrev tE6 : Oper := { dst := some 134, op := Op.convert 33 9 (Operand.tmp 133), type := 9, pos := "law.go:117", after := #[{ on := 5, ground := Ground.data }, { on := 1, ground := Ground.guard }], guard := some (1, false) }
abbrev tE7 : Oper := { dst := some 135, op := Op.move (Operand.tmp 10), type := 23, pos := "law.go:117", after := #[{ on := 1, ground := Ground.guard }], guard := some (1, false) }
abbrev tE8 : Oper := { dst := some 136, op := Op.move (Operand.tmp 15), type := 3, pos := "law.go:117", after := #[{ on := 1, ground := Ground.guard }], guard := some (1, false) }
abbrev tE9 : Oper := { dst := some 137, op := Op.indexAddr 23 (Operand.tmp 135) (Operand.tmp 136), type := 0, pos := "law.go:117", after := #[{ on := 7, ground := Ground.data }, { on := 8, ground := Ground.data }, { on := 1, ground := Ground.guard }], guard := some (1, false) }
abbrev tE10 : Oper := { dst := some 138, op := Op.fieldAddr 65 (Operand.tmp 137) 0, type := 0, pos := "law.go:117", after := #[{ on := 9, ground := Ground.data }, { on := 1, ground := Ground.guard }], guard := some (1, false) }
abbrev tE11 : Oper := { dst := some 139, op := Op.load 33 (Operand.tmp 138), type := 33, pos := "law.go:117", after := #[{ on := 10, ground := Ground.data }, { on := 1, ground := Ground.guard }], guard := some (1, false) }
abbrev tE12 : Oper := { dst := some 140, op := Op.convert 33 9 (Operand.tmp 139), type := 9, pos := "law.go:117", after := #[{ on := 11, ground := Ground.data }, { on := 1, ground := Ground.guard }], guard := some (1, false) }
abbrev tE13 : Oper := { dst := some 141, op := Op.binOp BinOp.geq 9 (Operand.tmp 134) (Operand.tmp 140) 9, type := 4, pos := "law.go:117", after := #[{ on := 6, ground := Ground.data }, { on := 12, ground := Ground.data }, { on := 1, ground := Ground.guard }], guard := some (1, false) }
abbrev tE14 : Oper := { dst := some 142, op := Op.move (Operand.tmp 141), type := 4, pos := "law.go:117", after := #[{ on := 13, ground := Ground.data }, { on := 1, ground := Ground.chain }, { on := 1, ground := Ground.guard }], guard := some (1, false) }
abbrev tE15 : Oper := { dst := some 143, op := Op.move (Operand.tmp 10), type := 23, pos := "law.go:117", after := #[{ on := 14, ground := Ground.guard }], guard := some (14, true) }
abbrev tE16 : Oper := { dst := some 144, op := Op.move (Operand.tmp 15), type := 3, pos := "law.go:117", after := #[{ on := 14, ground := Ground.guard }], guard := some (14, true) }
abbrev tE17 : Oper := { dst := some 145, op := Op.indexAddr 23 (Operand.tmp 143) (Operand.tmp 144), type := 0, pos := "law.go:117", after := #[{ on := 15, ground := Ground.data }, { on := 16, ground := Ground.data }, { on := 14, ground := Ground.guard }], guard := some (14, true) }
abbrev tE18 : Oper := { dst := some 146, op := Op.fieldAddr 65 (Operand.tmp 145) 2, type := 0, pos := "law.go:117", after := #[{ on := 17, ground := Ground.data }, { on := 14, ground := Ground.guard }], guard := some (14, true) }
abbrev tE19 : Oper := { dst := some 147, op := Op.load 4 (Operand.tmp 146), type := 4, pos := "law.go:117", after := #[{ on := 18, ground := Ground.data }, { on := 14, ground := Ground.guard }], guard := some (14, true) }
abbrev tE20 : Oper := { dst := some 148, op := Op.move (Operand.tmp 147), type := 4, pos := "law.go:117", after := #[{ on := 19, ground := Ground.data }, { on := 14, ground := Ground.chain }, { on := 14, ground := Ground.guard }], guard := some (14, true) }
abbrev tE21 : Oper := { dst := some 149, op := Op.move (Operand.tmp 2), type := 22, pos := "law.go:117", after := #[{ on := 20, ground := Ground.guard }], guard := some (20, false) }
abbrev tE22 : Oper := { dst := some 150, op := Op.move (Operand.tmp 13), type := 3, pos := "law.go:117", after := #[{ on := 20, ground := Ground.guard }], guard := some (20, false) }
abbrev tE23 : Oper := { dst := some 151, op := Op.indexAddr 22 (Operand.tmp 149) (Operand.tmp 150), type := 0, pos := "law.go:117", after := #[{ on := 21, ground := Ground.data }, { on := 22, ground := Ground.data }, { on := 20, ground := Ground.guard }], guard := some (20, false) }
abbrev tE24 : Oper := { dst := some 152, op := Op.load 33 (Operand.tmp 151), type := 33, pos := "law.go:117", after := #[{ on := 23, ground := Ground.data }, { on := 20, ground := Ground.guard }], guard := some (20, false) }
abbrev tE25 : Oper := { dst := some 153, op := Op.convert 33 9 (Operand.tmp 152), type := 9, pos := "law.go:117", after := #[{ on := 24, ground := Ground.data }, { on := 20, ground := Ground.guard }], guard := some (20, false) }
abbrev tE26 : Oper := { dst := some 154, op := Op.move (Operand.tmp 10), type := 23, pos := "law.go:117", after := #[{ on := 20, ground := Ground.guard }], guard := some (20, false) }
abbrev tE27 : Oper := { dst := some 155, op := Op.move (Operand.tmp 15), type := 3, pos := "law.go:117", after := #[{ on := 20, ground := Ground.guard }], guard := some (20, false) }
abbrev tE28 : Oper := { dst := some 156, op := Op.indexAddr 23 (Operand.tmp 154) (Operand.tmp 155), type := 0, pos := "law.go:117", after := #[{ on := 26, ground := Ground.data }, { on := 27, ground := Ground.data }, { on := 20, ground := Ground.guard }], guard := some (20, false) }
abbrev tE29 : Oper := { dst := some 157, op := Op.fieldAddr 65 (Operand.tmp 156) 1, type := 0, pos := "law.go:117", after := #[{ on := 28, ground := Ground.data }, { on := 20, ground := Ground.guard }], guard := some (20, false) }
abbrev tE30 : Oper := { dst := some 158, op := Op.load 33 (Operand.tmp 157), type := 33, pos := "law.go:117", after := #[{ on := 29, ground := Ground.data }, { on := 20, ground := Ground.guard }], guard := some (20, false) }
abbrev tE31 : Oper := { dst := some 159, op := Op.convert 33 9 (Operand.tmp 158), type := 9, pos := "law.go:117", after := #[{ on := 30, ground := Ground.data }, { on := 20, ground := Ground.guard }], guard := some (20, false) }
abbrev tE32 : Oper := { dst := some 160, op := Op.binOp BinOp.lss 9 (Operand.tmp 153) (Operand.tmp 159) 9, type := 4, pos := "law.go:117", after := #[{ on := 25, ground := Ground.data }, { on := 31, ground := Ground.data }, { on := 20, ground := Ground.guard }], guard := some (20, false) }
abbrev tE33 : Oper := { dst := some 161, op := Op.pick (Operand.tmp 148) (Operand.const (Value.bool true)) (Operand.tmp 160), type := 4, pos := "law.go:117", after := #[{ on := 20, ground := Ground.data }, { on := 32, ground := Ground.data }, { on := 14, ground := Ground.guard }], guard := some (14, true) }
abbrev tE34 : Oper := { dst := some 162, op := Op.pick (Operand.tmp 142) (Operand.tmp 161) (Operand.const (Value.bool false)), type := 4, pos := "law.go:117", after := #[{ on := 14, ground := Ground.data }, { on := 33, ground := Ground.data }, { on := 1, ground := Ground.guard }], guard := some (1, false) }
abbrev tE35 : Oper := { dst := some 163, op := Op.pick (Operand.tmp 129) (Operand.const (Value.bool true)) (Operand.tmp 162), type := 4, pos := "law.go:117", after := #[{ on := 1, ground := Ground.data }, { on := 34, ground := Ground.data }], guard := none }
abbrev tE36 : Oper := { dst := some 14, op := Op.assign (Operand.tmp 163), type := 4, pos := "law.go:117", after := #[{ on := 35, ground := Ground.data }, { on := 20, ground := Ground.chain }, { on := 0, ground := Ground.phase }, { on := 1, ground := Ground.phase }, { on := 2, ground := Ground.phase }, { on := 3, ground := Ground.phase }, { on := 4, ground := Ground.phase }, { on := 5, ground := Ground.phase }, { on := 6, ground := Ground.phase }, { on := 7, ground := Ground.phase }, { on := 8, ground := Ground.phase }, { on := 9, ground := Ground.phase }, { on := 10, ground := Ground.phase }, { on := 11, ground := Ground.phase }, { on := 12, ground := Ground.phase }, { on := 13, ground := Ground.phase }, { on := 14, ground := Ground.phase }, { on := 15, ground := Ground.phase }, { on := 16, ground := Ground.phase }, { on := 17, ground := Ground.phase }, { on := 18, ground := Ground.phase }, { on := 19, ground := Ground.phase }, { on := 20, ground := Ground.phase }, { on := 21, ground := Ground.phase }, { on := 22, ground := Ground.phase }, { on := 23, ground := Ground.phase }, { on := 24, ground := Ground.phase }, { on := 25, ground := Ground.phase }, { on := 26, ground := Ground.phase }, { on := 27, ground := Ground.phase }, { on := 28, ground := Ground.phase }, { on := 29, ground := Ground.phase }, { on := 30, ground := Ground.phase }, { on := 31, ground := Ground.phase }, { on := 32, ground := Ground.phase }, { on := 33, ground := Ground.phase }, { on := 34, ground := Ground.phase }, { on := 35, ground := Ground.phase }], guard := none }
set_option maxHeartbeats 12800000 in
set_option maxRecDepth 1000000 in
theorem spans_walk (ka : Option Addr) (kn kc : Nat) (ks : List Ky) (la : Option Addr) (ln lc : Nat) (xs : List En) (aa : Option Addr) (an ac : Nat) (qs : List Ky) (w : World) (hK : Kys w ka kn kc ks) (hL : Ens w la ln lc xs) (hA : Kys w aa an ac qs) (sk : Szk ks) (sl : Szs xs) (sa : Szk qs) :
    Calls Try.prog 4 #[.slice ka kn kc, .slice la ln lc, .slice aa an ac] w fun e w' => e = .returned (.bool true) ∧ Below w.heap.size w w' := by
  have HK := hide hK
  have HL := hide hL
  have HA := hide hA
  have HM1 := hide (many_any ka kn kc ks w hK sk)
  have SL := hide sl
  have SA := hide sa
  have hkl := hK.len
  have hll := hL.len
  have hal := hA.len
  have ham := hA.max
  have hac := hA.cap
  have hkm := hK.max
  have hkc := hK.cap
  clear hK hL hA sk sl sa
  go_enter Try.func4, Try.ntmps4
  go_wp2_with fail
  refine HM1.out.mono ?_
  rintro e w1 ⟨hmu, hb⟩
  have HB1 := hide hb
  clear hb
  rcases hmu with rfl | ⟨rfl, hk3, hkb⟩
  · go_wp2
    go_ret
    exact ⟨rfl, HB1.out⟩
  go_wp2_with fail
  refine (much_any la ln lc xs w1 (HL.out.below HB1.out) SL.out).mono ?_
  rintro e w2 ⟨hmu, hb⟩
  have HB2 := hide (HB1.out.trans (hb.mono HB1.out.size))
  clear hb
  rcases hmu with rfl | ⟨rfl, hl3, hlb⟩
  · go_wp2
    go_ret
    exact ⟨rfl, HB2.out⟩
  go_wp2_with fail
  refine (many_any aa an ac qs w2 (HA.out.below HB2.out) SA.out).mono ?_
  rintro e w3 ⟨hmu, hb⟩
  have HB3 := hide (HB2.out.trans (hb.mono HB2.out.size))
  clear hb
  rcases hmu with rfl | ⟨rfl, ha3, hab⟩
  · go_wp2
    go_ret
    exact ⟨rfl, HB3.out⟩
  rw [hkl] at hk3
  rw [hll] at hl3
  rw [hal] at ha3
  have HK3 := hide (HK.out.below HB3.out)
  have HL3 := hide (HL.out.below HB3.out)
  have HA3 := hide (HA.out.below HB3.out)
  have HKb := hide hkb
  have HLb := hide hlb
  clear hkb hlb hab
  have HFa := hide (filled_any HK3.out HL3.out hk3 hl3 HKb.out HLb.out)
  go_wp2_with fail
  refine HFa.out.mono ?_
  rintro e w4 ⟨i1, p, pr, rfl, hi1, hk1, hl1, hfs, hb⟩
  have HF4 := hide hfs
  have HB4 := hide hb
  have HUa : Hid (∀ k, U (flk ks xs i1) k ↔ Ps xs k ∨ Pk ks k) := hide (flk_all (by omega) (by omega))
  have hn1 : (flk ks xs i1).length ≤ 1000 := by have := flk_len ks xs i1; omega
  generalize flk ks xs i1 = L at *
  clear hfs hb HFa
  go_wp2_with fail
  refine (known_any _).mono ?_
  rintro e w5 ⟨rfl, hb⟩
  have HB5 := hide (HB4.out.trans (hb.mono HB4.out.size))
  have HAl := hide ((HF4.out.below hb).all hn1)
  clear hb
  go_wp2_with fail
  refine HAl.out.mono ?_
  rintro e w6 ⟨C, a, c, ys, rfl, hsa, hC, hap, hu, hyl, hyb, hb⟩
  have HS6 := hide hsa
  have HB6 := hide (HB5.out.trans hb)
  have HAp := hide hap
  have HU := hide hu
  have HYb := hide hyb
  obtain ⟨n, hn⟩ : ∃ n, n = ys.length := ⟨_, rfl⟩
  have HN := hide hn
  rw [← hn] at hyl
  have hn2 : n ≤ 1000 := by omega
  rw [← hn]
  clear hsa hC hap hu hyb hb hn HAl HF4
  go_wp2
  go_loopw [11, 12] (fun vi _ wr => ∃ (i : Nat), i ≤ n ∧ vi = .int .i64 (i : Int) ∧ Sa wr w3.heap.size p L C a c ys (fun _ => False) ∧ Below w3.heap.size w3 wr) (fun vi _ _ => (n : Int).toNat - (intOf vi).toNat)
  case atStart => exact ⟨0, Nat.zero_le _, rfl, HS6.out, HB6.out⟩
  case round =>
    obtain ⟨i, hi, rfl, hsa, hb⟩ := hrel
    have HSi := hide hsa
    have HBi := hide hb
    clear hsa hb
    by_cases hin : i < n
    · obtain ⟨y, hy, hok⟩ := HSi.out.ens.at (k := i) (by rw [← HN.out]; exact hin)
      obtain ⟨b, off, rfl, hbs, c0, c1, c2⟩ := HSi.out.ens.cells hy
      have hym := List.mem_of_getElem? hy
      have HAy := hide (apt_all HAp.out (ers_at hy))
      have f1 : (i : Int) < (n : Int) := by omega
      have f2 : (0 : Int) ≤ (i : Int) := by omega
      have e4 : IntKind.i64.wrap ((i : Int) + 1) = (i : Int) + 1 := by rw [IntKind.wrap_i64] <;> omega
      have hbx := below_alloc wr (.cells #[.slice y.ka y.e.key.length y.kc, .slice y.va y.e.val.length y.vc, .bool y.e.del] 65)
      have HSb := hide (HSi.out.below (X' := fun k => k = wr.heap.size) hbx fun k hk => .inr ⟨Nat.le_of_eq hk.symm, by rw [hk]; simp⟩)
      have HBb := hide (HBi.out.trans (hbx.mono HBi.out.size))
      obtain ⟨b0, b1, b2⟩ := box3 wr (.slice y.ka y.e.key.length y.kc) (.slice y.va y.e.val.length y.vc) (.bool y.e.del) 65
      have HY := hide hy
      have HYm := hide hym
      have HUk : Hid (U L y.e.key) := hide ((HU.out _).1 HAy.out.1)
      cases hd : y.e.del with
      | true =>
        obtain ⟨hlast, hval⟩ := HAy.out.2.1 hd
        rw [ers_len, ← HN.out] at hlast
        have hvl : y.e.val.length = 0 := by rw [hval]; rfl
        have HH := hide (HSb.out.has_from hn1 hym (b := true) (by simp [HUk.out]))
        have e5 : IntKind.i64.wrap ((n : Int) - 1) = (i : Int) := by rw [IntKind.wrap_i64] <;> omega
        rw [hd] at b0 b1 b2 c2 HH HBb
        rw [hvl] at b0 b1 b2 c1 HH HBb
        clear hy hym hok hval hbx
        go_wp2_with fail
        refine HH.out.mono ?_
        rintro e w7 ⟨rfl, hs7, hb7, -, -⟩
        have HS7 := hide (hs7.below (X' := fun _ => False) (Below.refl _ _) fun k hk => hk.elim)
        have HB7 := hide (HBb.out.trans hb7)
        clear hs7 hb7
        go_wp2
        go_roundw
        case rel => exact ⟨i + 1, by omega, by simp, HS7.out, HB7.out⟩
        case measure => simp [intOf]; omega
      | false =>
        obtain ⟨hlt, hno, hnx⟩ := HAy.out.2.2 hd
        rw [hd] at b0 b1 b2 c2 HSb HBb
        have HUv : Hid (¬ U L y.e.val) := hide fun h => hno ((HU.out _).2 h)
        have l1 := text_less y.e.val y.e.key hok.val.byts hok.key.byts
        have e1 := text_eq y.e.val y.e.key hok.val.byts hok.key.byts
        rw [decide_eq_false (by have := ordI_anti y.e.val y.e.key; omega)] at l1
        rw [decide_eq_false (fun e => by rw [e, ordI_self] at hlt; omega)] at e1
        by_cases hI2 : i + 1 < n
        · obtain ⟨z, hz, hzo⟩ := HSi.out.ens.at (k := i + 1) (by rw [← HN.out]; omega)
          have HZ := hide hz
          have HZm := hide (List.mem_of_getElem? hz)
          have hzl := hnx z.e (ers_at hz)
          have l2 := text_less z.e.key y.e.val hzo.key.byts hok.val.byts
          have e2 := text_eq z.e.key y.e.val hzo.key.byts hok.val.byts
          rw [decide_eq_false (by have := ordI_anti z.e.key y.e.val; omega)] at l2
          rw [decide_eq_false (fun e => by rw [e, ordI_self] at hzl; omega)] at e2
          have HS : Hid (∀ W, Sa W w3.heap.size p L C (some ⟨b, off, none⟩) c ys (fun k => k = wr.heap.size) → W.heap[wr.heap.size]? = some (.cells #[.slice y.ka y.e.key.length y.kc, .slice y.va y.e.val.length y.vc, .bool false] 65 (0, 0)) → W.cell? ⟨wr.heap.size, 0, none⟩ = some (.slice y.ka y.e.key.length y.kc) ∧ W.cell? ⟨wr.heap.size, 1, none⟩ = some (.slice y.va y.e.val.length y.vc) ∧ (convert 33 9 (.slice y.ka y.e.key.length y.kc)).run Try.prog W = .ok (.string (bk y.e.key)) W ∧ (convert 33 9 (.slice y.va y.e.val.length y.vc)).run Try.prog W = .ok (.string (bk y.e.val)) W ∧ W.cell? ⟨b, off + (i + 1) * 3, none⟩ = some (.slice z.ka z.e.key.length z.kc) ∧ (convert 33 9 (.slice z.ka z.e.key.length z.kc)).run Try.prog W = .ok (.string (bk z.e.key)) W) := hide fun W hs hx => by
            obtain ⟨q0, q1, q2, -⟩ := cells_three hx
            have hen := hs.ens
            have oky := hen.each y HYm.out
            obtain ⟨b8, off8, e8, _, r0, r1, r2⟩ := hen.cells HZ.out
            cases e8
            exact ⟨q0, q1, text_inn oky.key, text_inn oky.val, r0, text_inn (hen.each z HZm.out).key⟩
          have HSd := hide (HSb.out.below (Below.refl _ _).drew (X' := fun k => k = wr.heap.size) fun k hk => .inl hk)
          have HBd := hide HBb.out.drew
          have HXd := hide (heap_alloc_new wr (.cells #[.slice y.ka y.e.key.length y.kc, .slice y.va y.e.val.length y.vc, .bool false] 65))
          have s0 := HS.out _ HSd.out HXd.out
          have g1 : (i : Int) + 1 < (n : Int) := by omega
          have g2 : (0 : Int) ≤ (i : Int) + 1 := by omega
          clear hok hym hy hbx hbs hz hzo hzl
          go_wp2
          refine wp_region_noPanic ?_
          refine wp_region_held_drew (S := (fun W => W.cell? ⟨wr.heap.size, 0, none⟩ = some (.slice y.ka y.e.key.length y.kc) ∧ W.cell? ⟨wr.heap.size, 1, none⟩ = some (.slice y.va y.e.val.length y.vc) ∧ (convert 33 9 (.slice y.ka y.e.key.length y.kc)).run Try.prog W = .ok (.string (bk y.e.key)) W ∧ (convert 33 9 (.slice y.va y.e.val.length y.vc)).run Try.prog W = .ok (.string (bk y.e.val)) W ∧ W.cell? ⟨b, off + (i + 1) * 3, none⟩ = some (.slice z.ka z.e.key.length z.kc) ∧ (convert 33 9 (.slice z.ka z.e.key.length z.kc)).run Try.prog W = .ok (.string (bk z.e.key)) W)) (by kernel_rfl) s0 (fun _hS => ?_)
          refine wtk (i := 0) (oi := sn0) (v := ?v0x501) rfl ⟨by rfl, ?hy0x501⟩ (by assumption) ?_
          case hy0x501 => (intro w s; (try dsimp only at s); first | (go_simp; with_reducible rfl) | go_simp)
          try simp only [Act.put, zps]
          refine wtk (i := 1) (oi := sn1) (v := ?v1x502) rfl ⟨by rfl, ?hy1x502⟩ (by assumption) ?_
          case hy1x502 => (intro w s; (try dsimp only at s); first | (go_simp; with_reducible rfl) | go_simp)
          try simp only [Act.put, zps]
          refine wtk (i := 2) (oi := sn2) (v := ?v2x503) rfl ⟨by rfl, ?hy2x503⟩ (by assumption) ?_
          case hy2x503 => (intro w s; (try dsimp only at s); first | (go_simp; with_reducible rfl) | go_simp)
          try simp only [Act.put, zps]
          refine wtk (i := 3) (oi := sn3) (v := ?v3x504) rfl ⟨by rfl, ?hy3x504⟩ (by assumption) ?_
          case hy3x504 => (intro w s; (try dsimp only at s); first | (go_simp; with_reducible rfl) | go_simp)
          try simp only [Act.put, zps]
          refine wtk (i := 4) (oi := sn4) (v := ?v4x505) rfl ⟨by rfl, ?hy4x505⟩ (by assumption) ?_
          case hy4x505 => (intro w s; (try dsimp only at s); first | (go_simp; with_reducible rfl) | go_simp)
          try simp only [Act.put, zps]
          refine wtk (i := 5) (oi := sn5) (v := ?v5x506) rfl ⟨by rfl, ?hy5x506⟩ (by assumption) ?_
          case hy5x506 => (intro w s; (try dsimp only at s); first | (go_simp; with_reducible rfl) | go_simp)
          try simp only [Act.put, zps]
          refine wtk (i := 6) (oi := sn6) (v := ?v6x507) rfl ⟨by rfl, ?hy6x507⟩ (by assumption) ?_
          case hy6x507 => (intro w s; (try dsimp only at s); first | (go_simp; with_reducible rfl) | go_simp)
          try simp only [Act.put, zps]
          refine wtk (i := 7) (oi := sn7) (v := ?v7x508) rfl ⟨by rfl, ?hy7x508⟩ (by assumption) ?_
          case hy7x508 => (intro w s; (try dsimp only at s); first | (go_simp; with_reducible rfl) | go_simp)
          try simp only [Act.put, zps]
          refine wtk (i := 8) (oi := sn8) (v := ?v8x509) rfl ⟨by rfl, ?hy8x509⟩ (by assumption) ?_
          case hy8x509 => (intro w s; (try dsimp only at s); first | (go_simp; with_reducible rfl) | go_simp)
          try simp only [Act.put, zps]
          refine wtk (i := 9) (oi := sn9) (v := ?v9x510) rfl ⟨by rfl, ?hy9x510⟩ (by assumption) ?_
          case hy9x510 => (intro w s; (try dsimp only at s); first | (go_simp; with_reducible rfl) | go_simp)
          try simp only [Act.put, zps]
          refine wtk (i := 10) (oi := sn10) (v := ?v10x511) rfl ⟨by rfl, ?hy10x511⟩ (by assumption) ?_
          case hy10x511 => (intro w s; (try dsimp only at s); first | (go_simp; with_reducible rfl) | go_simp)
          try simp only [Act.put, zps]
          refine wpAnyH_ready (rs := [11]) (by kernel_rfl) (by simp) ?_
          refine AllReadyH.cons (o := sn11) rfl (fun K hK => ?_) (AllReadyH.nil)
          go_simp
          go_at_call 12
          refine (HSd.out.has_from hn1 HYm.out (b := true) (by simp [HUk.out])).mono ?_
          rintro e w8 ⟨rfl, hs, hb, hx, -⟩
          have HS1 := hide hs
          have HB1x := hide (HBd.out.trans hb)
          have HX1 := hide ((hx _ rfl).trans HXd.out)
          clear hs hb hx
          go_simp
          refine hK.out _ _ ?_ (fun _hS => ?_)
          · exact HS.out _ HS1.out HX1.out
          clear hK K
          try simp only [Act.put, zps]
          refine wtk (i := 12) (oi := sn12) (v := ?v12x512) rfl ⟨by rfl, ?hy12x512⟩ (by assumption) ?_
          case hy12x512 => (intro w s; (try dsimp only at s); first | (go_simp; with_reducible rfl) | go_simp)
          try simp only [Act.put, zps]
          refine wtk (i := 13) (oi := sn13) (v := ?v13x513) rfl ⟨by rfl, ?hy13x513⟩ (by assumption) ?_
          case hy13x513 => (intro w s; (try dsimp only at s); first | (go_simp; with_reducible rfl) | go_simp)
          try simp only [Act.put, zps]
          refine wtk (i := 14) (oi := sn14) (v := ?v14x514) rfl ⟨by rfl, ?hy14x514⟩ (by assumption) ?_
          case hy14x514 => (intro w s; (try dsimp only at s); first | (go_simp; with_reducible rfl) | go_simp)
          try simp only [Act.put, zps]
          refine wtk (i := 15) (oi := sn15) (v := ?v15x515) rfl ⟨by rfl, ?hy15x515⟩ (by assumption) ?_
          case hy15x515 => (intro w s; (try dsimp only at s); first | (go_simp; with_reducible rfl) | go_simp)
          try simp only [Act.put, zps]
          refine wtk (i := 16) (oi := sn16) (v := ?v16x516) rfl ⟨by rfl, ?hy16x516⟩ (by assumption) ?_
          case hy16x516 => (intro w s; (try dsimp only at s); first | (go_simp; with_reducible rfl) | go_simp)
          try simp only [Act.put, zps]
          refine wtk (i := 17) (oi := sn17) (v := ?v17x517) rfl ⟨by rfl, ?hy17x517⟩ (by assumption) ?_
          case hy17x517 => (intro w s; (try dsimp only at s); first | (go_simp; with_reducible rfl) | go_simp)
          try simp only [Act.put, zps]
          refine wpAnyH_ready (rs := [18]) (by kernel_rfl) (by simp) ?_
          refine AllReadyH.cons (o := sn18) rfl (fun K hK => ?_) (AllReadyH.nil)
          go_simp
          go_at_call 12
          refine (HS1.out.has_to hn1 HYm.out (b := false) (by simp [HUv.out])).mono ?_
          rintro e w8 ⟨rfl, hs, hb, hx, -⟩
          have HS2 := hide hs
          have HB2x := hide (HB1x.out.trans hb)
          have HX2 := hide ((hx _ rfl).trans HX1.out)
          clear hs hb hx
          go_simp
          refine hK.out _ _ ?_ (fun _hS => ?_)
          · exact HS.out _ HS2.out HX2.out
          clear hK K
          try simp only [Act.put, zps]
          refine wtk (i := 19) (oi := sn19) (v := ?v19x518) rfl ⟨by rfl, ?hy19x518⟩ (by assumption) ?_
          case hy19x518 => (intro w s; (try dsimp only at s); first | (go_simp; with_reducible rfl) | go_simp)
          try simp only [Act.put, zps]
          refine wtk (i := 20) (oi := sn20) (v := ?v20x519) rfl ⟨by rfl, ?hy20x519⟩ (by assumption) ?_
          case hy20x519 => (intro w s; (try dsimp only at s); first | (go_simp; with_reducible rfl) | go_simp)
          try simp only [Act.put, zps]
          refine wtk (i := 21) (oi := sn21) (v := ?v21x520) rfl ⟨by rfl, ?hy21x520⟩ (by assumption) ?_
          case hy21x520 => (intro w s; (try dsimp only at s); first | (go_simp; with_reducible rfl) | go_simp)
          try simp only [Act.put, zps]
          refine wtk (i := 22) (oi := sn22) (v := ?v22x521) rfl ⟨by rfl, ?hy22x521⟩ (by assumption) ?_
          case hy22x521 => (intro w s; (try dsimp only at s); first | (go_simp; with_reducible rfl) | go_simp)
          try simp only [Act.put, zps]
          refine wtk (i := 23) (oi := sn23) (v := ?v23x522) rfl ⟨by rfl, ?hy23x522⟩ (by assumption) ?_
          case hy23x522 => (intro w s; (try dsimp only at s); first | (go_simp; with_reducible rfl) | go_simp)
          try simp only [Act.put, zps]
          refine wtk (i := 24) (oi := sn24) (v := ?v24x523) rfl ⟨by rfl, ?hy24x523⟩ (by assumption) ?_
          case hy24x523 => (intro w s; (try dsimp only at s); first | (go_simp; with_reducible rfl) | go_simp)
          try simp only [Act.put, zps]
          refine wtk (i := 25) (oi := sn25) (v := (.bool true)) rfl ⟨by rfl, ?hy25x524⟩ (by assumption) ?_
          case hy25x524 => (intro w s; go_simp)
          try simp only [Act.put, zps]
          refine wtk (i := 26) (oi := sn26) (v := ?v26x525) rfl ⟨by rfl, ?hy26x525⟩ (by assumption) ?_
          case hy26x525 => (intro w s; (try dsimp only at s); first | (go_simp; with_reducible rfl) | go_simp)
          try simp only [Act.put, zps]
          refine wtk (i := 27) (oi := sn27) (v := ?v27x526) rfl ⟨by rfl, ?hy27x526⟩ (by assumption) ?_
          case hy27x526 => (intro w s; (try dsimp only at s); first | (go_simp; with_reducible rfl) | go_simp)
          try simp only [Act.put, zps]
          refine wtk (i := 28) (oi := sn28) (v := ?v28x527) rfl ⟨by rfl, ?hy28x527⟩ (by assumption) ?_
          case hy28x527 => (intro w s; (try dsimp only at s); first | (go_simp; with_reducible rfl) | go_simp)
          try simp only [Act.put, zps]
          refine wtk (i := 29) (oi := sn29) (v := ?v29x528) rfl ⟨by rfl, ?hy29x528⟩ (by assumption) ?_
          case hy29x528 => (intro w s; (try dsimp only at s); first | (go_simp; with_reducible rfl) | go_simp)
          try simp only [Act.put, zps]
          refine wtk (i := 30) (oi := sn30) (v := ?v30x529) rfl ⟨by rfl, ?hy30x529⟩ (by assumption) ?_
          case hy30x529 => (intro w s; (try dsimp only at s); first | (go_simp; with_reducible rfl) | go_simp)
          try simp only [Act.put, zps]
          refine wtk (i := 31) (oi := sn31) (v := ?v31x530) rfl ⟨by rfl, ?hy31x530⟩ (by assumption) ?_
          case hy31x530 => (intro w s; (try dsimp only at s); first | (go_simp; with_reducible rfl) | go_simp)
          try simp only [Act.put, zps]
          refine wtk (i := 32) (oi := sn32) (v := ?v32x531) rfl ⟨by rfl, ?hy32x531⟩ (by assumption) ?_
          case hy32x531 => (intro w s; (try dsimp only at s); first | (go_simp; with_reducible rfl) | go_simp)
          try simp only [Act.put, zps]
          refine wtk (i := 33) (oi := sn33) (v := ?v33x532) rfl ⟨by rfl, ?hy33x532⟩ (by assumption) ?_
          case hy33x532 => (intro w s; (try dsimp only at s); first | (go_simp; with_reducible rfl) | go_simp)
          try simp only [Act.put, zps]
          refine wtk (i := 34) (oi := sn34) (v := ?v34x533) rfl ⟨by rfl, ?hy34x533⟩ (by assumption) ?_
          case hy34x533 => (intro w s; (try dsimp only at s); first | (go_simp; with_reducible rfl) | go_simp)
          try simp only [Act.put, zps]
          refine wtk (i := 35) (oi := sn35) (v := ?v35x534) rfl ⟨by rfl, ?hy35x534⟩ (by assumption) ?_
          case hy35x534 => (intro w s; (try dsimp only at s); first | (go_simp; with_reducible rfl) | go_simp)
          try simp only [Act.put, zps]
          refine wtk (i := 36) (oi := sn36) (v := ?v36x535) rfl ⟨by rfl, ?hy36x535⟩ (by assumption) ?_
          case hy36x535 => (intro w s; (try dsimp only at s); first | (go_simp; with_reducible rfl) | go_simp)
          try simp only [Act.put, zps]
          refine wtk (i := 37) (oi := sn37) (v := ?v37x536) rfl ⟨by rfl, ?hy37x536⟩ (by assumption) ?_
          case hy37x536 => (intro w s; (try dsimp only at s); first | (go_simp; with_reducible rfl) | go_simp)
          try simp only [Act.put, zps]
          refine wtk (i := 38) (oi := sn38) (v := ?v38x537) rfl ⟨by rfl, ?hy38x537⟩ (by assumption) ?_
          case hy38x537 => (intro w s; (try dsimp only at s); first | (go_simp; with_reducible rfl) | go_simp)
          try simp only [Act.put, zps]
          refine wtk (i := 39) (oi := sn39) (v := ?v39x538) rfl ⟨by rfl, ?hy39x538⟩ (by assumption) ?_
          case hy39x538 => (intro w s; (try dsimp only at s); first | (go_simp; with_reducible rfl) | go_simp)
          try simp only [Act.put, zps]
          refine wpAnyH_done (by kernel_rfl) ?_ _
          refine NoPanic.normal ?_
          have HS9 := hide (HS2.out.below (X' := fun _ => False) (Below.refl _ _) fun k hk => hk.elim)
          go_wp2
          go_roundw
          case rel => exact ⟨i + 1, by omega, by simp, HS9.out, HB2x.out⟩
          case measure => simp [intOf]; omega
        · have HS : Hid (∀ W, Sa W w3.heap.size p L C (some ⟨b, off, none⟩) c ys (fun k => k = wr.heap.size) → W.heap[wr.heap.size]? = some (.cells #[.slice y.ka y.e.key.length y.kc, .slice y.va y.e.val.length y.vc, .bool false] 65 (0, 0)) → W.cell? ⟨wr.heap.size, 0, none⟩ = some (.slice y.ka y.e.key.length y.kc) ∧ W.cell? ⟨wr.heap.size, 1, none⟩ = some (.slice y.va y.e.val.length y.vc) ∧ (convert 33 9 (.slice y.ka y.e.key.length y.kc)).run Try.prog W = .ok (.string (bk y.e.key)) W ∧ (convert 33 9 (.slice y.va y.e.val.length y.vc)).run Try.prog W = .ok (.string (bk y.e.val)) W) := hide fun W hs hx => by
            obtain ⟨q0, q1, q2, -⟩ := cells_three hx
            have hen := hs.ens
            have oky := hen.each y HYm.out
            exact ⟨q0, q1, text_inn oky.key, text_inn oky.val⟩
          have HSd := hide (HSb.out.below (Below.refl _ _).drew (X' := fun k => k = wr.heap.size) fun k hk => .inl hk)
          have HBd := hide HBb.out.drew
          have HXd := hide (heap_alloc_new wr (.cells #[.slice y.ka y.e.key.length y.kc, .slice y.va y.e.val.length y.vc, .bool false] 65))
          have s0 := HS.out _ HSd.out HXd.out
          have g1 : ¬ (i : Int) + 1 < (n : Int) := by omega
          have g2 : (0 : Int) ≤ (i : Int) + 1 := by omega
          clear hok hym hy hbx hbs
          go_wp2
          refine wp_region_noPanic ?_
          refine wp_region_held_drew (S := (fun W => W.cell? ⟨wr.heap.size, 0, none⟩ = some (.slice y.ka y.e.key.length y.kc) ∧ W.cell? ⟨wr.heap.size, 1, none⟩ = some (.slice y.va y.e.val.length y.vc) ∧ (convert 33 9 (.slice y.ka y.e.key.length y.kc)).run Try.prog W = .ok (.string (bk y.e.key)) W ∧ (convert 33 9 (.slice y.va y.e.val.length y.vc)).run Try.prog W = .ok (.string (bk y.e.val)) W)) (by kernel_rfl) s0 (fun _hS => ?_)
          refine wtk (i := 0) (oi := sl0) (v := ?v0x801) rfl ⟨by rfl, ?hy0x801⟩ (by assumption) ?_
          case hy0x801 => (intro w s; (try dsimp only at s); first | (go_simp; with_reducible rfl) | go_simp)
          try simp only [Act.put, zps]
          refine wtk (i := 1) (oi := sl1) (v := ?v1x802) rfl ⟨by rfl, ?hy1x802⟩ (by assumption) ?_
          case hy1x802 => (intro w s; (try dsimp only at s); first | (go_simp; with_reducible rfl) | go_simp)
          try simp only [Act.put, zps]
          refine wtk (i := 2) (oi := sl2) (v := ?v2x803) rfl ⟨by rfl, ?hy2x803⟩ (by assumption) ?_
          case hy2x803 => (intro w s; (try dsimp only at s); first | (go_simp; with_reducible rfl) | go_simp)
          try simp only [Act.put, zps]
          refine wtk (i := 3) (oi := sl3) (v := ?v3x804) rfl ⟨by rfl, ?hy3x804⟩ (by assumption) ?_
          case hy3x804 => (intro w s; (try dsimp only at s); first | (go_simp; with_reducible rfl) | go_simp)
          try simp only [Act.put, zps]
          refine wtk (i := 4) (oi := sl4) (v := ?v4x805) rfl ⟨by rfl, ?hy4x805⟩ (by assumption) ?_
          case hy4x805 => (intro w s; (try dsimp only at s); first | (go_simp; with_reducible rfl) | go_simp)
          try simp only [Act.put, zps]
          refine wtk (i := 5) (oi := sl5) (v := ?v5x806) rfl ⟨by rfl, ?hy5x806⟩ (by assumption) ?_
          case hy5x806 => (intro w s; (try dsimp only at s); first | (go_simp; with_reducible rfl) | go_simp)
          try simp only [Act.put, zps]
          refine wtk (i := 6) (oi := sl6) (v := ?v6x807) rfl ⟨by rfl, ?hy6x807⟩ (by assumption) ?_
          case hy6x807 => (intro w s; (try dsimp only at s); first | (go_simp; with_reducible rfl) | go_simp)
          try simp only [Act.put, zps]
          refine wtk (i := 7) (oi := sl7) (v := ?v7x808) rfl ⟨by rfl, ?hy7x808⟩ (by assumption) ?_
          case hy7x808 => (intro w s; (try dsimp only at s); first | (go_simp; with_reducible rfl) | go_simp)
          try simp only [Act.put, zps]
          refine wtk (i := 8) (oi := sl8) (v := ?v8x809) rfl ⟨by rfl, ?hy8x809⟩ (by assumption) ?_
          case hy8x809 => (intro w s; (try dsimp only at s); first | (go_simp; with_reducible rfl) | go_simp)
          try simp only [Act.put, zps]
          refine wtk (i := 9) (oi := sl9) (v := ?v9x810) rfl ⟨by rfl, ?hy9x810⟩ (by assumption) ?_
          case hy9x810 => (intro w s; (try dsimp only at s); first | (go_simp; with_reducible rfl) | go_simp)
          try simp only [Act.put, zps]
          refine wtk (i := 10) (oi := sl10) (v := ?v10x811) rfl ⟨by rfl, ?hy10x811⟩ (by assumption) ?_
          case hy10x811 => (intro w s; (try dsimp only at s); first | (go_simp; with_reducible rfl) | go_simp)
          try simp only [Act.put, zps]
          refine wpAnyH_ready (rs := [11]) (by kernel_rfl) (by simp) ?_
          refine AllReadyH.cons (o := sl11) rfl (fun K hK => ?_) (AllReadyH.nil)
          go_simp
          go_at_call 12
          refine (HSd.out.has_from hn1 HYm.out (b := true) (by simp [HUk.out])).mono ?_
          rintro e w8 ⟨rfl, hs, hb, hx, -⟩
          have HS1 := hide hs
          have HB1x := hide (HBd.out.trans hb)
          have HX1 := hide ((hx _ rfl).trans HXd.out)
          clear hs hb hx
          go_simp
          refine hK.out _ _ ?_ (fun _hS => ?_)
          · exact HS.out _ HS1.out HX1.out
          clear hK K
          try simp only [Act.put, zps]
          refine wtk (i := 12) (oi := sl12) (v := ?v12x812) rfl ⟨by rfl, ?hy12x812⟩ (by assumption) ?_
          case hy12x812 => (intro w s; (try dsimp only at s); first | (go_simp; with_reducible rfl) | go_simp)
          try simp only [Act.put, zps]
          refine wtk (i := 13) (oi := sl13) (v := ?v13x813) rfl ⟨by rfl, ?hy13x813⟩ (by assumption) ?_
          case hy13x813 => (intro w s; (try dsimp only at s); first | (go_simp; with_reducible rfl) | go_simp)
          try simp only [Act.put, zps]
          refine wtk (i := 14) (oi := sl14) (v := ?v14x814) rfl ⟨by rfl, ?hy14x814⟩ (by assumption) ?_
          case hy14x814 => (intro w s; (try dsimp only at s); first | (go_simp; with_reducible rfl) | go_simp)
          try simp only [Act.put, zps]
          refine wtk (i := 15) (oi := sl15) (v := ?v15x815) rfl ⟨by rfl, ?hy15x815⟩ (by assumption) ?_
          case hy15x815 => (intro w s; (try dsimp only at s); first | (go_simp; with_reducible rfl) | go_simp)
          try simp only [Act.put, zps]
          refine wtk (i := 16) (oi := sl16) (v := ?v16x816) rfl ⟨by rfl, ?hy16x816⟩ (by assumption) ?_
          case hy16x816 => (intro w s; (try dsimp only at s); first | (go_simp; with_reducible rfl) | go_simp)
          try simp only [Act.put, zps]
          refine wtk (i := 17) (oi := sl17) (v := ?v17x817) rfl ⟨by rfl, ?hy17x817⟩ (by assumption) ?_
          case hy17x817 => (intro w s; (try dsimp only at s); first | (go_simp; with_reducible rfl) | go_simp)
          try simp only [Act.put, zps]
          refine wpAnyH_ready (rs := [18]) (by kernel_rfl) (by simp) ?_
          refine AllReadyH.cons (o := sl18) rfl (fun K hK => ?_) (AllReadyH.nil)
          go_simp
          go_at_call 12
          refine (HS1.out.has_to hn1 HYm.out (b := false) (by simp [HUv.out])).mono ?_
          rintro e w8 ⟨rfl, hs, hb, hx, -⟩
          have HS2 := hide hs
          have HB2x := hide (HB1x.out.trans hb)
          have HX2 := hide ((hx _ rfl).trans HX1.out)
          clear hs hb hx
          go_simp
          refine hK.out _ _ ?_ (fun _hS => ?_)
          · exact HS.out _ HS2.out HX2.out
          clear hK K
          try simp only [Act.put, zps]
          refine wtk (i := 19) (oi := sl19) (v := ?v19x818) rfl ⟨by rfl, ?hy19x818⟩ (by assumption) ?_
          case hy19x818 => (intro w s; (try dsimp only at s); first | (go_simp; with_reducible rfl) | go_simp)
          try simp only [Act.put, zps]
          refine wtk (i := 20) (oi := sl20) (v := ?v20x819) rfl ⟨by rfl, ?hy20x819⟩ (by assumption) ?_
          case hy20x819 => (intro w s; (try dsimp only at s); first | (go_simp; with_reducible rfl) | go_simp)
          try simp only [Act.put, zps]
          refine wtk (i := 21) (oi := sl21) (v := ?v21x820) rfl ⟨by rfl, ?hy21x820⟩ (by assumption) ?_
          case hy21x820 => (intro w s; (try dsimp only at s); first | (go_simp; with_reducible rfl) | go_simp)
          try simp only [Act.put, zps]
          refine wtk (i := 22) (oi := sl22) (v := ?v22x821) rfl ⟨by rfl, ?hy22x821⟩ (by assumption) ?_
          case hy22x821 => (intro w s; (try dsimp only at s); first | (go_simp; with_reducible rfl) | go_simp)
          try simp only [Act.put, zps]
          refine wtk (i := 23) (oi := sl23) (v := ?v23x822) rfl ⟨by rfl, ?hy23x822⟩ (by assumption) ?_
          case hy23x822 => (intro w s; (try dsimp only at s); first | (go_simp; with_reducible rfl) | go_simp)
          try simp only [Act.put, zps]
          refine wtk (i := 24) (oi := sl24) (v := ?v24x823) rfl ⟨by rfl, ?hy24x823⟩ (by assumption) ?_
          case hy24x823 => (intro w s; (try dsimp only at s); first | (go_simp; with_reducible rfl) | go_simp)
          try simp only [Act.put, zps]
          refine wtk (i := 25) (oi := sl25) (v := (.bool false)) rfl ⟨by rfl, ?hy25x824⟩ (by assumption) ?_
          case hy25x824 => (intro w s; go_simp)
          try simp only [Act.put, zps]
          refine wtk (i := 26) (oi := sl26) (v := ?v26x825) rfl ⟨by rfl, ?hy26x825⟩ (by assumption) ?_
          case hy26x825 => (intro w s; (try dsimp only at s); first | (go_simp; with_reducible rfl) | go_simp)
          try simp only [Act.put, zps]
          refine wpAnyH_take (i := 27) (oi := sl27) (v := undef) rfl (by kernel_rfl) (by kernel_rfl) (by kernel_rfl) (fun _ _ _ h => h) (Or.inr ⟨by rfl, rfl⟩) (by assumption) ?_
          try simp only [Act.put, zps]
          refine wpAnyH_take (i := 28) (oi := sl28) (v := undef) rfl (by kernel_rfl) (by kernel_rfl) (by kernel_rfl) (fun _ _ _ h => h) (Or.inr ⟨by rfl, rfl⟩) (by assumption) ?_
          try simp only [Act.put, zps]
          refine wpAnyH_take (i := 29) (oi := sl29) (v := undef) rfl (by kernel_rfl) (by kernel_rfl) (by kernel_rfl) (fun _ _ _ h => h) (Or.inr ⟨by rfl, rfl⟩) (by assumption) ?_
          try simp only [Act.put, zps]
          refine wpAnyH_take (i := 30) (oi := sl30) (v := undef) rfl (by kernel_rfl) (by kernel_rfl) (by kernel_rfl) (fun _ _ _ h => h) (Or.inr ⟨by rfl, rfl⟩) (by assumption) ?_
          try simp only [Act.put, zps]
          refine wpAnyH_take (i := 31) (oi := sl31) (v := undef) rfl (by kernel_rfl) (by kernel_rfl) (by kernel_rfl) (fun _ _ _ h => h) (Or.inr ⟨by rfl, rfl⟩) (by assumption) ?_
          try simp only [Act.put, zps]
          refine wpAnyH_take (i := 32) (oi := sl32) (v := undef) rfl (by kernel_rfl) (by kernel_rfl) (by kernel_rfl) (fun _ _ _ h => h) (Or.inr ⟨by rfl, rfl⟩) (by assumption) ?_
          try simp only [Act.put, zps]
          refine wpAnyH_take (i := 33) (oi := sl33) (v := undef) rfl (by kernel_rfl) (by kernel_rfl) (by kernel_rfl) (fun _ _ _ h => h) (Or.inr ⟨by rfl, rfl⟩) (by assumption) ?_
          try simp only [Act.put, zps]
          refine wpAnyH_take (i := 34) (oi := sl34) (v := undef) rfl (by kernel_rfl) (by kernel_rfl) (by kernel_rfl) (fun _ _ _ h => h) (Or.inr ⟨by rfl, rfl⟩) (by assumption) ?_
          try simp only [Act.put, zps]
          refine wpAnyH_take (i := 35) (oi := sl35) (v := undef) rfl (by kernel_rfl) (by kernel_rfl) (by kernel_rfl) (fun _ _ _ h => h) (Or.inr ⟨by rfl, rfl⟩) (by assumption) ?_
          try simp only [Act.put, zps]
          refine wpAnyH_take (i := 36) (oi := sl36) (v := undef) rfl (by kernel_rfl) (by kernel_rfl) (by kernel_rfl) (fun _ _ _ h => h) (Or.inr ⟨by rfl, rfl⟩) (by assumption) ?_
          try simp only [Act.put, zps]
          refine wpAnyH_take (i := 37) (oi := sl37) (v := undef) rfl (by kernel_rfl) (by kernel_rfl) (by kernel_rfl) (fun _ _ _ h => h) (Or.inr ⟨by rfl, rfl⟩) (by assumption) ?_
          try simp only [Act.put, zps]
          refine wtk (i := 38) (oi := sl38) (v := ?v38x826) rfl ⟨by rfl, ?hy38x826⟩ (by assumption) ?_
          case hy38x826 => (intro w s; (try dsimp only at s); first | (go_simp; with_reducible rfl) | go_simp)
          try simp only [Act.put, zps]
          refine wtk (i := 39) (oi := sl39) (v := ?v39x827) rfl ⟨by rfl, ?hy39x827⟩ (by assumption) ?_
          case hy39x827 => (intro w s; (try dsimp only at s); first | (go_simp; with_reducible rfl) | go_simp)
          try simp only [Act.put, zps]
          refine wpAnyH_done (by kernel_rfl) ?_ _
          refine NoPanic.normal ?_
          have HS9 := hide (HS2.out.below (X' := fun _ => False) (Below.refl _ _) fun k hk => hk.elim)
          go_wp2
          go_roundw
          case rel => exact ⟨i + 1, by omega, by simp, HS9.out, HB2x.out⟩
          case measure => simp [intOf]; omega
    · have hie : i = n := by omega
      subst hie
      have f1 : ¬ (i : Int) < (i : Int) := by omega
      go_wp2
      have HSe := HSi
      have HBe := HBi
      go_loopw [13, 14, 15] (fun vi _ _ wr' => ∃ (j : Nat), j ≤ an ∧ vi = .int .i64 (j : Int) ∧ Sa wr' w3.heap.size p L C a c ys (fun _ => False) ∧ Below w3.heap.size w3 wr') (fun vi _ _ _ => (an : Int).toNat - (intOf vi).toNat)
      case atStart => exact ⟨0, Nat.zero_le _, rfl, HSe.out, HBe.out⟩
      case round =>
        obtain ⟨j, hj, rfl, hsa, hb⟩ := hrel
        have HSj := hide hsa
        have HBj := hide hb
        clear hsa hb HSi HBi HSe HBe
        by_cases hjn : j < an
        · obtain ⟨x, qb, qo, hx, rfl, hqs, q0, hxo⟩ := HA3.out.at hjn
          have HX3 := hide hxo
          have HXm := hide (List.mem_of_getElem? hx)
          have HQ : Hid (∀ W, Below w3.heap.size w3 W → W.cell? ⟨qb, qo + j, none⟩ = some (.slice x.ka x.key.length x.kc)) := hide fun W hW => (hW.cell (p := ⟨qb, qo + j, none⟩) hqs).trans q0
          have f2 : (j : Int) < (an : Int) := by omega
          have f3 : (0 : Int) ≤ (j : Int) := by omega
          have e5 : IntKind.i64.wrap ((j : Int) + 1) = (j : Int) + 1 := by rw [IntKind.wrap_i64] <;> omega
          clear hx hxo q0
          go_wp2
          go_loopw [15, 14] (fun vi vb wr' => ∃ (k : Nat) (bo : Bool), k ≤ i ∧ vi = .int .i64 (k : Int) ∧ vb = .bool bo ∧ Hid (bo = true ↔ U (ers (ys.take k)) x.key) ∧ Sa wr' w3.heap.size p L C a c ys (fun _ => False) ∧ Below w3.heap.size w3 wr') (fun vi _ _ => (i : Int).toNat - (intOf vi).toNat)
          case atStart => exact ⟨0, false, Nat.zero_le _, rfl, rfl, hide (by simp [U, ers]), HSj.out, HBj.out⟩
          case round =>
            obtain ⟨k, bo, hk, rfl, rfl, hbo, hsa, hb⟩ := hrel
            have HSk := hide hsa
            have HBk := hide hb
            clear hsa hb
            by_cases hkn : k < i
            · obtain ⟨y, hy, hok⟩ := HSk.out.ens.at (k := k) (by rw [← HN.out]; exact hkn)
              obtain ⟨b, off, rfl, hbs, c0, c1, c2⟩ := HSk.out.ens.cells hy
              have f4 : (k : Int) < (i : Int) := by omega
              have f5 : (0 : Int) ≤ (k : Int) := by omega
              have e6 : IntKind.i64.wrap ((k : Int) + 1) = (k : Int) + 1 := by rw [IntKind.wrap_i64] <;> omega
              have HN1 : Hid (∀ bo' : Bool, (bo' = true ↔ bo = true ∨ inS y.e x.key) → (bo' = true ↔ U (ers (ys.take (k + 1))) x.key)) := hide fun bo' h => by
                rw [h, hbo.out, take_at hy, ers_app, U_app]
                simp [ers, U]
              have HSd := hide (HSk.out.below (Below.refl _ _).drew (X' := fun _ => False) fun k hk => hk.elim)
              have HBd := hide HBk.out.drew
              have hca := ordI_anti x.key y.e.key
              cases bo with
              | true =>
                have s0 : wr.drew.cell? ⟨qb, qo + j, none⟩ = some (.slice x.ka x.key.length x.kc) ∧ wr.drew.cell? ⟨b, off + k * 3, none⟩ = some (.slice y.ka y.e.key.length y.kc) ∧ wr.drew.cell? ⟨b, off + k * 3 + 1, none⟩ = some (.slice y.va y.e.val.length y.vc) ∧ wr.drew.cell? ⟨b, off + k * 3 + 2, none⟩ = some (.bool y.e.del) ∧ (convert 33 9 (.slice x.ka x.key.length x.kc)).run Try.prog wr.drew = .ok (.string (bk x.key)) wr.drew ∧ (convert 33 9 (.slice y.ka y.e.key.length y.kc)).run Try.prog wr.drew = .ok (.string (bk y.e.key)) wr.drew ∧ (convert 33 9 (.slice y.va y.e.val.length y.vc)).run Try.prog wr.drew = .ok (.string (bk y.e.val)) wr.drew := by
                  obtain ⟨b8, off8, e8, _, r0, r1, r2⟩ := HSd.out.ens.cells hy
                  cases e8
                  have oky := HSd.out.ens.each y (List.mem_of_getElem? hy)
                  exact ⟨HQ.out _ HBd.out, r0, r1, r2, text_inn (HX3.out.below HBd.out), text_inn oky.key, text_inn oky.val⟩
                have HV := hide ((HN1.out true (by simp)).1 rfl)
                clear hy hok hbs hbo HN1 c0 c1 c2
                go_wp2
                refine wp_region_noPanic ?_
                refine wp_region_held_drew (S := (fun W => W.cell? ⟨qb, qo + j, none⟩ = some (.slice x.ka x.key.length x.kc) ∧ W.cell? ⟨b, off + k * 3, none⟩ = some (.slice y.ka y.e.key.length y.kc) ∧ W.cell? ⟨b, off + k * 3 + 1, none⟩ = some (.slice y.va y.e.val.length y.vc) ∧ W.cell? ⟨b, off + k * 3 + 2, none⟩ = some (.bool y.e.del) ∧ (convert 33 9 (.slice x.ka x.key.length x.kc)).run Try.prog W = .ok (.string (bk x.key)) W ∧ (convert 33 9 (.slice y.ka y.e.key.length y.kc)).run Try.prog W = .ok (.string (bk y.e.key)) W ∧ (convert 33 9 (.slice y.va y.e.val.length y.vc)).run Try.prog W = .ok (.string (bk y.e.val)) W)) (by kernel_rfl) s0 (fun _hS => ?_)
                refine wtk (i := 0) (oi := tA0) (v := ?v0x1001) rfl ⟨by rfl, ?hy0x1001⟩ (by assumption) ?_
                case hy0x1001 => (intro w s; (try dsimp only at s); first | (go_simp; with_reducible rfl) | go_simp)
                try simp only [Act.put, zps]
                refine wtk (i := 1) (oi := tA1) (v := ?v1x1002) rfl ⟨by rfl, ?hy1x1002⟩ (by assumption) ?_
                case hy1x1002 => (intro w s; (try dsimp only at s); first | (go_simp; with_reducible rfl) | go_simp)
                try simp only [Act.put, zps]
                refine wpAnyH_take (i := 2) (oi := tA2) (v := undef) rfl (by kernel_rfl) (by kernel_rfl) (by kernel_rfl) (fun _ _ _ h => h) (Or.inr ⟨by rfl, rfl⟩) (by assumption) ?_
                try simp only [Act.put, zps]
                refine wpAnyH_take (i := 3) (oi := tA3) (v := undef) rfl (by kernel_rfl) (by kernel_rfl) (by kernel_rfl) (fun _ _ _ h => h) (Or.inr ⟨by rfl, rfl⟩) (by assumption) ?_
                try simp only [Act.put, zps]
                refine wpAnyH_take (i := 4) (oi := tA4) (v := undef) rfl (by kernel_rfl) (by kernel_rfl) (by kernel_rfl) (fun _ _ _ h => h) (Or.inr ⟨by rfl, rfl⟩) (by assumption) ?_
                try simp only [Act.put, zps]
                refine wpAnyH_take (i := 5) (oi := tA5) (v := undef) rfl (by kernel_rfl) (by kernel_rfl) (by kernel_rfl) (fun _ _ _ h => h) (Or.inr ⟨by rfl, rfl⟩) (by assumption) ?_
                try simp only [Act.put, zps]
                refine wpAnyH_take (i := 6) (oi := tA6) (v := undef) rfl (by kernel_rfl) (by kernel_rfl) (by kernel_rfl) (fun _ _ _ h => h) (Or.inr ⟨by rfl, rfl⟩) (by assumption) ?_
                try simp only [Act.put, zps]
                refine wpAnyH_take (i := 7) (oi := tA7) (v := undef) rfl (by kernel_rfl) (by kernel_rfl) (by kernel_rfl) (fun _ _ _ h => h) (Or.inr ⟨by rfl, rfl⟩) (by assumption) ?_
                try simp only [Act.put, zps]
                refine wpAnyH_take (i := 8) (oi := tA8) (v := undef) rfl (by kernel_rfl) (by kernel_rfl) (by kernel_rfl) (fun _ _ _ h => h) (Or.inr ⟨by rfl, rfl⟩) (by assumption) ?_
                try simp only [Act.put, zps]
                refine wpAnyH_take (i := 9) (oi := tA9) (v := undef) rfl (by kernel_rfl) (by kernel_rfl) (by kernel_rfl) (fun _ _ _ h => h) (Or.inr ⟨by rfl, rfl⟩) (by assumption) ?_
                try simp only [Act.put, zps]
                refine wpAnyH_take (i := 10) (oi := tA10) (v := undef) rfl (by kernel_rfl) (by kernel_rfl) (by kernel_rfl) (fun _ _ _ h => h) (Or.inr ⟨by rfl, rfl⟩) (by assumption) ?_
                try simp only [Act.put, zps]
                refine wpAnyH_take (i := 11) (oi := tA11) (v := undef) rfl (by kernel_rfl) (by kernel_rfl) (by kernel_rfl) (fun _ _ _ h => h) (Or.inr ⟨by rfl, rfl⟩) (by assumption) ?_
                try simp only [Act.put, zps]
                refine wpAnyH_take (i := 12) (oi := tA12) (v := undef) rfl (by kernel_rfl) (by kernel_rfl) (by kernel_rfl) (fun _ _ _ h => h) (Or.inr ⟨by rfl, rfl⟩) (by assumption) ?_
                try simp only [Act.put, zps]
                refine wpAnyH_take (i := 13) (oi := tA13) (v := undef) rfl (by kernel_rfl) (by kernel_rfl) (by kernel_rfl) (fun _ _ _ h => h) (Or.inr ⟨by rfl, rfl⟩) (by assumption) ?_
                try simp only [Act.put, zps]
                refine wpAnyH_take (i := 14) (oi := tA14) (v := undef) rfl (by kernel_rfl) (by kernel_rfl) (by kernel_rfl) (fun _ _ _ h => h) (Or.inr ⟨by rfl, rfl⟩) (by assumption) ?_
                try simp only [Act.put, zps]
                refine wpAnyH_take (i := 15) (oi := tA15) (v := undef) rfl (by kernel_rfl) (by kernel_rfl) (by kernel_rfl) (fun _ _ _ h => h) (Or.inr ⟨by rfl, rfl⟩) (by assumption) ?_
                try simp only [Act.put, zps]
                refine wpAnyH_take (i := 16) (oi := tA16) (v := undef) rfl (by kernel_rfl) (by kernel_rfl) (by kernel_rfl) (fun _ _ _ h => h) (Or.inr ⟨by rfl, rfl⟩) (by assumption) ?_
                try simp only [Act.put, zps]
                refine wpAnyH_take (i := 17) (oi := tA17) (v := undef) rfl (by kernel_rfl) (by kernel_rfl) (by kernel_rfl) (fun _ _ _ h => h) (Or.inr ⟨by rfl, rfl⟩) (by assumption) ?_
                try simp only [Act.put, zps]
                refine wpAnyH_take (i := 18) (oi := tA18) (v := undef) rfl (by kernel_rfl) (by kernel_rfl) (by kernel_rfl) (fun _ _ _ h => h) (Or.inr ⟨by rfl, rfl⟩) (by assumption) ?_
                try simp only [Act.put, zps]
                refine wpAnyH_take (i := 19) (oi := tA19) (v := undef) rfl (by kernel_rfl) (by kernel_rfl) (by kernel_rfl) (fun _ _ _ h => h) (Or.inr ⟨by rfl, rfl⟩) (by assumption) ?_
                try simp only [Act.put, zps]
                refine wpAnyH_take (i := 20) (oi := tA20) (v := undef) rfl (by kernel_rfl) (by kernel_rfl) (by kernel_rfl) (fun _ _ _ h => h) (Or.inr ⟨by rfl, rfl⟩) (by assumption) ?_
                try simp only [Act.put, zps]
                refine wpAnyH_take (i := 21) (oi := tA21) (v := undef) rfl (by kernel_rfl) (by kernel_rfl) (by kernel_rfl) (fun _ _ _ h => h) (Or.inr ⟨by rfl, rfl⟩) (by assumption) ?_
                try simp only [Act.put, zps]
                refine wpAnyH_take (i := 22) (oi := tA22) (v := undef) rfl (by kernel_rfl) (by kernel_rfl) (by kernel_rfl) (fun _ _ _ h => h) (Or.inr ⟨by rfl, rfl⟩) (by assumption) ?_
                try simp only [Act.put, zps]
                refine wpAnyH_take (i := 23) (oi := tA23) (v := undef) rfl (by kernel_rfl) (by kernel_rfl) (by kernel_rfl) (fun _ _ _ h => h) (Or.inr ⟨by rfl, rfl⟩) (by assumption) ?_
                try simp only [Act.put, zps]
                refine wpAnyH_take (i := 24) (oi := tA24) (v := undef) rfl (by kernel_rfl) (by kernel_rfl) (by kernel_rfl) (fun _ _ _ h => h) (Or.inr ⟨by rfl, rfl⟩) (by assumption) ?_
                try simp only [Act.put, zps]
                refine wpAnyH_take (i := 25) (oi := tA25) (v := undef) rfl (by kernel_rfl) (by kernel_rfl) (by kernel_rfl) (fun _ _ _ h => h) (Or.inr ⟨by rfl, rfl⟩) (by assumption) ?_
                try simp only [Act.put, zps]
                refine wpAnyH_take (i := 26) (oi := tA26) (v := undef) rfl (by kernel_rfl) (by kernel_rfl) (by kernel_rfl) (fun _ _ _ h => h) (Or.inr ⟨by rfl, rfl⟩) (by assumption) ?_
                try simp only [Act.put, zps]
                refine wpAnyH_take (i := 27) (oi := tA27) (v := undef) rfl (by kernel_rfl) (by kernel_rfl) (by kernel_rfl) (fun _ _ _ h => h) (Or.inr ⟨by rfl, rfl⟩) (by assumption) ?_
                try simp only [Act.put, zps]
                refine wpAnyH_take (i := 28) (oi := tA28) (v := undef) rfl (by kernel_rfl) (by kernel_rfl) (by kernel_rfl) (fun _ _ _ h => h) (Or.inr ⟨by rfl, rfl⟩) (by assumption) ?_
                try simp only [Act.put, zps]
                refine wpAnyH_take (i := 29) (oi := tA29) (v := undef) rfl (by kernel_rfl) (by kernel_rfl) (by kernel_rfl) (fun _ _ _ h => h) (Or.inr ⟨by rfl, rfl⟩) (by assumption) ?_
                try simp only [Act.put, zps]
                refine wpAnyH_take (i := 30) (oi := tA30) (v := undef) rfl (by kernel_rfl) (by kernel_rfl) (by kernel_rfl) (fun _ _ _ h => h) (Or.inr ⟨by rfl, rfl⟩) (by assumption) ?_
                try simp only [Act.put, zps]
                refine wpAnyH_take (i := 31) (oi := tA31) (v := undef) rfl (by kernel_rfl) (by kernel_rfl) (by kernel_rfl) (fun _ _ _ h => h) (Or.inr ⟨by rfl, rfl⟩) (by assumption) ?_
                try simp only [Act.put, zps]
                refine wpAnyH_take (i := 32) (oi := tA32) (v := undef) rfl (by kernel_rfl) (by kernel_rfl) (by kernel_rfl) (fun _ _ _ h => h) (Or.inr ⟨by rfl, rfl⟩) (by assumption) ?_
                try simp only [Act.put, zps]
                refine wpAnyH_take (i := 33) (oi := tA33) (v := undef) rfl (by kernel_rfl) (by kernel_rfl) (by kernel_rfl) (fun _ _ _ h => h) (Or.inr ⟨by rfl, rfl⟩) (by assumption) ?_
                try simp only [Act.put, zps]
                refine wpAnyH_take (i := 34) (oi := tA34) (v := undef) rfl (by kernel_rfl) (by kernel_rfl) (by kernel_rfl) (fun _ _ _ h => h) (Or.inr ⟨by rfl, rfl⟩) (by assumption) ?_
                try simp only [Act.put, zps]
                refine wtk (i := 35) (oi := tA35) (v := ?v35x1003) rfl ⟨by rfl, ?hy35x1003⟩ (by assumption) ?_
                case hy35x1003 => (intro w s; (try dsimp only at s); first | (go_simp; with_reducible rfl) | go_simp)
                try simp only [Act.put, zps]
                refine wtk (i := 36) (oi := tA36) (v := ?v36x1004) rfl ⟨by rfl, ?hy36x1004⟩ (by assumption) ?_
                case hy36x1004 => (intro w s; (try dsimp only at s); first | (go_simp; with_reducible rfl) | go_simp)
                try simp only [Act.put, zps]
                refine wpAnyH_done (by kernel_rfl) ?_ _
                refine NoPanic.normal ?_
                go_wp2
                go_roundw
                case rel => exact ⟨k + 1, true, by omega, by simp, rfl, hide ⟨fun _ => HV.out, fun _ => rfl⟩, HSd.out, HBd.out⟩
                case measure => simp [intOf]; omega
              | false =>
                by_cases hB : ordI x.key y.e.key < 0
                · have hin : ¬ inS y.e x.key := fun h => by have := h.1; omega
                  have s0 : wr.drew.cell? ⟨qb, qo + j, none⟩ = some (.slice x.ka x.key.length x.kc) ∧ wr.drew.cell? ⟨b, off + k * 3, none⟩ = some (.slice y.ka y.e.key.length y.kc) ∧ wr.drew.cell? ⟨b, off + k * 3 + 1, none⟩ = some (.slice y.va y.e.val.length y.vc) ∧ wr.drew.cell? ⟨b, off + k * 3 + 2, none⟩ = some (.bool y.e.del) ∧ (convert 33 9 (.slice x.ka x.key.length x.kc)).run Try.prog wr.drew = .ok (.string (bk x.key)) wr.drew ∧ (convert 33 9 (.slice y.ka y.e.key.length y.kc)).run Try.prog wr.drew = .ok (.string (bk y.e.key)) wr.drew ∧ (convert 33 9 (.slice y.va y.e.val.length y.vc)).run Try.prog wr.drew = .ok (.string (bk y.e.val)) wr.drew := by
                    obtain ⟨b8, off8, e8, _, r0, r1, r2⟩ := HSd.out.ens.cells hy
                    cases e8
                    have oky := HSd.out.ens.each y (List.mem_of_getElem? hy)
                    exact ⟨HQ.out _ HBd.out, r0, r1, r2, text_inn (HX3.out.below HBd.out), text_inn oky.key, text_inn oky.val⟩
                  have l1 := text_less x.key y.e.key HX3.out.byts hok.key.byts
                  have e1 := text_eq x.key y.e.key HX3.out.byts hok.key.byts
                  rw [decide_eq_true hB] at l1
                  rw [decide_eq_false (fun e => by rw [e, ordI_self] at hB; omega)] at e1
                  have HV : Hid (¬ U (ers (ys.take (k + 1))) x.key) := hide fun h => by have := (HN1.out false (by simp [hin])).2 h; cases this
                  clear hy hok hbs hbo HN1 c0 c1 c2 hin
                  go_wp2
                  refine wp_region_noPanic ?_
                  refine wp_region_held_drew (S := (fun W => W.cell? ⟨qb, qo + j, none⟩ = some (.slice x.ka x.key.length x.kc) ∧ W.cell? ⟨b, off + k * 3, none⟩ = some (.slice y.ka y.e.key.length y.kc) ∧ W.cell? ⟨b, off + k * 3 + 1, none⟩ = some (.slice y.va y.e.val.length y.vc) ∧ W.cell? ⟨b, off + k * 3 + 2, none⟩ = some (.bool y.e.del) ∧ (convert 33 9 (.slice x.ka x.key.length x.kc)).run Try.prog W = .ok (.string (bk x.key)) W ∧ (convert 33 9 (.slice y.ka y.e.key.length y.kc)).run Try.prog W = .ok (.string (bk y.e.key)) W ∧ (convert 33 9 (.slice y.va y.e.val.length y.vc)).run Try.prog W = .ok (.string (bk y.e.val)) W)) (by kernel_rfl) s0 (fun _hS => ?_)
                  refine wtk (i := 0) (oi := tB0) (v := ?v0x1101) rfl ⟨by rfl, ?hy0x1101⟩ (by assumption) ?_
                  case hy0x1101 => (intro w s; (try dsimp only at s); first | (go_simp; with_reducible rfl) | go_simp)
                  try simp only [Act.put, zps]
                  refine wtk (i := 1) (oi := tB1) (v := ?v1x1102) rfl ⟨by rfl, ?hy1x1102⟩ (by assumption) ?_
                  case hy1x1102 => (intro w s; (try dsimp only at s); first | (go_simp; with_reducible rfl) | go_simp)
                  try simp only [Act.put, zps]
                  refine wtk (i := 2) (oi := tB2) (v := ?v2x1103) rfl ⟨by rfl, ?hy2x1103⟩ (by assumption) ?_
                  case hy2x1103 => (intro w s; (try dsimp only at s); first | (go_simp; with_reducible rfl) | go_simp)
                  try simp only [Act.put, zps]
                  refine wtk (i := 3) (oi := tB3) (v := ?v3x1104) rfl ⟨by rfl, ?hy3x1104⟩ (by assumption) ?_
                  case hy3x1104 => (intro w s; (try dsimp only at s); first | (go_simp; with_reducible rfl) | go_simp)
                  try simp only [Act.put, zps]
                  refine wtk (i := 4) (oi := tB4) (v := ?v4x1105) rfl ⟨by rfl, ?hy4x1105⟩ (by assumption) ?_
                  case hy4x1105 => (intro w s; (try dsimp only at s); first | (go_simp; with_reducible rfl) | go_simp)
                  try simp only [Act.put, zps]
                  refine wtk (i := 5) (oi := tB5) (v := ?v5x1106) rfl ⟨by rfl, ?hy5x1106⟩ (by assumption) ?_
                  case hy5x1106 => (intro w s; (try dsimp only at s); first | (go_simp; with_reducible rfl) | go_simp)
                  try simp only [Act.put, zps]
                  refine wtk (i := 6) (oi := tB6) (v := ?v6x1107) rfl ⟨by rfl, ?hy6x1107⟩ (by assumption) ?_
                  case hy6x1107 => (intro w s; (try dsimp only at s); first | (go_simp; with_reducible rfl) | go_simp)
                  try simp only [Act.put, zps]
                  refine wtk (i := 7) (oi := tB7) (v := ?v7x1108) rfl ⟨by rfl, ?hy7x1108⟩ (by assumption) ?_
                  case hy7x1108 => (intro w s; (try dsimp only at s); first | (go_simp; with_reducible rfl) | go_simp)
                  try simp only [Act.put, zps]
                  refine wtk (i := 8) (oi := tB8) (v := ?v8x1109) rfl ⟨by rfl, ?hy8x1109⟩ (by assumption) ?_
                  case hy8x1109 => (intro w s; (try dsimp only at s); first | (go_simp; with_reducible rfl) | go_simp)
                  try simp only [Act.put, zps]
                  refine wtk (i := 9) (oi := tB9) (v := ?v9x1110) rfl ⟨by rfl, ?hy9x1110⟩ (by assumption) ?_
                  case hy9x1110 => (intro w s; (try dsimp only at s); first | (go_simp; with_reducible rfl) | go_simp)
                  try simp only [Act.put, zps]
                  refine wtk (i := 10) (oi := tB10) (v := ?v10x1111) rfl ⟨by rfl, ?hy10x1111⟩ (by assumption) ?_
                  case hy10x1111 => (intro w s; (try dsimp only at s); first | (go_simp; with_reducible rfl) | go_simp)
                  try simp only [Act.put, zps]
                  refine wtk (i := 11) (oi := tB11) (v := ?v11x1112) rfl ⟨by rfl, ?hy11x1112⟩ (by assumption) ?_
                  case hy11x1112 => (intro w s; (try dsimp only at s); first | (go_simp; with_reducible rfl) | go_simp)
                  try simp only [Act.put, zps]
                  refine wtk (i := 12) (oi := tB12) (v := ?v12x1113) rfl ⟨by rfl, ?hy12x1113⟩ (by assumption) ?_
                  case hy12x1113 => (intro w s; (try dsimp only at s); first | (go_simp; with_reducible rfl) | go_simp)
                  try simp only [Act.put, zps]
                  refine wtk (i := 13) (oi := tB13) (v := (.bool false)) rfl ⟨by rfl, ?hy13x1114⟩ (by assumption) ?_
                  case hy13x1114 => (intro w s; go_simp)
                  try simp only [Act.put, zps]
                  refine wtk (i := 14) (oi := tB14) (v := ?v14x1115) rfl ⟨by rfl, ?hy14x1115⟩ (by assumption) ?_
                  case hy14x1115 => (intro w s; (try dsimp only at s); first | (go_simp; with_reducible rfl) | go_simp)
                  try simp only [Act.put, zps]
                  refine wpAnyH_take (i := 15) (oi := tB15) (v := undef) rfl (by kernel_rfl) (by kernel_rfl) (by kernel_rfl) (fun _ _ _ h => h) (Or.inr ⟨by rfl, rfl⟩) (by assumption) ?_
                  try simp only [Act.put, zps]
                  refine wpAnyH_take (i := 16) (oi := tB16) (v := undef) rfl (by kernel_rfl) (by kernel_rfl) (by kernel_rfl) (fun _ _ _ h => h) (Or.inr ⟨by rfl, rfl⟩) (by assumption) ?_
                  try simp only [Act.put, zps]
                  refine wpAnyH_take (i := 17) (oi := tB17) (v := undef) rfl (by kernel_rfl) (by kernel_rfl) (by kernel_rfl) (fun _ _ _ h => h) (Or.inr ⟨by rfl, rfl⟩) (by assumption) ?_
                  try simp only [Act.put, zps]
                  refine wpAnyH_take (i := 18) (oi := tB18) (v := undef) rfl (by kernel_rfl) (by kernel_rfl) (by kernel_rfl) (fun _ _ _ h => h) (Or.inr ⟨by rfl, rfl⟩) (by assumption) ?_
                  try simp only [Act.put, zps]
                  refine wpAnyH_take (i := 19) (oi := tB19) (v := undef) rfl (by kernel_rfl) (by kernel_rfl) (by kernel_rfl) (fun _ _ _ h => h) (Or.inr ⟨by rfl, rfl⟩) (by assumption) ?_
                  try simp only [Act.put, zps]
                  refine wpAnyH_take (i := 20) (oi := tB20) (v := undef) rfl (by kernel_rfl) (by kernel_rfl) (by kernel_rfl) (fun _ _ _ h => h) (Or.inr ⟨by rfl, rfl⟩) (by assumption) ?_
                  try simp only [Act.put, zps]
                  refine wpAnyH_take (i := 21) (oi := tB21) (v := undef) rfl (by kernel_rfl) (by kernel_rfl) (by kernel_rfl) (fun _ _ _ h => h) (Or.inr ⟨by rfl, rfl⟩) (by assumption) ?_
                  try simp only [Act.put, zps]
                  refine wpAnyH_take (i := 22) (oi := tB22) (v := undef) rfl (by kernel_rfl) (by kernel_rfl) (by kernel_rfl) (fun _ _ _ h => h) (Or.inr ⟨by rfl, rfl⟩) (by assumption) ?_
                  try simp only [Act.put, zps]
                  refine wpAnyH_take (i := 23) (oi := tB23) (v := undef) rfl (by kernel_rfl) (by kernel_rfl) (by kernel_rfl) (fun _ _ _ h => h) (Or.inr ⟨by rfl, rfl⟩) (by assumption) ?_
                  try simp only [Act.put, zps]
                  refine wpAnyH_take (i := 24) (oi := tB24) (v := undef) rfl (by kernel_rfl) (by kernel_rfl) (by kernel_rfl) (fun _ _ _ h => h) (Or.inr ⟨by rfl, rfl⟩) (by assumption) ?_
                  try simp only [Act.put, zps]
                  refine wpAnyH_take (i := 25) (oi := tB25) (v := undef) rfl (by kernel_rfl) (by kernel_rfl) (by kernel_rfl) (fun _ _ _ h => h) (Or.inr ⟨by rfl, rfl⟩) (by assumption) ?_
                  try simp only [Act.put, zps]
                  refine wpAnyH_take (i := 26) (oi := tB26) (v := undef) rfl (by kernel_rfl) (by kernel_rfl) (by kernel_rfl) (fun _ _ _ h => h) (Or.inr ⟨by rfl, rfl⟩) (by assumption) ?_
                  try simp only [Act.put, zps]
                  refine wpAnyH_take (i := 27) (oi := tB27) (v := undef) rfl (by kernel_rfl) (by kernel_rfl) (by kernel_rfl) (fun _ _ _ h => h) (Or.inr ⟨by rfl, rfl⟩) (by assumption) ?_
                  try simp only [Act.put, zps]
                  refine wpAnyH_take (i := 28) (oi := tB28) (v := undef) rfl (by kernel_rfl) (by kernel_rfl) (by kernel_rfl) (fun _ _ _ h => h) (Or.inr ⟨by rfl, rfl⟩) (by assumption) ?_
                  try simp only [Act.put, zps]
                  refine wpAnyH_take (i := 29) (oi := tB29) (v := undef) rfl (by kernel_rfl) (by kernel_rfl) (by kernel_rfl) (fun _ _ _ h => h) (Or.inr ⟨by rfl, rfl⟩) (by assumption) ?_
                  try simp only [Act.put, zps]
                  refine wpAnyH_take (i := 30) (oi := tB30) (v := undef) rfl (by kernel_rfl) (by kernel_rfl) (by kernel_rfl) (fun _ _ _ h => h) (Or.inr ⟨by rfl, rfl⟩) (by assumption) ?_
                  try simp only [Act.put, zps]
                  refine wpAnyH_take (i := 31) (oi := tB31) (v := undef) rfl (by kernel_rfl) (by kernel_rfl) (by kernel_rfl) (fun _ _ _ h => h) (Or.inr ⟨by rfl, rfl⟩) (by assumption) ?_
                  try simp only [Act.put, zps]
                  refine wpAnyH_take (i := 32) (oi := tB32) (v := undef) rfl (by kernel_rfl) (by kernel_rfl) (by kernel_rfl) (fun _ _ _ h => h) (Or.inr ⟨by rfl, rfl⟩) (by assumption) ?_
                  try simp only [Act.put, zps]
                  refine wpAnyH_take (i := 33) (oi := tB33) (v := undef) rfl (by kernel_rfl) (by kernel_rfl) (by kernel_rfl) (fun _ _ _ h => h) (Or.inr ⟨by rfl, rfl⟩) (by assumption) ?_
                  try simp only [Act.put, zps]
                  refine wtk (i := 34) (oi := tB34) (v := ?v34x1116) rfl ⟨by rfl, ?hy34x1116⟩ (by assumption) ?_
                  case hy34x1116 => (intro w s; (try dsimp only at s); first | (go_simp; with_reducible rfl) | go_simp)
                  try simp only [Act.put, zps]
                  refine wtk (i := 35) (oi := tB35) (v := ?v35x1117) rfl ⟨by rfl, ?hy35x1117⟩ (by assumption) ?_
                  case hy35x1117 => (intro w s; (try dsimp only at s); first | (go_simp; with_reducible rfl) | go_simp)
                  try simp only [Act.put, zps]
                  refine wtk (i := 36) (oi := tB36) (v := ?v36x1118) rfl ⟨by rfl, ?hy36x1118⟩ (by assumption) ?_
                  case hy36x1118 => (intro w s; (try dsimp only at s); first | (go_simp; with_reducible rfl) | go_simp)
                  try simp only [Act.put, zps]
                  refine wpAnyH_done (by kernel_rfl) ?_ _
                  refine NoPanic.normal ?_
                  go_wp2
                  go_roundw
                  case rel => exact ⟨k + 1, false, by omega, by simp, rfl, hide ⟨fun h => (by cases h), fun h => absurd h HV.out⟩, HSd.out, HBd.out⟩
                  case measure => simp [intOf]; omega
                · cases hd : y.e.del with
                  | true =>
                    have hin : inS y.e x.key := ⟨by omega, .inl hd⟩
                    have s0 : wr.drew.cell? ⟨qb, qo + j, none⟩ = some (.slice x.ka x.key.length x.kc) ∧ wr.drew.cell? ⟨b, off + k * 3, none⟩ = some (.slice y.ka y.e.key.length y.kc) ∧ wr.drew.cell? ⟨b, off + k * 3 + 1, none⟩ = some (.slice y.va y.e.val.length y.vc) ∧ wr.drew.cell? ⟨b, off + k * 3 + 2, none⟩ = some (.bool true) ∧ (convert 33 9 (.slice x.ka x.key.length x.kc)).run Try.prog wr.drew = .ok (.string (bk x.key)) wr.drew ∧ (convert 33 9 (.slice y.ka y.e.key.length y.kc)).run Try.prog wr.drew = .ok (.string (bk y.e.key)) wr.drew ∧ (convert 33 9 (.slice y.va y.e.val.length y.vc)).run Try.prog wr.drew = .ok (.string (bk y.e.val)) wr.drew := by
                      obtain ⟨b8, off8, e8, _, r0, r1, r2⟩ := HSd.out.ens.cells hy
                      cases e8
                      rw [hd] at r2
                      have oky := HSd.out.ens.each y (List.mem_of_getElem? hy)
                      exact ⟨HQ.out _ HBd.out, r0, r1, r2, text_inn (HX3.out.below HBd.out), text_inn oky.key, text_inn oky.val⟩
                    have l1 := text_less x.key y.e.key HX3.out.byts hok.key.byts
                    have e1 := text_eq x.key y.e.key HX3.out.byts hok.key.byts
                    rw [decide_eq_false hB] at l1
                    have HV := hide ((HN1.out true (by simp [hin])).1 rfl)
                    clear hy hok hbs hbo HN1 c0 c1 c2 hin
                    go_wp2
                    refine wp_region_noPanic ?_
                    refine wp_region_held_drew (S := (fun W => W.cell? ⟨qb, qo + j, none⟩ = some (.slice x.ka x.key.length x.kc) ∧ W.cell? ⟨b, off + k * 3, none⟩ = some (.slice y.ka y.e.key.length y.kc) ∧ W.cell? ⟨b, off + k * 3 + 1, none⟩ = some (.slice y.va y.e.val.length y.vc) ∧ W.cell? ⟨b, off + k * 3 + 2, none⟩ = some (.bool true) ∧ (convert 33 9 (.slice x.ka x.key.length x.kc)).run Try.prog W = .ok (.string (bk x.key)) W ∧ (convert 33 9 (.slice y.ka y.e.key.length y.kc)).run Try.prog W = .ok (.string (bk y.e.key)) W ∧ (convert 33 9 (.slice y.va y.e.val.length y.vc)).run Try.prog W = .ok (.string (bk y.e.val)) W)) (by kernel_rfl) s0 (fun _hS => ?_)
                    refine wtk (i := 0) (oi := tC0) (v := ?v0x1201) rfl ⟨by rfl, ?hy0x1201⟩ (by assumption) ?_
                    case hy0x1201 => (intro w s; (try dsimp only at s); first | (go_simp; with_reducible rfl) | go_simp)
                    try simp only [Act.put, zps]
                    refine wtk (i := 1) (oi := tC1) (v := ?v1x1202) rfl ⟨by rfl, ?hy1x1202⟩ (by assumption) ?_
                    case hy1x1202 => (intro w s; (try dsimp only at s); first | (go_simp; with_reducible rfl) | go_simp)
                    try simp only [Act.put, zps]
                    refine wtk (i := 2) (oi := tC2) (v := ?v2x1203) rfl ⟨by rfl, ?hy2x1203⟩ (by assumption) ?_
                    case hy2x1203 => (intro w s; (try dsimp only at s); first | (go_simp; with_reducible rfl) | go_simp)
                    try simp only [Act.put, zps]
                    refine wtk (i := 3) (oi := tC3) (v := ?v3x1204) rfl ⟨by rfl, ?hy3x1204⟩ (by assumption) ?_
                    case hy3x1204 => (intro w s; (try dsimp only at s); first | (go_simp; with_reducible rfl) | go_simp)
                    try simp only [Act.put, zps]
                    refine wtk (i := 4) (oi := tC4) (v := ?v4x1205) rfl ⟨by rfl, ?hy4x1205⟩ (by assumption) ?_
                    case hy4x1205 => (intro w s; (try dsimp only at s); first | (go_simp; with_reducible rfl) | go_simp)
                    try simp only [Act.put, zps]
                    refine wtk (i := 5) (oi := tC5) (v := ?v5x1206) rfl ⟨by rfl, ?hy5x1206⟩ (by assumption) ?_
                    case hy5x1206 => (intro w s; (try dsimp only at s); first | (go_simp; with_reducible rfl) | go_simp)
                    try simp only [Act.put, zps]
                    refine wtk (i := 6) (oi := tC6) (v := ?v6x1207) rfl ⟨by rfl, ?hy6x1207⟩ (by assumption) ?_
                    case hy6x1207 => (intro w s; (try dsimp only at s); first | (go_simp; with_reducible rfl) | go_simp)
                    try simp only [Act.put, zps]
                    refine wtk (i := 7) (oi := tC7) (v := ?v7x1208) rfl ⟨by rfl, ?hy7x1208⟩ (by assumption) ?_
                    case hy7x1208 => (intro w s; (try dsimp only at s); first | (go_simp; with_reducible rfl) | go_simp)
                    try simp only [Act.put, zps]
                    refine wtk (i := 8) (oi := tC8) (v := ?v8x1209) rfl ⟨by rfl, ?hy8x1209⟩ (by assumption) ?_
                    case hy8x1209 => (intro w s; (try dsimp only at s); first | (go_simp; with_reducible rfl) | go_simp)
                    try simp only [Act.put, zps]
                    refine wtk (i := 9) (oi := tC9) (v := ?v9x1210) rfl ⟨by rfl, ?hy9x1210⟩ (by assumption) ?_
                    case hy9x1210 => (intro w s; (try dsimp only at s); first | (go_simp; with_reducible rfl) | go_simp)
                    try simp only [Act.put, zps]
                    refine wtk (i := 10) (oi := tC10) (v := ?v10x1211) rfl ⟨by rfl, ?hy10x1211⟩ (by assumption) ?_
                    case hy10x1211 => (intro w s; (try dsimp only at s); first | (go_simp; with_reducible rfl) | go_simp)
                    try simp only [Act.put, zps]
                    refine wtk (i := 11) (oi := tC11) (v := ?v11x1212) rfl ⟨by rfl, ?hy11x1212⟩ (by assumption) ?_
                    case hy11x1212 => (intro w s; (try dsimp only at s); first | (go_simp; with_reducible rfl) | go_simp)
                    try simp only [Act.put, zps]
                    refine wtk (i := 12) (oi := tC12) (v := ?v12x1213) rfl ⟨by rfl, ?hy12x1213⟩ (by assumption) ?_
                    case hy12x1213 => (intro w s; (try dsimp only at s); first | (go_simp; with_reducible rfl) | go_simp)
                    try simp only [Act.put, zps]
                    refine wtk (i := 13) (oi := tC13) (v := (.bool true)) rfl ⟨by rfl, ?hy13x1214⟩ (by assumption) ?_
                    case hy13x1214 => (intro w s; go_simp)
                    try simp only [Act.put, zps]
                    refine wtk (i := 14) (oi := tC14) (v := ?v14x1215) rfl ⟨by rfl, ?hy14x1215⟩ (by assumption) ?_
                    case hy14x1215 => (intro w s; (try dsimp only at s); first | (go_simp; with_reducible rfl) | go_simp)
                    try simp only [Act.put, zps]
                    refine wtk (i := 15) (oi := tC15) (v := ?v15x1216) rfl ⟨by rfl, ?hy15x1216⟩ (by assumption) ?_
                    case hy15x1216 => (intro w s; (try dsimp only at s); first | (go_simp; with_reducible rfl) | go_simp)
                    try simp only [Act.put, zps]
                    refine wtk (i := 16) (oi := tC16) (v := ?v16x1217) rfl ⟨by rfl, ?hy16x1217⟩ (by assumption) ?_
                    case hy16x1217 => (intro w s; (try dsimp only at s); first | (go_simp; with_reducible rfl) | go_simp)
                    try simp only [Act.put, zps]
                    refine wtk (i := 17) (oi := tC17) (v := ?v17x1218) rfl ⟨by rfl, ?hy17x1218⟩ (by assumption) ?_
                    case hy17x1218 => (intro w s; (try dsimp only at s); first | (go_simp; with_reducible rfl) | go_simp)
                    try simp only [Act.put, zps]
                    refine wtk (i := 18) (oi := tC18) (v := ?v18x1219) rfl ⟨by rfl, ?hy18x1219⟩ (by assumption) ?_
                    case hy18x1219 => (intro w s; (try dsimp only at s); first | (go_simp; with_reducible rfl) | go_simp)
                    try simp only [Act.put, zps]
                    refine wtk (i := 19) (oi := tC19) (v := ?v19x1220) rfl ⟨by rfl, ?hy19x1220⟩ (by assumption) ?_
                    case hy19x1220 => (intro w s; (try dsimp only at s); first | (go_simp; with_reducible rfl) | go_simp)
                    try simp only [Act.put, zps]
                    refine wtk (i := 20) (oi := tC20) (v := ?v20x1221) rfl ⟨by rfl, ?hy20x1221⟩ (by assumption) ?_
                    case hy20x1221 => (intro w s; (try dsimp only at s); first | (go_simp; with_reducible rfl) | go_simp)
                    try simp only [Act.put, zps]
                    refine wpAnyH_take (i := 21) (oi := tC21) (v := undef) rfl (by kernel_rfl) (by kernel_rfl) (by kernel_rfl) (fun _ _ _ h => h) (Or.inr ⟨by rfl, rfl⟩) (by assumption) ?_
                    try simp only [Act.put, zps]
                    refine wpAnyH_take (i := 22) (oi := tC22) (v := undef) rfl (by kernel_rfl) (by kernel_rfl) (by kernel_rfl) (fun _ _ _ h => h) (Or.inr ⟨by rfl, rfl⟩) (by assumption) ?_
                    try simp only [Act.put, zps]
                    refine wpAnyH_take (i := 23) (oi := tC23) (v := undef) rfl (by kernel_rfl) (by kernel_rfl) (by kernel_rfl) (fun _ _ _ h => h) (Or.inr ⟨by rfl, rfl⟩) (by assumption) ?_
                    try simp only [Act.put, zps]
                    refine wpAnyH_take (i := 24) (oi := tC24) (v := undef) rfl (by kernel_rfl) (by kernel_rfl) (by kernel_rfl) (fun _ _ _ h => h) (Or.inr ⟨by rfl, rfl⟩) (by assumption) ?_
                    try simp only [Act.put, zps]
                    refine wpAnyH_take (i := 25) (oi := tC25) (v := undef) rfl (by kernel_rfl) (by kernel_rfl) (by kernel_rfl) (fun _ _ _ h => h) (Or.inr ⟨by rfl, rfl⟩) (by assumption) ?_
                    try simp only [Act.put, zps]
                    refine wpAnyH_take (i := 26) (oi := tC26) (v := undef) rfl (by kernel_rfl) (by kernel_rfl) (by kernel_rfl) (fun _ _ _ h => h) (Or.inr ⟨by rfl, rfl⟩) (by assumption) ?_
                    try simp only [Act.put, zps]
                    refine wpAnyH_take (i := 27) (oi := tC27) (v := undef) rfl (by kernel_rfl) (by kernel_rfl) (by kernel_rfl) (fun _ _ _ h => h) (Or.inr ⟨by rfl, rfl⟩) (by assumption) ?_
                    try simp only [Act.put, zps]
                    refine wpAnyH_take (i := 28) (oi := tC28) (v := undef) rfl (by kernel_rfl) (by kernel_rfl) (by kernel_rfl) (fun _ _ _ h => h) (Or.inr ⟨by rfl, rfl⟩) (by assumption) ?_
                    try simp only [Act.put, zps]
                    refine wpAnyH_take (i := 29) (oi := tC29) (v := undef) rfl (by kernel_rfl) (by kernel_rfl) (by kernel_rfl) (fun _ _ _ h => h) (Or.inr ⟨by rfl, rfl⟩) (by assumption) ?_
                    try simp only [Act.put, zps]
                    refine wpAnyH_take (i := 30) (oi := tC30) (v := undef) rfl (by kernel_rfl) (by kernel_rfl) (by kernel_rfl) (fun _ _ _ h => h) (Or.inr ⟨by rfl, rfl⟩) (by assumption) ?_
                    try simp only [Act.put, zps]
                    refine wpAnyH_take (i := 31) (oi := tC31) (v := undef) rfl (by kernel_rfl) (by kernel_rfl) (by kernel_rfl) (fun _ _ _ h => h) (Or.inr ⟨by rfl, rfl⟩) (by assumption) ?_
                    try simp only [Act.put, zps]
                    refine wpAnyH_take (i := 32) (oi := tC32) (v := undef) rfl (by kernel_rfl) (by kernel_rfl) (by kernel_rfl) (fun _ _ _ h => h) (Or.inr ⟨by rfl, rfl⟩) (by assumption) ?_
                    try simp only [Act.put, zps]
                    refine wtk (i := 33) (oi := tC33) (v := ?v33x1222) rfl ⟨by rfl, ?hy33x1222⟩ (by assumption) ?_
                    case hy33x1222 => (intro w s; (try dsimp only at s); first | (go_simp; with_reducible rfl) | go_simp)
                    try simp only [Act.put, zps]
                    refine wtk (i := 34) (oi := tC34) (v := ?v34x1223) rfl ⟨by rfl, ?hy34x1223⟩ (by assumption) ?_
                    case hy34x1223 => (intro w s; (try dsimp only at s); first | (go_simp; with_reducible rfl) | go_simp)
                    try simp only [Act.put, zps]
                    refine wtk (i := 35) (oi := tC35) (v := ?v35x1224) rfl ⟨by rfl, ?hy35x1224⟩ (by assumption) ?_
                    case hy35x1224 => (intro w s; (try dsimp only at s); first | (go_simp; with_reducible rfl) | go_simp)
                    try simp only [Act.put, zps]
                    refine wtk (i := 36) (oi := tC36) (v := ?v36x1225) rfl ⟨by rfl, ?hy36x1225⟩ (by assumption) ?_
                    case hy36x1225 => (intro w s; (try dsimp only at s); first | (go_simp; with_reducible rfl) | go_simp)
                    try simp only [Act.put, zps]
                    refine wpAnyH_done (by kernel_rfl) ?_ _
                    refine NoPanic.normal ?_
                    go_wp2
                    go_roundw
                    case rel => exact ⟨k + 1, true, by omega, by simp, rfl, hide ⟨fun _ => HV.out, fun _ => rfl⟩, HSd.out, HBd.out⟩
                    case measure => simp [intOf]; omega
                  | false =>
                    by_cases hV : ordI x.key y.e.val < 0
                    · have hin : inS y.e x.key := ⟨by omega, .inr hV⟩
                      have s0 : wr.drew.cell? ⟨qb, qo + j, none⟩ = some (.slice x.ka x.key.length x.kc) ∧ wr.drew.cell? ⟨b, off + k * 3, none⟩ = some (.slice y.ka y.e.key.length y.kc) ∧ wr.drew.cell? ⟨b, off + k * 3 + 1, none⟩ = some (.slice y.va y.e.val.length y.vc) ∧ wr.drew.cell? ⟨b, off + k * 3 + 2, none⟩ = some (.bool false) ∧ (convert 33 9 (.slice x.ka x.key.length x.kc)).run Try.prog wr.drew = .ok (.string (bk x.key)) wr.drew ∧ (convert 33 9 (.slice y.ka y.e.key.length y.kc)).run Try.prog wr.drew = .ok (.string (bk y.e.key)) wr.drew ∧ (convert 33 9 (.slice y.va y.e.val.length y.vc)).run Try.prog wr.drew = .ok (.string (bk y.e.val)) wr.drew := by
                        obtain ⟨b8, off8, e8, _, r0, r1, r2⟩ := HSd.out.ens.cells hy
                        cases e8
                        rw [hd] at r2
                        have oky := HSd.out.ens.each y (List.mem_of_getElem? hy)
                        exact ⟨HQ.out _ HBd.out, r0, r1, r2, text_inn (HX3.out.below HBd.out), text_inn oky.key, text_inn oky.val⟩
                      have l1 := text_less x.key y.e.key HX3.out.byts hok.key.byts
                      have e1 := text_eq x.key y.e.key HX3.out.byts hok.key.byts
                      rw [decide_eq_false hB] at l1
                      have l2 := text_less x.key y.e.val HX3.out.byts hok.val.byts
                      rw [decide_eq_true hV] at l2
                      have HV := hide ((HN1.out true (by simp [hin])).1 rfl)
                      clear hy hok hbs hbo HN1 c0 c1 c2 hin
                      go_wp2
                      refine wp_region_noPanic ?_
                      refine wp_region_held_drew (S := (fun W => W.cell? ⟨qb, qo + j, none⟩ = some (.slice x.ka x.key.length x.kc) ∧ W.cell? ⟨b, off + k * 3, none⟩ = some (.slice y.ka y.e.key.length y.kc) ∧ W.cell? ⟨b, off + k * 3 + 1, none⟩ = some (.slice y.va y.e.val.length y.vc) ∧ W.cell? ⟨b, off + k * 3 + 2, none⟩ = some (.bool false) ∧ (convert 33 9 (.slice x.ka x.key.length x.kc)).run Try.prog W = .ok (.string (bk x.key)) W ∧ (convert 33 9 (.slice y.ka y.e.key.length y.kc)).run Try.prog W = .ok (.string (bk y.e.key)) W ∧ (convert 33 9 (.slice y.va y.e.val.length y.vc)).run Try.prog W = .ok (.string (bk y.e.val)) W)) (by kernel_rfl) s0 (fun _hS => ?_)
                      refine wtk (i := 0) (oi := tD0) (v := ?v0x1301) rfl ⟨by rfl, ?hy0x1301⟩ (by assumption) ?_
                      case hy0x1301 => (intro w s; (try dsimp only at s); first | (go_simp; with_reducible rfl) | go_simp)
                      try simp only [Act.put, zps]
                      refine wtk (i := 1) (oi := tD1) (v := ?v1x1302) rfl ⟨by rfl, ?hy1x1302⟩ (by assumption) ?_
                      case hy1x1302 => (intro w s; (try dsimp only at s); first | (go_simp; with_reducible rfl) | go_simp)
                      try simp only [Act.put, zps]
                      refine wtk (i := 2) (oi := tD2) (v := ?v2x1303) rfl ⟨by rfl, ?hy2x1303⟩ (by assumption) ?_
                      case hy2x1303 => (intro w s; (try dsimp only at s); first | (go_simp; with_reducible rfl) | go_simp)
                      try simp only [Act.put, zps]
                      refine wtk (i := 3) (oi := tD3) (v := ?v3x1304) rfl ⟨by rfl, ?hy3x1304⟩ (by assumption) ?_
                      case hy3x1304 => (intro w s; (try dsimp only at s); first | (go_simp; with_reducible rfl) | go_simp)
                      try simp only [Act.put, zps]
                      refine wtk (i := 4) (oi := tD4) (v := ?v4x1305) rfl ⟨by rfl, ?hy4x1305⟩ (by assumption) ?_
                      case hy4x1305 => (intro w s; (try dsimp only at s); first | (go_simp; with_reducible rfl) | go_simp)
                      try simp only [Act.put, zps]
                      refine wtk (i := 5) (oi := tD5) (v := ?v5x1306) rfl ⟨by rfl, ?hy5x1306⟩ (by assumption) ?_
                      case hy5x1306 => (intro w s; (try dsimp only at s); first | (go_simp; with_reducible rfl) | go_simp)
                      try simp only [Act.put, zps]
                      refine wtk (i := 6) (oi := tD6) (v := ?v6x1307) rfl ⟨by rfl, ?hy6x1307⟩ (by assumption) ?_
                      case hy6x1307 => (intro w s; (try dsimp only at s); first | (go_simp; with_reducible rfl) | go_simp)
                      try simp only [Act.put, zps]
                      refine wtk (i := 7) (oi := tD7) (v := ?v7x1308) rfl ⟨by rfl, ?hy7x1308⟩ (by assumption) ?_
                      case hy7x1308 => (intro w s; (try dsimp only at s); first | (go_simp; with_reducible rfl) | go_simp)
                      try simp only [Act.put, zps]
                      refine wtk (i := 8) (oi := tD8) (v := ?v8x1309) rfl ⟨by rfl, ?hy8x1309⟩ (by assumption) ?_
                      case hy8x1309 => (intro w s; (try dsimp only at s); first | (go_simp; with_reducible rfl) | go_simp)
                      try simp only [Act.put, zps]
                      refine wtk (i := 9) (oi := tD9) (v := ?v9x1310) rfl ⟨by rfl, ?hy9x1310⟩ (by assumption) ?_
                      case hy9x1310 => (intro w s; (try dsimp only at s); first | (go_simp; with_reducible rfl) | go_simp)
                      try simp only [Act.put, zps]
                      refine wtk (i := 10) (oi := tD10) (v := ?v10x1311) rfl ⟨by rfl, ?hy10x1311⟩ (by assumption) ?_
                      case hy10x1311 => (intro w s; (try dsimp only at s); first | (go_simp; with_reducible rfl) | go_simp)
                      try simp only [Act.put, zps]
                      refine wtk (i := 11) (oi := tD11) (v := ?v11x1312) rfl ⟨by rfl, ?hy11x1312⟩ (by assumption) ?_
                      case hy11x1312 => (intro w s; (try dsimp only at s); first | (go_simp; with_reducible rfl) | go_simp)
                      try simp only [Act.put, zps]
                      refine wtk (i := 12) (oi := tD12) (v := ?v12x1313) rfl ⟨by rfl, ?hy12x1313⟩ (by assumption) ?_
                      case hy12x1313 => (intro w s; (try dsimp only at s); first | (go_simp; with_reducible rfl) | go_simp)
                      try simp only [Act.put, zps]
                      refine wtk (i := 13) (oi := tD13) (v := (.bool true)) rfl ⟨by rfl, ?hy13x1314⟩ (by assumption) ?_
                      case hy13x1314 => (intro w s; go_simp)
                      try simp only [Act.put, zps]
                      refine wtk (i := 14) (oi := tD14) (v := ?v14x1315) rfl ⟨by rfl, ?hy14x1315⟩ (by assumption) ?_
                      case hy14x1315 => (intro w s; (try dsimp only at s); first | (go_simp; with_reducible rfl) | go_simp)
                      try simp only [Act.put, zps]
                      refine wtk (i := 15) (oi := tD15) (v := ?v15x1316) rfl ⟨by rfl, ?hy15x1316⟩ (by assumption) ?_
                      case hy15x1316 => (intro w s; (try dsimp only at s); first | (go_simp; with_reducible rfl) | go_simp)
                      try simp only [Act.put, zps]
                      refine wtk (i := 16) (oi := tD16) (v := ?v16x1317) rfl ⟨by rfl, ?hy16x1317⟩ (by assumption) ?_
                      case hy16x1317 => (intro w s; (try dsimp only at s); first | (go_simp; with_reducible rfl) | go_simp)
                      try simp only [Act.put, zps]
                      refine wtk (i := 17) (oi := tD17) (v := ?v17x1318) rfl ⟨by rfl, ?hy17x1318⟩ (by assumption) ?_
                      case hy17x1318 => (intro w s; (try dsimp only at s); first | (go_simp; with_reducible rfl) | go_simp)
                      try simp only [Act.put, zps]
                      refine wtk (i := 18) (oi := tD18) (v := ?v18x1319) rfl ⟨by rfl, ?hy18x1319⟩ (by assumption) ?_
                      case hy18x1319 => (intro w s; (try dsimp only at s); first | (go_simp; with_reducible rfl) | go_simp)
                      try simp only [Act.put, zps]
                      refine wtk (i := 19) (oi := tD19) (v := ?v19x1320) rfl ⟨by rfl, ?hy19x1320⟩ (by assumption) ?_
                      case hy19x1320 => (intro w s; (try dsimp only at s); first | (go_simp; with_reducible rfl) | go_simp)
                      try simp only [Act.put, zps]
                      refine wtk (i := 20) (oi := tD20) (v := ?v20x1321) rfl ⟨by rfl, ?hy20x1321⟩ (by assumption) ?_
                      case hy20x1321 => (intro w s; (try dsimp only at s); first | (go_simp; with_reducible rfl) | go_simp)
                      try simp only [Act.put, zps]
                      refine wtk (i := 21) (oi := tD21) (v := ?v21x1322) rfl ⟨by rfl, ?hy21x1322⟩ (by assumption) ?_
                      case hy21x1322 => (intro w s; (try dsimp only at s); first | (go_simp; with_reducible rfl) | go_simp)
                      try simp only [Act.put, zps]
                      refine wtk (i := 22) (oi := tD22) (v := ?v22x1323) rfl ⟨by rfl, ?hy22x1323⟩ (by assumption) ?_
                      case hy22x1323 => (intro w s; (try dsimp only at s); first | (go_simp; with_reducible rfl) | go_simp)
                      try simp only [Act.put, zps]
                      refine wtk (i := 23) (oi := tD23) (v := ?v23x1324) rfl ⟨by rfl, ?hy23x1324⟩ (by assumption) ?_
                      case hy23x1324 => (intro w s; (try dsimp only at s); first | (go_simp; with_reducible rfl) | go_simp)
                      try simp only [Act.put, zps]
                      refine wtk (i := 24) (oi := tD24) (v := ?v24x1325) rfl ⟨by rfl, ?hy24x1325⟩ (by assumption) ?_
                      case hy24x1325 => (intro w s; (try dsimp only at s); first | (go_simp; with_reducible rfl) | go_simp)
                      try simp only [Act.put, zps]
                      refine wtk (i := 25) (oi := tD25) (v := ?v25x1326) rfl ⟨by rfl, ?hy25x1326⟩ (by assumption) ?_
                      case hy25x1326 => (intro w s; (try dsimp only at s); first | (go_simp; with_reducible rfl) | go_simp)
                      try simp only [Act.put, zps]
                      refine wtk (i := 26) (oi := tD26) (v := ?v26x1327) rfl ⟨by rfl, ?hy26x1327⟩ (by assumption) ?_
                      case hy26x1327 => (intro w s; (try dsimp only at s); first | (go_simp; with_reducible rfl) | go_simp)
                      try simp only [Act.put, zps]
                      refine wtk (i := 27) (oi := tD27) (v := ?v27x1328) rfl ⟨by rfl, ?hy27x1328⟩ (by assumption) ?_
                      case hy27x1328 => (intro w s; (try dsimp only at s); first | (go_simp; with_reducible rfl) | go_simp)
                      try simp only [Act.put, zps]
                      refine wtk (i := 28) (oi := tD28) (v := ?v28x1329) rfl ⟨by rfl, ?hy28x1329⟩ (by assumption) ?_
                      case hy28x1329 => (intro w s; (try dsimp only at s); first | (go_simp; with_reducible rfl) | go_simp)
                      try simp only [Act.put, zps]
                      refine wtk (i := 29) (oi := tD29) (v := ?v29x1330) rfl ⟨by rfl, ?hy29x1330⟩ (by assumption) ?_
                      case hy29x1330 => (intro w s; (try dsimp only at s); first | (go_simp; with_reducible rfl) | go_simp)
                      try simp only [Act.put, zps]
                      refine wtk (i := 30) (oi := tD30) (v := ?v30x1331) rfl ⟨by rfl, ?hy30x1331⟩ (by assumption) ?_
                      case hy30x1331 => (intro w s; (try dsimp only at s); first | (go_simp; with_reducible rfl) | go_simp)
                      try simp only [Act.put, zps]
                      refine wtk (i := 31) (oi := tD31) (v := ?v31x1332) rfl ⟨by rfl, ?hy31x1332⟩ (by assumption) ?_
                      case hy31x1332 => (intro w s; (try dsimp only at s); first | (go_simp; with_reducible rfl) | go_simp)
                      try simp only [Act.put, zps]
                      refine wtk (i := 32) (oi := tD32) (v := (.bool true)) rfl ⟨by rfl, ?hy32x1333⟩ (by assumption) ?_
                      case hy32x1333 => (intro w s; go_simp)
                      try simp only [Act.put, zps]
                      refine wtk (i := 33) (oi := tD33) (v := ?v33x1334) rfl ⟨by rfl, ?hy33x1334⟩ (by assumption) ?_
                      case hy33x1334 => (intro w s; (try dsimp only at s); first | (go_simp; with_reducible rfl) | go_simp)
                      try simp only [Act.put, zps]
                      refine wtk (i := 34) (oi := tD34) (v := ?v34x1335) rfl ⟨by rfl, ?hy34x1335⟩ (by assumption) ?_
                      case hy34x1335 => (intro w s; (try dsimp only at s); first | (go_simp; with_reducible rfl) | go_simp)
                      try simp only [Act.put, zps]
                      refine wtk (i := 35) (oi := tD35) (v := ?v35x1336) rfl ⟨by rfl, ?hy35x1336⟩ (by assumption) ?_
                      case hy35x1336 => (intro w s; (try dsimp only at s); first | (go_simp; with_reducible rfl) | go_simp)
                      try simp only [Act.put, zps]
                      refine wtk (i := 36) (oi := tD36) (v := ?v36x1337) rfl ⟨by rfl, ?hy36x1337⟩ (by assumption) ?_
                      case hy36x1337 => (intro w s; (try dsimp only at s); first | (go_simp; with_reducible rfl) | go_simp)
                      try simp only [Act.put, zps]
                      refine wpAnyH_done (by kernel_rfl) ?_ _
                      refine NoPanic.normal ?_
                      go_wp2
                      go_roundw
                      case rel => exact ⟨k + 1, true, by omega, by simp, rfl, hide ⟨fun _ => HV.out, fun _ => rfl⟩, HSd.out, HBd.out⟩
                      case measure => simp [intOf]; omega
                    · have hin : ¬ inS y.e x.key := fun h => h.2.elim (fun e => by rw [hd] at e; cases e) hV
                      have s0 : wr.drew.cell? ⟨qb, qo + j, none⟩ = some (.slice x.ka x.key.length x.kc) ∧ wr.drew.cell? ⟨b, off + k * 3, none⟩ = some (.slice y.ka y.e.key.length y.kc) ∧ wr.drew.cell? ⟨b, off + k * 3 + 1, none⟩ = some (.slice y.va y.e.val.length y.vc) ∧ wr.drew.cell? ⟨b, off + k * 3 + 2, none⟩ = some (.bool false) ∧ (convert 33 9 (.slice x.ka x.key.length x.kc)).run Try.prog wr.drew = .ok (.string (bk x.key)) wr.drew ∧ (convert 33 9 (.slice y.ka y.e.key.length y.kc)).run Try.prog wr.drew = .ok (.string (bk y.e.key)) wr.drew ∧ (convert 33 9 (.slice y.va y.e.val.length y.vc)).run Try.prog wr.drew = .ok (.string (bk y.e.val)) wr.drew := by
                        obtain ⟨b8, off8, e8, _, r0, r1, r2⟩ := HSd.out.ens.cells hy
                        cases e8
                        rw [hd] at r2
                        have oky := HSd.out.ens.each y (List.mem_of_getElem? hy)
                        exact ⟨HQ.out _ HBd.out, r0, r1, r2, text_inn (HX3.out.below HBd.out), text_inn oky.key, text_inn oky.val⟩
                      have l1 := text_less x.key y.e.key HX3.out.byts hok.key.byts
                      have e1 := text_eq x.key y.e.key HX3.out.byts hok.key.byts
                      rw [decide_eq_false hB] at l1
                      have l2 := text_less x.key y.e.val HX3.out.byts hok.val.byts
                      rw [decide_eq_false hV] at l2
                      have HV : Hid (¬ U (ers (ys.take (k + 1))) x.key) := hide fun h => by have := (HN1.out false (by simp [hin])).2 h; cases this
                      clear hy hok hbs hbo HN1 c0 c1 c2 hin
                      go_wp2
                      refine wp_region_noPanic ?_
                      refine wp_region_held_drew (S := (fun W => W.cell? ⟨qb, qo + j, none⟩ = some (.slice x.ka x.key.length x.kc) ∧ W.cell? ⟨b, off + k * 3, none⟩ = some (.slice y.ka y.e.key.length y.kc) ∧ W.cell? ⟨b, off + k * 3 + 1, none⟩ = some (.slice y.va y.e.val.length y.vc) ∧ W.cell? ⟨b, off + k * 3 + 2, none⟩ = some (.bool false) ∧ (convert 33 9 (.slice x.ka x.key.length x.kc)).run Try.prog W = .ok (.string (bk x.key)) W ∧ (convert 33 9 (.slice y.ka y.e.key.length y.kc)).run Try.prog W = .ok (.string (bk y.e.key)) W ∧ (convert 33 9 (.slice y.va y.e.val.length y.vc)).run Try.prog W = .ok (.string (bk y.e.val)) W)) (by kernel_rfl) s0 (fun _hS => ?_)
                      refine wtk (i := 0) (oi := tE0) (v := ?v0x1401) rfl ⟨by rfl, ?hy0x1401⟩ (by assumption) ?_
                      case hy0x1401 => (intro w s; (try dsimp only at s); first | (go_simp; with_reducible rfl) | go_simp)
                      try simp only [Act.put, zps]
                      refine wtk (i := 1) (oi := tE1) (v := ?v1x1402) rfl ⟨by rfl, ?hy1x1402⟩ (by assumption) ?_
                      case hy1x1402 => (intro w s; (try dsimp only at s); first | (go_simp; with_reducible rfl) | go_simp)
                      try simp only [Act.put, zps]
                      refine wtk (i := 2) (oi := tE2) (v := ?v2x1403) rfl ⟨by rfl, ?hy2x1403⟩ (by assumption) ?_
                      case hy2x1403 => (intro w s; (try dsimp only at s); first | (go_simp; with_reducible rfl) | go_simp)
                      try simp only [Act.put, zps]
                      refine wtk (i := 3) (oi := tE3) (v := ?v3x1404) rfl ⟨by rfl, ?hy3x1404⟩ (by assumption) ?_
                      case hy3x1404 => (intro w s; (try dsimp only at s); first | (go_simp; with_reducible rfl) | go_simp)
                      try simp only [Act.put, zps]
                      refine wtk (i := 4) (oi := tE4) (v := ?v4x1405) rfl ⟨by rfl, ?hy4x1405⟩ (by assumption) ?_
                      case hy4x1405 => (intro w s; (try dsimp only at s); first | (go_simp; with_reducible rfl) | go_simp)
                      try simp only [Act.put, zps]
                      refine wtk (i := 5) (oi := tE5) (v := ?v5x1406) rfl ⟨by rfl, ?hy5x1406⟩ (by assumption) ?_
                      case hy5x1406 => (intro w s; (try dsimp only at s); first | (go_simp; with_reducible rfl) | go_simp)
                      try simp only [Act.put, zps]
                      refine wtk (i := 6) (oi := tE6) (v := ?v6x1407) rfl ⟨by rfl, ?hy6x1407⟩ (by assumption) ?_
                      case hy6x1407 => (intro w s; (try dsimp only at s); first | (go_simp; with_reducible rfl) | go_simp)
                      try simp only [Act.put, zps]
                      refine wtk (i := 7) (oi := tE7) (v := ?v7x1408) rfl ⟨by rfl, ?hy7x1408⟩ (by assumption) ?_
                      case hy7x1408 => (intro w s; (try dsimp only at s); first | (go_simp; with_reducible rfl) | go_simp)
                      try simp only [Act.put, zps]
                      refine wtk (i := 8) (oi := tE8) (v := ?v8x1409) rfl ⟨by rfl, ?hy8x1409⟩ (by assumption) ?_
                      case hy8x1409 => (intro w s; (try dsimp only at s); first | (go_simp; with_reducible rfl) | go_simp)
                      try simp only [Act.put, zps]
                      refine wtk (i := 9) (oi := tE9) (v := ?v9x1410) rfl ⟨by rfl, ?hy9x1410⟩ (by assumption) ?_
                      case hy9x1410 => (intro w s; (try dsimp only at s); first | (go_simp; with_reducible rfl) | go_simp)
                      try simp only [Act.put, zps]
                      refine wtk (i := 10) (oi := tE10) (v := ?v10x1411) rfl ⟨by rfl, ?hy10x1411⟩ (by assumption) ?_
                      case hy10x1411 => (intro w s; (try dsimp only at s); first | (go_simp; with_reducible rfl) | go_simp)
                      try simp only [Act.put, zps]
                      refine wtk (i := 11) (oi := tE11) (v := ?v11x1412) rfl ⟨by rfl, ?hy11x1412⟩ (by assumption) ?_
                      case hy11x1412 => (intro w s; (try dsimp only at s); first | (go_simp; with_reducible rfl) | go_simp)
                      try simp only [Act.put, zps]
                      refine wtk (i := 12) (oi := tE12) (v := ?v12x1413) rfl ⟨by rfl, ?hy12x1413⟩ (by assumption) ?_
                      case hy12x1413 => (intro w s; (try dsimp only at s); first | (go_simp; with_reducible rfl) | go_simp)
                      try simp only [Act.put, zps]
                      refine wtk (i := 13) (oi := tE13) (v := (.bool true)) rfl ⟨by rfl, ?hy13x1414⟩ (by assumption) ?_
                      case hy13x1414 => (intro w s; go_simp)
                      try simp only [Act.put, zps]
                      refine wtk (i := 14) (oi := tE14) (v := ?v14x1415) rfl ⟨by rfl, ?hy14x1415⟩ (by assumption) ?_
                      case hy14x1415 => (intro w s; (try dsimp only at s); first | (go_simp; with_reducible rfl) | go_simp)
                      try simp only [Act.put, zps]
                      refine wtk (i := 15) (oi := tE15) (v := ?v15x1416) rfl ⟨by rfl, ?hy15x1416⟩ (by assumption) ?_
                      case hy15x1416 => (intro w s; (try dsimp only at s); first | (go_simp; with_reducible rfl) | go_simp)
                      try simp only [Act.put, zps]
                      refine wtk (i := 16) (oi := tE16) (v := ?v16x1417) rfl ⟨by rfl, ?hy16x1417⟩ (by assumption) ?_
                      case hy16x1417 => (intro w s; (try dsimp only at s); first | (go_simp; with_reducible rfl) | go_simp)
                      try simp only [Act.put, zps]
                      refine wtk (i := 17) (oi := tE17) (v := ?v17x1418) rfl ⟨by rfl, ?hy17x1418⟩ (by assumption) ?_
                      case hy17x1418 => (intro w s; (try dsimp only at s); first | (go_simp; with_reducible rfl) | go_simp)
                      try simp only [Act.put, zps]
                      refine wtk (i := 18) (oi := tE18) (v := ?v18x1419) rfl ⟨by rfl, ?hy18x1419⟩ (by assumption) ?_
                      case hy18x1419 => (intro w s; (try dsimp only at s); first | (go_simp; with_reducible rfl) | go_simp)
                      try simp only [Act.put, zps]
                      refine wtk (i := 19) (oi := tE19) (v := ?v19x1420) rfl ⟨by rfl, ?hy19x1420⟩ (by assumption) ?_
                      case hy19x1420 => (intro w s; (try dsimp only at s); first | (go_simp; with_reducible rfl) | go_simp)
                      try simp only [Act.put, zps]
                      refine wtk (i := 20) (oi := tE20) (v := ?v20x1421) rfl ⟨by rfl, ?hy20x1421⟩ (by assumption) ?_
                      case hy20x1421 => (intro w s; (try dsimp only at s); first | (go_simp; with_reducible rfl) | go_simp)
                      try simp only [Act.put, zps]
                      refine wtk (i := 21) (oi := tE21) (v := ?v21x1422) rfl ⟨by rfl, ?hy21x1422⟩ (by assumption) ?_
                      case hy21x1422 => (intro w s; (try dsimp only at s); first | (go_simp; with_reducible rfl) | go_simp)
                      try simp only [Act.put, zps]
                      refine wtk (i := 22) (oi := tE22) (v := ?v22x1423) rfl ⟨by rfl, ?hy22x1423⟩ (by assumption) ?_
                      case hy22x1423 => (intro w s; (try dsimp only at s); first | (go_simp; with_reducible rfl) | go_simp)
                      try simp only [Act.put, zps]
                      refine wtk (i := 23) (oi := tE23) (v := ?v23x1424) rfl ⟨by rfl, ?hy23x1424⟩ (by assumption) ?_
                      case hy23x1424 => (intro w s; (try dsimp only at s); first | (go_simp; with_reducible rfl) | go_simp)
                      try simp only [Act.put, zps]
                      refine wtk (i := 24) (oi := tE24) (v := ?v24x1425) rfl ⟨by rfl, ?hy24x1425⟩ (by assumption) ?_
                      case hy24x1425 => (intro w s; (try dsimp only at s); first | (go_simp; with_reducible rfl) | go_simp)
                      try simp only [Act.put, zps]
                      refine wtk (i := 25) (oi := tE25) (v := ?v25x1426) rfl ⟨by rfl, ?hy25x1426⟩ (by assumption) ?_
                      case hy25x1426 => (intro w s; (try dsimp only at s); first | (go_simp; with_reducible rfl) | go_simp)
                      try simp only [Act.put, zps]
                      refine wtk (i := 26) (oi := tE26) (v := ?v26x1427) rfl ⟨by rfl, ?hy26x1427⟩ (by assumption) ?_
                      case hy26x1427 => (intro w s; (try dsimp only at s); first | (go_simp; with_reducible rfl) | go_simp)
                      try simp only [Act.put, zps]
                      refine wtk (i := 27) (oi := tE27) (v := ?v27x1428) rfl ⟨by rfl, ?hy27x1428⟩ (by assumption) ?_
                      case hy27x1428 => (intro w s; (try dsimp only at s); first | (go_simp; with_reducible rfl) | go_simp)
                      try simp only [Act.put, zps]
                      refine wtk (i := 28) (oi := tE28) (v := ?v28x1429) rfl ⟨by rfl, ?hy28x1429⟩ (by assumption) ?_
                      case hy28x1429 => (intro w s; (try dsimp only at s); first | (go_simp; with_reducible rfl) | go_simp)
                      try simp only [Act.put, zps]
                      refine wtk (i := 29) (oi := tE29) (v := ?v29x1430) rfl ⟨by rfl, ?hy29x1430⟩ (by assumption) ?_
                      case hy29x1430 => (intro w s; (try dsimp only at s); first | (go_simp; with_reducible rfl) | go_simp)
                      try simp only [Act.put, zps]
                      refine wtk (i := 30) (oi := tE30) (v := ?v30x1431) rfl ⟨by rfl, ?hy30x1431⟩ (by assumption) ?_
                      case hy30x1431 => (intro w s; (try dsimp only at s); first | (go_simp; with_reducible rfl) | go_simp)
                      try simp only [Act.put, zps]
                      refine wtk (i := 31) (oi := tE31) (v := ?v31x1432) rfl ⟨by rfl, ?hy31x1432⟩ (by assumption) ?_
                      case hy31x1432 => (intro w s; (try dsimp only at s); first | (go_simp; with_reducible rfl) | go_simp)
                      try simp only [Act.put, zps]
                      refine wtk (i := 32) (oi := tE32) (v := (.bool false)) rfl ⟨by rfl, ?hy32x1433⟩ (by assumption) ?_
                      case hy32x1433 => (intro w s; go_simp)
                      try simp only [Act.put, zps]
                      refine wtk (i := 33) (oi := tE33) (v := ?v33x1434) rfl ⟨by rfl, ?hy33x1434⟩ (by assumption) ?_
                      case hy33x1434 => (intro w s; (try dsimp only at s); first | (go_simp; with_reducible rfl) | go_simp)
                      try simp only [Act.put, zps]
                      refine wtk (i := 34) (oi := tE34) (v := ?v34x1435) rfl ⟨by rfl, ?hy34x1435⟩ (by assumption) ?_
                      case hy34x1435 => (intro w s; (try dsimp only at s); first | (go_simp; with_reducible rfl) | go_simp)
                      try simp only [Act.put, zps]
                      refine wtk (i := 35) (oi := tE35) (v := ?v35x1436) rfl ⟨by rfl, ?hy35x1436⟩ (by assumption) ?_
                      case hy35x1436 => (intro w s; (try dsimp only at s); first | (go_simp; with_reducible rfl) | go_simp)
                      try simp only [Act.put, zps]
                      refine wtk (i := 36) (oi := tE36) (v := ?v36x1437) rfl ⟨by rfl, ?hy36x1437⟩ (by assumption) ?_
                      case hy36x1437 => (intro w s; (try dsimp only at s); first | (go_simp; with_reducible rfl) | go_simp)
                      try simp only [Act.put, zps]
                      refine wpAnyH_done (by kernel_rfl) ?_ _
                      refine NoPanic.normal ?_
                      go_wp2
                      go_roundw
                      case rel => exact ⟨k + 1, false, by omega, by simp, rfl, hide ⟨fun h => (by cases h), fun h => absurd h HV.out⟩, HSd.out, HBd.out⟩
                      case measure => simp [intOf]; omega
            · have hke : k = i := by omega
              subst hke
              have hub : bo = true ↔ U L x.key := by
                rw [hbo.out, List.take_of_length_le (by have := HN.out; omega)]
                exact HU.out _
              have f4 : ¬ (k : Int) < (k : Int) := by omega
              have s0 := HQ.out _ HBk.out
              have HHs := hide (HSk.out.has_lo HBk.out hn1 HX3.out hub)
              clear hbo
              cases bo with
              | false =>
                clear hub
                go_wp2_with fail
                refine HHs.out.mono ?_
                rintro e w8 ⟨rfl, hs8, hb8, -, -⟩
                have HS8 := hide hs8
                have HB8 := hide (HBk.out.trans hb8)
                clear hs8 hb8
                go_wp2
                go_roundw
                case rel => exact ⟨j + 1, by omega, by simp, HS8.out, HB8.out⟩
                case measure => simp [intOf]; omega
              | true =>
                have HUx := hide (hub.1 rfl)
                clear hub
                go_wp2_with fail
                refine HHs.out.mono ?_
                rintro e w8 ⟨rfl, hs8, hb8, -, -⟩
                have HS8 := hide hs8
                have HB8 := hide (HBk.out.trans hb8)
                have HMt := hide (hs8.meets_lo HB8.out hn1 HA3.out (b := true) (by simp; exact ⟨x, HXm.out, HUx.out⟩))
                clear hs8 hb8
                go_wp2_with fail
                refine HMt.out.mono ?_
                rintro e w9 ⟨rfl, hs9, hb9, -, -⟩
                have HS9 := hide hs9
                have HB9 := hide (HB8.out.trans hb9)
                clear hs9 hb9
                go_wp2
                go_roundw
                case rel => exact ⟨j + 1, by omega, by simp, HS9.out, HB9.out⟩
                case measure => simp [intOf]; omega
        · have hje : j = an := by omega
          have f2 : ¬ (j : Int) < (an : Int) := by omega
          go_wp2
          go_loopw [16] (fun vi wr' => ∃ (m : Nat), m ≤ kn ∧ vi = .int .i64 (m : Int) ∧ Sa wr' w3.heap.size p L C a c ys (fun _ => False) ∧ Below w3.heap.size w3 wr') (fun vi _ => (kn : Int).toNat - (intOf vi).toNat)
          case atStart => exact ⟨0, Nat.zero_le _, rfl, HSj.out, HBj.out⟩
          case round =>
            obtain ⟨m, hm, rfl, hsa, hb⟩ := hrel
            have HSm := hide hsa
            have HBm := hide hb
            clear hsa hb
            by_cases hmn : m < kn
            · obtain ⟨x, kb, ko, hx, rfl, hks, c0, hxo⟩ := HK3.out.at hmn
              have s0 : _ = _ := (HBm.out.cell (p := ⟨kb, ko + m, none⟩) hks).trans c0
              have HHs := hide (HSm.out.has_lo HBm.out hn1 hxo (b := true) (by simp; exact (HUa.out _).2 (.inr ⟨x, List.mem_of_getElem? hx, kspan_in x⟩)))
              have f4 : (m : Int) < (kn : Int) := by omega
              have f5 : (0 : Int) ≤ (m : Int) := by omega
              have e6 : IntKind.i64.wrap ((m : Int) + 1) = (m : Int) + 1 := by rw [IntKind.wrap_i64] <;> omega
              clear hx hxo c0 hks
              go_wp2_with fail
              refine HHs.out.mono ?_
              rintro e w8 ⟨rfl, hs8, hb8, -, -⟩
              have HS8 := hide hs8
              have HB8 := hide (HBm.out.trans hb8)
              clear hs8 hb8
              go_wp2
              go_roundw
              case rel => exact ⟨m + 1, by omega, by simp, HS8.out, HB8.out⟩
              case measure => simp [intOf]; omega
            · have f4 : ¬ (m : Int) < (kn : Int) := by omega
              go_wp2
              go_ret
              exact ⟨rfl, HB3.out.trans (HBm.out.mono HB3.out.size)⟩
end Go.Proofs.Ytpoanlbjhhlagaa
