/- One act is done: the contract. -/
import Derived.Test.YtgohhlngnnmknaaE
import Derived.Test.YtgohhlngnnmknaaZK
namespace Go.Proofs.Ytgohhlngnnmknaa
open Go.RowKit Go.Maps
set_option linter.unusedVariables false
abbrev zozgx1 : Oper := { dst := some 30, op := Op.fieldAddr 62 (Operand.tmp 8) 1, type := 0, pos := "law.go:88", after := #[], guard := none }
abbrev zozgx2 : Oper := { dst := some 31, op := Op.load 60 (Operand.tmp 30), type := 60, pos := "law.go:88", after := #[{ on := 0, ground := Ground.data }], guard := none }
abbrev zozgx3 : Oper := { dst := some 33, op := Op.fieldAddr 62 (Operand.tmp 8) 2, type := 0, pos := "law.go:88", after := #[], guard := none }
abbrev zozgx4 : Oper := { dst := some 34, op := Op.load 60 (Operand.tmp 33), type := 60, pos := "law.go:88", after := #[{ on := 3, ground := Ground.data }], guard := none }
abbrev zozgx5 : Oper := { dst := some 32, op := Op.call { callee := Callee.value (Operand.func 24), args := #[Operand.tmp 31], argTypes := #[60] }, type := 60, pos := "law.go:88", after := #[{ on := 1, ground := Ground.data }], guard := none }
abbrev zozgx6 : Oper := { dst := some 35, op := Op.call { callee := Callee.value (Operand.func 24), args := #[Operand.tmp 34], argTypes := #[60] }, type := 60, pos := "law.go:88", after := #[{ on := 4, ground := Ground.data }, { on := 2, ground := Ground.chain }], guard := none }
abbrev zozgx7 : Oper := { dst := some 11, op := Op.assign (Operand.tmp 32), type := 60, pos := "law.go:88", after := #[{ on := 2, ground := Ground.data }, { on := 5, ground := Ground.chain }, { on := 0, ground := Ground.phase }, { on := 1, ground := Ground.phase }, { on := 2, ground := Ground.phase }, { on := 3, ground := Ground.textOnly Departure.lateStores }, { on := 4, ground := Ground.textOnly Departure.lateStores }, { on := 5, ground := Ground.textOnly Departure.lateStoresUnsure }], guard := none }
abbrev zozgx8 : Oper := { dst := some 12, op := Op.assign (Operand.tmp 35), type := 60, pos := "law.go:88", after := #[{ on := 5, ground := Ground.data }, { on := 6, ground := Ground.chain }, { on := 0, ground := Ground.phase }, { on := 1, ground := Ground.phase }, { on := 2, ground := Ground.phase }, { on := 3, ground := Ground.phase }, { on := 4, ground := Ground.phase }, { on := 5, ground := Ground.phase }, { on := 6, ground := Ground.phase }], guard := none }
abbrev zozgx9 : Oper := { dst := some 241, op := Op.move (Operand.tmp 13), type := 4, pos := "law.go:127", after := #[], guard := none }
abbrev zozgx10 : Oper := { dst := some 242, op := Op.move (Operand.tmp 241), type := 4, pos := "law.go:127", after := #[{ on := 0, ground := Ground.data }], guard := none }
abbrev zozgx11 : Oper := { dst := some 243, op := Op.move (Operand.tmp 29), type := 4, pos := "law.go:127", after := #[{ on := 1, ground := Ground.guard }], guard := some (1, true) }
abbrev zozgx12 : Oper := { dst := some 244, op := Op.pick (Operand.tmp 242) (Operand.tmp 243) (Operand.const (Value.bool false)), type := 4, pos := "law.go:127", after := #[{ on := 1, ground := Ground.data }, { on := 2, ground := Ground.data }], guard := none }
abbrev zozgx13 : Oper := { dst := some 245, op := Op.move (Operand.tmp 244), type := 4, pos := "law.go:127", after := #[{ on := 3, ground := Ground.data }, { on := 1, ground := Ground.chain }], guard := none }
abbrev zozgx14 : Oper := { dst := some 246, op := Op.move (Operand.tmp 0), type := 25, pos := "law.go:127", after := #[{ on := 4, ground := Ground.guard }], guard := some (4, true) }
abbrev zozgx15 : Oper := { dst := some 248, op := Op.move (Operand.tmp 1), type := 29, pos := "law.go:127", after := #[{ on := 4, ground := Ground.guard }], guard := some (4, true) }
abbrev zozgx16 : Oper := { dst := some 247, op := Op.call { callee := Callee.value (Operand.func 20), args := #[Operand.tmp 246], argTypes := #[25] }, type := 3, pos := "law.go:127", after := #[{ on := 5, ground := Ground.data }, { on := 4, ground := Ground.chain }, { on := 4, ground := Ground.guard }], guard := some (4, true) }
abbrev zozgx17 : Oper := { dst := some 249, op := Op.call { callee := Callee.value (Operand.func 12), args := #[Operand.tmp 248], argTypes := #[29] }, type := 30, pos := "law.go:127", after := #[{ on := 7, ground := Ground.data }, { on := 6, ground := Ground.chain }, { on := 4, ground := Ground.guard }], guard := some (4, true) }
abbrev zozgx18 : Oper := { dst := some 250, op := Op.call { callee := Callee.builtin Builtin.len, args := #[Operand.tmp 249], argTypes := #[30] }, type := 3, pos := "law.go:127", after := #[{ on := 8, ground := Ground.data }, { on := 4, ground := Ground.guard }], guard := some (4, true) }
abbrev zozgx19 : Oper := { dst := some 251, op := Op.binOp BinOp.eql 3 (Operand.tmp 247) (Operand.tmp 250) 3, type := 4, pos := "law.go:127", after := #[{ on := 6, ground := Ground.data }, { on := 9, ground := Ground.data }, { on := 4, ground := Ground.guard }], guard := some (4, true) }
abbrev zozgx20 : Oper := { dst := some 252, op := Op.pick (Operand.tmp 245) (Operand.tmp 251) (Operand.const (Value.bool false)), type := 4, pos := "law.go:127", after := #[{ on := 4, ground := Ground.data }, { on := 10, ground := Ground.data }], guard := none }
abbrev zozgx21 : Oper := { dst := some 253, op := Op.move (Operand.tmp 252), type := 4, pos := "law.go:127", after := #[{ on := 11, ground := Ground.data }, { on := 8, ground := Ground.chain }], guard := none }
abbrev zozgx22 : Oper := { dst := some 254, op := Op.move (Operand.tmp 0), type := 25, pos := "law.go:127", after := #[{ on := 12, ground := Ground.guard }], guard := some (12, true) }
abbrev zozgx23 : Oper := { dst := some 256, op := Op.move (Operand.tmp 1), type := 29, pos := "law.go:127", after := #[{ on := 12, ground := Ground.guard }], guard := some (12, true) }
abbrev zozgx24 : Oper := { dst := some 257, op := Op.nilCheck (Operand.tmp 256), type := 0, pos := "law.go:127", after := #[{ on := 15, ground := Ground.data }, { on := 12, ground := Ground.guard }], guard := some (12, true) }
abbrev zozgx25 : Oper := { dst := some 258, op := Op.fieldAddr 32 (Operand.tmp 257) 0, type := 0, pos := "law.go:127", after := #[{ on := 16, ground := Ground.data }, { on := 12, ground := Ground.guard }], guard := some (12, true) }
abbrev zozgx26 : Oper := { dst := some 259, op := Op.load 30 (Operand.tmp 258), type := 30, pos := "law.go:127", after := #[{ on := 17, ground := Ground.data }, { on := 12, ground := Ground.guard }], guard := some (12, true) }
abbrev zozgx27 : Oper := { dst := some 260, op := Op.call { callee := Callee.builtin Builtin.len, args := #[Operand.tmp 259], argTypes := #[30] }, type := 3, pos := "law.go:127", after := #[{ on := 18, ground := Ground.data }, { on := 12, ground := Ground.guard }], guard := some (12, true) }
abbrev zozgx28 : Oper := { dst := some 255, op := Op.call { callee := Callee.value (Operand.func 21), args := #[Operand.tmp 254], argTypes := #[25] }, type := 3, pos := "law.go:127", after := #[{ on := 13, ground := Ground.data }, { on := 12, ground := Ground.chain }, { on := 12, ground := Ground.guard }], guard := some (12, true) }
abbrev zozgx29 : Oper := { dst := some 261, op := Op.binOp BinOp.eql 3 (Operand.tmp 255) (Operand.tmp 260) 3, type := 4, pos := "law.go:127", after := #[{ on := 14, ground := Ground.data }, { on := 19, ground := Ground.data }, { on := 12, ground := Ground.guard }], guard := some (12, true) }
abbrev zozgx30 : Oper := { dst := some 262, op := Op.pick (Operand.tmp 253) (Operand.tmp 261) (Operand.const (Value.bool false)), type := 4, pos := "law.go:127", after := #[{ on := 12, ground := Ground.data }, { on := 20, ground := Ground.data }], guard := none }
abbrev zozgx31 : Oper := { dst := some 10, op := Op.assign (Operand.tmp 262), type := 4, pos := "law.go:127", after := #[{ on := 21, ground := Ground.data }, { on := 14, ground := Ground.chain }, { on := 0, ground := Ground.phase }, { on := 1, ground := Ground.phase }, { on := 2, ground := Ground.phase }, { on := 3, ground := Ground.phase }, { on := 4, ground := Ground.phase }, { on := 5, ground := Ground.phase }, { on := 6, ground := Ground.phase }, { on := 7, ground := Ground.phase }, { on := 8, ground := Ground.phase }, { on := 9, ground := Ground.phase }, { on := 10, ground := Ground.phase }, { on := 11, ground := Ground.phase }, { on := 12, ground := Ground.phase }, { on := 13, ground := Ground.phase }, { on := 14, ground := Ground.phase }, { on := 15, ground := Ground.phase }, { on := 16, ground := Ground.phase }, { on := 17, ground := Ground.phase }, { on := 18, ground := Ground.phase }, { on := 19, ground := Ground.phase }, { on := 20, ground := Ground.phase }, { on := 21, ground := Ground.phase }], guard := none }
abbrev zozgx32 : Oper := { dst := some 207, op := Op.move (Operand.tmp 0), type := 25, pos := "law.go:114", after := #[], guard := none }
abbrev zozgx33 : Oper := { dst := some 209, op := Op.move (Operand.tmp 1), type := 29, pos := "law.go:114", after := #[], guard := none }
abbrev zozgx34 : Oper := { dst := some 210, op := Op.nilCheck (Operand.tmp 209), type := 0, pos := "law.go:114", after := #[{ on := 2, ground := Ground.data }], guard := none }
abbrev zozgx35 : Oper := { dst := some 211, op := Op.fieldAddr 32 (Operand.tmp 210) 0, type := 0, pos := "law.go:114", after := #[{ on := 3, ground := Ground.data }], guard := none }
abbrev zozgx36 : Oper := { dst := some 208, op := Op.call { callee := Callee.value (Operand.func 21), args := #[Operand.tmp 207], argTypes := #[25] }, type := 3, pos := "law.go:114", after := #[{ on := 0, ground := Ground.data }], guard := none }
abbrev zozgx37 : Oper := { dst := some 212, op := Op.load 30 (Operand.tmp 211), type := 30, pos := "law.go:114", after := #[{ on := 4, ground := Ground.data }], guard := none }
abbrev zozgx38 : Oper := { dst := some 213, op := Op.call { callee := Callee.builtin Builtin.len, args := #[Operand.tmp 212], argTypes := #[30] }, type := 3, pos := "law.go:114", after := #[{ on := 5, ground := Ground.data }], guard := none }
abbrev zozgx39 : Oper := { dst := some 214, op := Op.binOp BinOp.eql 3 (Operand.tmp 208) (Operand.tmp 213) 3, type := 4, pos := "law.go:114", after := #[{ on := 1, ground := Ground.data }, { on := 6, ground := Ground.data }], guard := none }
abbrev zozgx40 : Oper := { dst := some 215, op := Op.move (Operand.tmp 214), type := 4, pos := "law.go:114", after := #[{ on := 7, ground := Ground.data }, { on := 1, ground := Ground.chain }], guard := none }
abbrev zozgx41 : Oper := { dst := some 216, op := Op.move (Operand.tmp 0), type := 25, pos := "law.go:114", after := #[{ on := 8, ground := Ground.guard }], guard := some (8, true) }
abbrev zozgx42 : Oper := { dst := some 217, op := Op.fieldAddr 62 (Operand.tmp 8) 4, type := 0, pos := "law.go:114", after := #[{ on := 8, ground := Ground.guard }], guard := some (8, true) }
abbrev zozgx43 : Oper := { dst := some 218, op := Op.load 3 (Operand.tmp 217), type := 3, pos := "law.go:114", after := #[{ on := 10, ground := Ground.data }, { on := 8, ground := Ground.guard }], guard := some (8, true) }
abbrev zozgx44 : Oper := { dst := some 221, op := Op.move (Operand.tmp 1), type := 29, pos := "law.go:114", after := #[{ on := 8, ground := Ground.guard }], guard := some (8, true) }
abbrev zozgx45 : Oper := { dst := some 222, op := Op.fieldAddr 62 (Operand.tmp 8) 4, type := 0, pos := "law.go:114", after := #[{ on := 8, ground := Ground.guard }], guard := some (8, true) }
abbrev zozgx46 : Oper := { dst := some 223, op := Op.load 3 (Operand.tmp 222), type := 3, pos := "law.go:114", after := #[{ on := 15, ground := Ground.data }, { on := 8, ground := Ground.guard }], guard := some (8, true) }
abbrev zozgx47 : Oper := { dst := some 219, op := Op.call { callee := Callee.value (Operand.func 33), args := #[Operand.tmp 216, Operand.tmp 218], argTypes := #[25, 3] }, type := 78, pos := "law.go:114", after := #[{ on := 9, ground := Ground.data }, { on := 11, ground := Ground.data }, { on := 8, ground := Ground.chain }, { on := 8, ground := Ground.guard }], guard := some (8, true) }
abbrev zozgx48 : Oper := { dst := some 220, op := Op.convert 78 3 (Operand.tmp 219), type := 3, pos := "law.go:114", after := #[{ on := 12, ground := Ground.data }, { on := 8, ground := Ground.guard }], guard := some (8, true) }
abbrev zozgx49 : Oper := { dst := some 224, op := Op.call { callee := Callee.value (Operand.func 34), args := #[Operand.tmp 221, Operand.tmp 223], argTypes := #[29, 3] }, type := 3, pos := "law.go:114", after := #[{ on := 14, ground := Ground.data }, { on := 16, ground := Ground.data }, { on := 12, ground := Ground.chain }, { on := 8, ground := Ground.guard }], guard := some (8, true) }
abbrev zozgx50 : Oper := { dst := some 225, op := Op.binOp BinOp.eql 3 (Operand.tmp 220) (Operand.tmp 224) 3, type := 4, pos := "law.go:114", after := #[{ on := 13, ground := Ground.data }, { on := 17, ground := Ground.data }, { on := 8, ground := Ground.guard }], guard := some (8, true) }
abbrev zozgx51 : Oper := { dst := some 226, op := Op.pick (Operand.tmp 215) (Operand.tmp 225) (Operand.const (Value.bool false)), type := 4, pos := "law.go:114", after := #[{ on := 8, ground := Ground.data }, { on := 18, ground := Ground.data }], guard := none }
abbrev zozgx52 : Oper := { dst := some 13, op := Op.assign (Operand.tmp 226), type := 4, pos := "law.go:114", after := #[{ on := 19, ground := Ground.data }, { on := 17, ground := Ground.chain }, { on := 0, ground := Ground.phase }, { on := 1, ground := Ground.phase }, { on := 2, ground := Ground.phase }, { on := 3, ground := Ground.phase }, { on := 4, ground := Ground.phase }, { on := 5, ground := Ground.phase }, { on := 6, ground := Ground.phase }, { on := 7, ground := Ground.phase }, { on := 8, ground := Ground.phase }, { on := 9, ground := Ground.phase }, { on := 10, ground := Ground.phase }, { on := 11, ground := Ground.phase }, { on := 12, ground := Ground.phase }, { on := 13, ground := Ground.phase }, { on := 14, ground := Ground.phase }, { on := 15, ground := Ground.phase }, { on := 16, ground := Ground.phase }, { on := 17, ground := Ground.phase }, { on := 18, ground := Ground.phase }, { on := 19, ground := Ground.phase }], guard := none }

theorem esm_eq {a b : Ee} (h : a = b) (hb : Esm b) : Esm a := h ▸ hb
set_option maxHeartbeats 51200000 in
set_option maxRecDepth 1000000 in
theorem does_any {B0 N : Nat} {w Wb : World} {p : Nat} {L : List Ee} {pr q : Nat} (h : Dn B0 N (fun _ => False) w p L L pr q) (hN : N ≤ 600) (hWb : Wb.heap.size ≤ B0) (hbw : Below Wb.heap.size Wb w)
    (ua : Option Addr) (un uc : Nat) (us : List En) (hu : PrU B0 w ua un uc us) (hru : Ris (ers us)) (hun : un ≤ 1000) (hus : ∀ u ∈ us, Esm u.e)
    (kd : Nat) (hkd : kd < 256) (ka va : Option Addr) (kn kc vn vc : Nat) (key val : List Int) (hk : Inn Wb ka kn kc key) (hv : Inn Wb va vn vc val) (hkl : kn ≤ 140737488351232) (hvl : vn ≤ 140737488351232) (inn : Bool) (to : Int) (hto : -9223372036854775808 ≤ to ∧ to ≤ 9223372036854775807) :
    Calls Try.prog 8 #[.pointer (some ⟨p, 0, none⟩), .pointer (some ⟨pr, 0, none⟩), .slice ua un uc, .agg #[.int .u8 (kd : Int), .slice ka kn kc, .slice va vn vc, .bool inn, .int .i64 to], .pointer (some ⟨q, 0, none⟩)] w fun e w' => e = .returned (.bool true) ∧ ∃ L', Dn B0 (N + 2) (fun _ => False) w' p L' L' pr q ∧ Kx B0 w w' := by
  obtain ⟨w1, hw1⟩ : ∃ w1, w1 = w.alloc (.cells #[.int .u8 (kd : Int), .slice ka kn kc, .slice va vn vc, .bool inn, .int .i64 to] 62) := ⟨_, rfl⟩
  have hB1 : Below w.heap.size w w1 := by rw [hw1]; exact below_alloc _ _
  have bk1 : w1.heap[w.heap.size]? = some (.cells #[.int .u8 (kd : Int), .slice ka kn kc, .slice va vn vc, .bool inn, .int .i64 to] 62 (0, 0)) := by rw [hw1]; exact heap_alloc_new w _
  have hs1 : w1.heap.size = w.heap.size + 1 := by rw [hw1]; simp
  have hb0 : Wb.heap.size ≤ w.heap.size := hbw.size
  have hbw1 : Below Wb.heap.size Wb w1 := hbw.trans (hB1.mono hb0)
  have q1 : w1.cell? ⟨w.heap.size, 1, none⟩ = some (.slice ka kn kc) := by simp [World.cell?, bk1]
  have q2 : w1.cell? ⟨w.heap.size, 2, none⟩ = some (.slice va vn vc) := by simp [World.cell?, bk1]
  have HL1 := hide (Le.lent_any ka kn kc key w1.drew (hk.len) hkl hk.bare (hk.below hbw1.drew).row)
  have HL2 : Hid (∀ W, Below w1.drew.heap.size w1.drew W → Calls Try.prog 24 #[.slice va vn vc] W _) := hide (fun W hW => Le.lent_any va vn vc val W (hv.len) hvl hv.bare (hv.below (hbw1.drew.trans (hW.mono hbw1.size))).row)
  have D1 : Hid (w1.drew.cell? ⟨w.heap.size, 1, none⟩ = some (.slice ka kn kc)) := hide q1
  have D2 : Hid (w1.drew.cell? ⟨w.heap.size, 2, none⟩ = some (.slice va vn vc)) := hide q2
  have HD := hide h
  have HU := hide hu
  have HK := hide hk
  have HV := hide hv
  have BK1 := hide bk1
  have HB1 := hide hB1
  have HBW1 := hide hbw1
  clear h hu hk hv bk1 hB1 hbw1 hbw
  go_enter Try.func8, Try.ntmps8
  go_wp2_with (fail)
  rw [← hw1]
  clear hw1
  refine wp_region_noPanic ?_
  refine wp_region_held_drew (S := (fun W => W.cell? ⟨w.heap.size, 1, none⟩ = some (.slice ka kn kc) ∧ W.cell? ⟨w.heap.size, 2, none⟩ = some (.slice va vn vc))) (by kernel_rfl) ⟨q1, q2⟩ (fun _hS => ?_)
  refine wtk (i := 0) (oi := zozgx1) (v := ?v0x101) rfl ⟨by rfl, ?hy0x101⟩ (by assumption) ?_
  case hy0x101 => (intro w s; (try dsimp only at s); first | (go_simp; with_reducible rfl) | go_simp)
  try simp only [Act.put, zps]
  refine wtk (i := 1) (oi := zozgx2) (v := ?v1x102) rfl ⟨by rfl, ?hy1x102⟩ (by assumption) ?_
  case hy1x102 => (intro w s; (try dsimp only at s); first | (go_simp; with_reducible rfl) | go_simp)
  try simp only [Act.put, zps]
  refine wtk (i := 3) (oi := zozgx3) (v := ?v3x103) rfl ⟨by rfl, ?hy3x103⟩ (by assumption) ?_
  case hy3x103 => (intro w s; (try dsimp only at s); first | (go_simp; with_reducible rfl) | go_simp)
  try simp only [Act.put, zps]
  refine wtk (i := 4) (oi := zozgx4) (v := ?v4x104) rfl ⟨by rfl, ?hy4x104⟩ (by assumption) ?_
  case hy4x104 => (intro w s; (try dsimp only at s); first | (go_simp; with_reducible rfl) | go_simp)
  try simp only [Act.put, zps]
  refine wpAnyH_ready (rs := [2]) (by kernel_rfl) (by simp) ?_
  refine AllReadyH.cons (o := zozgx5) rfl (fun K hK => ?_) (AllReadyH.nil)
  go_simp
  go_at_call 24
  refine HL1.out.mono ?_
  rintro e w2 ⟨rfl, ho2, hb2⟩
  have hs2 := hb2.size
  have d1 := one_below1 (W := w2) D1.out hb2
  have d2 := one_below1 (W := w2) D2.out hb2
  have HO2 := hide ho2
  have HB2 := hide hb2
  clear ho2 hb2
  go_simp
  refine hK.out _ _ ?_ (fun _hS => ?_)
  · exact ⟨d1, d2⟩
  clear hK K
  try simp only [Act.put, zps]
  refine wpAnyH_ready (rs := [5]) (by kernel_rfl) (by simp) ?_
  refine AllReadyH.cons (o := zozgx6) rfl (fun K hK => ?_) (AllReadyH.nil)
  go_simp
  go_at_call 24
  refine (HL2.out _ HB2.out).mono ?_
  rintro e w3 ⟨rfl, ho3, hb3⟩
  have e1 := one_below1 (W := w3) d1 hb3
  have e2 := one_below1 (W := w3) d2 hb3
  have HO3 := hide ho3
  have HB3 := hide hb3
  clear ho3 hb3
  go_simp
  refine hK.out _ _ ?_ (fun _hS => ?_)
  · exact ⟨e1, e2⟩
  clear hK K
  try simp only [Act.put, zps]
  refine wtk (i := 6) (oi := zozgx7) (v := ?v6x105) rfl ⟨by rfl, ?hy6x105⟩ (by assumption) ?_
  case hy6x105 => (intro w s; (try dsimp only at s); first | (go_simp; with_reducible rfl) | go_simp)
  try simp only [Act.put, zps]
  refine wtk (i := 7) (oi := zozgx8) (v := ?v7x106) rfl ⟨by rfl, ?hy7x106⟩ (by assumption) ?_
  case hy7x106 => (intro w s; (try dsimp only at s); first | (go_simp; with_reducible rfl) | go_simp)
  try simp only [Act.put, zps]
  refine wpAnyH_done (by kernel_rfl) ?_ _
  refine NoPanic.normal ?_
  have hs3 := HB3.out.size
  have hB13 : Below w1.heap.size w1 w3 := (Below.refl _ w1).drew.trans (HB2.out.trans (HB3.out.mono hs2))
  have hB03 : Below w.heap.size w w3 := HB1.out.trans (hB13.mono (by omega))
  have hs2' : w1.heap.size ≤ w2.heap.size := hs2
  have ho2 : Own w3 (.slice (some ⟨w.heap.size + 1, 0, none⟩) (kn + 2) (kn + 2)) (key ++ [91, 92]) := by have := HO2.out.below HB3.out; have e : w1.drew.heap.size = w.heap.size + 1 := hs1; rw [e] at this; exact this
  have HX : Hid (Kx B0 w w3) := hide (Kx.of_below hB03)
  have HC : Hid (Cx Wb B0 w.heap.size (w.heap.size + 1) w2.heap.size kd ka va kn kc vn vc key val inn to w3) := hide ⟨(hB13.block _ (by omega)).trans BK1.out, ho2, HO3.out, HBW1.out.trans (hB13.mono (by omega)), ⟨Nat.le_trans HD.out.base hB03.size, hWb⟩, HK.out, HV.out⟩
  have HD3 : Hid (Dn B0 N (fun j => j = w.heap.size + 1 ∨ j = w2.heap.size) w3 p L L pr q) := hide (HD.out.lend hB03 fun j hj => .inr (by rcases hj with rfl | rfl; exact ⟨by omega, ho2.u8 rfl⟩; exact ⟨by omega, HO3.out.u8 rfl⟩))
  have hg12 : w.heap.size + 1 < w2.heap.size := by have h9 : w1.drew.heap.size < w2.heap.size := lt_of_block (HO2.out.u8 rfl).choose_spec; have e : w1.drew.heap.size = w.heap.size + 1 := hs1; omega
  have hg1 : w.heap.size ≤ w.heap.size + 1 := Nat.le_succ _
  have hg2 : w.heap.size ≤ w2.heap.size := by omega
  have HU3 : Hid (Prs w3 ua un uc us) := hide (HU.out.below hB03).prs
  have HUU : Hid (∀ y ∈ us, EnU B0 y w3) := hide (HU.out.below hB03).each
  have hmgE : ∀ x ∈ mg (L.foldl put []) (ers us), Esm x := fun x hx => (mg_sub hx).elim (fun h => HD.out.fold.2.1 x h.1) (fun h => by obtain ⟨u, hu, rfl⟩ := List.mem_map.1 h; exact hus u hu)
  clear hB13 hB03 ho2 HB1 HB2 HB3 HO2 HO3 D1 D2 HL1 HL2 BK1 HBW1 HU HD d1 d2 e1 e2 q1 q2
  obtain ⟨c0, c1, c2, c3, c4⟩ := HC.out.cells
  have hfe := HD3.out.fold.2.1
  have b5 : Below w3.heap.size w3 ((w3.alloc zc).alloc zc) := (below_alloc w3 _).trans ((below_alloc _ _).mono (by simp))
  have HD5 := hide (HD3.out.below b5)
  have HC5 := hide (HC.out.below b5)
  obtain ⟨d0, d1, d2, d3, d4⟩ := HC5.out.cells
  clear b5
  go_wp2_with (first | (go_at_call 26; (with_reducible refine (HD5.out.get_any (by omega) _ _ _ key (HC5.out.k1 hkl)).mono ?_); rintro e wg ⟨y, rfl, hye, hyo, hb⟩; obtain ⟨g14, bS, s14, s15, hyS⟩ := step14 hb hyo; obtain ⟨z0, z1, z2, zf⟩ := cells_three g14; have zf0 := zf 0; have zf1 := zf 1; have zf2 := zf 2; have HES : Hid (Esm y.e) := hide (esm_eq hye (find_esm hfe)); have HYE := hide hye; have HBS := hide bS; have HS14 := hide s14; have HS15 := hide s15; have HYS := hide hyS; have HDS := hide (HD3.out.below bS); have HCS := hide (HC.out.below bS); clear g14 bS s14 s15 hyS zf hb hyo hye d0 d1 d2 d3 d4; obtain ⟨d0, d1, d2, d3, d4⟩ := HCS.out.cells) | (go_at_call 28; (with_reducible refine (HD5.out.next_any (by omega) _ _ _ key inn (HC5.out.k1 hkl)).mono ?_); rintro e wg ⟨y, rfl, hye, hyo, hb⟩; obtain ⟨g14, bS, s14, s15, hyS⟩ := step14 hb hyo; obtain ⟨z0, z1, z2, zf⟩ := cells_three g14; have zf0 := zf 0; have zf1 := zf 1; have zf2 := zf 2; have HES : Hid (Esm y.e) := hide (esm_eq hye (find_esm hfe)); have HYE := hide hye; have HBS := hide bS; have HS14 := hide s14; have HS15 := hide s15; have HYS := hide hyS; have HDS := hide (HD3.out.below bS); have HCS := hide (HC.out.below bS); clear g14 bS s14 s15 hyS zf hb hyo hye d0 d1 d2 d3 d4; obtain ⟨d0, d1, d2, d3, d4⟩ := HCS.out.cells) | (go_at_call 30; (with_reducible refine (HD5.out.prev_any (by omega) _ _ _ key inn (HC5.out.k1 hkl)).mono ?_); rintro e wg ⟨y, rfl, hye, hyo, hb⟩; obtain ⟨g14, bS, s14, s15, hyS⟩ := step14 hb hyo; obtain ⟨z0, z1, z2, zf⟩ := cells_three g14; have zf0 := zf 0; have zf1 := zf 1; have zf2 := zf 2; have HES : Hid (Esm y.e) := hide (esm_eq hye (find_esm (fun x hx => hfe x (List.mem_reverse.1 hx)))); have HYE := hide hye; have HBS := hide bS; have HS14 := hide s14; have HS15 := hide s15; have HYS := hide hyS; have HDS := hide (HD3.out.below bS); have HCS := hide (HC.out.below bS); clear g14 bS s14 s15 hyS zf hb hyo hye d0 d1 d2 d3 d4; obtain ⟨d0, d1, d2, d3, d4⟩ := HCS.out.cells) | (go_at_call 27; (with_reducible refine (HDS.out.rget_any (by omega) _ _ _ key HCS.out.k).mono ?_); rintro e wr ⟨y2, rfl, hye2, hyu, hb⟩; obtain ⟨g15, bT, t14, t15, hyT, huT⟩ := step15 HBS.out HS14.out HS15.out HYS.out hb hyu HC.out.base.1; obtain ⟨z0, z1, z2, zf⟩ := cells_three g15; have zf0 := zf 0; have zf1 := zf 1; have zf2 := zf 2; obtain ⟨u0, u1, u2, -⟩ := cells_three t14; obtain ⟨v0, v1, v2, -⟩ := cells_three t15; have HYE2 := hide hye2; have HBT := hide bT; have HT14 := hide t14; have HT15 := hide t15; have HYT := hide hyT; have HUT := hide huT; clear g15 bT t14 t15 hyT huT zf hb hyu hye2 HS14 HS15 HYS HDS HCS d0 d1 d2 d3 d4) | (go_at_call 29; (with_reducible refine (HDS.out.rnext_any (by omega) _ _ _ key inn HCS.out.k).mono ?_); rintro e wr ⟨y2, rfl, hye2, hyu, hb⟩; obtain ⟨g15, bT, t14, t15, hyT, huT⟩ := step15 HBS.out HS14.out HS15.out HYS.out hb hyu HC.out.base.1; obtain ⟨z0, z1, z2, zf⟩ := cells_three g15; have zf0 := zf 0; have zf1 := zf 1; have zf2 := zf 2; obtain ⟨u0, u1, u2, -⟩ := cells_three t14; obtain ⟨v0, v1, v2, -⟩ := cells_three t15; have HYE2 := hide hye2; have HBT := hide bT; have HT14 := hide t14; have HT15 := hide t15; have HYT := hide hyT; have HUT := hide huT; clear g15 bT t14 t15 hyT huT zf hb hyu hye2 HS14 HS15 HYS HDS HCS d0 d1 d2 d3 d4) | (go_at_call 31; (with_reducible refine (HDS.out.rprev_any (by omega) _ _ _ key inn HCS.out.k).mono ?_); rintro e wr ⟨y2, rfl, hye2, hyu, hb⟩; obtain ⟨g15, bT, t14, t15, hyT, huT⟩ := step15 HBS.out HS14.out HS15.out HYS.out hb hyu HC.out.base.1; obtain ⟨z0, z1, z2, zf⟩ := cells_three g15; have zf0 := zf 0; have zf1 := zf 1; have zf2 := zf 2; obtain ⟨u0, u1, u2, -⟩ := cells_three t14; obtain ⟨v0, v1, v2, -⟩ := cells_three t15; have HYE2 := hide hye2; have HBT := hide bT; have HT14 := hide t14; have HT15 := hide t15; have HYT := hide hyT; have HUT := hide huT; clear g15 bT t14 t15 hyT huT zf hb hyu hye2 HS14 HS15 HYS HDS HCS d0 d1 d2 d3 d4) | (go_at_call 10; have bA := HBT.out.trans ((below_alloc (st3 wr (w3.heap.size + 1) y2) (yc y)).mono HBT.out.size); have hcl := cl_box (C := w3.heap.size) HBT.out.size (HYT.out.mono (by omega)); rw [st3_size] at hcl; (with_reducible refine (HD3.out.bchanges_any bA (by omega) _ 1 1 [y] rfl (by omega) hcl (fun z hz => by rw [List.mem_singleton.1 hz]; exact HES.out) (N + 1) (by omega) (by omega)).mono ?_); rintro e wb ⟨rfl, hd, hy9⟩; obtain ⟨x14, x15, oy, oy2⟩ := step32 HT14.out HT15.out HYT.out HUT.out hy9; have HX := hide ((HX.out.trans (Kx.of_below bA)).trans hy9.x); have HC := hide ((HC.out.below bA).kx hy9.x); have HD3 := hide hd; have HO1 := hide oy; have HO2 := hide oy2; clear hd hy9 oy oy2 bA hcl u0 u1 u2 v0 v1 v2 c0 c1 c2 c3 c4; obtain ⟨u0, u1, u2, -⟩ := cells_three x14; obtain ⟨v0, v1, v2, -⟩ := cells_three x15; clear x14 x15; obtain ⟨c0, c1, c2, c3, c4⟩ := HC.out.cells) | (go_at_call 32; have hsm := same_any y y2 HO1.out HO2.out (HYE.out.trans HYE2.out.symm); unfold En.v at hsm; (with_reducible refine (hsm _).mono ?_); clear hsm; rintro e wn ⟨rfl, hb⟩; clear u0 u1 u2 v0 v1 v2; have HX := hide (HX.out.trans (Kx.of_below hb)); have HC := hide (HC.out.below hb); have HD3 := hide (HD3.out.below hb); clear hb c0 c1 c2 c3 c4; obtain ⟨c0, c1, c2, c3, c4⟩ := HC.out.cells) | (go_at_call 14; refine (HD3.out.put_any (by omega) _ _ _ _ _ _ key val (HC.out.k1 hkl) (HC.out.v1 hvl) hkl hvl).mono ?_; rintro e wn ⟨rfl, hd, hx⟩; have HX := hide (HX.out.trans hx); have HC := hide (HC.out.kx hx); have HD3 := hide hd; clear hx hd c0 c1 c2 c3 c4; obtain ⟨c0, c1, c2, c3, c4⟩ := HC.out.cells) | (go_at_call 22; refine (HD3.out.rput_any (by omega) _ _ _ _ _ _ key val HC.out.k HC.out.v hkl hvl).mono ?_; rintro e wn ⟨rfl, hd, hx⟩; have HX := hide (HX.out.trans hx); have HC := hide (HC.out.kx hx); have HD3 := hide hd; clear hx hd c0 c1 c2 c3 c4; obtain ⟨c0, c1, c2, c3, c4⟩ := HC.out.cells) | (go_at_call 15; refine (HD3.out.delete_any (by omega) _ _ _ key (HC.out.k1 hkl) hkl).mono ?_; rintro e wn ⟨rfl, hd, hx⟩; have HX := hide (HX.out.trans hx); have HC := hide (HC.out.kx hx); have HD3 := hide hd; clear hx hd c0 c1 c2 c3 c4; obtain ⟨c0, c1, c2, c3, c4⟩ := HC.out.cells) | (go_at_call 25; refine (HD3.out.rdelete_any (by omega) _ _ _ key HC.out.k hkl).mono ?_; rintro e wn ⟨rfl, hd, hx⟩; have HX := hide (HX.out.trans hx); have HC := hide (HC.out.kx hx); have HD3 := hide hd; clear hx hd c0 c1 c2 c3 c4; obtain ⟨c0, c1, c2, c3, c4⟩ := HC.out.cells) | (go_at_call 39; (first | with_reducible refine (HC.out.whole1 hkl).mono ?_ | with_reducible refine (HC.out.whole2 hvl).mono ?_); rintro e wn ⟨rfl, hb⟩; have HX := hide (HX.out.trans (Kx.of_below hb)); have HC := hide (HC.out.below hb); have HD3 := hide (HD3.out.below hb); clear hb c0 c1 c2 c3 c4; obtain ⟨c0, c1, c2, c3, c4⟩ := HC.out.cells) | (go_at_call 40; (with_reducible refine (HC.out.spoil1 hkl).mono ?_); rintro e wn ⟨rfl, hg⟩; have HX := hide (HX.out.spoil hg hg1); have HD3 := hide (HD3.out.spoil (X' := fun j => j = w2.heap.size) (.inl rfl) hg (fun j hj => ⟨.inr hj, by omega⟩)); have HS2 := hide (spoil2_any HC.out.o2 hvl hg (by omega)); clear hg HC) | (go_at_call 40; (with_reducible refine HS2.out.mono ?_); rintro e wn ⟨rfl, hg⟩; have HX := hide (HX.out.spoil hg hg2); have HD3 := hide (HD3.out.spoil (X' := fun _ => False) rfl hg (fun j hj => hj.elim)); clear hg HS2) | (go_at_call 23; (with_reducible refine (HD3.out.rseen_any (by omega) HU3.out hun HUU.out).mono ?_); rintro e ws ⟨sb, sm, sd, vs, rfl, hps, hsm9, hvs, hvu, hb⟩; have HU7 := hide (HU3.out.below hb); have HPS := hide hps; have HVS := hide hvs; have HVU := hide hvu; have HX := hide (HX.out.trans (Kx.of_below hb)); have HC := hide (HC.out.below hb); have HD3 := hide (HD3.out.below hb); clear hb c0 c1 c2 c3 c4; obtain ⟨c0, c1, c2, c3, c4⟩ := HC.out.cells; clear hps hvs hvu; have i3 := (HC.out.below (below_alloc ws (.cells #[.slice ua un uc, .int .i64 1000000] 76))).cells.2.2.2.1) | (go_at_call 16; (with_reducible refine (HD3.out.seenU_any (by omega) HU7.out hru hun hus _ _ _ key inn (HC.out.k1 hkl) hkl).mono ?_); rintro e wa ⟨y, rfl, hyk, hyv, hyo, hb⟩; have HYK := hide hyk; have HYV := hide hyv; clear hyk hyv; obtain ⟨bP, x19, n19⟩ := stepP wa y; have bA := hb.trans (bP.mono hb.size); have HBA := hide bA; have HCA := hide (HC.out.below bA); have HDA := hide (HD3.out.below bA); have HUA := hide (HU7.out.below bA); have HY := hide (hyo.below bP); have HX19 := hide x19; have HN := hide n19; clear bP bA hb hyo i3 x19 n19; have i3 := (HCA.out.below (below_alloc (pb wa y) (.cells #[.slice ua un uc, .int .i64 1000000] 76))).cells.2.2.2.1) | (go_at_call 18; have hsd := HDA.out.seenD_any (by omega) HUA.out hru hun hus _ _ _ key inn (HCA.out.k1 hkl) hkl; rw [HN.out] at hsd; (with_reducible refine hsd.mono ?_); rintro e wb ⟨z, rfl, hzk, hzv, hzo, hb⟩; have HZK := hide hzk; have HZV := hide hzv; clear hzk hzv; obtain ⟨bP, x22, n22⟩ := stepP wb z; have bA := hb.trans (bP.mono hb.size); have x19 := (bA.block _ (lt_of_block HX19.out)).trans HX19.out; have hBB := HBA.out.trans (bA.mono HBA.out.size); have HBB := hide hBB; have HCB := hide (HC.out.below hBB); have HPB := hide (HPS.out.below hBB); have HYB := hide (HY.out.below bA); have HZB := hide (hzo.below bP); have HAP : Hid (∀ k, y.has k → ¬ z.has k) := hide (fun k h1 h2 => Nat.lt_irrefl _ (Nat.lt_of_lt_of_le (HY.out.lt h1) (hzo.ge h2))); have HX19 := hide x19; have HX22 := hide x22; obtain ⟨t0, t1, -⟩ := cells_two x19; obtain ⟨u0, u1, -⟩ := cells_two x22; clear bP bA hb hzo i3 x19 x22 n22 hBB hsd HY HDA HCA HUA HN; obtain ⟨i0, i1, i2, i3, i4⟩ := HCB.out.cells) | (go_at_call 35; (with_reducible refine (after_any sb ka sm sd kn kc vs key inn _ HPB.out HCB.out.k (by omega) _ rfl).mono ?_); rintro e wc ⟨y2, rfl, hk1, hv1, ho1, hb, hm1⟩; have HK1 := hide hk1; have HV1 := hide hv1; clear hk1 hv1; obtain ⟨bP, x25, n25⟩ := stepP wc y2; have bA := hb.trans (bP.mono hb.size); have hBC := HBB.out.trans (bA.mono HBB.out.size); have HBC := hide hBC; have HCC := hide (HC.out.below hBC); have HPC := hide (HPS.out.below hBC); have HYC := hide (HYB.out.below bA); have HZC := hide (HZB.out.below bA); have HY2 : Hid (EnU B0 y2 (pb wc y2)) := hide (hm1.elim (fun h => (HVU.out y2 h).below hBC) (fun h => (zero_u ho1 h).below bP)); have x19 := (bA.block _ (lt_of_block HX19.out)).trans HX19.out; have x22 := (bA.block _ (lt_of_block HX22.out)).trans HX22.out; have HX19 := hide x19; have HX22 := hide x22; have HX25 := hide x25; clear t0 t1 u0 u1 i0 i1 i2 i3 i4 bP bA hb ho1 hm1 hBC x19 x22 x25 n25 HYB HZB HPB HCB HBB; obtain ⟨i0, i1, i2, i3, i4⟩ := HCC.out.cells) | (go_at_call 36; (with_reducible refine (before_any sb ka sm sd kn kc vs key inn _ HPC.out HCC.out.k (by omega) _ rfl).mono ?_); rintro e wd ⟨z2, rfl, hk2, hv2, ho2, hb, hm2⟩; have HK2 := hide hk2; have HV2 := hide hv2; clear hk2 hv2; obtain ⟨bP, x27, n27⟩ := stepP wd z2; have bA := hb.trans (bP.mono hb.size); have hBD := HBC.out.trans (bA.mono HBC.out.size); have HBD := hide hBD; have HYD := hide (HYC.out.below bA); have HZD := hide (HZC.out.below bA); have HY2 := hide (HY2.out.below bA); have HZ2 : Hid (EnU B0 z2 (pb wd z2)) := hide (hm2.elim (fun h => (HVU.out z2 h).below hBD) (fun h => (zero_u ho2 h).below bP)); have x19 := (bA.block _ (lt_of_block HX19.out)).trans HX19.out; have x22 := (bA.block _ (lt_of_block HX22.out)).trans HX22.out; have x25 := (bA.block _ (lt_of_block HX25.out)).trans HX25.out; have HX19 := hide x19; have HX22 := hide x22; have HX25 := hide x25; have HX27 := hide x27; obtain ⟨t0, t1, -⟩ := cells_two x19; obtain ⟨u0, u1, -⟩ := cells_two x22; have HN := hide n27; clear i0 i1 i2 i3 i4 bP bA hb ho2 hm2 hBD x19 x22 x25 x27 n27 HYC HZC HPC HCC HBC) | (go_at_call 37; have bE := HBD.out.trans ((below_alloc (pb wd z2) (.cells #[.slice y.ka y.e.key.length y.kc, .slice y.va y.e.val.length y.vc, .slice z.ka z.e.key.length z.kc, .slice z.va z.e.val.length z.vc] 74)).mono HBD.out.size); have bF := below_alloc (pb wd z2) (.cells #[.slice y.ka y.e.key.length y.kc, .slice y.va y.e.val.length y.vc, .slice z.ka z.e.key.length z.kc, .slice z.va z.e.val.length z.vc] 74); have hcl := clp_box (C := ws.heap.size) HBD.out.size HYD.out (HZD.out.mono HBA.out.size) HAP.out; rw [HN.out] at hcl; have hey := esm_kv HYK.out HYV.out (find_esm (P := fun e => bhU e.key key inn) hmgE); have hez := esm_kv HZK.out HZV.out (find_esm (P := fun e => bhD e.key key inn) (fun x hx => hmgE x (List.mem_reverse.1 hx))); (with_reducible refine (HD3.out.bpairs_any bE (by omega) _ 2 2 [y, z] rfl (by omega) hcl (esm_two hey hez) (N + 1) (by omega) (by omega)).mono ?_); rintro e wf ⟨rfl, hd, hy9⟩; have kp := fun (j : Nat) (cs : Array Value) (hj : (pb wd z2).heap[j]? = some (.cells cs 74 (0, 0))) => hy9.x.keep ((bF.block _ (lt_of_block hj)).trans hj) (.inr (.inr (.inl rfl))); have x19 := kp _ _ HX19.out; have x22 := kp _ _ HX22.out; have x25 := kp _ _ HX25.out; have x27 := kp _ _ HX27.out; have hsp := same2 ((((HYD.out.u (B0 := B0)).below bF).kx hy9.x).ok) ((((HZD.out.u (B0 := B0)).below bF).kx hy9.x).ok) (((HY2.out.below bF).kx hy9.x).ok) (((HZ2.out.below bF).kx hy9.x).ok) (kv_eq HVS.out HYK.out HYV.out HK1.out HV1.out) (kv_eqD HVS.out HZK.out HZV.out HK2.out HV2.out); have HSP := hide hsp; have HX := hide ((HX.out.trans (Kx.of_below bE)).trans hy9.x); have HC := hide ((HC.out.below bE).kx hy9.x); have HD3 := hide hd; clear hd hy9 bE bF hcl hey hez kp hsp t0 t1 u0 u1 c0 c1 c2 c3 c4 HYD HZD HY2 HZ2 HBD; obtain ⟨t0, t1, -⟩ := cells_two x19; obtain ⟨u0, u1, -⟩ := cells_two x22; have bG := below_alloc wf (.cells #[.slice y.ka y.e.key.length y.kc, .slice y.va y.e.val.length y.vc, .slice z.ka z.e.key.length z.kc, .slice z.va z.e.val.length z.vc] 74); obtain ⟨v0, v1, -⟩ := cells_two ((bG.block _ (lt_of_block x25)).trans x25); obtain ⟨q0, q1, -⟩ := cells_two ((bG.block _ (lt_of_block x27)).trans x27); clear bG; clear x19 x22 x25 x27; obtain ⟨c0, c1, c2, c3, c4⟩ := HC.out.cells) | (go_at_call 38; (with_reducible refine HSP.out.mono ?_); rintro e wn ⟨rfl, hb⟩; clear t0 t1 u0 u1 v0 v1 q0 q1; have HX := hide (HX.out.trans (Kx.of_below hb)); have HC := hide (HC.out.below hb); have HD3 := hide (HD3.out.below hb); clear hb c0 c1 c2 c3 c4; obtain ⟨c0, c1, c2, c3, c4⟩ := HC.out.cells) | fail)
  · obtain ⟨L9, hd9, hx9⟩ : ∃ L9, Dn B0 (N + 2) (fun _ => False) wn p L9 L9 pr q ∧ Kx B0 w wn := ⟨_, HD3.out.up (by omega), HX.out⟩
    clear HX HD3
    obtain ⟨ar, cr, yr, r1, -⟩ := hd9.ref
    have hbd : Below wn.heap.size wn wn.drew := (Below.refl _ _).drew
    have HX9 := hide (hx9.trans (Kx.of_below hbd))
    have HD9 := hide (hd9.below hbd)
    have HR9 : Hid (wn.drew.cell? ⟨pr, 0, none⟩ = some (.slice ar L9.length cr)) := hide r1
    have HLn := hide HD9.out.len_any
    have HRc := hide (HD9.out.rchanges_any (by omega))
    clear hx9 hd9
    refine wp_region_noPanic ?_
    refine wp_region_held_drew (S := (fun W => W.cell? ⟨pr, 0, none⟩ = some (.slice ar L9.length cr))) (by kernel_rfl) HR9.out (fun _hS => ?_)
    refine wtk (i := 0) (oi := zozgx9) (v := ?v0x201) rfl ⟨by rfl, ?hy0x201⟩ (by assumption) ?_
    case hy0x201 => (intro w s; (try dsimp only at s); first | (go_simp; with_reducible rfl) | go_simp)
    try simp only [Act.put, zps]
    refine wtk (i := 1) (oi := zozgx10) (v := ?v1x202) rfl ⟨by rfl, ?hy1x202⟩ (by assumption) ?_
    case hy1x202 => (intro w s; (try dsimp only at s); first | (go_simp; with_reducible rfl) | go_simp)
    try simp only [Act.put, zps]
    refine wtk (i := 2) (oi := zozgx11) (v := ?v2x203) rfl ⟨by rfl, ?hy2x203⟩ (by assumption) ?_
    case hy2x203 => (intro w s; (try dsimp only at s); first | (go_simp; with_reducible rfl) | go_simp)
    try simp only [Act.put, zps]
    refine wtk (i := 3) (oi := zozgx12) (v := ?v3x204) rfl ⟨by rfl, ?hy3x204⟩ (by assumption) ?_
    case hy3x204 => (intro w s; (try dsimp only at s); first | (go_simp; with_reducible rfl) | go_simp)
    try simp only [Act.put, zps]
    refine wtk (i := 4) (oi := zozgx13) (v := ?v4x205) rfl ⟨by rfl, ?hy4x205⟩ (by assumption) ?_
    case hy4x205 => (intro w s; (try dsimp only at s); first | (go_simp; with_reducible rfl) | go_simp)
    try simp only [Act.put, zps]
    refine wtk (i := 5) (oi := zozgx14) (v := ?v5x206) rfl ⟨by rfl, ?hy5x206⟩ (by assumption) ?_
    case hy5x206 => (intro w s; (try dsimp only at s); first | (go_simp; with_reducible rfl) | go_simp)
    try simp only [Act.put, zps]
    refine wtk (i := 7) (oi := zozgx15) (v := ?v7x207) rfl ⟨by rfl, ?hy7x207⟩ (by assumption) ?_
    case hy7x207 => (intro w s; (try dsimp only at s); first | (go_simp; with_reducible rfl) | go_simp)
    try simp only [Act.put, zps]
    refine wpAnyH_ready (rs := [6]) (by kernel_rfl) (by simp) ?_
    refine AllReadyH.cons (o := zozgx16) rfl (fun K hK => ?_) (AllReadyH.nil)
    go_simp
    go_at_call 20
    with_reducible refine HLn.out.mono ?_
    rintro e w7 ⟨rfl, rfl⟩
    go_simp
    refine hK.out _ _ ?_ (fun _hS => ?_)
    · exact HR9.out
    clear hK K
    try simp only [Act.put, zps]
    refine wpAnyH_ready (rs := [8]) (by kernel_rfl) (by simp) ?_
    refine AllReadyH.cons (o := zozgx17) rfl (fun K hK => ?_) (AllReadyH.nil)
    go_simp
    go_at_call 12
    with_reducible refine HRc.out.mono ?_
    rintro e w8 ⟨b8, d8, ys8, rfl, -, -, hb8⟩
    have r8 := one_below1 HR9.out hb8
    have HX8 := hide (HX9.out.trans (Kx.of_below hb8))
    have HD8 := hide (HD9.out.below hb8)
    have HMk := hide HD8.out.mark_any
    clear hb8 HLn HRc HX9 HD9
    go_simp
    refine hK.out _ _ ?_ (fun _hS => ?_)
    · exact r8
    clear hK K
    try simp only [Act.put, zps]
    refine wtk (i := 9) (oi := zozgx18) (v := ?v9x208) rfl ⟨by rfl, ?hy9x208⟩ (by assumption) ?_
    case hy9x208 => (intro w s; (try dsimp only at s); first | (go_simp; with_reducible rfl) | go_simp)
    try simp only [Act.put, zps]
    refine wtk (i := 10) (oi := zozgx19) (v := ?v10x209) rfl ⟨by rfl, ?hy10x209⟩ (by assumption) ?_
    case hy10x209 => (intro w s; (try dsimp only at s); first | (go_simp; with_reducible rfl) | go_simp)
    try simp only [Act.put, zps]
    refine wtk (i := 11) (oi := zozgx20) (v := ?v11x210) rfl ⟨by rfl, ?hy11x210⟩ (by assumption) ?_
    case hy11x210 => (intro w s; (try dsimp only at s); first | (go_simp; with_reducible rfl) | go_simp)
    try simp only [Act.put, zps]
    refine wtk (i := 12) (oi := zozgx21) (v := ?v12x211) rfl ⟨by rfl, ?hy12x211⟩ (by assumption) ?_
    case hy12x211 => (intro w s; (try dsimp only at s); first | (go_simp; with_reducible rfl) | go_simp)
    try simp only [Act.put, zps]
    refine wtk (i := 13) (oi := zozgx22) (v := ?v13x212) rfl ⟨by rfl, ?hy13x212⟩ (by assumption) ?_
    case hy13x212 => (intro w s; (try dsimp only at s); first | (go_simp; with_reducible rfl) | go_simp)
    try simp only [Act.put, zps]
    refine wtk (i := 15) (oi := zozgx23) (v := ?v15x213) rfl ⟨by rfl, ?hy15x213⟩ (by assumption) ?_
    case hy15x213 => (intro w s; (try dsimp only at s); first | (go_simp; with_reducible rfl) | go_simp)
    try simp only [Act.put, zps]
    refine wtk (i := 16) (oi := zozgx24) (v := ?v16x214) rfl ⟨by rfl, ?hy16x214⟩ (by assumption) ?_
    case hy16x214 => (intro w s; (try dsimp only at s); first | (go_simp; with_reducible rfl) | go_simp)
    try simp only [Act.put, zps]
    refine wtk (i := 17) (oi := zozgx25) (v := ?v17x215) rfl ⟨by rfl, ?hy17x215⟩ (by assumption) ?_
    case hy17x215 => (intro w s; (try dsimp only at s); first | (go_simp; with_reducible rfl) | go_simp)
    try simp only [Act.put, zps]
    refine wtk (i := 18) (oi := zozgx26) (v := ?v18x216) rfl ⟨by rfl, ?hy18x216⟩ (by assumption) ?_
    case hy18x216 => (intro w s; (try dsimp only at s); first | (go_simp; with_reducible rfl) | go_simp)
    try simp only [Act.put, zps]
    refine wtk (i := 19) (oi := zozgx27) (v := ?v19x217) rfl ⟨by rfl, ?hy19x217⟩ (by assumption) ?_
    case hy19x217 => (intro w s; (try dsimp only at s); first | (go_simp; with_reducible rfl) | go_simp)
    try simp only [Act.put, zps]
    refine wpAnyH_ready (rs := [14]) (by kernel_rfl) (by simp) ?_
    refine AllReadyH.cons (o := zozgx28) rfl (fun K hK => ?_) (AllReadyH.nil)
    go_simp
    go_at_call 21
    with_reducible refine HMk.out.mono ?_
    rintro e w7 ⟨rfl, rfl⟩
    go_simp
    refine hK.out _ _ ?_ (fun _hS => ?_)
    · exact r8
    clear hK K
    try simp only [Act.put, zps]
    refine wtk (i := 20) (oi := zozgx29) (v := ?v20x218) rfl ⟨by rfl, ?hy20x218⟩ (by assumption) ?_
    case hy20x218 => (intro w s; (try dsimp only at s); first | (go_simp; with_reducible rfl) | go_simp)
    try simp only [Act.put, zps]
    refine wtk (i := 21) (oi := zozgx30) (v := ?v21x219) rfl ⟨by rfl, ?hy21x219⟩ (by assumption) ?_
    case hy21x219 => (intro w s; (try dsimp only at s); first | (go_simp; with_reducible rfl) | go_simp)
    try simp only [Act.put, zps]
    refine wtk (i := 22) (oi := zozgx31) (v := ?v22x220) rfl ⟨by rfl, ?hy22x220⟩ (by assumption) ?_
    case hy22x220 => (intro w s; (try dsimp only at s); first | (go_simp; with_reducible rfl) | go_simp)
    try simp only [Act.put, zps]
    refine wpAnyH_done (by kernel_rfl) ?_ _
    refine NoPanic.normal ?_
    go_wp2
    go_ret
    exact ⟨rfl, L9, HD8.out, HX8.out⟩
  · obtain ⟨L9, hd9, hx9⟩ : ∃ L9, Dn B0 (N + 2) (fun _ => False) wn p L9 L9 pr q ∧ Kx B0 w wn := ⟨_, HD3.out.up (by omega), HX.out⟩
    clear HX HD3
    obtain ⟨ar, cr, yr, r1, -⟩ := hd9.ref
    have hbd : Below wn.heap.size wn wn.drew := (Below.refl _ _).drew
    have HX9 := hide (hx9.trans (Kx.of_below hbd))
    have HD9 := hide (hd9.below hbd)
    have HR9 : Hid (wn.drew.cell? ⟨pr, 0, none⟩ = some (.slice ar L9.length cr)) := hide r1
    have HLn := hide HD9.out.len_any
    have HRc := hide (HD9.out.rchanges_any (by omega))
    clear hx9 hd9
    refine wp_region_noPanic ?_
    refine wp_region_held_drew (S := (fun W => W.cell? ⟨pr, 0, none⟩ = some (.slice ar L9.length cr))) (by kernel_rfl) HR9.out (fun _hS => ?_)
    refine wtk (i := 0) (oi := zozgx9) (v := ?v0x301) rfl ⟨by rfl, ?hy0x301⟩ (by assumption) ?_
    case hy0x301 => (intro w s; (try dsimp only at s); first | (go_simp; with_reducible rfl) | go_simp)
    try simp only [Act.put, zps]
    refine wtk (i := 1) (oi := zozgx10) (v := ?v1x302) rfl ⟨by rfl, ?hy1x302⟩ (by assumption) ?_
    case hy1x302 => (intro w s; (try dsimp only at s); first | (go_simp; with_reducible rfl) | go_simp)
    try simp only [Act.put, zps]
    refine wtk (i := 2) (oi := zozgx11) (v := ?v2x303) rfl ⟨by rfl, ?hy2x303⟩ (by assumption) ?_
    case hy2x303 => (intro w s; (try dsimp only at s); first | (go_simp; with_reducible rfl) | go_simp)
    try simp only [Act.put, zps]
    refine wtk (i := 3) (oi := zozgx12) (v := ?v3x304) rfl ⟨by rfl, ?hy3x304⟩ (by assumption) ?_
    case hy3x304 => (intro w s; (try dsimp only at s); first | (go_simp; with_reducible rfl) | go_simp)
    try simp only [Act.put, zps]
    refine wtk (i := 4) (oi := zozgx13) (v := ?v4x305) rfl ⟨by rfl, ?hy4x305⟩ (by assumption) ?_
    case hy4x305 => (intro w s; (try dsimp only at s); first | (go_simp; with_reducible rfl) | go_simp)
    try simp only [Act.put, zps]
    refine wtk (i := 5) (oi := zozgx14) (v := ?v5x306) rfl ⟨by rfl, ?hy5x306⟩ (by assumption) ?_
    case hy5x306 => (intro w s; (try dsimp only at s); first | (go_simp; with_reducible rfl) | go_simp)
    try simp only [Act.put, zps]
    refine wtk (i := 7) (oi := zozgx15) (v := ?v7x307) rfl ⟨by rfl, ?hy7x307⟩ (by assumption) ?_
    case hy7x307 => (intro w s; (try dsimp only at s); first | (go_simp; with_reducible rfl) | go_simp)
    try simp only [Act.put, zps]
    refine wpAnyH_ready (rs := [6]) (by kernel_rfl) (by simp) ?_
    refine AllReadyH.cons (o := zozgx16) rfl (fun K hK => ?_) (AllReadyH.nil)
    go_simp
    go_at_call 20
    with_reducible refine HLn.out.mono ?_
    rintro e w7 ⟨rfl, rfl⟩
    go_simp
    refine hK.out _ _ ?_ (fun _hS => ?_)
    · exact HR9.out
    clear hK K
    try simp only [Act.put, zps]
    refine wpAnyH_ready (rs := [8]) (by kernel_rfl) (by simp) ?_
    refine AllReadyH.cons (o := zozgx17) rfl (fun K hK => ?_) (AllReadyH.nil)
    go_simp
    go_at_call 12
    with_reducible refine HRc.out.mono ?_
    rintro e w8 ⟨b8, d8, ys8, rfl, -, -, hb8⟩
    have r8 := one_below1 HR9.out hb8
    have HX8 := hide (HX9.out.trans (Kx.of_below hb8))
    have HD8 := hide (HD9.out.below hb8)
    have HMk := hide HD8.out.mark_any
    clear hb8 HLn HRc HX9 HD9
    go_simp
    refine hK.out _ _ ?_ (fun _hS => ?_)
    · exact r8
    clear hK K
    try simp only [Act.put, zps]
    refine wtk (i := 9) (oi := zozgx18) (v := ?v9x308) rfl ⟨by rfl, ?hy9x308⟩ (by assumption) ?_
    case hy9x308 => (intro w s; (try dsimp only at s); first | (go_simp; with_reducible rfl) | go_simp)
    try simp only [Act.put, zps]
    refine wtk (i := 10) (oi := zozgx19) (v := ?v10x309) rfl ⟨by rfl, ?hy10x309⟩ (by assumption) ?_
    case hy10x309 => (intro w s; (try dsimp only at s); first | (go_simp; with_reducible rfl) | go_simp)
    try simp only [Act.put, zps]
    refine wtk (i := 11) (oi := zozgx20) (v := ?v11x310) rfl ⟨by rfl, ?hy11x310⟩ (by assumption) ?_
    case hy11x310 => (intro w s; (try dsimp only at s); first | (go_simp; with_reducible rfl) | go_simp)
    try simp only [Act.put, zps]
    refine wtk (i := 12) (oi := zozgx21) (v := ?v12x311) rfl ⟨by rfl, ?hy12x311⟩ (by assumption) ?_
    case hy12x311 => (intro w s; (try dsimp only at s); first | (go_simp; with_reducible rfl) | go_simp)
    try simp only [Act.put, zps]
    refine wtk (i := 13) (oi := zozgx22) (v := ?v13x312) rfl ⟨by rfl, ?hy13x312⟩ (by assumption) ?_
    case hy13x312 => (intro w s; (try dsimp only at s); first | (go_simp; with_reducible rfl) | go_simp)
    try simp only [Act.put, zps]
    refine wtk (i := 15) (oi := zozgx23) (v := ?v15x313) rfl ⟨by rfl, ?hy15x313⟩ (by assumption) ?_
    case hy15x313 => (intro w s; (try dsimp only at s); first | (go_simp; with_reducible rfl) | go_simp)
    try simp only [Act.put, zps]
    refine wtk (i := 16) (oi := zozgx24) (v := ?v16x314) rfl ⟨by rfl, ?hy16x314⟩ (by assumption) ?_
    case hy16x314 => (intro w s; (try dsimp only at s); first | (go_simp; with_reducible rfl) | go_simp)
    try simp only [Act.put, zps]
    refine wtk (i := 17) (oi := zozgx25) (v := ?v17x315) rfl ⟨by rfl, ?hy17x315⟩ (by assumption) ?_
    case hy17x315 => (intro w s; (try dsimp only at s); first | (go_simp; with_reducible rfl) | go_simp)
    try simp only [Act.put, zps]
    refine wtk (i := 18) (oi := zozgx26) (v := ?v18x316) rfl ⟨by rfl, ?hy18x316⟩ (by assumption) ?_
    case hy18x316 => (intro w s; (try dsimp only at s); first | (go_simp; with_reducible rfl) | go_simp)
    try simp only [Act.put, zps]
    refine wtk (i := 19) (oi := zozgx27) (v := ?v19x317) rfl ⟨by rfl, ?hy19x317⟩ (by assumption) ?_
    case hy19x317 => (intro w s; (try dsimp only at s); first | (go_simp; with_reducible rfl) | go_simp)
    try simp only [Act.put, zps]
    refine wpAnyH_ready (rs := [14]) (by kernel_rfl) (by simp) ?_
    refine AllReadyH.cons (o := zozgx28) rfl (fun K hK => ?_) (AllReadyH.nil)
    go_simp
    go_at_call 21
    with_reducible refine HMk.out.mono ?_
    rintro e w7 ⟨rfl, rfl⟩
    go_simp
    refine hK.out _ _ ?_ (fun _hS => ?_)
    · exact r8
    clear hK K
    try simp only [Act.put, zps]
    refine wtk (i := 20) (oi := zozgx29) (v := ?v20x318) rfl ⟨by rfl, ?hy20x318⟩ (by assumption) ?_
    case hy20x318 => (intro w s; (try dsimp only at s); first | (go_simp; with_reducible rfl) | go_simp)
    try simp only [Act.put, zps]
    refine wtk (i := 21) (oi := zozgx30) (v := ?v21x319) rfl ⟨by rfl, ?hy21x319⟩ (by assumption) ?_
    case hy21x319 => (intro w s; (try dsimp only at s); first | (go_simp; with_reducible rfl) | go_simp)
    try simp only [Act.put, zps]
    refine wtk (i := 22) (oi := zozgx31) (v := ?v22x320) rfl ⟨by rfl, ?hy22x320⟩ (by assumption) ?_
    case hy22x320 => (intro w s; (try dsimp only at s); first | (go_simp; with_reducible rfl) | go_simp)
    try simp only [Act.put, zps]
    refine wpAnyH_done (by kernel_rfl) ?_ _
    refine NoPanic.normal ?_
    go_wp2
    go_ret
    exact ⟨rfl, L9, HD8.out, HX8.out⟩
  · obtain ⟨L9, hd9, hx9⟩ : ∃ L9, Dn B0 (N + 2) (fun _ => False) wn p L9 L9 pr q ∧ Kx B0 w wn := ⟨_, HD3.out.up (by omega), HX.out⟩
    clear HX HD3
    obtain ⟨ar, cr, yr, r1, -⟩ := hd9.ref
    have hbd : Below wn.heap.size wn wn.drew := (Below.refl _ _).drew
    have HX9 := hide (hx9.trans (Kx.of_below hbd))
    have HD9 := hide (hd9.below hbd)
    have HR9 : Hid (wn.drew.cell? ⟨pr, 0, none⟩ = some (.slice ar L9.length cr)) := hide r1
    have HLn := hide HD9.out.len_any
    have HRc := hide (HD9.out.rchanges_any (by omega))
    clear hx9 hd9
    refine wp_region_noPanic ?_
    refine wp_region_held_drew (S := (fun W => W.cell? ⟨pr, 0, none⟩ = some (.slice ar L9.length cr))) (by kernel_rfl) HR9.out (fun _hS => ?_)
    refine wtk (i := 0) (oi := zozgx9) (v := ?v0x401) rfl ⟨by rfl, ?hy0x401⟩ (by assumption) ?_
    case hy0x401 => (intro w s; (try dsimp only at s); first | (go_simp; with_reducible rfl) | go_simp)
    try simp only [Act.put, zps]
    refine wtk (i := 1) (oi := zozgx10) (v := ?v1x402) rfl ⟨by rfl, ?hy1x402⟩ (by assumption) ?_
    case hy1x402 => (intro w s; (try dsimp only at s); first | (go_simp; with_reducible rfl) | go_simp)
    try simp only [Act.put, zps]
    refine wtk (i := 2) (oi := zozgx11) (v := ?v2x403) rfl ⟨by rfl, ?hy2x403⟩ (by assumption) ?_
    case hy2x403 => (intro w s; (try dsimp only at s); first | (go_simp; with_reducible rfl) | go_simp)
    try simp only [Act.put, zps]
    refine wtk (i := 3) (oi := zozgx12) (v := ?v3x404) rfl ⟨by rfl, ?hy3x404⟩ (by assumption) ?_
    case hy3x404 => (intro w s; (try dsimp only at s); first | (go_simp; with_reducible rfl) | go_simp)
    try simp only [Act.put, zps]
    refine wtk (i := 4) (oi := zozgx13) (v := ?v4x405) rfl ⟨by rfl, ?hy4x405⟩ (by assumption) ?_
    case hy4x405 => (intro w s; (try dsimp only at s); first | (go_simp; with_reducible rfl) | go_simp)
    try simp only [Act.put, zps]
    refine wtk (i := 5) (oi := zozgx14) (v := ?v5x406) rfl ⟨by rfl, ?hy5x406⟩ (by assumption) ?_
    case hy5x406 => (intro w s; (try dsimp only at s); first | (go_simp; with_reducible rfl) | go_simp)
    try simp only [Act.put, zps]
    refine wtk (i := 7) (oi := zozgx15) (v := ?v7x407) rfl ⟨by rfl, ?hy7x407⟩ (by assumption) ?_
    case hy7x407 => (intro w s; (try dsimp only at s); first | (go_simp; with_reducible rfl) | go_simp)
    try simp only [Act.put, zps]
    refine wpAnyH_ready (rs := [6]) (by kernel_rfl) (by simp) ?_
    refine AllReadyH.cons (o := zozgx16) rfl (fun K hK => ?_) (AllReadyH.nil)
    go_simp
    go_at_call 20
    with_reducible refine HLn.out.mono ?_
    rintro e w7 ⟨rfl, rfl⟩
    go_simp
    refine hK.out _ _ ?_ (fun _hS => ?_)
    · exact HR9.out
    clear hK K
    try simp only [Act.put, zps]
    refine wpAnyH_ready (rs := [8]) (by kernel_rfl) (by simp) ?_
    refine AllReadyH.cons (o := zozgx17) rfl (fun K hK => ?_) (AllReadyH.nil)
    go_simp
    go_at_call 12
    with_reducible refine HRc.out.mono ?_
    rintro e w8 ⟨b8, d8, ys8, rfl, -, -, hb8⟩
    have r8 := one_below1 HR9.out hb8
    have HX8 := hide (HX9.out.trans (Kx.of_below hb8))
    have HD8 := hide (HD9.out.below hb8)
    have HMk := hide HD8.out.mark_any
    clear hb8 HLn HRc HX9 HD9
    go_simp
    refine hK.out _ _ ?_ (fun _hS => ?_)
    · exact r8
    clear hK K
    try simp only [Act.put, zps]
    refine wtk (i := 9) (oi := zozgx18) (v := ?v9x408) rfl ⟨by rfl, ?hy9x408⟩ (by assumption) ?_
    case hy9x408 => (intro w s; (try dsimp only at s); first | (go_simp; with_reducible rfl) | go_simp)
    try simp only [Act.put, zps]
    refine wtk (i := 10) (oi := zozgx19) (v := ?v10x409) rfl ⟨by rfl, ?hy10x409⟩ (by assumption) ?_
    case hy10x409 => (intro w s; (try dsimp only at s); first | (go_simp; with_reducible rfl) | go_simp)
    try simp only [Act.put, zps]
    refine wtk (i := 11) (oi := zozgx20) (v := ?v11x410) rfl ⟨by rfl, ?hy11x410⟩ (by assumption) ?_
    case hy11x410 => (intro w s; (try dsimp only at s); first | (go_simp; with_reducible rfl) | go_simp)
    try simp only [Act.put, zps]
    refine wtk (i := 12) (oi := zozgx21) (v := ?v12x411) rfl ⟨by rfl, ?hy12x411⟩ (by assumption) ?_
    case hy12x411 => (intro w s; (try dsimp only at s); first | (go_simp; with_reducible rfl) | go_simp)
    try simp only [Act.put, zps]
    refine wtk (i := 13) (oi := zozgx22) (v := ?v13x412) rfl ⟨by rfl, ?hy13x412⟩ (by assumption) ?_
    case hy13x412 => (intro w s; (try dsimp only at s); first | (go_simp; with_reducible rfl) | go_simp)
    try simp only [Act.put, zps]
    refine wtk (i := 15) (oi := zozgx23) (v := ?v15x413) rfl ⟨by rfl, ?hy15x413⟩ (by assumption) ?_
    case hy15x413 => (intro w s; (try dsimp only at s); first | (go_simp; with_reducible rfl) | go_simp)
    try simp only [Act.put, zps]
    refine wtk (i := 16) (oi := zozgx24) (v := ?v16x414) rfl ⟨by rfl, ?hy16x414⟩ (by assumption) ?_
    case hy16x414 => (intro w s; (try dsimp only at s); first | (go_simp; with_reducible rfl) | go_simp)
    try simp only [Act.put, zps]
    refine wtk (i := 17) (oi := zozgx25) (v := ?v17x415) rfl ⟨by rfl, ?hy17x415⟩ (by assumption) ?_
    case hy17x415 => (intro w s; (try dsimp only at s); first | (go_simp; with_reducible rfl) | go_simp)
    try simp only [Act.put, zps]
    refine wtk (i := 18) (oi := zozgx26) (v := ?v18x416) rfl ⟨by rfl, ?hy18x416⟩ (by assumption) ?_
    case hy18x416 => (intro w s; (try dsimp only at s); first | (go_simp; with_reducible rfl) | go_simp)
    try simp only [Act.put, zps]
    refine wtk (i := 19) (oi := zozgx27) (v := ?v19x417) rfl ⟨by rfl, ?hy19x417⟩ (by assumption) ?_
    case hy19x417 => (intro w s; (try dsimp only at s); first | (go_simp; with_reducible rfl) | go_simp)
    try simp only [Act.put, zps]
    refine wpAnyH_ready (rs := [14]) (by kernel_rfl) (by simp) ?_
    refine AllReadyH.cons (o := zozgx28) rfl (fun K hK => ?_) (AllReadyH.nil)
    go_simp
    go_at_call 21
    with_reducible refine HMk.out.mono ?_
    rintro e w7 ⟨rfl, rfl⟩
    go_simp
    refine hK.out _ _ ?_ (fun _hS => ?_)
    · exact r8
    clear hK K
    try simp only [Act.put, zps]
    refine wtk (i := 20) (oi := zozgx29) (v := ?v20x418) rfl ⟨by rfl, ?hy20x418⟩ (by assumption) ?_
    case hy20x418 => (intro w s; (try dsimp only at s); first | (go_simp; with_reducible rfl) | go_simp)
    try simp only [Act.put, zps]
    refine wtk (i := 21) (oi := zozgx30) (v := ?v21x419) rfl ⟨by rfl, ?hy21x419⟩ (by assumption) ?_
    case hy21x419 => (intro w s; (try dsimp only at s); first | (go_simp; with_reducible rfl) | go_simp)
    try simp only [Act.put, zps]
    refine wtk (i := 22) (oi := zozgx31) (v := ?v22x420) rfl ⟨by rfl, ?hy22x420⟩ (by assumption) ?_
    case hy22x420 => (intro w s; (try dsimp only at s); first | (go_simp; with_reducible rfl) | go_simp)
    try simp only [Act.put, zps]
    refine wpAnyH_done (by kernel_rfl) ?_ _
    refine NoPanic.normal ?_
    go_wp2
    go_ret
    exact ⟨rfl, L9, HD8.out, HX8.out⟩
  · obtain ⟨L9, hd9, hx9⟩ : ∃ L9, Dn B0 (N + 2) (fun _ => False) wn p L9 L9 pr q ∧ Kx B0 w wn := ⟨_, HD3.out.up (by omega), HX.out⟩
    clear HX HD3
    obtain ⟨ar, cr, yr, r1, -⟩ := hd9.ref
    have hbd : Below wn.heap.size wn wn.drew := (Below.refl _ _).drew
    have HX9 := hide (hx9.trans (Kx.of_below hbd))
    have HD9 := hide (hd9.below hbd)
    have HR9 : Hid (wn.drew.cell? ⟨pr, 0, none⟩ = some (.slice ar L9.length cr)) := hide r1
    have HLn := hide HD9.out.len_any
    have HRc := hide (HD9.out.rchanges_any (by omega))
    clear hx9 hd9
    refine wp_region_noPanic ?_
    refine wp_region_held_drew (S := (fun W => W.cell? ⟨pr, 0, none⟩ = some (.slice ar L9.length cr))) (by kernel_rfl) HR9.out (fun _hS => ?_)
    refine wtk (i := 0) (oi := zozgx9) (v := ?v0x501) rfl ⟨by rfl, ?hy0x501⟩ (by assumption) ?_
    case hy0x501 => (intro w s; (try dsimp only at s); first | (go_simp; with_reducible rfl) | go_simp)
    try simp only [Act.put, zps]
    refine wtk (i := 1) (oi := zozgx10) (v := ?v1x502) rfl ⟨by rfl, ?hy1x502⟩ (by assumption) ?_
    case hy1x502 => (intro w s; (try dsimp only at s); first | (go_simp; with_reducible rfl) | go_simp)
    try simp only [Act.put, zps]
    refine wtk (i := 2) (oi := zozgx11) (v := ?v2x503) rfl ⟨by rfl, ?hy2x503⟩ (by assumption) ?_
    case hy2x503 => (intro w s; (try dsimp only at s); first | (go_simp; with_reducible rfl) | go_simp)
    try simp only [Act.put, zps]
    refine wtk (i := 3) (oi := zozgx12) (v := ?v3x504) rfl ⟨by rfl, ?hy3x504⟩ (by assumption) ?_
    case hy3x504 => (intro w s; (try dsimp only at s); first | (go_simp; with_reducible rfl) | go_simp)
    try simp only [Act.put, zps]
    refine wtk (i := 4) (oi := zozgx13) (v := ?v4x505) rfl ⟨by rfl, ?hy4x505⟩ (by assumption) ?_
    case hy4x505 => (intro w s; (try dsimp only at s); first | (go_simp; with_reducible rfl) | go_simp)
    try simp only [Act.put, zps]
    refine wtk (i := 5) (oi := zozgx14) (v := ?v5x506) rfl ⟨by rfl, ?hy5x506⟩ (by assumption) ?_
    case hy5x506 => (intro w s; (try dsimp only at s); first | (go_simp; with_reducible rfl) | go_simp)
    try simp only [Act.put, zps]
    refine wtk (i := 7) (oi := zozgx15) (v := ?v7x507) rfl ⟨by rfl, ?hy7x507⟩ (by assumption) ?_
    case hy7x507 => (intro w s; (try dsimp only at s); first | (go_simp; with_reducible rfl) | go_simp)
    try simp only [Act.put, zps]
    refine wpAnyH_ready (rs := [6]) (by kernel_rfl) (by simp) ?_
    refine AllReadyH.cons (o := zozgx16) rfl (fun K hK => ?_) (AllReadyH.nil)
    go_simp
    go_at_call 20
    with_reducible refine HLn.out.mono ?_
    rintro e w7 ⟨rfl, rfl⟩
    go_simp
    refine hK.out _ _ ?_ (fun _hS => ?_)
    · exact HR9.out
    clear hK K
    try simp only [Act.put, zps]
    refine wpAnyH_ready (rs := [8]) (by kernel_rfl) (by simp) ?_
    refine AllReadyH.cons (o := zozgx17) rfl (fun K hK => ?_) (AllReadyH.nil)
    go_simp
    go_at_call 12
    with_reducible refine HRc.out.mono ?_
    rintro e w8 ⟨b8, d8, ys8, rfl, -, -, hb8⟩
    have r8 := one_below1 HR9.out hb8
    have HX8 := hide (HX9.out.trans (Kx.of_below hb8))
    have HD8 := hide (HD9.out.below hb8)
    have HMk := hide HD8.out.mark_any
    clear hb8 HLn HRc HX9 HD9
    go_simp
    refine hK.out _ _ ?_ (fun _hS => ?_)
    · exact r8
    clear hK K
    try simp only [Act.put, zps]
    refine wtk (i := 9) (oi := zozgx18) (v := ?v9x508) rfl ⟨by rfl, ?hy9x508⟩ (by assumption) ?_
    case hy9x508 => (intro w s; (try dsimp only at s); first | (go_simp; with_reducible rfl) | go_simp)
    try simp only [Act.put, zps]
    refine wtk (i := 10) (oi := zozgx19) (v := ?v10x509) rfl ⟨by rfl, ?hy10x509⟩ (by assumption) ?_
    case hy10x509 => (intro w s; (try dsimp only at s); first | (go_simp; with_reducible rfl) | go_simp)
    try simp only [Act.put, zps]
    refine wtk (i := 11) (oi := zozgx20) (v := ?v11x510) rfl ⟨by rfl, ?hy11x510⟩ (by assumption) ?_
    case hy11x510 => (intro w s; (try dsimp only at s); first | (go_simp; with_reducible rfl) | go_simp)
    try simp only [Act.put, zps]
    refine wtk (i := 12) (oi := zozgx21) (v := ?v12x511) rfl ⟨by rfl, ?hy12x511⟩ (by assumption) ?_
    case hy12x511 => (intro w s; (try dsimp only at s); first | (go_simp; with_reducible rfl) | go_simp)
    try simp only [Act.put, zps]
    refine wtk (i := 13) (oi := zozgx22) (v := ?v13x512) rfl ⟨by rfl, ?hy13x512⟩ (by assumption) ?_
    case hy13x512 => (intro w s; (try dsimp only at s); first | (go_simp; with_reducible rfl) | go_simp)
    try simp only [Act.put, zps]
    refine wtk (i := 15) (oi := zozgx23) (v := ?v15x513) rfl ⟨by rfl, ?hy15x513⟩ (by assumption) ?_
    case hy15x513 => (intro w s; (try dsimp only at s); first | (go_simp; with_reducible rfl) | go_simp)
    try simp only [Act.put, zps]
    refine wtk (i := 16) (oi := zozgx24) (v := ?v16x514) rfl ⟨by rfl, ?hy16x514⟩ (by assumption) ?_
    case hy16x514 => (intro w s; (try dsimp only at s); first | (go_simp; with_reducible rfl) | go_simp)
    try simp only [Act.put, zps]
    refine wtk (i := 17) (oi := zozgx25) (v := ?v17x515) rfl ⟨by rfl, ?hy17x515⟩ (by assumption) ?_
    case hy17x515 => (intro w s; (try dsimp only at s); first | (go_simp; with_reducible rfl) | go_simp)
    try simp only [Act.put, zps]
    refine wtk (i := 18) (oi := zozgx26) (v := ?v18x516) rfl ⟨by rfl, ?hy18x516⟩ (by assumption) ?_
    case hy18x516 => (intro w s; (try dsimp only at s); first | (go_simp; with_reducible rfl) | go_simp)
    try simp only [Act.put, zps]
    refine wtk (i := 19) (oi := zozgx27) (v := ?v19x517) rfl ⟨by rfl, ?hy19x517⟩ (by assumption) ?_
    case hy19x517 => (intro w s; (try dsimp only at s); first | (go_simp; with_reducible rfl) | go_simp)
    try simp only [Act.put, zps]
    refine wpAnyH_ready (rs := [14]) (by kernel_rfl) (by simp) ?_
    refine AllReadyH.cons (o := zozgx28) rfl (fun K hK => ?_) (AllReadyH.nil)
    go_simp
    go_at_call 21
    with_reducible refine HMk.out.mono ?_
    rintro e w7 ⟨rfl, rfl⟩
    go_simp
    refine hK.out _ _ ?_ (fun _hS => ?_)
    · exact r8
    clear hK K
    try simp only [Act.put, zps]
    refine wtk (i := 20) (oi := zozgx29) (v := ?v20x518) rfl ⟨by rfl, ?hy20x518⟩ (by assumption) ?_
    case hy20x518 => (intro w s; (try dsimp only at s); first | (go_simp; with_reducible rfl) | go_simp)
    try simp only [Act.put, zps]
    refine wtk (i := 21) (oi := zozgx30) (v := ?v21x519) rfl ⟨by rfl, ?hy21x519⟩ (by assumption) ?_
    case hy21x519 => (intro w s; (try dsimp only at s); first | (go_simp; with_reducible rfl) | go_simp)
    try simp only [Act.put, zps]
    refine wtk (i := 22) (oi := zozgx31) (v := ?v22x520) rfl ⟨by rfl, ?hy22x520⟩ (by assumption) ?_
    case hy22x520 => (intro w s; (try dsimp only at s); first | (go_simp; with_reducible rfl) | go_simp)
    try simp only [Act.put, zps]
    refine wpAnyH_done (by kernel_rfl) ?_ _
    refine NoPanic.normal ?_
    go_wp2
    go_ret
    exact ⟨rfl, L9, HD8.out, HX8.out⟩
  · obtain ⟨L9, hd9, hx9⟩ : ∃ L9, Dn B0 (N + 2) (fun _ => False) wn p L9 L9 pr q ∧ Kx B0 w wn := ⟨_, HD3.out.up (by omega), HX.out⟩
    clear HX HD3
    obtain ⟨ar, cr, yr, r1, -⟩ := hd9.ref
    have hbd : Below wn.heap.size wn wn.drew := (Below.refl _ _).drew
    have HX9 := hide (hx9.trans (Kx.of_below hbd))
    have HD9 := hide (hd9.below hbd)
    have HR9 : Hid (wn.drew.cell? ⟨pr, 0, none⟩ = some (.slice ar L9.length cr)) := hide r1
    have HLn := hide HD9.out.len_any
    have HRc := hide (HD9.out.rchanges_any (by omega))
    clear hx9 hd9
    refine wp_region_noPanic ?_
    refine wp_region_held_drew (S := (fun W => W.cell? ⟨pr, 0, none⟩ = some (.slice ar L9.length cr))) (by kernel_rfl) HR9.out (fun _hS => ?_)
    refine wtk (i := 0) (oi := zozgx9) (v := ?v0x601) rfl ⟨by rfl, ?hy0x601⟩ (by assumption) ?_
    case hy0x601 => (intro w s; (try dsimp only at s); first | (go_simp; with_reducible rfl) | go_simp)
    try simp only [Act.put, zps]
    refine wtk (i := 1) (oi := zozgx10) (v := ?v1x602) rfl ⟨by rfl, ?hy1x602⟩ (by assumption) ?_
    case hy1x602 => (intro w s; (try dsimp only at s); first | (go_simp; with_reducible rfl) | go_simp)
    try simp only [Act.put, zps]
    refine wtk (i := 2) (oi := zozgx11) (v := ?v2x603) rfl ⟨by rfl, ?hy2x603⟩ (by assumption) ?_
    case hy2x603 => (intro w s; (try dsimp only at s); first | (go_simp; with_reducible rfl) | go_simp)
    try simp only [Act.put, zps]
    refine wtk (i := 3) (oi := zozgx12) (v := ?v3x604) rfl ⟨by rfl, ?hy3x604⟩ (by assumption) ?_
    case hy3x604 => (intro w s; (try dsimp only at s); first | (go_simp; with_reducible rfl) | go_simp)
    try simp only [Act.put, zps]
    refine wtk (i := 4) (oi := zozgx13) (v := ?v4x605) rfl ⟨by rfl, ?hy4x605⟩ (by assumption) ?_
    case hy4x605 => (intro w s; (try dsimp only at s); first | (go_simp; with_reducible rfl) | go_simp)
    try simp only [Act.put, zps]
    refine wtk (i := 5) (oi := zozgx14) (v := ?v5x606) rfl ⟨by rfl, ?hy5x606⟩ (by assumption) ?_
    case hy5x606 => (intro w s; (try dsimp only at s); first | (go_simp; with_reducible rfl) | go_simp)
    try simp only [Act.put, zps]
    refine wtk (i := 7) (oi := zozgx15) (v := ?v7x607) rfl ⟨by rfl, ?hy7x607⟩ (by assumption) ?_
    case hy7x607 => (intro w s; (try dsimp only at s); first | (go_simp; with_reducible rfl) | go_simp)
    try simp only [Act.put, zps]
    refine wpAnyH_ready (rs := [6]) (by kernel_rfl) (by simp) ?_
    refine AllReadyH.cons (o := zozgx16) rfl (fun K hK => ?_) (AllReadyH.nil)
    go_simp
    go_at_call 20
    with_reducible refine HLn.out.mono ?_
    rintro e w7 ⟨rfl, rfl⟩
    go_simp
    refine hK.out _ _ ?_ (fun _hS => ?_)
    · exact HR9.out
    clear hK K
    try simp only [Act.put, zps]
    refine wpAnyH_ready (rs := [8]) (by kernel_rfl) (by simp) ?_
    refine AllReadyH.cons (o := zozgx17) rfl (fun K hK => ?_) (AllReadyH.nil)
    go_simp
    go_at_call 12
    with_reducible refine HRc.out.mono ?_
    rintro e w8 ⟨b8, d8, ys8, rfl, -, -, hb8⟩
    have r8 := one_below1 HR9.out hb8
    have HX8 := hide (HX9.out.trans (Kx.of_below hb8))
    have HD8 := hide (HD9.out.below hb8)
    have HMk := hide HD8.out.mark_any
    clear hb8 HLn HRc HX9 HD9
    go_simp
    refine hK.out _ _ ?_ (fun _hS => ?_)
    · exact r8
    clear hK K
    try simp only [Act.put, zps]
    refine wtk (i := 9) (oi := zozgx18) (v := ?v9x608) rfl ⟨by rfl, ?hy9x608⟩ (by assumption) ?_
    case hy9x608 => (intro w s; (try dsimp only at s); first | (go_simp; with_reducible rfl) | go_simp)
    try simp only [Act.put, zps]
    refine wtk (i := 10) (oi := zozgx19) (v := ?v10x609) rfl ⟨by rfl, ?hy10x609⟩ (by assumption) ?_
    case hy10x609 => (intro w s; (try dsimp only at s); first | (go_simp; with_reducible rfl) | go_simp)
    try simp only [Act.put, zps]
    refine wtk (i := 11) (oi := zozgx20) (v := ?v11x610) rfl ⟨by rfl, ?hy11x610⟩ (by assumption) ?_
    case hy11x610 => (intro w s; (try dsimp only at s); first | (go_simp; with_reducible rfl) | go_simp)
    try simp only [Act.put, zps]
    refine wtk (i := 12) (oi := zozgx21) (v := ?v12x611) rfl ⟨by rfl, ?hy12x611⟩ (by assumption) ?_
    case hy12x611 => (intro w s; (try dsimp only at s); first | (go_simp; with_reducible rfl) | go_simp)
    try simp only [Act.put, zps]
    refine wtk (i := 13) (oi := zozgx22) (v := ?v13x612) rfl ⟨by rfl, ?hy13x612⟩ (by assumption) ?_
    case hy13x612 => (intro w s; (try dsimp only at s); first | (go_simp; with_reducible rfl) | go_simp)
    try simp only [Act.put, zps]
    refine wtk (i := 15) (oi := zozgx23) (v := ?v15x613) rfl ⟨by rfl, ?hy15x613⟩ (by assumption) ?_
    case hy15x613 => (intro w s; (try dsimp only at s); first | (go_simp; with_reducible rfl) | go_simp)
    try simp only [Act.put, zps]
    refine wtk (i := 16) (oi := zozgx24) (v := ?v16x614) rfl ⟨by rfl, ?hy16x614⟩ (by assumption) ?_
    case hy16x614 => (intro w s; (try dsimp only at s); first | (go_simp; with_reducible rfl) | go_simp)
    try simp only [Act.put, zps]
    refine wtk (i := 17) (oi := zozgx25) (v := ?v17x615) rfl ⟨by rfl, ?hy17x615⟩ (by assumption) ?_
    case hy17x615 => (intro w s; (try dsimp only at s); first | (go_simp; with_reducible rfl) | go_simp)
    try simp only [Act.put, zps]
    refine wtk (i := 18) (oi := zozgx26) (v := ?v18x616) rfl ⟨by rfl, ?hy18x616⟩ (by assumption) ?_
    case hy18x616 => (intro w s; (try dsimp only at s); first | (go_simp; with_reducible rfl) | go_simp)
    try simp only [Act.put, zps]
    refine wtk (i := 19) (oi := zozgx27) (v := ?v19x617) rfl ⟨by rfl, ?hy19x617⟩ (by assumption) ?_
    case hy19x617 => (intro w s; (try dsimp only at s); first | (go_simp; with_reducible rfl) | go_simp)
    try simp only [Act.put, zps]
    refine wpAnyH_ready (rs := [14]) (by kernel_rfl) (by simp) ?_
    refine AllReadyH.cons (o := zozgx28) rfl (fun K hK => ?_) (AllReadyH.nil)
    go_simp
    go_at_call 21
    with_reducible refine HMk.out.mono ?_
    rintro e w7 ⟨rfl, rfl⟩
    go_simp
    refine hK.out _ _ ?_ (fun _hS => ?_)
    · exact r8
    clear hK K
    try simp only [Act.put, zps]
    refine wtk (i := 20) (oi := zozgx29) (v := ?v20x618) rfl ⟨by rfl, ?hy20x618⟩ (by assumption) ?_
    case hy20x618 => (intro w s; (try dsimp only at s); first | (go_simp; with_reducible rfl) | go_simp)
    try simp only [Act.put, zps]
    refine wtk (i := 21) (oi := zozgx30) (v := ?v21x619) rfl ⟨by rfl, ?hy21x619⟩ (by assumption) ?_
    case hy21x619 => (intro w s; (try dsimp only at s); first | (go_simp; with_reducible rfl) | go_simp)
    try simp only [Act.put, zps]
    refine wtk (i := 22) (oi := zozgx31) (v := ?v22x620) rfl ⟨by rfl, ?hy22x620⟩ (by assumption) ?_
    case hy22x620 => (intro w s; (try dsimp only at s); first | (go_simp; with_reducible rfl) | go_simp)
    try simp only [Act.put, zps]
    refine wpAnyH_done (by kernel_rfl) ?_ _
    refine NoPanic.normal ?_
    go_wp2
    go_ret
    exact ⟨rfl, L9, HD8.out, HX8.out⟩
  · obtain ⟨L9, hd9, hx9⟩ : ∃ L9, Dn B0 (N + 2) (fun _ => False) wn p L9 L9 pr q ∧ Kx B0 w wn := ⟨_, HD3.out.up (by omega), HX.out⟩
    clear HX HD3
    obtain ⟨ar, cr, yr, r1, -⟩ := hd9.ref
    have hbd : Below wn.heap.size wn wn.drew := (Below.refl _ _).drew
    have HX9 := hide (hx9.trans (Kx.of_below hbd))
    have HD9 := hide (hd9.below hbd)
    have HR9 : Hid (wn.drew.cell? ⟨pr, 0, none⟩ = some (.slice ar L9.length cr)) := hide r1
    have HLn := hide HD9.out.len_any
    have HRc := hide (HD9.out.rchanges_any (by omega))
    clear hx9 hd9
    refine wp_region_noPanic ?_
    refine wp_region_held_drew (S := (fun W => W.cell? ⟨pr, 0, none⟩ = some (.slice ar L9.length cr))) (by kernel_rfl) HR9.out (fun _hS => ?_)
    refine wtk (i := 0) (oi := zozgx9) (v := ?v0x701) rfl ⟨by rfl, ?hy0x701⟩ (by assumption) ?_
    case hy0x701 => (intro w s; (try dsimp only at s); first | (go_simp; with_reducible rfl) | go_simp)
    try simp only [Act.put, zps]
    refine wtk (i := 1) (oi := zozgx10) (v := ?v1x702) rfl ⟨by rfl, ?hy1x702⟩ (by assumption) ?_
    case hy1x702 => (intro w s; (try dsimp only at s); first | (go_simp; with_reducible rfl) | go_simp)
    try simp only [Act.put, zps]
    refine wtk (i := 2) (oi := zozgx11) (v := ?v2x703) rfl ⟨by rfl, ?hy2x703⟩ (by assumption) ?_
    case hy2x703 => (intro w s; (try dsimp only at s); first | (go_simp; with_reducible rfl) | go_simp)
    try simp only [Act.put, zps]
    refine wtk (i := 3) (oi := zozgx12) (v := ?v3x704) rfl ⟨by rfl, ?hy3x704⟩ (by assumption) ?_
    case hy3x704 => (intro w s; (try dsimp only at s); first | (go_simp; with_reducible rfl) | go_simp)
    try simp only [Act.put, zps]
    refine wtk (i := 4) (oi := zozgx13) (v := ?v4x705) rfl ⟨by rfl, ?hy4x705⟩ (by assumption) ?_
    case hy4x705 => (intro w s; (try dsimp only at s); first | (go_simp; with_reducible rfl) | go_simp)
    try simp only [Act.put, zps]
    refine wtk (i := 5) (oi := zozgx14) (v := ?v5x706) rfl ⟨by rfl, ?hy5x706⟩ (by assumption) ?_
    case hy5x706 => (intro w s; (try dsimp only at s); first | (go_simp; with_reducible rfl) | go_simp)
    try simp only [Act.put, zps]
    refine wtk (i := 7) (oi := zozgx15) (v := ?v7x707) rfl ⟨by rfl, ?hy7x707⟩ (by assumption) ?_
    case hy7x707 => (intro w s; (try dsimp only at s); first | (go_simp; with_reducible rfl) | go_simp)
    try simp only [Act.put, zps]
    refine wpAnyH_ready (rs := [6]) (by kernel_rfl) (by simp) ?_
    refine AllReadyH.cons (o := zozgx16) rfl (fun K hK => ?_) (AllReadyH.nil)
    go_simp
    go_at_call 20
    with_reducible refine HLn.out.mono ?_
    rintro e w7 ⟨rfl, rfl⟩
    go_simp
    refine hK.out _ _ ?_ (fun _hS => ?_)
    · exact HR9.out
    clear hK K
    try simp only [Act.put, zps]
    refine wpAnyH_ready (rs := [8]) (by kernel_rfl) (by simp) ?_
    refine AllReadyH.cons (o := zozgx17) rfl (fun K hK => ?_) (AllReadyH.nil)
    go_simp
    go_at_call 12
    with_reducible refine HRc.out.mono ?_
    rintro e w8 ⟨b8, d8, ys8, rfl, -, -, hb8⟩
    have r8 := one_below1 HR9.out hb8
    have HX8 := hide (HX9.out.trans (Kx.of_below hb8))
    have HD8 := hide (HD9.out.below hb8)
    have HMk := hide HD8.out.mark_any
    clear hb8 HLn HRc HX9 HD9
    go_simp
    refine hK.out _ _ ?_ (fun _hS => ?_)
    · exact r8
    clear hK K
    try simp only [Act.put, zps]
    refine wtk (i := 9) (oi := zozgx18) (v := ?v9x708) rfl ⟨by rfl, ?hy9x708⟩ (by assumption) ?_
    case hy9x708 => (intro w s; (try dsimp only at s); first | (go_simp; with_reducible rfl) | go_simp)
    try simp only [Act.put, zps]
    refine wtk (i := 10) (oi := zozgx19) (v := ?v10x709) rfl ⟨by rfl, ?hy10x709⟩ (by assumption) ?_
    case hy10x709 => (intro w s; (try dsimp only at s); first | (go_simp; with_reducible rfl) | go_simp)
    try simp only [Act.put, zps]
    refine wtk (i := 11) (oi := zozgx20) (v := ?v11x710) rfl ⟨by rfl, ?hy11x710⟩ (by assumption) ?_
    case hy11x710 => (intro w s; (try dsimp only at s); first | (go_simp; with_reducible rfl) | go_simp)
    try simp only [Act.put, zps]
    refine wtk (i := 12) (oi := zozgx21) (v := ?v12x711) rfl ⟨by rfl, ?hy12x711⟩ (by assumption) ?_
    case hy12x711 => (intro w s; (try dsimp only at s); first | (go_simp; with_reducible rfl) | go_simp)
    try simp only [Act.put, zps]
    refine wtk (i := 13) (oi := zozgx22) (v := ?v13x712) rfl ⟨by rfl, ?hy13x712⟩ (by assumption) ?_
    case hy13x712 => (intro w s; (try dsimp only at s); first | (go_simp; with_reducible rfl) | go_simp)
    try simp only [Act.put, zps]
    refine wtk (i := 15) (oi := zozgx23) (v := ?v15x713) rfl ⟨by rfl, ?hy15x713⟩ (by assumption) ?_
    case hy15x713 => (intro w s; (try dsimp only at s); first | (go_simp; with_reducible rfl) | go_simp)
    try simp only [Act.put, zps]
    refine wtk (i := 16) (oi := zozgx24) (v := ?v16x714) rfl ⟨by rfl, ?hy16x714⟩ (by assumption) ?_
    case hy16x714 => (intro w s; (try dsimp only at s); first | (go_simp; with_reducible rfl) | go_simp)
    try simp only [Act.put, zps]
    refine wtk (i := 17) (oi := zozgx25) (v := ?v17x715) rfl ⟨by rfl, ?hy17x715⟩ (by assumption) ?_
    case hy17x715 => (intro w s; (try dsimp only at s); first | (go_simp; with_reducible rfl) | go_simp)
    try simp only [Act.put, zps]
    refine wtk (i := 18) (oi := zozgx26) (v := ?v18x716) rfl ⟨by rfl, ?hy18x716⟩ (by assumption) ?_
    case hy18x716 => (intro w s; (try dsimp only at s); first | (go_simp; with_reducible rfl) | go_simp)
    try simp only [Act.put, zps]
    refine wtk (i := 19) (oi := zozgx27) (v := ?v19x717) rfl ⟨by rfl, ?hy19x717⟩ (by assumption) ?_
    case hy19x717 => (intro w s; (try dsimp only at s); first | (go_simp; with_reducible rfl) | go_simp)
    try simp only [Act.put, zps]
    refine wpAnyH_ready (rs := [14]) (by kernel_rfl) (by simp) ?_
    refine AllReadyH.cons (o := zozgx28) rfl (fun K hK => ?_) (AllReadyH.nil)
    go_simp
    go_at_call 21
    with_reducible refine HMk.out.mono ?_
    rintro e w7 ⟨rfl, rfl⟩
    go_simp
    refine hK.out _ _ ?_ (fun _hS => ?_)
    · exact r8
    clear hK K
    try simp only [Act.put, zps]
    refine wtk (i := 20) (oi := zozgx29) (v := ?v20x718) rfl ⟨by rfl, ?hy20x718⟩ (by assumption) ?_
    case hy20x718 => (intro w s; (try dsimp only at s); first | (go_simp; with_reducible rfl) | go_simp)
    try simp only [Act.put, zps]
    refine wtk (i := 21) (oi := zozgx30) (v := ?v21x719) rfl ⟨by rfl, ?hy21x719⟩ (by assumption) ?_
    case hy21x719 => (intro w s; (try dsimp only at s); first | (go_simp; with_reducible rfl) | go_simp)
    try simp only [Act.put, zps]
    refine wtk (i := 22) (oi := zozgx31) (v := ?v22x720) rfl ⟨by rfl, ?hy22x720⟩ (by assumption) ?_
    case hy22x720 => (intro w s; (try dsimp only at s); first | (go_simp; with_reducible rfl) | go_simp)
    try simp only [Act.put, zps]
    refine wpAnyH_done (by kernel_rfl) ?_ _
    refine NoPanic.normal ?_
    go_wp2
    go_ret
    exact ⟨rfl, L9, HD8.out, HX8.out⟩
  · by_cases ht : 0 ≤ to ∧ to ≤ (L.length : Int)
    · obtain ⟨m, rfl⟩ : ∃ m : Nat, to = (m : Int) := ⟨to.toNat, by omega⟩
      have hm : m ≤ L.length := by omega
      obtain ⟨ar, cr, yr, r1, -⟩ := HD3.out.ref
      have hbd : Below w3.heap.size w3 w3.drew := (Below.refl _ _).drew
      have HXd := hide (HX.out.trans (Kx.of_below hbd))
      have HCd := hide (HC.out.below hbd)
      have HDd := hide (HD3.out.below hbd)
      have r1d : w3.drew.cell? ⟨pr, 0, none⟩ = some (.slice ar L.length cr) := r1
      have HO4 : Hid (w3.drew.cell? ⟨w.heap.size, 4, none⟩ = some (.int .i64 (m : Int))) := hide c4
      have HMk := hide HDd.out.mark_any
      have HBk := hide (HDd.out.back_any (by omega) m hm)
      clear HX HC HD3 hbd
      refine wp_region_noPanic ?_
      refine wp_region_held_drew (S := (fun W => W.cell? ⟨w.heap.size, 4, none⟩ = some (.int .i64 (m : Int)))) (by kernel_rfl) HO4.out (fun _hS => ?_)
      refine wtk (i := 0) (oi := zozgx32) (v := ?v0x3001) rfl ⟨by rfl, ?hy0x3001⟩ (by assumption) ?_
      case hy0x3001 => (intro w s; (try dsimp only at s); first | (go_simp; with_reducible rfl) | go_simp)
      try simp only [Act.put, zps]
      refine wtk (i := 2) (oi := zozgx33) (v := ?v2x3002) rfl ⟨by rfl, ?hy2x3002⟩ (by assumption) ?_
      case hy2x3002 => (intro w s; (try dsimp only at s); first | (go_simp; with_reducible rfl) | go_simp)
      try simp only [Act.put, zps]
      refine wtk (i := 3) (oi := zozgx34) (v := ?v3x3003) rfl ⟨by rfl, ?hy3x3003⟩ (by assumption) ?_
      case hy3x3003 => (intro w s; (try dsimp only at s); first | (go_simp; with_reducible rfl) | go_simp)
      try simp only [Act.put, zps]
      refine wtk (i := 4) (oi := zozgx35) (v := ?v4x3004) rfl ⟨by rfl, ?hy4x3004⟩ (by assumption) ?_
      case hy4x3004 => (intro w s; (try dsimp only at s); first | (go_simp; with_reducible rfl) | go_simp)
      try simp only [Act.put, zps]
      refine wpAnyH_ready (rs := [1, 5]) (by kernel_rfl) (by simp) ?_
      refine AllReadyH.cons (o := zozgx36) rfl (fun K hK => ?_) (AllReadyH.cons (o := zozgx37) rfl (fun K hK => ?_) (AllReadyH.nil))
      · go_simp
        go_at_call 21
        (with_reducible refine HMk.out.mono ?_)
        rintro e w6 ⟨rfl, rfl⟩
        go_simp
        refine hK.out _ _ ?_ (fun _hS => ?_)
        · exact HO4.out
        clear hK K
        try simp only [Act.put, zps]
        refine wpAnyH_ready (rs := [5]) (by kernel_rfl) (by simp) ?_
        refine AllReadyH.cons (o := zozgx37) rfl (fun K hK => ?_) (AllReadyH.nil)
        go_simp
        refine hK.out _ _ ?_ (fun _hS => ?_)
        · exact HO4.out
        clear hK K
        try simp only [Act.put, zps]
        refine wtk (i := 6) (oi := zozgx38) (v := ?v6x3005) rfl ⟨by rfl, ?hy6x3005⟩ (by assumption) ?_
        case hy6x3005 => (intro w s; (try dsimp only at s); first | (go_simp; with_reducible rfl) | go_simp)
        try simp only [Act.put, zps]
        refine wtk (i := 7) (oi := zozgx39) (v := ?v7x3006) rfl ⟨by rfl, ?hy7x3006⟩ (by assumption) ?_
        case hy7x3006 => (intro w s; (try dsimp only at s); first | (go_simp; with_reducible rfl) | go_simp)
        try simp only [Act.put, zps]
        refine wtk (i := 8) (oi := zozgx40) (v := ?v8x3007) rfl ⟨by rfl, ?hy8x3007⟩ (by assumption) ?_
        case hy8x3007 => (intro w s; (try dsimp only at s); first | (go_simp; with_reducible rfl) | go_simp)
        try simp only [Act.put, zps]
        refine wtk (i := 9) (oi := zozgx41) (v := ?v9x3008) rfl ⟨by rfl, ?hy9x3008⟩ (by assumption) ?_
        case hy9x3008 => (intro w s; (try dsimp only at s); first | (go_simp; with_reducible rfl) | go_simp)
        try simp only [Act.put, zps]
        refine wtk (i := 10) (oi := zozgx42) (v := ?v10x3009) rfl ⟨by rfl, ?hy10x3009⟩ (by assumption) ?_
        case hy10x3009 => (intro w s; (try dsimp only at s); first | (go_simp; with_reducible rfl) | go_simp)
        try simp only [Act.put, zps]
        refine wtk (i := 11) (oi := zozgx43) (v := ?v11x3010) rfl ⟨by rfl, ?hy11x3010⟩ (by assumption) ?_
        case hy11x3010 => (intro w s; (try dsimp only at s); first | (go_simp; with_reducible rfl) | go_simp)
        try simp only [Act.put, zps]
        refine wtk (i := 14) (oi := zozgx44) (v := ?v14x3011) rfl ⟨by rfl, ?hy14x3011⟩ (by assumption) ?_
        case hy14x3011 => (intro w s; (try dsimp only at s); first | (go_simp; with_reducible rfl) | go_simp)
        try simp only [Act.put, zps]
        refine wtk (i := 15) (oi := zozgx45) (v := ?v15x3012) rfl ⟨by rfl, ?hy15x3012⟩ (by assumption) ?_
        case hy15x3012 => (intro w s; (try dsimp only at s); first | (go_simp; with_reducible rfl) | go_simp)
        try simp only [Act.put, zps]
        refine wtk (i := 16) (oi := zozgx46) (v := ?v16x3013) rfl ⟨by rfl, ?hy16x3013⟩ (by assumption) ?_
        case hy16x3013 => (intro w s; (try dsimp only at s); first | (go_simp; with_reducible rfl) | go_simp)
        try simp only [Act.put, zps]
        refine wpAnyH_ready (rs := [12]) (by kernel_rfl) (by simp) ?_
        refine AllReadyH.cons (o := zozgx47) rfl (fun K hK => ?_) (AllReadyH.nil)
        go_simp
        go_at_call 33
        (with_reducible refine HBk.out.mono ?_)
        rintro e w7 ⟨rfl, hd7, hx7⟩
        have o7 : w7.cell? ⟨w.heap.size, 4, none⟩ = some (.int .i64 (m : Int)) := (HCd.out.kx hx7).cells.2.2.2.2
        have HX7 := hide (HXd.out.trans hx7)
        have HC7 := hide (HCd.out.kx hx7)
        have HRk := hide (hd7.rback_any m hm)
        clear hd7 hx7
        go_simp
        refine hK.out _ _ ?_ (fun _hS => ?_)
        · exact o7
        clear hK K
        try simp only [Act.put, zps]
        refine wtk (i := 13) (oi := zozgx48) (v := ?v13x3014) rfl ⟨by rfl, ?hy13x3014⟩ (by assumption) ?_
        case hy13x3014 => (intro w s; (try dsimp only at s); first | (go_simp; with_reducible rfl) | go_simp)
        try simp only [Act.put, zps]
        refine wpAnyH_ready (rs := [17]) (by kernel_rfl) (by simp) ?_
        refine AllReadyH.cons (o := zozgx49) rfl (fun K hK => ?_) (AllReadyH.nil)
        go_simp
        go_at_call 34
        (with_reducible refine HRk.out.mono ?_)
        rintro e wn ⟨rfl, hd8, hx8⟩
        have o8 : wn.cell? ⟨w.heap.size, 4, none⟩ = some (.int .i64 (m : Int)) := (HC7.out.kx hx8).cells.2.2.2.2
        have HX := hide (HX7.out.trans hx8)
        have HC := hide (HC7.out.kx hx8)
        have HD3 := hide hd8
        clear hd8 hx8 HX7 HC7
        go_simp
        refine hK.out _ _ ?_ (fun _hS => ?_)
        · exact o8
        clear hK K
        try simp only [Act.put, zps]
        refine wtk (i := 18) (oi := zozgx50) (v := ?v18x3015) rfl ⟨by rfl, ?hy18x3015⟩ (by assumption) ?_
        case hy18x3015 => (intro w s; (try dsimp only at s); first | (go_simp; with_reducible rfl) | go_simp)
        try simp only [Act.put, zps]
        refine wtk (i := 19) (oi := zozgx51) (v := ?v19x3016) rfl ⟨by rfl, ?hy19x3016⟩ (by assumption) ?_
        case hy19x3016 => (intro w s; (try dsimp only at s); first | (go_simp; with_reducible rfl) | go_simp)
        try simp only [Act.put, zps]
        refine wtk (i := 20) (oi := zozgx52) (v := ?v20x3017) rfl ⟨by rfl, ?hy20x3017⟩ (by assumption) ?_
        case hy20x3017 => (intro w s; (try dsimp only at s); first | (go_simp; with_reducible rfl) | go_simp)
        try simp only [Act.put, zps]
        refine wpAnyH_done (by kernel_rfl) ?_ _
        refine NoPanic.normal ?_
        have hw0 : (IntKind.i64.wrap (0 : Int) == 0) = true := by decide
        simp only [hw0]
        clear c0 c1 c2 c3 c4
        obtain ⟨c0, c1, c2, c3, c4⟩ := HC.out.cells
        go_wp2_with (first | (go_at_call 39; (first | with_reducible refine (HC.out.whole1 hkl).mono ?_ | with_reducible refine (HC.out.whole2 hvl).mono ?_); rintro e wn ⟨rfl, hb⟩; have HX := hide (HX.out.trans (Kx.of_below hb)); have HC := hide (HC.out.below hb); have HD3 := hide (HD3.out.below hb); clear hb c0 c1 c2 c3 c4; obtain ⟨c0, c1, c2, c3, c4⟩ := HC.out.cells) | (go_at_call 40; (with_reducible refine (HC.out.spoil1 hkl).mono ?_); rintro e wn ⟨rfl, hg⟩; have HX := hide (HX.out.spoil hg hg1); have HD3 := hide (HD3.out.spoil (X' := fun j => j = w2.heap.size) (.inl rfl) hg (fun j hj => ⟨.inr hj, by omega⟩)); have HS2 := hide (spoil2_any HC.out.o2 hvl hg (by omega)); clear hg HC) | (go_at_call 40; (with_reducible refine HS2.out.mono ?_); rintro e wn ⟨rfl, hg⟩; have HX := hide (HX.out.spoil hg hg2); have HD3 := hide (HD3.out.spoil (X' := fun _ => False) rfl hg (fun j hj => hj.elim)); clear hg HS2) | fail)
        obtain ⟨L9, hd9, hx9⟩ : ∃ L9, Dn B0 (N + 2) (fun _ => False) wn p L9 L9 pr q ∧ Kx B0 w wn := ⟨_, HD3.out.up (by omega), HX.out⟩
        clear HX HD3
        obtain ⟨ar, cr, yr, r1, -⟩ := hd9.ref
        have hbd : Below wn.heap.size wn wn.drew := (Below.refl _ _).drew
        have HX9 := hide (hx9.trans (Kx.of_below hbd))
        have HD9 := hide (hd9.below hbd)
        have HR9 : Hid (wn.drew.cell? ⟨pr, 0, none⟩ = some (.slice ar L9.length cr)) := hide r1
        have HLn := hide HD9.out.len_any
        have HRc := hide (HD9.out.rchanges_any (by omega))
        clear hx9 hd9
        refine wp_region_noPanic ?_
        refine wp_region_held_drew (S := (fun W => W.cell? ⟨pr, 0, none⟩ = some (.slice ar L9.length cr))) (by kernel_rfl) HR9.out (fun _hS => ?_)
        refine wtk (i := 0) (oi := zozgx9) (v := ?v0x4079) rfl ⟨by rfl, ?hy0x4079⟩ (by assumption) ?_
        case hy0x4079 => (intro w s; (try dsimp only at s); first | (go_simp; with_reducible rfl) | go_simp)
        try simp only [Act.put, zps]
        refine wtk (i := 1) (oi := zozgx10) (v := ?v1x4080) rfl ⟨by rfl, ?hy1x4080⟩ (by assumption) ?_
        case hy1x4080 => (intro w s; (try dsimp only at s); first | (go_simp; with_reducible rfl) | go_simp)
        try simp only [Act.put, zps]
        refine wtk (i := 2) (oi := zozgx11) (v := ?v2x4081) rfl ⟨by rfl, ?hy2x4081⟩ (by assumption) ?_
        case hy2x4081 => (intro w s; (try dsimp only at s); first | (go_simp; with_reducible rfl) | go_simp)
        try simp only [Act.put, zps]
        refine wtk (i := 3) (oi := zozgx12) (v := ?v3x4082) rfl ⟨by rfl, ?hy3x4082⟩ (by assumption) ?_
        case hy3x4082 => (intro w s; (try dsimp only at s); first | (go_simp; with_reducible rfl) | go_simp)
        try simp only [Act.put, zps]
        refine wtk (i := 4) (oi := zozgx13) (v := ?v4x4083) rfl ⟨by rfl, ?hy4x4083⟩ (by assumption) ?_
        case hy4x4083 => (intro w s; (try dsimp only at s); first | (go_simp; with_reducible rfl) | go_simp)
        try simp only [Act.put, zps]
        refine wtk (i := 5) (oi := zozgx14) (v := ?v5x4084) rfl ⟨by rfl, ?hy5x4084⟩ (by assumption) ?_
        case hy5x4084 => (intro w s; (try dsimp only at s); first | (go_simp; with_reducible rfl) | go_simp)
        try simp only [Act.put, zps]
        refine wtk (i := 7) (oi := zozgx15) (v := ?v7x4085) rfl ⟨by rfl, ?hy7x4085⟩ (by assumption) ?_
        case hy7x4085 => (intro w s; (try dsimp only at s); first | (go_simp; with_reducible rfl) | go_simp)
        try simp only [Act.put, zps]
        refine wpAnyH_ready (rs := [6]) (by kernel_rfl) (by simp) ?_
        refine AllReadyH.cons (o := zozgx16) rfl (fun K hK => ?_) (AllReadyH.nil)
        go_simp
        go_at_call 20
        with_reducible refine HLn.out.mono ?_
        rintro e w7 ⟨rfl, rfl⟩
        go_simp
        refine hK.out _ _ ?_ (fun _hS => ?_)
        · exact HR9.out
        clear hK K
        try simp only [Act.put, zps]
        refine wpAnyH_ready (rs := [8]) (by kernel_rfl) (by simp) ?_
        refine AllReadyH.cons (o := zozgx17) rfl (fun K hK => ?_) (AllReadyH.nil)
        go_simp
        go_at_call 12
        with_reducible refine HRc.out.mono ?_
        rintro e w8 ⟨b8, d8, ys8, rfl, -, -, hb8⟩
        have r8 := one_below1 HR9.out hb8
        have HX8 := hide (HX9.out.trans (Kx.of_below hb8))
        have HD8 := hide (HD9.out.below hb8)
        have HMk := hide HD8.out.mark_any
        clear hb8 HLn HRc HX9 HD9
        go_simp
        refine hK.out _ _ ?_ (fun _hS => ?_)
        · exact r8
        clear hK K
        try simp only [Act.put, zps]
        refine wtk (i := 9) (oi := zozgx18) (v := ?v9x4086) rfl ⟨by rfl, ?hy9x4086⟩ (by assumption) ?_
        case hy9x4086 => (intro w s; (try dsimp only at s); first | (go_simp; with_reducible rfl) | go_simp)
        try simp only [Act.put, zps]
        refine wtk (i := 10) (oi := zozgx19) (v := ?v10x4087) rfl ⟨by rfl, ?hy10x4087⟩ (by assumption) ?_
        case hy10x4087 => (intro w s; (try dsimp only at s); first | (go_simp; with_reducible rfl) | go_simp)
        try simp only [Act.put, zps]
        refine wtk (i := 11) (oi := zozgx20) (v := ?v11x4088) rfl ⟨by rfl, ?hy11x4088⟩ (by assumption) ?_
        case hy11x4088 => (intro w s; (try dsimp only at s); first | (go_simp; with_reducible rfl) | go_simp)
        try simp only [Act.put, zps]
        refine wtk (i := 12) (oi := zozgx21) (v := ?v12x4089) rfl ⟨by rfl, ?hy12x4089⟩ (by assumption) ?_
        case hy12x4089 => (intro w s; (try dsimp only at s); first | (go_simp; with_reducible rfl) | go_simp)
        try simp only [Act.put, zps]
        refine wtk (i := 13) (oi := zozgx22) (v := ?v13x4090) rfl ⟨by rfl, ?hy13x4090⟩ (by assumption) ?_
        case hy13x4090 => (intro w s; (try dsimp only at s); first | (go_simp; with_reducible rfl) | go_simp)
        try simp only [Act.put, zps]
        refine wtk (i := 15) (oi := zozgx23) (v := ?v15x4091) rfl ⟨by rfl, ?hy15x4091⟩ (by assumption) ?_
        case hy15x4091 => (intro w s; (try dsimp only at s); first | (go_simp; with_reducible rfl) | go_simp)
        try simp only [Act.put, zps]
        refine wtk (i := 16) (oi := zozgx24) (v := ?v16x4092) rfl ⟨by rfl, ?hy16x4092⟩ (by assumption) ?_
        case hy16x4092 => (intro w s; (try dsimp only at s); first | (go_simp; with_reducible rfl) | go_simp)
        try simp only [Act.put, zps]
        refine wtk (i := 17) (oi := zozgx25) (v := ?v17x4093) rfl ⟨by rfl, ?hy17x4093⟩ (by assumption) ?_
        case hy17x4093 => (intro w s; (try dsimp only at s); first | (go_simp; with_reducible rfl) | go_simp)
        try simp only [Act.put, zps]
        refine wtk (i := 18) (oi := zozgx26) (v := ?v18x4094) rfl ⟨by rfl, ?hy18x4094⟩ (by assumption) ?_
        case hy18x4094 => (intro w s; (try dsimp only at s); first | (go_simp; with_reducible rfl) | go_simp)
        try simp only [Act.put, zps]
        refine wtk (i := 19) (oi := zozgx27) (v := ?v19x4095) rfl ⟨by rfl, ?hy19x4095⟩ (by assumption) ?_
        case hy19x4095 => (intro w s; (try dsimp only at s); first | (go_simp; with_reducible rfl) | go_simp)
        try simp only [Act.put, zps]
        refine wpAnyH_ready (rs := [14]) (by kernel_rfl) (by simp) ?_
        refine AllReadyH.cons (o := zozgx28) rfl (fun K hK => ?_) (AllReadyH.nil)
        go_simp
        go_at_call 21
        with_reducible refine HMk.out.mono ?_
        rintro e w7 ⟨rfl, rfl⟩
        go_simp
        refine hK.out _ _ ?_ (fun _hS => ?_)
        · exact r8
        clear hK K
        try simp only [Act.put, zps]
        refine wtk (i := 20) (oi := zozgx29) (v := ?v20x4096) rfl ⟨by rfl, ?hy20x4096⟩ (by assumption) ?_
        case hy20x4096 => (intro w s; (try dsimp only at s); first | (go_simp; with_reducible rfl) | go_simp)
        try simp only [Act.put, zps]
        refine wtk (i := 21) (oi := zozgx30) (v := ?v21x4097) rfl ⟨by rfl, ?hy21x4097⟩ (by assumption) ?_
        case hy21x4097 => (intro w s; (try dsimp only at s); first | (go_simp; with_reducible rfl) | go_simp)
        try simp only [Act.put, zps]
        refine wtk (i := 22) (oi := zozgx31) (v := ?v22x4098) rfl ⟨by rfl, ?hy22x4098⟩ (by assumption) ?_
        case hy22x4098 => (intro w s; (try dsimp only at s); first | (go_simp; with_reducible rfl) | go_simp)
        try simp only [Act.put, zps]
        refine wpAnyH_done (by kernel_rfl) ?_ _
        refine NoPanic.normal ?_
        go_wp2
        go_ret
        exact ⟨rfl, L9, HD8.out, HX8.out⟩
      · go_simp
        refine hK.out _ _ ?_ (fun _hS => ?_)
        · exact HO4.out
        clear hK K
        try simp only [Act.put, zps]
        refine wtk (i := 6) (oi := zozgx38) (v := ?v6x3018) rfl ⟨by rfl, ?hy6x3018⟩ (by assumption) ?_
        case hy6x3018 => (intro w s; (try dsimp only at s); first | (go_simp; with_reducible rfl) | go_simp)
        try simp only [Act.put, zps]
        refine wpAnyH_ready (rs := [1]) (by kernel_rfl) (by simp) ?_
        refine AllReadyH.cons (o := zozgx36) rfl (fun K hK => ?_) (AllReadyH.nil)
        go_simp
        go_at_call 21
        (with_reducible refine HMk.out.mono ?_)
        rintro e w6 ⟨rfl, rfl⟩
        go_simp
        refine hK.out _ _ ?_ (fun _hS => ?_)
        · exact HO4.out
        clear hK K
        try simp only [Act.put, zps]
        refine wtk (i := 7) (oi := zozgx39) (v := ?v7x3019) rfl ⟨by rfl, ?hy7x3019⟩ (by assumption) ?_
        case hy7x3019 => (intro w s; (try dsimp only at s); first | (go_simp; with_reducible rfl) | go_simp)
        try simp only [Act.put, zps]
        refine wtk (i := 8) (oi := zozgx40) (v := ?v8x3020) rfl ⟨by rfl, ?hy8x3020⟩ (by assumption) ?_
        case hy8x3020 => (intro w s; (try dsimp only at s); first | (go_simp; with_reducible rfl) | go_simp)
        try simp only [Act.put, zps]
        refine wtk (i := 9) (oi := zozgx41) (v := ?v9x3021) rfl ⟨by rfl, ?hy9x3021⟩ (by assumption) ?_
        case hy9x3021 => (intro w s; (try dsimp only at s); first | (go_simp; with_reducible rfl) | go_simp)
        try simp only [Act.put, zps]
        refine wtk (i := 10) (oi := zozgx42) (v := ?v10x3022) rfl ⟨by rfl, ?hy10x3022⟩ (by assumption) ?_
        case hy10x3022 => (intro w s; (try dsimp only at s); first | (go_simp; with_reducible rfl) | go_simp)
        try simp only [Act.put, zps]
        refine wtk (i := 11) (oi := zozgx43) (v := ?v11x3023) rfl ⟨by rfl, ?hy11x3023⟩ (by assumption) ?_
        case hy11x3023 => (intro w s; (try dsimp only at s); first | (go_simp; with_reducible rfl) | go_simp)
        try simp only [Act.put, zps]
        refine wtk (i := 14) (oi := zozgx44) (v := ?v14x3024) rfl ⟨by rfl, ?hy14x3024⟩ (by assumption) ?_
        case hy14x3024 => (intro w s; (try dsimp only at s); first | (go_simp; with_reducible rfl) | go_simp)
        try simp only [Act.put, zps]
        refine wtk (i := 15) (oi := zozgx45) (v := ?v15x3025) rfl ⟨by rfl, ?hy15x3025⟩ (by assumption) ?_
        case hy15x3025 => (intro w s; (try dsimp only at s); first | (go_simp; with_reducible rfl) | go_simp)
        try simp only [Act.put, zps]
        refine wtk (i := 16) (oi := zozgx46) (v := ?v16x3026) rfl ⟨by rfl, ?hy16x3026⟩ (by assumption) ?_
        case hy16x3026 => (intro w s; (try dsimp only at s); first | (go_simp; with_reducible rfl) | go_simp)
        try simp only [Act.put, zps]
        refine wpAnyH_ready (rs := [12]) (by kernel_rfl) (by simp) ?_
        refine AllReadyH.cons (o := zozgx47) rfl (fun K hK => ?_) (AllReadyH.nil)
        go_simp
        go_at_call 33
        (with_reducible refine HBk.out.mono ?_)
        rintro e w7 ⟨rfl, hd7, hx7⟩
        have o7 : w7.cell? ⟨w.heap.size, 4, none⟩ = some (.int .i64 (m : Int)) := (HCd.out.kx hx7).cells.2.2.2.2
        have HX7 := hide (HXd.out.trans hx7)
        have HC7 := hide (HCd.out.kx hx7)
        have HRk := hide (hd7.rback_any m hm)
        clear hd7 hx7
        go_simp
        refine hK.out _ _ ?_ (fun _hS => ?_)
        · exact o7
        clear hK K
        try simp only [Act.put, zps]
        refine wtk (i := 13) (oi := zozgx48) (v := ?v13x3027) rfl ⟨by rfl, ?hy13x3027⟩ (by assumption) ?_
        case hy13x3027 => (intro w s; (try dsimp only at s); first | (go_simp; with_reducible rfl) | go_simp)
        try simp only [Act.put, zps]
        refine wpAnyH_ready (rs := [17]) (by kernel_rfl) (by simp) ?_
        refine AllReadyH.cons (o := zozgx49) rfl (fun K hK => ?_) (AllReadyH.nil)
        go_simp
        go_at_call 34
        (with_reducible refine HRk.out.mono ?_)
        rintro e wn ⟨rfl, hd8, hx8⟩
        have o8 : wn.cell? ⟨w.heap.size, 4, none⟩ = some (.int .i64 (m : Int)) := (HC7.out.kx hx8).cells.2.2.2.2
        have HX := hide (HX7.out.trans hx8)
        have HC := hide (HC7.out.kx hx8)
        have HD3 := hide hd8
        clear hd8 hx8 HX7 HC7
        go_simp
        refine hK.out _ _ ?_ (fun _hS => ?_)
        · exact o8
        clear hK K
        try simp only [Act.put, zps]
        refine wtk (i := 18) (oi := zozgx50) (v := ?v18x3028) rfl ⟨by rfl, ?hy18x3028⟩ (by assumption) ?_
        case hy18x3028 => (intro w s; (try dsimp only at s); first | (go_simp; with_reducible rfl) | go_simp)
        try simp only [Act.put, zps]
        refine wtk (i := 19) (oi := zozgx51) (v := ?v19x3029) rfl ⟨by rfl, ?hy19x3029⟩ (by assumption) ?_
        case hy19x3029 => (intro w s; (try dsimp only at s); first | (go_simp; with_reducible rfl) | go_simp)
        try simp only [Act.put, zps]
        refine wtk (i := 20) (oi := zozgx52) (v := ?v20x3030) rfl ⟨by rfl, ?hy20x3030⟩ (by assumption) ?_
        case hy20x3030 => (intro w s; (try dsimp only at s); first | (go_simp; with_reducible rfl) | go_simp)
        try simp only [Act.put, zps]
        refine wpAnyH_done (by kernel_rfl) ?_ _
        refine NoPanic.normal ?_
        have hw0 : (IntKind.i64.wrap (0 : Int) == 0) = true := by decide
        simp only [hw0]
        clear c0 c1 c2 c3 c4
        obtain ⟨c0, c1, c2, c3, c4⟩ := HC.out.cells
        go_wp2_with (first | (go_at_call 39; (first | with_reducible refine (HC.out.whole1 hkl).mono ?_ | with_reducible refine (HC.out.whole2 hvl).mono ?_); rintro e wn ⟨rfl, hb⟩; have HX := hide (HX.out.trans (Kx.of_below hb)); have HC := hide (HC.out.below hb); have HD3 := hide (HD3.out.below hb); clear hb c0 c1 c2 c3 c4; obtain ⟨c0, c1, c2, c3, c4⟩ := HC.out.cells) | (go_at_call 40; (with_reducible refine (HC.out.spoil1 hkl).mono ?_); rintro e wn ⟨rfl, hg⟩; have HX := hide (HX.out.spoil hg hg1); have HD3 := hide (HD3.out.spoil (X' := fun j => j = w2.heap.size) (.inl rfl) hg (fun j hj => ⟨.inr hj, by omega⟩)); have HS2 := hide (spoil2_any HC.out.o2 hvl hg (by omega)); clear hg HC) | (go_at_call 40; (with_reducible refine HS2.out.mono ?_); rintro e wn ⟨rfl, hg⟩; have HX := hide (HX.out.spoil hg hg2); have HD3 := hide (HD3.out.spoil (X' := fun _ => False) rfl hg (fun j hj => hj.elim)); clear hg HS2) | fail)
        obtain ⟨L9, hd9, hx9⟩ : ∃ L9, Dn B0 (N + 2) (fun _ => False) wn p L9 L9 pr q ∧ Kx B0 w wn := ⟨_, HD3.out.up (by omega), HX.out⟩
        clear HX HD3
        obtain ⟨ar, cr, yr, r1, -⟩ := hd9.ref
        have hbd : Below wn.heap.size wn wn.drew := (Below.refl _ _).drew
        have HX9 := hide (hx9.trans (Kx.of_below hbd))
        have HD9 := hide (hd9.below hbd)
        have HR9 : Hid (wn.drew.cell? ⟨pr, 0, none⟩ = some (.slice ar L9.length cr)) := hide r1
        have HLn := hide HD9.out.len_any
        have HRc := hide (HD9.out.rchanges_any (by omega))
        clear hx9 hd9
        refine wp_region_noPanic ?_
        refine wp_region_held_drew (S := (fun W => W.cell? ⟨pr, 0, none⟩ = some (.slice ar L9.length cr))) (by kernel_rfl) HR9.out (fun _hS => ?_)
        refine wtk (i := 0) (oi := zozgx9) (v := ?v0x4076) rfl ⟨by rfl, ?hy0x4076⟩ (by assumption) ?_
        case hy0x4076 => (intro w s; (try dsimp only at s); first | (go_simp; with_reducible rfl) | go_simp)
        try simp only [Act.put, zps]
        refine wtk (i := 1) (oi := zozgx10) (v := ?v1x4077) rfl ⟨by rfl, ?hy1x4077⟩ (by assumption) ?_
        case hy1x4077 => (intro w s; (try dsimp only at s); first | (go_simp; with_reducible rfl) | go_simp)
        try simp only [Act.put, zps]
        refine wtk (i := 2) (oi := zozgx11) (v := ?v2x4078) rfl ⟨by rfl, ?hy2x4078⟩ (by assumption) ?_
        case hy2x4078 => (intro w s; (try dsimp only at s); first | (go_simp; with_reducible rfl) | go_simp)
        try simp only [Act.put, zps]
        refine wtk (i := 3) (oi := zozgx12) (v := ?v3x4079) rfl ⟨by rfl, ?hy3x4079⟩ (by assumption) ?_
        case hy3x4079 => (intro w s; (try dsimp only at s); first | (go_simp; with_reducible rfl) | go_simp)
        try simp only [Act.put, zps]
        refine wtk (i := 4) (oi := zozgx13) (v := ?v4x4080) rfl ⟨by rfl, ?hy4x4080⟩ (by assumption) ?_
        case hy4x4080 => (intro w s; (try dsimp only at s); first | (go_simp; with_reducible rfl) | go_simp)
        try simp only [Act.put, zps]
        refine wtk (i := 5) (oi := zozgx14) (v := ?v5x4081) rfl ⟨by rfl, ?hy5x4081⟩ (by assumption) ?_
        case hy5x4081 => (intro w s; (try dsimp only at s); first | (go_simp; with_reducible rfl) | go_simp)
        try simp only [Act.put, zps]
        refine wtk (i := 7) (oi := zozgx15) (v := ?v7x4082) rfl ⟨by rfl, ?hy7x4082⟩ (by assumption) ?_
        case hy7x4082 => (intro w s; (try dsimp only at s); first | (go_simp; with_reducible rfl) | go_simp)
        try simp only [Act.put, zps]
        refine wpAnyH_ready (rs := [6]) (by kernel_rfl) (by simp) ?_
        refine AllReadyH.cons (o := zozgx16) rfl (fun K hK => ?_) (AllReadyH.nil)
        go_simp
        go_at_call 20
        with_reducible refine HLn.out.mono ?_
        rintro e w7 ⟨rfl, rfl⟩
        go_simp
        refine hK.out _ _ ?_ (fun _hS => ?_)
        · exact HR9.out
        clear hK K
        try simp only [Act.put, zps]
        refine wpAnyH_ready (rs := [8]) (by kernel_rfl) (by simp) ?_
        refine AllReadyH.cons (o := zozgx17) rfl (fun K hK => ?_) (AllReadyH.nil)
        go_simp
        go_at_call 12
        with_reducible refine HRc.out.mono ?_
        rintro e w8 ⟨b8, d8, ys8, rfl, -, -, hb8⟩
        have r8 := one_below1 HR9.out hb8
        have HX8 := hide (HX9.out.trans (Kx.of_below hb8))
        have HD8 := hide (HD9.out.below hb8)
        have HMk := hide HD8.out.mark_any
        clear hb8 HLn HRc HX9 HD9
        go_simp
        refine hK.out _ _ ?_ (fun _hS => ?_)
        · exact r8
        clear hK K
        try simp only [Act.put, zps]
        refine wtk (i := 9) (oi := zozgx18) (v := ?v9x4083) rfl ⟨by rfl, ?hy9x4083⟩ (by assumption) ?_
        case hy9x4083 => (intro w s; (try dsimp only at s); first | (go_simp; with_reducible rfl) | go_simp)
        try simp only [Act.put, zps]
        refine wtk (i := 10) (oi := zozgx19) (v := ?v10x4084) rfl ⟨by rfl, ?hy10x4084⟩ (by assumption) ?_
        case hy10x4084 => (intro w s; (try dsimp only at s); first | (go_simp; with_reducible rfl) | go_simp)
        try simp only [Act.put, zps]
        refine wtk (i := 11) (oi := zozgx20) (v := ?v11x4085) rfl ⟨by rfl, ?hy11x4085⟩ (by assumption) ?_
        case hy11x4085 => (intro w s; (try dsimp only at s); first | (go_simp; with_reducible rfl) | go_simp)
        try simp only [Act.put, zps]
        refine wtk (i := 12) (oi := zozgx21) (v := ?v12x4086) rfl ⟨by rfl, ?hy12x4086⟩ (by assumption) ?_
        case hy12x4086 => (intro w s; (try dsimp only at s); first | (go_simp; with_reducible rfl) | go_simp)
        try simp only [Act.put, zps]
        refine wtk (i := 13) (oi := zozgx22) (v := ?v13x4087) rfl ⟨by rfl, ?hy13x4087⟩ (by assumption) ?_
        case hy13x4087 => (intro w s; (try dsimp only at s); first | (go_simp; with_reducible rfl) | go_simp)
        try simp only [Act.put, zps]
        refine wtk (i := 15) (oi := zozgx23) (v := ?v15x4088) rfl ⟨by rfl, ?hy15x4088⟩ (by assumption) ?_
        case hy15x4088 => (intro w s; (try dsimp only at s); first | (go_simp; with_reducible rfl) | go_simp)
        try simp only [Act.put, zps]
        refine wtk (i := 16) (oi := zozgx24) (v := ?v16x4089) rfl ⟨by rfl, ?hy16x4089⟩ (by assumption) ?_
        case hy16x4089 => (intro w s; (try dsimp only at s); first | (go_simp; with_reducible rfl) | go_simp)
        try simp only [Act.put, zps]
        refine wtk (i := 17) (oi := zozgx25) (v := ?v17x4090) rfl ⟨by rfl, ?hy17x4090⟩ (by assumption) ?_
        case hy17x4090 => (intro w s; (try dsimp only at s); first | (go_simp; with_reducible rfl) | go_simp)
        try simp only [Act.put, zps]
        refine wtk (i := 18) (oi := zozgx26) (v := ?v18x4091) rfl ⟨by rfl, ?hy18x4091⟩ (by assumption) ?_
        case hy18x4091 => (intro w s; (try dsimp only at s); first | (go_simp; with_reducible rfl) | go_simp)
        try simp only [Act.put, zps]
        refine wtk (i := 19) (oi := zozgx27) (v := ?v19x4092) rfl ⟨by rfl, ?hy19x4092⟩ (by assumption) ?_
        case hy19x4092 => (intro w s; (try dsimp only at s); first | (go_simp; with_reducible rfl) | go_simp)
        try simp only [Act.put, zps]
        refine wpAnyH_ready (rs := [14]) (by kernel_rfl) (by simp) ?_
        refine AllReadyH.cons (o := zozgx28) rfl (fun K hK => ?_) (AllReadyH.nil)
        go_simp
        go_at_call 21
        with_reducible refine HMk.out.mono ?_
        rintro e w7 ⟨rfl, rfl⟩
        go_simp
        refine hK.out _ _ ?_ (fun _hS => ?_)
        · exact r8
        clear hK K
        try simp only [Act.put, zps]
        refine wtk (i := 20) (oi := zozgx29) (v := ?v20x4093) rfl ⟨by rfl, ?hy20x4093⟩ (by assumption) ?_
        case hy20x4093 => (intro w s; (try dsimp only at s); first | (go_simp; with_reducible rfl) | go_simp)
        try simp only [Act.put, zps]
        refine wtk (i := 21) (oi := zozgx30) (v := ?v21x4094) rfl ⟨by rfl, ?hy21x4094⟩ (by assumption) ?_
        case hy21x4094 => (intro w s; (try dsimp only at s); first | (go_simp; with_reducible rfl) | go_simp)
        try simp only [Act.put, zps]
        refine wtk (i := 22) (oi := zozgx31) (v := ?v22x4095) rfl ⟨by rfl, ?hy22x4095⟩ (by assumption) ?_
        case hy22x4095 => (intro w s; (try dsimp only at s); first | (go_simp; with_reducible rfl) | go_simp)
        try simp only [Act.put, zps]
        refine wpAnyH_done (by kernel_rfl) ?_ _
        refine NoPanic.normal ?_
        go_wp2
        go_ret
        exact ⟨rfl, L9, HD8.out, HX8.out⟩
    · have hm : to < 0 ∨ (L.length : Int) < to := by omega
      obtain ⟨ar, cr, yr, r1, -⟩ := HD3.out.ref
      have hbd : Below w3.heap.size w3 w3.drew := (Below.refl _ _).drew
      have HXd := hide (HX.out.trans (Kx.of_below hbd))
      have HCd := hide (HC.out.below hbd)
      have HDd := hide (HD3.out.below hbd)
      have r1d : w3.drew.cell? ⟨pr, 0, none⟩ = some (.slice ar L.length cr) := r1
      have HO4 : Hid (w3.drew.cell? ⟨w.heap.size, 4, none⟩ = some (.int .i64 to)) := hide c4
      have HMk := hide HDd.out.mark_any
      have HBk := hide (HDd.out.back_no to hm)
      have HRk := hide (HDd.out.rback_no to hm)
      clear HX HC HD3 hbd
      refine wp_region_noPanic ?_
      refine wp_region_held_drew (S := (fun W => W.cell? ⟨w.heap.size, 4, none⟩ = some (.int .i64 to))) (by kernel_rfl) HO4.out (fun _hS => ?_)
      refine wtk (i := 0) (oi := zozgx32) (v := ?v0x5001) rfl ⟨by rfl, ?hy0x5001⟩ (by assumption) ?_
      case hy0x5001 => (intro w s; (try dsimp only at s); first | (go_simp; with_reducible rfl) | go_simp)
      try simp only [Act.put, zps]
      refine wtk (i := 2) (oi := zozgx33) (v := ?v2x5002) rfl ⟨by rfl, ?hy2x5002⟩ (by assumption) ?_
      case hy2x5002 => (intro w s; (try dsimp only at s); first | (go_simp; with_reducible rfl) | go_simp)
      try simp only [Act.put, zps]
      refine wtk (i := 3) (oi := zozgx34) (v := ?v3x5003) rfl ⟨by rfl, ?hy3x5003⟩ (by assumption) ?_
      case hy3x5003 => (intro w s; (try dsimp only at s); first | (go_simp; with_reducible rfl) | go_simp)
      try simp only [Act.put, zps]
      refine wtk (i := 4) (oi := zozgx35) (v := ?v4x5004) rfl ⟨by rfl, ?hy4x5004⟩ (by assumption) ?_
      case hy4x5004 => (intro w s; (try dsimp only at s); first | (go_simp; with_reducible rfl) | go_simp)
      try simp only [Act.put, zps]
      refine wpAnyH_ready (rs := [1, 5]) (by kernel_rfl) (by simp) ?_
      refine AllReadyH.cons (o := zozgx36) rfl (fun K hK => ?_) (AllReadyH.cons (o := zozgx37) rfl (fun K hK => ?_) (AllReadyH.nil))
      · go_simp
        go_at_call 21
        (with_reducible refine HMk.out.mono ?_)
        rintro e w6 ⟨rfl, rfl⟩
        go_simp
        refine hK.out _ _ ?_ (fun _hS => ?_)
        · exact HO4.out
        clear hK K
        try simp only [Act.put, zps]
        refine wpAnyH_ready (rs := [5]) (by kernel_rfl) (by simp) ?_
        refine AllReadyH.cons (o := zozgx37) rfl (fun K hK => ?_) (AllReadyH.nil)
        go_simp
        refine hK.out _ _ ?_ (fun _hS => ?_)
        · exact HO4.out
        clear hK K
        try simp only [Act.put, zps]
        refine wtk (i := 6) (oi := zozgx38) (v := ?v6x5005) rfl ⟨by rfl, ?hy6x5005⟩ (by assumption) ?_
        case hy6x5005 => (intro w s; (try dsimp only at s); first | (go_simp; with_reducible rfl) | go_simp)
        try simp only [Act.put, zps]
        refine wtk (i := 7) (oi := zozgx39) (v := ?v7x5006) rfl ⟨by rfl, ?hy7x5006⟩ (by assumption) ?_
        case hy7x5006 => (intro w s; (try dsimp only at s); first | (go_simp; with_reducible rfl) | go_simp)
        try simp only [Act.put, zps]
        refine wtk (i := 8) (oi := zozgx40) (v := ?v8x5007) rfl ⟨by rfl, ?hy8x5007⟩ (by assumption) ?_
        case hy8x5007 => (intro w s; (try dsimp only at s); first | (go_simp; with_reducible rfl) | go_simp)
        try simp only [Act.put, zps]
        refine wtk (i := 9) (oi := zozgx41) (v := ?v9x5008) rfl ⟨by rfl, ?hy9x5008⟩ (by assumption) ?_
        case hy9x5008 => (intro w s; (try dsimp only at s); first | (go_simp; with_reducible rfl) | go_simp)
        try simp only [Act.put, zps]
        refine wtk (i := 10) (oi := zozgx42) (v := ?v10x5009) rfl ⟨by rfl, ?hy10x5009⟩ (by assumption) ?_
        case hy10x5009 => (intro w s; (try dsimp only at s); first | (go_simp; with_reducible rfl) | go_simp)
        try simp only [Act.put, zps]
        refine wtk (i := 11) (oi := zozgx43) (v := ?v11x5010) rfl ⟨by rfl, ?hy11x5010⟩ (by assumption) ?_
        case hy11x5010 => (intro w s; (try dsimp only at s); first | (go_simp; with_reducible rfl) | go_simp)
        try simp only [Act.put, zps]
        refine wtk (i := 14) (oi := zozgx44) (v := ?v14x5011) rfl ⟨by rfl, ?hy14x5011⟩ (by assumption) ?_
        case hy14x5011 => (intro w s; (try dsimp only at s); first | (go_simp; with_reducible rfl) | go_simp)
        try simp only [Act.put, zps]
        refine wtk (i := 15) (oi := zozgx45) (v := ?v15x5012) rfl ⟨by rfl, ?hy15x5012⟩ (by assumption) ?_
        case hy15x5012 => (intro w s; (try dsimp only at s); first | (go_simp; with_reducible rfl) | go_simp)
        try simp only [Act.put, zps]
        refine wtk (i := 16) (oi := zozgx46) (v := ?v16x5013) rfl ⟨by rfl, ?hy16x5013⟩ (by assumption) ?_
        case hy16x5013 => (intro w s; (try dsimp only at s); first | (go_simp; with_reducible rfl) | go_simp)
        try simp only [Act.put, zps]
        refine wpAnyH_ready (rs := [12]) (by kernel_rfl) (by simp) ?_
        refine AllReadyH.cons (o := zozgx47) rfl (fun K hK => ?_) (AllReadyH.nil)
        go_simp
        go_at_call 33
        (with_reducible refine HBk.out.mono ?_)
        rintro e w7 ⟨rfl, rfl⟩
        go_simp
        refine hK.out _ _ ?_ (fun _hS => ?_)
        · exact HO4.out
        clear hK K
        try simp only [Act.put, zps]
        refine wtk (i := 13) (oi := zozgx48) (v := ?v13x5014) rfl ⟨by rfl, ?hy13x5014⟩ (by assumption) ?_
        case hy13x5014 => (intro w s; (try dsimp only at s); first | (go_simp; with_reducible rfl) | go_simp)
        try simp only [Act.put, zps]
        refine wpAnyH_ready (rs := [17]) (by kernel_rfl) (by simp) ?_
        refine AllReadyH.cons (o := zozgx49) rfl (fun K hK => ?_) (AllReadyH.nil)
        go_simp
        go_at_call 34
        (with_reducible refine HRk.out.mono ?_)
        rintro e wn ⟨rfl, rfl⟩
        have HX := hide HXd.out
        have HC := hide HCd.out
        have HD3 := hide HDd.out
        go_simp
        refine hK.out _ _ ?_ (fun _hS => ?_)
        · exact HO4.out
        clear hK K
        try simp only [Act.put, zps]
        refine wtk (i := 18) (oi := zozgx50) (v := ?v18x5015) rfl ⟨by rfl, ?hy18x5015⟩ (by assumption) ?_
        case hy18x5015 => (intro w s; (try dsimp only at s); first | (go_simp; with_reducible rfl) | go_simp)
        try simp only [Act.put, zps]
        refine wtk (i := 19) (oi := zozgx51) (v := ?v19x5016) rfl ⟨by rfl, ?hy19x5016⟩ (by assumption) ?_
        case hy19x5016 => (intro w s; (try dsimp only at s); first | (go_simp; with_reducible rfl) | go_simp)
        try simp only [Act.put, zps]
        refine wtk (i := 20) (oi := zozgx52) (v := ?v20x5017) rfl ⟨by rfl, ?hy20x5017⟩ (by assumption) ?_
        case hy20x5017 => (intro w s; (try dsimp only at s); first | (go_simp; with_reducible rfl) | go_simp)
        try simp only [Act.put, zps]
        refine wpAnyH_done (by kernel_rfl) ?_ _
        refine NoPanic.normal ?_
        have hw0 : (IntKind.i64.wrap (1 : Int) == 1) = true := by decide
        simp only [hw0]
        clear c0 c1 c2 c3 c4
        obtain ⟨c0, c1, c2, c3, c4⟩ := HC.out.cells
        go_wp2_with (first | (go_at_call 39; (first | with_reducible refine (HC.out.whole1 hkl).mono ?_ | with_reducible refine (HC.out.whole2 hvl).mono ?_); rintro e wn ⟨rfl, hb⟩; have HX := hide (HX.out.trans (Kx.of_below hb)); have HC := hide (HC.out.below hb); have HD3 := hide (HD3.out.below hb); clear hb c0 c1 c2 c3 c4; obtain ⟨c0, c1, c2, c3, c4⟩ := HC.out.cells) | (go_at_call 40; (with_reducible refine (HC.out.spoil1 hkl).mono ?_); rintro e wn ⟨rfl, hg⟩; have HX := hide (HX.out.spoil hg hg1); have HD3 := hide (HD3.out.spoil (X' := fun j => j = w2.heap.size) (.inl rfl) hg (fun j hj => ⟨.inr hj, by omega⟩)); have HS2 := hide (spoil2_any HC.out.o2 hvl hg (by omega)); clear hg HC) | (go_at_call 40; (with_reducible refine HS2.out.mono ?_); rintro e wn ⟨rfl, hg⟩; have HX := hide (HX.out.spoil hg hg2); have HD3 := hide (HD3.out.spoil (X' := fun _ => False) rfl hg (fun j hj => hj.elim)); clear hg HS2) | fail)
        obtain ⟨L9, hd9, hx9⟩ : ∃ L9, Dn B0 (N + 2) (fun _ => False) wn p L9 L9 pr q ∧ Kx B0 w wn := ⟨_, HD3.out.up (by omega), HX.out⟩
        clear HX HD3
        obtain ⟨ar, cr, yr, r1, -⟩ := hd9.ref
        have hbd : Below wn.heap.size wn wn.drew := (Below.refl _ _).drew
        have HX9 := hide (hx9.trans (Kx.of_below hbd))
        have HD9 := hide (hd9.below hbd)
        have HR9 : Hid (wn.drew.cell? ⟨pr, 0, none⟩ = some (.slice ar L9.length cr)) := hide r1
        have HLn := hide HD9.out.len_any
        have HRc := hide (HD9.out.rchanges_any (by omega))
        clear hx9 hd9
        refine wp_region_noPanic ?_
        refine wp_region_held_drew (S := (fun W => W.cell? ⟨pr, 0, none⟩ = some (.slice ar L9.length cr))) (by kernel_rfl) HR9.out (fun _hS => ?_)
        refine wtk (i := 0) (oi := zozgx9) (v := ?v0x6072) rfl ⟨by rfl, ?hy0x6072⟩ (by assumption) ?_
        case hy0x6072 => (intro w s; (try dsimp only at s); first | (go_simp; with_reducible rfl) | go_simp)
        try simp only [Act.put, zps]
        refine wtk (i := 1) (oi := zozgx10) (v := ?v1x6073) rfl ⟨by rfl, ?hy1x6073⟩ (by assumption) ?_
        case hy1x6073 => (intro w s; (try dsimp only at s); first | (go_simp; with_reducible rfl) | go_simp)
        try simp only [Act.put, zps]
        refine wtk (i := 2) (oi := zozgx11) (v := ?v2x6074) rfl ⟨by rfl, ?hy2x6074⟩ (by assumption) ?_
        case hy2x6074 => (intro w s; (try dsimp only at s); first | (go_simp; with_reducible rfl) | go_simp)
        try simp only [Act.put, zps]
        refine wtk (i := 3) (oi := zozgx12) (v := ?v3x6075) rfl ⟨by rfl, ?hy3x6075⟩ (by assumption) ?_
        case hy3x6075 => (intro w s; (try dsimp only at s); first | (go_simp; with_reducible rfl) | go_simp)
        try simp only [Act.put, zps]
        refine wtk (i := 4) (oi := zozgx13) (v := ?v4x6076) rfl ⟨by rfl, ?hy4x6076⟩ (by assumption) ?_
        case hy4x6076 => (intro w s; (try dsimp only at s); first | (go_simp; with_reducible rfl) | go_simp)
        try simp only [Act.put, zps]
        refine wtk (i := 5) (oi := zozgx14) (v := ?v5x6077) rfl ⟨by rfl, ?hy5x6077⟩ (by assumption) ?_
        case hy5x6077 => (intro w s; (try dsimp only at s); first | (go_simp; with_reducible rfl) | go_simp)
        try simp only [Act.put, zps]
        refine wtk (i := 7) (oi := zozgx15) (v := ?v7x6078) rfl ⟨by rfl, ?hy7x6078⟩ (by assumption) ?_
        case hy7x6078 => (intro w s; (try dsimp only at s); first | (go_simp; with_reducible rfl) | go_simp)
        try simp only [Act.put, zps]
        refine wpAnyH_ready (rs := [6]) (by kernel_rfl) (by simp) ?_
        refine AllReadyH.cons (o := zozgx16) rfl (fun K hK => ?_) (AllReadyH.nil)
        go_simp
        go_at_call 20
        with_reducible refine HLn.out.mono ?_
        rintro e w7 ⟨rfl, rfl⟩
        go_simp
        refine hK.out _ _ ?_ (fun _hS => ?_)
        · exact HR9.out
        clear hK K
        try simp only [Act.put, zps]
        refine wpAnyH_ready (rs := [8]) (by kernel_rfl) (by simp) ?_
        refine AllReadyH.cons (o := zozgx17) rfl (fun K hK => ?_) (AllReadyH.nil)
        go_simp
        go_at_call 12
        with_reducible refine HRc.out.mono ?_
        rintro e w8 ⟨b8, d8, ys8, rfl, -, -, hb8⟩
        have r8 := one_below1 HR9.out hb8
        have HX8 := hide (HX9.out.trans (Kx.of_below hb8))
        have HD8 := hide (HD9.out.below hb8)
        have HMk := hide HD8.out.mark_any
        clear hb8 HLn HRc HX9 HD9
        go_simp
        refine hK.out _ _ ?_ (fun _hS => ?_)
        · exact r8
        clear hK K
        try simp only [Act.put, zps]
        refine wtk (i := 9) (oi := zozgx18) (v := ?v9x6079) rfl ⟨by rfl, ?hy9x6079⟩ (by assumption) ?_
        case hy9x6079 => (intro w s; (try dsimp only at s); first | (go_simp; with_reducible rfl) | go_simp)
        try simp only [Act.put, zps]
        refine wtk (i := 10) (oi := zozgx19) (v := ?v10x6080) rfl ⟨by rfl, ?hy10x6080⟩ (by assumption) ?_
        case hy10x6080 => (intro w s; (try dsimp only at s); first | (go_simp; with_reducible rfl) | go_simp)
        try simp only [Act.put, zps]
        refine wtk (i := 11) (oi := zozgx20) (v := ?v11x6081) rfl ⟨by rfl, ?hy11x6081⟩ (by assumption) ?_
        case hy11x6081 => (intro w s; (try dsimp only at s); first | (go_simp; with_reducible rfl) | go_simp)
        try simp only [Act.put, zps]
        refine wtk (i := 12) (oi := zozgx21) (v := ?v12x6082) rfl ⟨by rfl, ?hy12x6082⟩ (by assumption) ?_
        case hy12x6082 => (intro w s; (try dsimp only at s); first | (go_simp; with_reducible rfl) | go_simp)
        try simp only [Act.put, zps]
        refine wtk (i := 13) (oi := zozgx22) (v := ?v13x6083) rfl ⟨by rfl, ?hy13x6083⟩ (by assumption) ?_
        case hy13x6083 => (intro w s; (try dsimp only at s); first | (go_simp; with_reducible rfl) | go_simp)
        try simp only [Act.put, zps]
        refine wtk (i := 15) (oi := zozgx23) (v := ?v15x6084) rfl ⟨by rfl, ?hy15x6084⟩ (by assumption) ?_
        case hy15x6084 => (intro w s; (try dsimp only at s); first | (go_simp; with_reducible rfl) | go_simp)
        try simp only [Act.put, zps]
        refine wtk (i := 16) (oi := zozgx24) (v := ?v16x6085) rfl ⟨by rfl, ?hy16x6085⟩ (by assumption) ?_
        case hy16x6085 => (intro w s; (try dsimp only at s); first | (go_simp; with_reducible rfl) | go_simp)
        try simp only [Act.put, zps]
        refine wtk (i := 17) (oi := zozgx25) (v := ?v17x6086) rfl ⟨by rfl, ?hy17x6086⟩ (by assumption) ?_
        case hy17x6086 => (intro w s; (try dsimp only at s); first | (go_simp; with_reducible rfl) | go_simp)
        try simp only [Act.put, zps]
        refine wtk (i := 18) (oi := zozgx26) (v := ?v18x6087) rfl ⟨by rfl, ?hy18x6087⟩ (by assumption) ?_
        case hy18x6087 => (intro w s; (try dsimp only at s); first | (go_simp; with_reducible rfl) | go_simp)
        try simp only [Act.put, zps]
        refine wtk (i := 19) (oi := zozgx27) (v := ?v19x6088) rfl ⟨by rfl, ?hy19x6088⟩ (by assumption) ?_
        case hy19x6088 => (intro w s; (try dsimp only at s); first | (go_simp; with_reducible rfl) | go_simp)
        try simp only [Act.put, zps]
        refine wpAnyH_ready (rs := [14]) (by kernel_rfl) (by simp) ?_
        refine AllReadyH.cons (o := zozgx28) rfl (fun K hK => ?_) (AllReadyH.nil)
        go_simp
        go_at_call 21
        with_reducible refine HMk.out.mono ?_
        rintro e w7 ⟨rfl, rfl⟩
        go_simp
        refine hK.out _ _ ?_ (fun _hS => ?_)
        · exact r8
        clear hK K
        try simp only [Act.put, zps]
        refine wtk (i := 20) (oi := zozgx29) (v := ?v20x6089) rfl ⟨by rfl, ?hy20x6089⟩ (by assumption) ?_
        case hy20x6089 => (intro w s; (try dsimp only at s); first | (go_simp; with_reducible rfl) | go_simp)
        try simp only [Act.put, zps]
        refine wtk (i := 21) (oi := zozgx30) (v := ?v21x6090) rfl ⟨by rfl, ?hy21x6090⟩ (by assumption) ?_
        case hy21x6090 => (intro w s; (try dsimp only at s); first | (go_simp; with_reducible rfl) | go_simp)
        try simp only [Act.put, zps]
        refine wtk (i := 22) (oi := zozgx31) (v := ?v22x6091) rfl ⟨by rfl, ?hy22x6091⟩ (by assumption) ?_
        case hy22x6091 => (intro w s; (try dsimp only at s); first | (go_simp; with_reducible rfl) | go_simp)
        try simp only [Act.put, zps]
        refine wpAnyH_done (by kernel_rfl) ?_ _
        refine NoPanic.normal ?_
        go_wp2
        go_ret
        exact ⟨rfl, L9, HD8.out, HX8.out⟩
      · go_simp
        refine hK.out _ _ ?_ (fun _hS => ?_)
        · exact HO4.out
        clear hK K
        try simp only [Act.put, zps]
        refine wtk (i := 6) (oi := zozgx38) (v := ?v6x5018) rfl ⟨by rfl, ?hy6x5018⟩ (by assumption) ?_
        case hy6x5018 => (intro w s; (try dsimp only at s); first | (go_simp; with_reducible rfl) | go_simp)
        try simp only [Act.put, zps]
        refine wpAnyH_ready (rs := [1]) (by kernel_rfl) (by simp) ?_
        refine AllReadyH.cons (o := zozgx36) rfl (fun K hK => ?_) (AllReadyH.nil)
        go_simp
        go_at_call 21
        (with_reducible refine HMk.out.mono ?_)
        rintro e w6 ⟨rfl, rfl⟩
        go_simp
        refine hK.out _ _ ?_ (fun _hS => ?_)
        · exact HO4.out
        clear hK K
        try simp only [Act.put, zps]
        refine wtk (i := 7) (oi := zozgx39) (v := ?v7x5019) rfl ⟨by rfl, ?hy7x5019⟩ (by assumption) ?_
        case hy7x5019 => (intro w s; (try dsimp only at s); first | (go_simp; with_reducible rfl) | go_simp)
        try simp only [Act.put, zps]
        refine wtk (i := 8) (oi := zozgx40) (v := ?v8x5020) rfl ⟨by rfl, ?hy8x5020⟩ (by assumption) ?_
        case hy8x5020 => (intro w s; (try dsimp only at s); first | (go_simp; with_reducible rfl) | go_simp)
        try simp only [Act.put, zps]
        refine wtk (i := 9) (oi := zozgx41) (v := ?v9x5021) rfl ⟨by rfl, ?hy9x5021⟩ (by assumption) ?_
        case hy9x5021 => (intro w s; (try dsimp only at s); first | (go_simp; with_reducible rfl) | go_simp)
        try simp only [Act.put, zps]
        refine wtk (i := 10) (oi := zozgx42) (v := ?v10x5022) rfl ⟨by rfl, ?hy10x5022⟩ (by assumption) ?_
        case hy10x5022 => (intro w s; (try dsimp only at s); first | (go_simp; with_reducible rfl) | go_simp)
        try simp only [Act.put, zps]
        refine wtk (i := 11) (oi := zozgx43) (v := ?v11x5023) rfl ⟨by rfl, ?hy11x5023⟩ (by assumption) ?_
        case hy11x5023 => (intro w s; (try dsimp only at s); first | (go_simp; with_reducible rfl) | go_simp)
        try simp only [Act.put, zps]
        refine wtk (i := 14) (oi := zozgx44) (v := ?v14x5024) rfl ⟨by rfl, ?hy14x5024⟩ (by assumption) ?_
        case hy14x5024 => (intro w s; (try dsimp only at s); first | (go_simp; with_reducible rfl) | go_simp)
        try simp only [Act.put, zps]
        refine wtk (i := 15) (oi := zozgx45) (v := ?v15x5025) rfl ⟨by rfl, ?hy15x5025⟩ (by assumption) ?_
        case hy15x5025 => (intro w s; (try dsimp only at s); first | (go_simp; with_reducible rfl) | go_simp)
        try simp only [Act.put, zps]
        refine wtk (i := 16) (oi := zozgx46) (v := ?v16x5026) rfl ⟨by rfl, ?hy16x5026⟩ (by assumption) ?_
        case hy16x5026 => (intro w s; (try dsimp only at s); first | (go_simp; with_reducible rfl) | go_simp)
        try simp only [Act.put, zps]
        refine wpAnyH_ready (rs := [12]) (by kernel_rfl) (by simp) ?_
        refine AllReadyH.cons (o := zozgx47) rfl (fun K hK => ?_) (AllReadyH.nil)
        go_simp
        go_at_call 33
        (with_reducible refine HBk.out.mono ?_)
        rintro e w7 ⟨rfl, rfl⟩
        go_simp
        refine hK.out _ _ ?_ (fun _hS => ?_)
        · exact HO4.out
        clear hK K
        try simp only [Act.put, zps]
        refine wtk (i := 13) (oi := zozgx48) (v := ?v13x5027) rfl ⟨by rfl, ?hy13x5027⟩ (by assumption) ?_
        case hy13x5027 => (intro w s; (try dsimp only at s); first | (go_simp; with_reducible rfl) | go_simp)
        try simp only [Act.put, zps]
        refine wpAnyH_ready (rs := [17]) (by kernel_rfl) (by simp) ?_
        refine AllReadyH.cons (o := zozgx49) rfl (fun K hK => ?_) (AllReadyH.nil)
        go_simp
        go_at_call 34
        (with_reducible refine HRk.out.mono ?_)
        rintro e wn ⟨rfl, rfl⟩
        have HX := hide HXd.out
        have HC := hide HCd.out
        have HD3 := hide HDd.out
        go_simp
        refine hK.out _ _ ?_ (fun _hS => ?_)
        · exact HO4.out
        clear hK K
        try simp only [Act.put, zps]
        refine wtk (i := 18) (oi := zozgx50) (v := ?v18x5028) rfl ⟨by rfl, ?hy18x5028⟩ (by assumption) ?_
        case hy18x5028 => (intro w s; (try dsimp only at s); first | (go_simp; with_reducible rfl) | go_simp)
        try simp only [Act.put, zps]
        refine wtk (i := 19) (oi := zozgx51) (v := ?v19x5029) rfl ⟨by rfl, ?hy19x5029⟩ (by assumption) ?_
        case hy19x5029 => (intro w s; (try dsimp only at s); first | (go_simp; with_reducible rfl) | go_simp)
        try simp only [Act.put, zps]
        refine wtk (i := 20) (oi := zozgx52) (v := ?v20x5030) rfl ⟨by rfl, ?hy20x5030⟩ (by assumption) ?_
        case hy20x5030 => (intro w s; (try dsimp only at s); first | (go_simp; with_reducible rfl) | go_simp)
        try simp only [Act.put, zps]
        refine wpAnyH_done (by kernel_rfl) ?_ _
        refine NoPanic.normal ?_
        have hw0 : (IntKind.i64.wrap (1 : Int) == 1) = true := by decide
        simp only [hw0]
        clear c0 c1 c2 c3 c4
        obtain ⟨c0, c1, c2, c3, c4⟩ := HC.out.cells
        go_wp2_with (first | (go_at_call 39; (first | with_reducible refine (HC.out.whole1 hkl).mono ?_ | with_reducible refine (HC.out.whole2 hvl).mono ?_); rintro e wn ⟨rfl, hb⟩; have HX := hide (HX.out.trans (Kx.of_below hb)); have HC := hide (HC.out.below hb); have HD3 := hide (HD3.out.below hb); clear hb c0 c1 c2 c3 c4; obtain ⟨c0, c1, c2, c3, c4⟩ := HC.out.cells) | (go_at_call 40; (with_reducible refine (HC.out.spoil1 hkl).mono ?_); rintro e wn ⟨rfl, hg⟩; have HX := hide (HX.out.spoil hg hg1); have HD3 := hide (HD3.out.spoil (X' := fun j => j = w2.heap.size) (.inl rfl) hg (fun j hj => ⟨.inr hj, by omega⟩)); have HS2 := hide (spoil2_any HC.out.o2 hvl hg (by omega)); clear hg HC) | (go_at_call 40; (with_reducible refine HS2.out.mono ?_); rintro e wn ⟨rfl, hg⟩; have HX := hide (HX.out.spoil hg hg2); have HD3 := hide (HD3.out.spoil (X' := fun _ => False) rfl hg (fun j hj => hj.elim)); clear hg HS2) | fail)
        obtain ⟨L9, hd9, hx9⟩ : ∃ L9, Dn B0 (N + 2) (fun _ => False) wn p L9 L9 pr q ∧ Kx B0 w wn := ⟨_, HD3.out.up (by omega), HX.out⟩
        clear HX HD3
        obtain ⟨ar, cr, yr, r1, -⟩ := hd9.ref
        have hbd : Below wn.heap.size wn wn.drew := (Below.refl _ _).drew
        have HX9 := hide (hx9.trans (Kx.of_below hbd))
        have HD9 := hide (hd9.below hbd)
        have HR9 : Hid (wn.drew.cell? ⟨pr, 0, none⟩ = some (.slice ar L9.length cr)) := hide r1
        have HLn := hide HD9.out.len_any
        have HRc := hide (HD9.out.rchanges_any (by omega))
        clear hx9 hd9
        refine wp_region_noPanic ?_
        refine wp_region_held_drew (S := (fun W => W.cell? ⟨pr, 0, none⟩ = some (.slice ar L9.length cr))) (by kernel_rfl) HR9.out (fun _hS => ?_)
        refine wtk (i := 0) (oi := zozgx9) (v := ?v0x6069) rfl ⟨by rfl, ?hy0x6069⟩ (by assumption) ?_
        case hy0x6069 => (intro w s; (try dsimp only at s); first | (go_simp; with_reducible rfl) | go_simp)
        try simp only [Act.put, zps]
        refine wtk (i := 1) (oi := zozgx10) (v := ?v1x6070) rfl ⟨by rfl, ?hy1x6070⟩ (by assumption) ?_
        case hy1x6070 => (intro w s; (try dsimp only at s); first | (go_simp; with_reducible rfl) | go_simp)
        try simp only [Act.put, zps]
        refine wtk (i := 2) (oi := zozgx11) (v := ?v2x6071) rfl ⟨by rfl, ?hy2x6071⟩ (by assumption) ?_
        case hy2x6071 => (intro w s; (try dsimp only at s); first | (go_simp; with_reducible rfl) | go_simp)
        try simp only [Act.put, zps]
        refine wtk (i := 3) (oi := zozgx12) (v := ?v3x6072) rfl ⟨by rfl, ?hy3x6072⟩ (by assumption) ?_
        case hy3x6072 => (intro w s; (try dsimp only at s); first | (go_simp; with_reducible rfl) | go_simp)
        try simp only [Act.put, zps]
        refine wtk (i := 4) (oi := zozgx13) (v := ?v4x6073) rfl ⟨by rfl, ?hy4x6073⟩ (by assumption) ?_
        case hy4x6073 => (intro w s; (try dsimp only at s); first | (go_simp; with_reducible rfl) | go_simp)
        try simp only [Act.put, zps]
        refine wtk (i := 5) (oi := zozgx14) (v := ?v5x6074) rfl ⟨by rfl, ?hy5x6074⟩ (by assumption) ?_
        case hy5x6074 => (intro w s; (try dsimp only at s); first | (go_simp; with_reducible rfl) | go_simp)
        try simp only [Act.put, zps]
        refine wtk (i := 7) (oi := zozgx15) (v := ?v7x6075) rfl ⟨by rfl, ?hy7x6075⟩ (by assumption) ?_
        case hy7x6075 => (intro w s; (try dsimp only at s); first | (go_simp; with_reducible rfl) | go_simp)
        try simp only [Act.put, zps]
        refine wpAnyH_ready (rs := [6]) (by kernel_rfl) (by simp) ?_
        refine AllReadyH.cons (o := zozgx16) rfl (fun K hK => ?_) (AllReadyH.nil)
        go_simp
        go_at_call 20
        with_reducible refine HLn.out.mono ?_
        rintro e w7 ⟨rfl, rfl⟩
        go_simp
        refine hK.out _ _ ?_ (fun _hS => ?_)
        · exact HR9.out
        clear hK K
        try simp only [Act.put, zps]
        refine wpAnyH_ready (rs := [8]) (by kernel_rfl) (by simp) ?_
        refine AllReadyH.cons (o := zozgx17) rfl (fun K hK => ?_) (AllReadyH.nil)
        go_simp
        go_at_call 12
        with_reducible refine HRc.out.mono ?_
        rintro e w8 ⟨b8, d8, ys8, rfl, -, -, hb8⟩
        have r8 := one_below1 HR9.out hb8
        have HX8 := hide (HX9.out.trans (Kx.of_below hb8))
        have HD8 := hide (HD9.out.below hb8)
        have HMk := hide HD8.out.mark_any
        clear hb8 HLn HRc HX9 HD9
        go_simp
        refine hK.out _ _ ?_ (fun _hS => ?_)
        · exact r8
        clear hK K
        try simp only [Act.put, zps]
        refine wtk (i := 9) (oi := zozgx18) (v := ?v9x6076) rfl ⟨by rfl, ?hy9x6076⟩ (by assumption) ?_
        case hy9x6076 => (intro w s; (try dsimp only at s); first | (go_simp; with_reducible rfl) | go_simp)
        try simp only [Act.put, zps]
        refine wtk (i := 10) (oi := zozgx19) (v := ?v10x6077) rfl ⟨by rfl, ?hy10x6077⟩ (by assumption) ?_
        case hy10x6077 => (intro w s; (try dsimp only at s); first | (go_simp; with_reducible rfl) | go_simp)
        try simp only [Act.put, zps]
        refine wtk (i := 11) (oi := zozgx20) (v := ?v11x6078) rfl ⟨by rfl, ?hy11x6078⟩ (by assumption) ?_
        case hy11x6078 => (intro w s; (try dsimp only at s); first | (go_simp; with_reducible rfl) | go_simp)
        try simp only [Act.put, zps]
        refine wtk (i := 12) (oi := zozgx21) (v := ?v12x6079) rfl ⟨by rfl, ?hy12x6079⟩ (by assumption) ?_
        case hy12x6079 => (intro w s; (try dsimp only at s); first | (go_simp; with_reducible rfl) | go_simp)
        try simp only [Act.put, zps]
        refine wtk (i := 13) (oi := zozgx22) (v := ?v13x6080) rfl ⟨by rfl, ?hy13x6080⟩ (by assumption) ?_
        case hy13x6080 => (intro w s; (try dsimp only at s); first | (go_simp; with_reducible rfl) | go_simp)
        try simp only [Act.put, zps]
        refine wtk (i := 15) (oi := zozgx23) (v := ?v15x6081) rfl ⟨by rfl, ?hy15x6081⟩ (by assumption) ?_
        case hy15x6081 => (intro w s; (try dsimp only at s); first | (go_simp; with_reducible rfl) | go_simp)
        try simp only [Act.put, zps]
        refine wtk (i := 16) (oi := zozgx24) (v := ?v16x6082) rfl ⟨by rfl, ?hy16x6082⟩ (by assumption) ?_
        case hy16x6082 => (intro w s; (try dsimp only at s); first | (go_simp; with_reducible rfl) | go_simp)
        try simp only [Act.put, zps]
        refine wtk (i := 17) (oi := zozgx25) (v := ?v17x6083) rfl ⟨by rfl, ?hy17x6083⟩ (by assumption) ?_
        case hy17x6083 => (intro w s; (try dsimp only at s); first | (go_simp; with_reducible rfl) | go_simp)
        try simp only [Act.put, zps]
        refine wtk (i := 18) (oi := zozgx26) (v := ?v18x6084) rfl ⟨by rfl, ?hy18x6084⟩ (by assumption) ?_
        case hy18x6084 => (intro w s; (try dsimp only at s); first | (go_simp; with_reducible rfl) | go_simp)
        try simp only [Act.put, zps]
        refine wtk (i := 19) (oi := zozgx27) (v := ?v19x6085) rfl ⟨by rfl, ?hy19x6085⟩ (by assumption) ?_
        case hy19x6085 => (intro w s; (try dsimp only at s); first | (go_simp; with_reducible rfl) | go_simp)
        try simp only [Act.put, zps]
        refine wpAnyH_ready (rs := [14]) (by kernel_rfl) (by simp) ?_
        refine AllReadyH.cons (o := zozgx28) rfl (fun K hK => ?_) (AllReadyH.nil)
        go_simp
        go_at_call 21
        with_reducible refine HMk.out.mono ?_
        rintro e w7 ⟨rfl, rfl⟩
        go_simp
        refine hK.out _ _ ?_ (fun _hS => ?_)
        · exact r8
        clear hK K
        try simp only [Act.put, zps]
        refine wtk (i := 20) (oi := zozgx29) (v := ?v20x6086) rfl ⟨by rfl, ?hy20x6086⟩ (by assumption) ?_
        case hy20x6086 => (intro w s; (try dsimp only at s); first | (go_simp; with_reducible rfl) | go_simp)
        try simp only [Act.put, zps]
        refine wtk (i := 21) (oi := zozgx30) (v := ?v21x6087) rfl ⟨by rfl, ?hy21x6087⟩ (by assumption) ?_
        case hy21x6087 => (intro w s; (try dsimp only at s); first | (go_simp; with_reducible rfl) | go_simp)
        try simp only [Act.put, zps]
        refine wtk (i := 22) (oi := zozgx31) (v := ?v22x6088) rfl ⟨by rfl, ?hy22x6088⟩ (by assumption) ?_
        case hy22x6088 => (intro w s; (try dsimp only at s); first | (go_simp; with_reducible rfl) | go_simp)
        try simp only [Act.put, zps]
        refine wpAnyH_done (by kernel_rfl) ?_ _
        refine NoPanic.normal ?_
        go_wp2
        go_ret
        exact ⟨rfl, L9, HD8.out, HX8.out⟩
  · obtain ⟨L9, hd9, hx9⟩ : ∃ L9, Dn B0 (N + 2) (fun _ => False) wn p L9 L9 pr q ∧ Kx B0 w wn := ⟨_, HD3.out.up (by omega), HX.out⟩
    clear HX HD3
    obtain ⟨ar, cr, yr, r1, -⟩ := hd9.ref
    have hbd : Below wn.heap.size wn wn.drew := (Below.refl _ _).drew
    have HX9 := hide (hx9.trans (Kx.of_below hbd))
    have HD9 := hide (hd9.below hbd)
    have HR9 : Hid (wn.drew.cell? ⟨pr, 0, none⟩ = some (.slice ar L9.length cr)) := hide r1
    have HLn := hide HD9.out.len_any
    have HRc := hide (HD9.out.rchanges_any (by omega))
    clear hx9 hd9
    refine wp_region_noPanic ?_
    refine wp_region_held_drew (S := (fun W => W.cell? ⟨pr, 0, none⟩ = some (.slice ar L9.length cr))) (by kernel_rfl) HR9.out (fun _hS => ?_)
    refine wtk (i := 0) (oi := zozgx9) (v := ?v0x8001) rfl ⟨by rfl, ?hy0x8001⟩ (by assumption) ?_
    case hy0x8001 => (intro w s; (try dsimp only at s); first | (go_simp; with_reducible rfl) | go_simp)
    try simp only [Act.put, zps]
    refine wtk (i := 1) (oi := zozgx10) (v := ?v1x8002) rfl ⟨by rfl, ?hy1x8002⟩ (by assumption) ?_
    case hy1x8002 => (intro w s; (try dsimp only at s); first | (go_simp; with_reducible rfl) | go_simp)
    try simp only [Act.put, zps]
    refine wtk (i := 2) (oi := zozgx11) (v := ?v2x8003) rfl ⟨by rfl, ?hy2x8003⟩ (by assumption) ?_
    case hy2x8003 => (intro w s; (try dsimp only at s); first | (go_simp; with_reducible rfl) | go_simp)
    try simp only [Act.put, zps]
    refine wtk (i := 3) (oi := zozgx12) (v := ?v3x8004) rfl ⟨by rfl, ?hy3x8004⟩ (by assumption) ?_
    case hy3x8004 => (intro w s; (try dsimp only at s); first | (go_simp; with_reducible rfl) | go_simp)
    try simp only [Act.put, zps]
    refine wtk (i := 4) (oi := zozgx13) (v := ?v4x8005) rfl ⟨by rfl, ?hy4x8005⟩ (by assumption) ?_
    case hy4x8005 => (intro w s; (try dsimp only at s); first | (go_simp; with_reducible rfl) | go_simp)
    try simp only [Act.put, zps]
    refine wtk (i := 5) (oi := zozgx14) (v := ?v5x8006) rfl ⟨by rfl, ?hy5x8006⟩ (by assumption) ?_
    case hy5x8006 => (intro w s; (try dsimp only at s); first | (go_simp; with_reducible rfl) | go_simp)
    try simp only [Act.put, zps]
    refine wtk (i := 7) (oi := zozgx15) (v := ?v7x8007) rfl ⟨by rfl, ?hy7x8007⟩ (by assumption) ?_
    case hy7x8007 => (intro w s; (try dsimp only at s); first | (go_simp; with_reducible rfl) | go_simp)
    try simp only [Act.put, zps]
    refine wpAnyH_ready (rs := [6]) (by kernel_rfl) (by simp) ?_
    refine AllReadyH.cons (o := zozgx16) rfl (fun K hK => ?_) (AllReadyH.nil)
    go_simp
    go_at_call 20
    with_reducible refine HLn.out.mono ?_
    rintro e w7 ⟨rfl, rfl⟩
    go_simp
    refine hK.out _ _ ?_ (fun _hS => ?_)
    · exact HR9.out
    clear hK K
    try simp only [Act.put, zps]
    refine wpAnyH_ready (rs := [8]) (by kernel_rfl) (by simp) ?_
    refine AllReadyH.cons (o := zozgx17) rfl (fun K hK => ?_) (AllReadyH.nil)
    go_simp
    go_at_call 12
    with_reducible refine HRc.out.mono ?_
    rintro e w8 ⟨b8, d8, ys8, rfl, -, -, hb8⟩
    have r8 := one_below1 HR9.out hb8
    have HX8 := hide (HX9.out.trans (Kx.of_below hb8))
    have HD8 := hide (HD9.out.below hb8)
    have HMk := hide HD8.out.mark_any
    clear hb8 HLn HRc HX9 HD9
    go_simp
    refine hK.out _ _ ?_ (fun _hS => ?_)
    · exact r8
    clear hK K
    try simp only [Act.put, zps]
    refine wtk (i := 9) (oi := zozgx18) (v := ?v9x8008) rfl ⟨by rfl, ?hy9x8008⟩ (by assumption) ?_
    case hy9x8008 => (intro w s; (try dsimp only at s); first | (go_simp; with_reducible rfl) | go_simp)
    try simp only [Act.put, zps]
    refine wtk (i := 10) (oi := zozgx19) (v := ?v10x8009) rfl ⟨by rfl, ?hy10x8009⟩ (by assumption) ?_
    case hy10x8009 => (intro w s; (try dsimp only at s); first | (go_simp; with_reducible rfl) | go_simp)
    try simp only [Act.put, zps]
    refine wtk (i := 11) (oi := zozgx20) (v := ?v11x8010) rfl ⟨by rfl, ?hy11x8010⟩ (by assumption) ?_
    case hy11x8010 => (intro w s; (try dsimp only at s); first | (go_simp; with_reducible rfl) | go_simp)
    try simp only [Act.put, zps]
    refine wtk (i := 12) (oi := zozgx21) (v := ?v12x8011) rfl ⟨by rfl, ?hy12x8011⟩ (by assumption) ?_
    case hy12x8011 => (intro w s; (try dsimp only at s); first | (go_simp; with_reducible rfl) | go_simp)
    try simp only [Act.put, zps]
    refine wtk (i := 13) (oi := zozgx22) (v := ?v13x8012) rfl ⟨by rfl, ?hy13x8012⟩ (by assumption) ?_
    case hy13x8012 => (intro w s; (try dsimp only at s); first | (go_simp; with_reducible rfl) | go_simp)
    try simp only [Act.put, zps]
    refine wtk (i := 15) (oi := zozgx23) (v := ?v15x8013) rfl ⟨by rfl, ?hy15x8013⟩ (by assumption) ?_
    case hy15x8013 => (intro w s; (try dsimp only at s); first | (go_simp; with_reducible rfl) | go_simp)
    try simp only [Act.put, zps]
    refine wtk (i := 16) (oi := zozgx24) (v := ?v16x8014) rfl ⟨by rfl, ?hy16x8014⟩ (by assumption) ?_
    case hy16x8014 => (intro w s; (try dsimp only at s); first | (go_simp; with_reducible rfl) | go_simp)
    try simp only [Act.put, zps]
    refine wtk (i := 17) (oi := zozgx25) (v := ?v17x8015) rfl ⟨by rfl, ?hy17x8015⟩ (by assumption) ?_
    case hy17x8015 => (intro w s; (try dsimp only at s); first | (go_simp; with_reducible rfl) | go_simp)
    try simp only [Act.put, zps]
    refine wtk (i := 18) (oi := zozgx26) (v := ?v18x8016) rfl ⟨by rfl, ?hy18x8016⟩ (by assumption) ?_
    case hy18x8016 => (intro w s; (try dsimp only at s); first | (go_simp; with_reducible rfl) | go_simp)
    try simp only [Act.put, zps]
    refine wtk (i := 19) (oi := zozgx27) (v := ?v19x8017) rfl ⟨by rfl, ?hy19x8017⟩ (by assumption) ?_
    case hy19x8017 => (intro w s; (try dsimp only at s); first | (go_simp; with_reducible rfl) | go_simp)
    try simp only [Act.put, zps]
    refine wpAnyH_ready (rs := [14]) (by kernel_rfl) (by simp) ?_
    refine AllReadyH.cons (o := zozgx28) rfl (fun K hK => ?_) (AllReadyH.nil)
    go_simp
    go_at_call 21
    with_reducible refine HMk.out.mono ?_
    rintro e w7 ⟨rfl, rfl⟩
    go_simp
    refine hK.out _ _ ?_ (fun _hS => ?_)
    · exact r8
    clear hK K
    try simp only [Act.put, zps]
    refine wtk (i := 20) (oi := zozgx29) (v := ?v20x8018) rfl ⟨by rfl, ?hy20x8018⟩ (by assumption) ?_
    case hy20x8018 => (intro w s; (try dsimp only at s); first | (go_simp; with_reducible rfl) | go_simp)
    try simp only [Act.put, zps]
    refine wtk (i := 21) (oi := zozgx30) (v := ?v21x8019) rfl ⟨by rfl, ?hy21x8019⟩ (by assumption) ?_
    case hy21x8019 => (intro w s; (try dsimp only at s); first | (go_simp; with_reducible rfl) | go_simp)
    try simp only [Act.put, zps]
    refine wtk (i := 22) (oi := zozgx31) (v := ?v22x8020) rfl ⟨by rfl, ?hy22x8020⟩ (by assumption) ?_
    case hy22x8020 => (intro w s; (try dsimp only at s); first | (go_simp; with_reducible rfl) | go_simp)
    try simp only [Act.put, zps]
    refine wpAnyH_done (by kernel_rfl) ?_ _
    refine NoPanic.normal ?_
    go_wp2
    go_ret
    exact ⟨rfl, L9, HD8.out, HX8.out⟩
  · exact absurd (show (nxD (mg (L.foldl put []) (ers us)) key inn).isSome = (List.find? (fun e => bhD e.key key inn) (ers vs).reverse).isSome by rw [HVS.out]; rfl) (by assumption)
  · exact absurd (show (nxU (mg (L.foldl put []) (ers us)) key inn).isSome = (List.find? (fun e => bhU e.key key inn) (ers vs)).isSome by rw [HVS.out]; rfl) (by assumption)
end Go.Proofs.Ytgohhlngnnmknaa
