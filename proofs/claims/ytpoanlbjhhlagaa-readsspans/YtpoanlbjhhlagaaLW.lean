/- Are lent spans whole? A list of one. -/
import Derived.Test.YtpoanlbjhhlagaaLS
namespace Go.Proofs.Ytpoanlbjhhlagaa
open Go.RowKit Go.Maps
set_option linter.unusedVariables false

theorem own_row {w : World} {g n c : Nat} {zs : List Int} (h : Own w (.slice (some ⟨g, 0, none⟩) n c) zs) : Row w (some ⟨g, 0, none⟩) zs := by
  rcases h.2 with ⟨e, _⟩ | ⟨g', cap, cur, e, _, hg, hle, _, hs, ht⟩
  · cases e
  · cases e
    refine .inr ⟨g, 0, rfl, lt_of_block hg, fun i hi => ?_⟩
    rw [Nat.zero_add]
    have hi2 : (cur.toList.take (zs.length * 1))[i]? = (zs.map (Value.int .u8))[i]? := by rw [ht]
    rw [List.getElem?_take, if_pos (by omega), List.getElem?_map] at hi2
    simp only [World.cell?, hg]
    simpa [List.getElem?_eq_getElem hi] using hi2
abbrev zlw0 : Oper := { dst := some 50, op := Op.move (Operand.tmp 0), type := 23, pos := "lent.go:442", after := #[], guard := none }
abbrev zlw1 : Oper := { dst := some 51, op := Op.move (Operand.tmp 6), type := 3, pos := "lent.go:442", after := #[], guard := none }
abbrev zlw2 : Oper := { dst := some 52, op := Op.indexAddr 23 (Operand.tmp 50) (Operand.tmp 51), type := 0, pos := "lent.go:442", after := #[{ on := 0, ground := Ground.data }, { on := 1, ground := Ground.data }], guard := none }
abbrev zlw3 : Oper := { dst := some 53, op := Op.fieldAddr 65 (Operand.tmp 52) 2, type := 0, pos := "lent.go:442", after := #[{ on := 2, ground := Ground.data }], guard := none }
abbrev zlw4 : Oper := { dst := some 54, op := Op.load 4 (Operand.tmp 53), type := 4, pos := "lent.go:442", after := #[{ on := 3, ground := Ground.data }], guard := none }
abbrev zlw5 : Oper := { dst := some 55, op := Op.move (Operand.tmp 1), type := 23, pos := "lent.go:442", after := #[], guard := none }
abbrev zlw6 : Oper := { dst := some 56, op := Op.move (Operand.tmp 6), type := 3, pos := "lent.go:442", after := #[], guard := none }
abbrev zlw7 : Oper := { dst := some 57, op := Op.indexAddr 23 (Operand.tmp 55) (Operand.tmp 56), type := 0, pos := "lent.go:442", after := #[{ on := 5, ground := Ground.data }, { on := 6, ground := Ground.data }], guard := none }
abbrev zlw8 : Oper := { dst := some 58, op := Op.fieldAddr 65 (Operand.tmp 57) 2, type := 0, pos := "lent.go:442", after := #[{ on := 7, ground := Ground.data }], guard := none }
abbrev zlw9 : Oper := { dst := some 59, op := Op.load 4 (Operand.tmp 58), type := 4, pos := "lent.go:442", after := #[{ on := 8, ground := Ground.data }], guard := none }
abbrev zlw10 : Oper := { dst := some 60, op := Op.binOp BinOp.neq 4 (Operand.tmp 54) (Operand.tmp 59) 4, type := 4, pos := "lent.go:442", after := #[{ on := 4, ground := Ground.data }, { on := 9, ground := Ground.data }], guard := none }
abbrev zlw11 : Oper := { dst := some 61, op := Op.move (Operand.tmp 60), type := 4, pos := "lent.go:442", after := #[{ on := 10, ground := Ground.data }], guard := none }
abbrev zlw12 : Oper := { dst := some 62, op := Op.move (Operand.tmp 0), type := 23, pos := "lent.go:442", after := #[{ on := 11, ground := Ground.guard }], guard := some (11, false) }
abbrev zlw13 : Oper := { dst := some 63, op := Op.move (Operand.tmp 6), type := 3, pos := "lent.go:442", after := #[{ on := 11, ground := Ground.guard }], guard := some (11, false) }
abbrev zlw14 : Oper := { dst := some 64, op := Op.indexAddr 23 (Operand.tmp 62) (Operand.tmp 63), type := 0, pos := "lent.go:442", after := #[{ on := 12, ground := Ground.data }, { on := 13, ground := Ground.data }, { on := 11, ground := Ground.guard }], guard := some (11, false) }
abbrev zlw15 : Oper := { dst := some 65, op := Op.fieldAddr 65 (Operand.tmp 64) 0, type := 0, pos := "lent.go:442", after := #[{ on := 14, ground := Ground.data }, { on := 11, ground := Ground.guard }], guard := some (11, false) }
abbrev zlw16 : Oper := { dst := some 66, op := Op.load 33 (Operand.tmp 65), type := 33, pos := "lent.go:442", after := #[{ on := 15, ground := Ground.data }, { on := 11, ground := Ground.guard }], guard := some (11, false) }
abbrev zlw17 : Oper := { dst := some 67, op := Op.move (Operand.tmp 1), type := 23, pos := "lent.go:442", after := #[{ on := 11, ground := Ground.guard }], guard := some (11, false) }
abbrev zlw18 : Oper := { dst := some 68, op := Op.move (Operand.tmp 6), type := 3, pos := "lent.go:442", after := #[{ on := 11, ground := Ground.guard }], guard := some (11, false) }
abbrev zlw19 : Oper := { dst := some 69, op := Op.indexAddr 23 (Operand.tmp 67) (Operand.tmp 68), type := 0, pos := "lent.go:442", after := #[{ on := 17, ground := Ground.data }, { on := 18, ground := Ground.data }, { on := 11, ground := Ground.guard }], guard := some (11, false) }
abbrev zlw20 : Oper := { dst := some 70, op := Op.fieldAddr 65 (Operand.tmp 69) 0, type := 0, pos := "lent.go:442", after := #[{ on := 19, ground := Ground.data }, { on := 11, ground := Ground.guard }], guard := some (11, false) }
abbrev zlw21 : Oper := { dst := some 71, op := Op.load 33 (Operand.tmp 70), type := 33, pos := "lent.go:442", after := #[{ on := 20, ground := Ground.data }, { on := 11, ground := Ground.guard }], guard := some (11, false) }
abbrev zlw22 : Oper := { dst := some 72, op := Op.call { callee := Callee.value (Operand.func 27), args := #[Operand.tmp 66, Operand.tmp 71], argTypes := #[33, 33] }, type := 4, pos := "lent.go:442", after := #[{ on := 16, ground := Ground.data }, { on := 21, ground := Ground.data }, { on := 11, ground := Ground.chain }, { on := 11, ground := Ground.guard }], guard := some (11, false) }
abbrev zlw23 : Oper := { dst := some 73, op := Op.unOp UnOp.not 4 (Operand.tmp 72), type := 4, pos := "lent.go:442", after := #[{ on := 22, ground := Ground.data }, { on := 11, ground := Ground.guard }], guard := some (11, false) }
abbrev zlw24 : Oper := { dst := some 74, op := Op.pick (Operand.tmp 61) (Operand.const (Value.bool true)) (Operand.tmp 73), type := 4, pos := "lent.go:442", after := #[{ on := 11, ground := Ground.data }, { on := 23, ground := Ground.data }], guard := none }
abbrev zlw25 : Oper := { dst := some 75, op := Op.move (Operand.tmp 74), type := 4, pos := "lent.go:442", after := #[{ on := 24, ground := Ground.data }, { on := 22, ground := Ground.chain }], guard := none }
abbrev zlw26 : Oper := { dst := some 76, op := Op.move (Operand.tmp 0), type := 23, pos := "lent.go:442", after := #[{ on := 25, ground := Ground.guard }], guard := some (25, false) }
abbrev zlw27 : Oper := { dst := some 77, op := Op.move (Operand.tmp 6), type := 3, pos := "lent.go:442", after := #[{ on := 25, ground := Ground.guard }], guard := some (25, false) }
abbrev zlw28 : Oper := { dst := some 78, op := Op.indexAddr 23 (Operand.tmp 76) (Operand.tmp 77), type := 0, pos := "lent.go:442", after := #[{ on := 26, ground := Ground.data }, { on := 27, ground := Ground.data }, { on := 25, ground := Ground.guard }], guard := some (25, false) }
abbrev zlw29 : Oper := { dst := some 79, op := Op.fieldAddr 65 (Operand.tmp 78) 1, type := 0, pos := "lent.go:442", after := #[{ on := 28, ground := Ground.data }, { on := 25, ground := Ground.guard }], guard := some (25, false) }
abbrev zlw30 : Oper := { dst := some 80, op := Op.load 33 (Operand.tmp 79), type := 33, pos := "lent.go:442", after := #[{ on := 29, ground := Ground.data }, { on := 25, ground := Ground.guard }], guard := some (25, false) }
abbrev zlw31 : Oper := { dst := some 81, op := Op.move (Operand.tmp 1), type := 23, pos := "lent.go:442", after := #[{ on := 25, ground := Ground.guard }], guard := some (25, false) }
abbrev zlw32 : Oper := { dst := some 82, op := Op.move (Operand.tmp 6), type := 3, pos := "lent.go:442", after := #[{ on := 25, ground := Ground.guard }], guard := some (25, false) }
abbrev zlw33 : Oper := { dst := some 83, op := Op.indexAddr 23 (Operand.tmp 81) (Operand.tmp 82), type := 0, pos := "lent.go:442", after := #[{ on := 31, ground := Ground.data }, { on := 32, ground := Ground.data }, { on := 25, ground := Ground.guard }], guard := some (25, false) }
abbrev zlw34 : Oper := { dst := some 84, op := Op.fieldAddr 65 (Operand.tmp 83) 1, type := 0, pos := "lent.go:442", after := #[{ on := 33, ground := Ground.data }, { on := 25, ground := Ground.guard }], guard := some (25, false) }
abbrev zlw35 : Oper := { dst := some 85, op := Op.load 33 (Operand.tmp 84), type := 33, pos := "lent.go:442", after := #[{ on := 34, ground := Ground.data }, { on := 25, ground := Ground.guard }], guard := some (25, false) }
abbrev zlw36 : Oper := { dst := some 86, op := Op.call { callee := Callee.value (Operand.func 27), args := #[Operand.tmp 80, Operand.tmp 85], argTypes := #[33, 33] }, type := 4, pos := "lent.go:442", after := #[{ on := 30, ground := Ground.data }, { on := 35, ground := Ground.data }, { on := 25, ground := Ground.chain }, { on := 25, ground := Ground.guard }], guard := some (25, false) }
abbrev zlw37 : Oper := { dst := some 87, op := Op.unOp UnOp.not 4 (Operand.tmp 86), type := 4, pos := "lent.go:442", after := #[{ on := 36, ground := Ground.data }, { on := 25, ground := Ground.guard }], guard := some (25, false) }
abbrev zlw38 : Oper := { dst := some 88, op := Op.pick (Operand.tmp 75) (Operand.const (Value.bool true)) (Operand.tmp 87), type := 4, pos := "lent.go:442", after := #[{ on := 25, ground := Ground.data }, { on := 37, ground := Ground.data }], guard := none }
set_option maxHeartbeats 3200000 in
set_option maxRecDepth 1000000 in
theorem wholes_any {w0 w : World} {g gk gv g9 : Nat} {a : Option Addr} {c : Nat} (x : En) (hL : Lt w0 w g gk gv g9 x.e) (h : Ens w a 1 c [x]) (hl : x.e.key.length ≤ 30000 ∧ x.e.val.length ≤ 30000) :
    Calls Try.prog 31 #[.slice (some ⟨g, 0, none⟩) 1 2, .slice a 1 c] w fun e w' => e = .returned (.bool true) ∧ Below w.heap.size w w' := by
  have SX0 := fun W (hW : Below w.heap.size w W) => (h.below hW).cells (k := 0) (x := x) rfl
  obtain ⟨b, off, rfl, hbs, -⟩ := SX0 w (Below.refl _ _)
  have hg := lt_of_block hL.row
  have hg9 := lt_of_block hL.mrk
  have SX : Hid (∀ W, Below w.heap.size w W → (W.cell? ⟨g, 0, none⟩ = some (.slice (some ⟨gk, 0, none⟩) x.e.key.length (x.e.key.length + 2)) ∧ W.cell? ⟨g, 1, none⟩ = some (.slice (some ⟨gv, 0, none⟩) x.e.val.length (x.e.val.length + 2)) ∧ W.cell? ⟨g, 2, none⟩ = some (.bool x.e.del)) ∧ W.cell? ⟨b, off, none⟩ = some (.slice x.ka x.e.key.length x.kc) ∧ W.cell? ⟨b, off + 1, none⟩ = some (.slice x.va x.e.val.length x.vc) ∧ W.cell? ⟨b, off + 2, none⟩ = some (.bool x.e.del)) := hide fun W hW => by
    obtain ⟨b', off', e, _, c0, c1, c2⟩ := SX0 W hW
    cases e
    have hr := (hW.block g hg).trans hL.row
    refine ⟨⟨by simp [World.cell?, hr], by simp [World.cell?, hr], by simp [World.cell?, hr]⟩, by simpa using c0, by simpa using c1, by simpa using c2⟩
  have m0 : w.cell? ⟨g, 3, none⟩ = some (.slice (some ⟨g9, 0, none⟩) 1 1) := by simp [World.cell?, hL.row]
  have m1 : w.cell? ⟨g9, 0, none⟩ = some (.int .u8 91) := by simp [World.cell?, hL.mrk]
  have hok := h.each x (by simp)
  have HW1 := hide (Le.whole_any gk x.ka x.e.key.length x.kc x.e.key w.drew (by omega) (own_row (hL.key.of_block fun k hk => rfl)) (hok.key.below (Below.refl _ _).drew))
  have HW2 := hide (fun W (hW : Below w.heap.size w W) => Le.whole_any gv x.va x.e.val.length x.vc x.e.val W (by omega) (own_row (hL.val.of_block fun k hk => hW.block k (hL.val.lt hk))) (hok.val.below hW))
  have hcap := h.cap
  have hmax := h.max
  clear h SX0 hok hL
  go_enter Try.func31, Try.ntmps31
  go_wp2
  go_loopw [6] (fun i wr => (i = .int .i64 0 ∧ wr = w) ∨ (i = .int .i64 1 ∧ Below w.heap.size w wr)) (fun i _ => 1 - (intOf i).toNat)
  case atStart => exact .inl ⟨rfl, rfl⟩
  case round =>
    rcases hrel with ⟨rfl, rfl⟩ | ⟨rfl, hbl⟩
    · have f1 : (0 : Int) < 1 := by omega
      go_wp2
      refine wp_region_noPanic ?_
      refine wp_region_held_drew (S := (fun W => (W.cell? ⟨g, 0, none⟩ = some (.slice (some ⟨gk, 0, none⟩) x.e.key.length (x.e.key.length + 2)) ∧ W.cell? ⟨g, 1, none⟩ = some (.slice (some ⟨gv, 0, none⟩) x.e.val.length (x.e.val.length + 2)) ∧ W.cell? ⟨g, 2, none⟩ = some (.bool x.e.del)) ∧ W.cell? ⟨b, off, none⟩ = some (.slice x.ka x.e.key.length x.kc) ∧ W.cell? ⟨b, off + 1, none⟩ = some (.slice x.va x.e.val.length x.vc) ∧ W.cell? ⟨b, off + 2, none⟩ = some (.bool x.e.del))) (by kernel_rfl) (SX.out _ (Below.refl _ _).drew) (fun _hS => ?_)
      refine wtk (i := 0) (oi := zlw0) (v := ?v0x1) rfl ⟨by rfl, ?hy0x1⟩ (by assumption) ?_
      case hy0x1 => (intro w s; (try dsimp only at s); first | (go_simp; with_reducible rfl) | go_simp)
      try simp only [Act.put, zps]
      refine wtk (i := 1) (oi := zlw1) (v := ?v1x2) rfl ⟨by rfl, ?hy1x2⟩ (by assumption) ?_
      case hy1x2 => (intro w s; (try dsimp only at s); first | (go_simp; with_reducible rfl) | go_simp)
      try simp only [Act.put, zps]
      refine wtk (i := 2) (oi := zlw2) (v := ?v2x3) rfl ⟨by rfl, ?hy2x3⟩ (by assumption) ?_
      case hy2x3 => (intro w s; (try dsimp only at s); first | (go_simp; with_reducible rfl) | go_simp)
      try simp only [Act.put, zps]
      refine wtk (i := 3) (oi := zlw3) (v := ?v3x4) rfl ⟨by rfl, ?hy3x4⟩ (by assumption) ?_
      case hy3x4 => (intro w s; (try dsimp only at s); first | (go_simp; with_reducible rfl) | go_simp)
      try simp only [Act.put, zps]
      refine wtk (i := 4) (oi := zlw4) (v := ?v4x5) rfl ⟨by rfl, ?hy4x5⟩ (by assumption) ?_
      case hy4x5 => (intro w s; (try dsimp only at s); first | (go_simp; with_reducible rfl) | go_simp)
      try simp only [Act.put, zps]
      refine wtk (i := 5) (oi := zlw5) (v := ?v5x6) rfl ⟨by rfl, ?hy5x6⟩ (by assumption) ?_
      case hy5x6 => (intro w s; (try dsimp only at s); first | (go_simp; with_reducible rfl) | go_simp)
      try simp only [Act.put, zps]
      refine wtk (i := 6) (oi := zlw6) (v := ?v6x7) rfl ⟨by rfl, ?hy6x7⟩ (by assumption) ?_
      case hy6x7 => (intro w s; (try dsimp only at s); first | (go_simp; with_reducible rfl) | go_simp)
      try simp only [Act.put, zps]
      refine wtk (i := 7) (oi := zlw7) (v := ?v7x8) rfl ⟨by rfl, ?hy7x8⟩ (by assumption) ?_
      case hy7x8 => (intro w s; (try dsimp only at s); first | (go_simp; with_reducible rfl) | go_simp)
      try simp only [Act.put, zps]
      refine wtk (i := 8) (oi := zlw8) (v := ?v8x9) rfl ⟨by rfl, ?hy8x9⟩ (by assumption) ?_
      case hy8x9 => (intro w s; (try dsimp only at s); first | (go_simp; with_reducible rfl) | go_simp)
      try simp only [Act.put, zps]
      refine wtk (i := 9) (oi := zlw9) (v := ?v9x10) rfl ⟨by rfl, ?hy9x10⟩ (by assumption) ?_
      case hy9x10 => (intro w s; (try dsimp only at s); first | (go_simp; with_reducible rfl) | go_simp)
      try simp only [Act.put, zps]
      refine wtk (i := 10) (oi := zlw10) (v := .bool false) rfl ⟨by rfl, ?hy10x11⟩ (by assumption) ?_
      case hy10x11 => (intro w s; go_simp)
      try simp only [Act.put, zps]
      refine wtk (i := 11) (oi := zlw11) (v := ?v11x12) rfl ⟨by rfl, ?hy11x12⟩ (by assumption) ?_
      case hy11x12 => (intro w s; (try dsimp only at s); first | (go_simp; with_reducible rfl) | go_simp)
      try simp only [Act.put, zps]
      refine wtk (i := 12) (oi := zlw12) (v := ?v12x13) rfl ⟨by rfl, ?hy12x13⟩ (by assumption) ?_
      case hy12x13 => (intro w s; (try dsimp only at s); first | (go_simp; with_reducible rfl) | go_simp)
      try simp only [Act.put, zps]
      refine wtk (i := 13) (oi := zlw13) (v := ?v13x14) rfl ⟨by rfl, ?hy13x14⟩ (by assumption) ?_
      case hy13x14 => (intro w s; (try dsimp only at s); first | (go_simp; with_reducible rfl) | go_simp)
      try simp only [Act.put, zps]
      refine wtk (i := 14) (oi := zlw14) (v := ?v14x15) rfl ⟨by rfl, ?hy14x15⟩ (by assumption) ?_
      case hy14x15 => (intro w s; (try dsimp only at s); first | (go_simp; with_reducible rfl) | go_simp)
      try simp only [Act.put, zps]
      refine wtk (i := 15) (oi := zlw15) (v := ?v15x16) rfl ⟨by rfl, ?hy15x16⟩ (by assumption) ?_
      case hy15x16 => (intro w s; (try dsimp only at s); first | (go_simp; with_reducible rfl) | go_simp)
      try simp only [Act.put, zps]
      refine wtk (i := 16) (oi := zlw16) (v := ?v16x17) rfl ⟨by rfl, ?hy16x17⟩ (by assumption) ?_
      case hy16x17 => (intro w s; (try dsimp only at s); first | (go_simp; with_reducible rfl) | go_simp)
      try simp only [Act.put, zps]
      refine wtk (i := 17) (oi := zlw17) (v := ?v17x18) rfl ⟨by rfl, ?hy17x18⟩ (by assumption) ?_
      case hy17x18 => (intro w s; (try dsimp only at s); first | (go_simp; with_reducible rfl) | go_simp)
      try simp only [Act.put, zps]
      refine wtk (i := 18) (oi := zlw18) (v := ?v18x19) rfl ⟨by rfl, ?hy18x19⟩ (by assumption) ?_
      case hy18x19 => (intro w s; (try dsimp only at s); first | (go_simp; with_reducible rfl) | go_simp)
      try simp only [Act.put, zps]
      refine wtk (i := 19) (oi := zlw19) (v := ?v19x20) rfl ⟨by rfl, ?hy19x20⟩ (by assumption) ?_
      case hy19x20 => (intro w s; (try dsimp only at s); first | (go_simp; with_reducible rfl) | go_simp)
      try simp only [Act.put, zps]
      refine wtk (i := 20) (oi := zlw20) (v := ?v20x21) rfl ⟨by rfl, ?hy20x21⟩ (by assumption) ?_
      case hy20x21 => (intro w s; (try dsimp only at s); first | (go_simp; with_reducible rfl) | go_simp)
      try simp only [Act.put, zps]
      refine wtk (i := 21) (oi := zlw21) (v := ?v21x22) rfl ⟨by rfl, ?hy21x22⟩ (by assumption) ?_
      case hy21x22 => (intro w s; (try dsimp only at s); first | (go_simp; with_reducible rfl) | go_simp)
      try simp only [Act.put, zps]
      refine wpAnyH_ready (rs := [22]) (by kernel_rfl) (by simp) ?_
      refine AllReadyH.cons (o := zlw22) rfl (fun K hK => ?_) (AllReadyH.nil)
      go_simp
      go_at_call 27
      refine HW1.out.mono ?_
      rintro e w2 ⟨rfl, hb2⟩
      have HB2 := hide ((Below.refl _ _).drew.trans hb2)
      clear hb2
      go_simp
      refine hK.out _ _ ?_ (fun _hS => ?_)
      · exact (SX.out _ HB2.out)
      clear hK K
      try simp only [Act.put, zps]
      refine wtk (i := 23) (oi := zlw23) (v := ?v23x23) rfl ⟨by rfl, ?hy23x23⟩ (by assumption) ?_
      case hy23x23 => (intro w s; (try dsimp only at s); first | (go_simp; with_reducible rfl) | go_simp)
      try simp only [Act.put, zps]
      refine wtk (i := 24) (oi := zlw24) (v := ?v24x24) rfl ⟨by rfl, ?hy24x24⟩ (by assumption) ?_
      case hy24x24 => (intro w s; (try dsimp only at s); first | (go_simp; with_reducible rfl) | go_simp)
      try simp only [Act.put, zps]
      refine wtk (i := 25) (oi := zlw25) (v := ?v25x25) rfl ⟨by rfl, ?hy25x25⟩ (by assumption) ?_
      case hy25x25 => (intro w s; (try dsimp only at s); first | (go_simp; with_reducible rfl) | go_simp)
      try simp only [Act.put, zps]
      refine wtk (i := 26) (oi := zlw26) (v := ?v26x26) rfl ⟨by rfl, ?hy26x26⟩ (by assumption) ?_
      case hy26x26 => (intro w s; (try dsimp only at s); first | (go_simp; with_reducible rfl) | go_simp)
      try simp only [Act.put, zps]
      refine wtk (i := 27) (oi := zlw27) (v := ?v27x27) rfl ⟨by rfl, ?hy27x27⟩ (by assumption) ?_
      case hy27x27 => (intro w s; (try dsimp only at s); first | (go_simp; with_reducible rfl) | go_simp)
      try simp only [Act.put, zps]
      refine wtk (i := 28) (oi := zlw28) (v := ?v28x28) rfl ⟨by rfl, ?hy28x28⟩ (by assumption) ?_
      case hy28x28 => (intro w s; (try dsimp only at s); first | (go_simp; with_reducible rfl) | go_simp)
      try simp only [Act.put, zps]
      refine wtk (i := 29) (oi := zlw29) (v := ?v29x29) rfl ⟨by rfl, ?hy29x29⟩ (by assumption) ?_
      case hy29x29 => (intro w s; (try dsimp only at s); first | (go_simp; with_reducible rfl) | go_simp)
      try simp only [Act.put, zps]
      refine wtk (i := 30) (oi := zlw30) (v := ?v30x30) rfl ⟨by rfl, ?hy30x30⟩ (by assumption) ?_
      case hy30x30 => (intro w s; (try dsimp only at s); first | (go_simp; with_reducible rfl) | go_simp)
      try simp only [Act.put, zps]
      refine wtk (i := 31) (oi := zlw31) (v := ?v31x31) rfl ⟨by rfl, ?hy31x31⟩ (by assumption) ?_
      case hy31x31 => (intro w s; (try dsimp only at s); first | (go_simp; with_reducible rfl) | go_simp)
      try simp only [Act.put, zps]
      refine wtk (i := 32) (oi := zlw32) (v := ?v32x32) rfl ⟨by rfl, ?hy32x32⟩ (by assumption) ?_
      case hy32x32 => (intro w s; (try dsimp only at s); first | (go_simp; with_reducible rfl) | go_simp)
      try simp only [Act.put, zps]
      refine wtk (i := 33) (oi := zlw33) (v := ?v33x33) rfl ⟨by rfl, ?hy33x33⟩ (by assumption) ?_
      case hy33x33 => (intro w s; (try dsimp only at s); first | (go_simp; with_reducible rfl) | go_simp)
      try simp only [Act.put, zps]
      refine wtk (i := 34) (oi := zlw34) (v := ?v34x34) rfl ⟨by rfl, ?hy34x34⟩ (by assumption) ?_
      case hy34x34 => (intro w s; (try dsimp only at s); first | (go_simp; with_reducible rfl) | go_simp)
      try simp only [Act.put, zps]
      refine wtk (i := 35) (oi := zlw35) (v := ?v35x35) rfl ⟨by rfl, ?hy35x35⟩ (by assumption) ?_
      case hy35x35 => (intro w s; (try dsimp only at s); first | (go_simp; with_reducible rfl) | go_simp)
      try simp only [Act.put, zps]
      refine wpAnyH_ready (rs := [36]) (by kernel_rfl) (by simp) ?_
      refine AllReadyH.cons (o := zlw36) rfl (fun K hK => ?_) (AllReadyH.nil)
      go_simp
      go_at_call 27
      refine (HW2.out _ HB2.out).mono ?_
      rintro e w3 ⟨rfl, hb3⟩
      have HB3 := hide (HB2.out.trans (hb3.mono HB2.out.size))
      clear hb3
      go_simp
      refine hK.out _ _ ?_ (fun _hS => ?_)
      · exact (SX.out _ HB3.out)
      clear hK K
      try simp only [Act.put, zps]
      refine wtk (i := 37) (oi := zlw37) (v := ?v37x36) rfl ⟨by rfl, ?hy37x36⟩ (by assumption) ?_
      case hy37x36 => (intro w s; (try dsimp only at s); first | (go_simp; with_reducible rfl) | go_simp)
      try simp only [Act.put, zps]
      refine wtk (i := 38) (oi := zlw38) (v := ?v38x37) rfl ⟨by rfl, ?hy38x37⟩ (by assumption) ?_
      case hy38x37 => (intro w s; (try dsimp only at s); first | (go_simp; with_reducible rfl) | go_simp)
      try simp only [Act.put, zps]
      refine wpAnyH_done (by kernel_rfl) ?_ _
      refine NoPanic.normal ?_
      go_wp2
      go_roundw
      case rel => exact .inr ⟨rfl, HB3.out⟩
      case measure => simp [intOf]
    · have HBl := hide hbl
      clear hbl
      go_wp2
      go_ret
      exact ⟨rfl, HBl.out⟩
end Go.Proofs.Ytpoanlbjhhlagaa
