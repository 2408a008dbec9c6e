/- Lent spans: a list of one. -/
import Derived.Test.YtpoanlbjhhlagaaAL
import Derived.Test.YtpoanlbjhhlagaaLE
import Derived.Laws.OwnMore
namespace Go.Proofs.Ytpoanlbjhhlagaa
open Go.RowKit Go.Maps
set_option linter.unusedVariables false

/-- a list of one span that is lent: the list's block, the bytes' blocks, and the mark behind. -/
structure Lt (w W : World) (g gk gv g9 : Nat) (x : Ee) : Prop where
  row : W.heap[g]? = some (.cells #[.slice (some ⟨gk, 0, none⟩) x.key.length (x.key.length + 2), .slice (some ⟨gv, 0, none⟩) x.val.length (x.val.length + 2), .bool x.del, .slice (some ⟨g9, 0, none⟩) 1 1, .slice none 0 0, .bool false] 65 (0, 0))
  key : Own W (.slice (some ⟨gk, 0, none⟩) (x.key.length + 2) (x.key.length + 2)) (x.key ++ [91, 92])
  val : Own W (.slice (some ⟨gv, 0, none⟩) (x.val.length + 2) (x.val.length + 2)) (x.val ++ [91, 92])
  mrk : W.heap[g9]? = some (.cells #[.int .u8 91] 5 (0, 0))
  ge : w.heap.size ≤ g ∧ w.heap.size ≤ gk ∧ w.heap.size ≤ gv ∧ w.heap.size ≤ g9
  ne : gk ≠ gv ∧ g9 ≠ gk ∧ g9 ≠ gv
/-- .. when its one span is laid. -/
def Lt1 (w W : World) (x : Ee) : Prop := ∃ gk gv, Own W (.slice (some ⟨gk, 0, none⟩) (x.key.length + 2) (x.key.length + 2)) (x.key ++ [91, 92]) ∧ Own W (.slice (some ⟨gv, 0, none⟩) (x.val.length + 2) (x.val.length + 2)) (x.val ++ [91, 92]) ∧ W.ownsRow w.heap.size 65 3 (.slice (some ⟨w.heap.size, 0, none⟩) 1 2) 1 [.slice (some ⟨gk, 0, none⟩) x.key.length (x.key.length + 2), .slice (some ⟨gv, 0, none⟩) x.val.length (x.val.length + 2), .bool x.del] ∧ w.heap.size < gk ∧ gk < gv ∧ gv < W.heap.size ∧ Below w.heap.size w W
theorem lt1_end {w w0 w1 w2 w3 : World} {x : Ee} {o : Obj} (hb0 : Below w.heap.size w w0) (h0 : w.heap.size < w0.heap.size) (hb1 : Below w0.heap.size w0 w1) (hb2 : Below w1.heap.size w1 w2) (ho1 : Own w1 (.slice (some ⟨w0.heap.size, 0, none⟩) (x.key.length + 2) (x.key.length + 2)) (x.key ++ [91, 92])) (ho2 : Own w2 (.slice (some ⟨w1.heap.size, 0, none⟩) (x.val.length + 2) (x.val.length + 2)) (x.val ++ [91, 92]))
    (hown : w3.ownsRow w.heap.size 65 3 (.slice (some ⟨w.heap.size, 0, none⟩) 1 2) 1 [.slice (some ⟨w0.heap.size, 0, none⟩) x.key.length (x.key.length + 2), .slice (some ⟨w1.heap.size, 0, none⟩) x.val.length (x.val.length + 2), .bool x.del]) (hg : (w2.alloc o).grownBy w3 (some w.heap.size)) (hb3 : Below w.heap.size w w3) : Lt1 w w3 x := by
  have hl1 : w0.heap.size < w1.heap.size := ho1.lt (k := w0.heap.size) (by simp [Value.ownBlock])
  have hl2 : w1.heap.size < w2.heap.size := ho2.lt (k := w1.heap.size) (by simp [Value.ownBlock])
  have st : ∀ k, k < w2.heap.size → k ≠ w.heap.size → w3.heap[k]? = w2.heap[k]? := fun k hk hne => by
    rw [hg.block k (by simp; omega) (fun e => hne (Option.some.inj e))]
    exact (below_alloc w2 o).block k hk
  refine ⟨w0.heap.size, w1.heap.size, ?_, ?_, hown, h0, hl1, ?_, hb3⟩
  · refine (ho1.of_block (w' := w2) fun k hk => hb2.block k (ho1.lt hk)).of_block fun k hk => ?_
    have : k = w0.heap.size := by simp [Value.ownBlock] at hk; omega
    exact st k (by omega) (by omega)
  · refine ho2.of_block fun k hk => ?_
    have : k = w1.heap.size := by simp [Value.ownBlock] at hk; omega
    exact st k (by omega) (by omega)
  · have := hg.size; simp at this; omega
theorem lt_end {w wr w7 : World} {x : Ee} {gk gv : Nat} (l1 : Own wr (.slice (some ⟨gk, 0, none⟩) (x.key.length + 2) (x.key.length + 2)) (x.key ++ [91, 92])) (l2 : Own wr (.slice (some ⟨gv, 0, none⟩) (x.val.length + 2) (x.val.length + 2)) (x.val ++ [91, 92])) (l4 : w.heap.size < gk) (l5 : gk < gv) (l6 : gv < wr.heap.size) (l7 : Below w.heap.size w wr)
    (hown : w7.ownsRow w.heap.size 65 3 (.slice (some ⟨w.heap.size, 0, none⟩) 2 2) 2 ([.slice (some ⟨gk, 0, none⟩) x.key.length (x.key.length + 2), .slice (some ⟨gv, 0, none⟩) x.val.length (x.val.length + 2), .bool x.del] ++ En.cells ⟨⟨[91], [], false⟩, some ⟨wr.heap.size, 0, none⟩, 1, none, 0⟩))
    (hg : ((wr.alloc (.cells #[.int .u8 91] 5)).alloc (.cells #[.slice (some ⟨wr.heap.size, 0, none⟩) 1 1, .slice none 0 0, .bool false] 65)).grownBy w7 (some w.heap.size)) : Lt w w7 w.heap.size gk gv wr.heap.size x ∧ Below w.heap.size w w7 := by
  have hbA := below_alloc wr (.cells #[.int .u8 91] 5)
  have hbB := hbA.trans ((below_alloc (wr.alloc (.cells #[.int .u8 91] 5)) (.cells #[.slice (some ⟨wr.heap.size, 0, none⟩) 1 1, .slice none 0 0, .bool false] 65)).mono hbA.size)
  have st : ∀ k, k < wr.heap.size → k ≠ w.heap.size → w7.heap[k]? = wr.heap[k]? := fun k hk hne => by
    rw [hg.block k (Nat.lt_of_lt_of_le hk hbB.size) (fun e => hne (Option.some.inj e))]
    exact hbB.block k hk
  refine ⟨⟨?_, ?_, ?_, ?_, by omega, by omega⟩, (l7.trans (hbB.mono l7.size)).grown hg (Nat.le_trans l7.size hbB.size) fun k hk => by cases hk; exact Nat.le_refl _⟩
  · rcases hown.2 with ⟨h, _⟩ | ⟨g, cap, cur, e, hb, hh, h1, h2, h3, h4⟩
    · cases h
    · injection e with e1 _ e3
      injection e1 with e1
      injection e1 with e1
      subst e1; subst e3
      rw [List.take_of_length_le (by rw [Array.length_toList, h3]; exact Nat.le_refl _)] at h4
      have hcur : cur = #[.slice (some ⟨gk, 0, none⟩) x.key.length (x.key.length + 2), .slice (some ⟨gv, 0, none⟩) x.val.length (x.val.length + 2), .bool x.del, .slice (some ⟨wr.heap.size, 0, none⟩) 1 1, .slice none 0 0, .bool false] := by
        exact Array.toList_inj.1 (h4.trans rfl)
      rw [hh, hcur]
  · refine l1.of_block fun k hk => ?_
    have : k = gk := by simp [Value.ownBlock] at hk; omega
    exact st k (by omega) (by omega)
  · refine l2.of_block fun k hk => ?_
    have : k = gv := by simp [Value.ownBlock] at hk; omega
    exact st k (by omega) (by omega)
  · have s1 : (wr.alloc (.cells #[.int .u8 91] 5)).heap.size = wr.heap.size + 1 := by simp
    have hB := below_alloc (wr.alloc (.cells #[.int .u8 91] 5)) (.cells #[.slice (some ⟨wr.heap.size, 0, none⟩) 1 1, .slice none 0 0, .bool false] 65)
    have s2 := hB.size
    rw [hg.block wr.heap.size (by omega) (fun e => by have := Option.some.inj e; omega), hB.block wr.heap.size (by omega)]
    exact heap_alloc_new wr _
abbrev zls0 : Oper := { dst := some 16, op := Op.move (Operand.tmp 3), type := 23, pos := "lent.go:427", after := #[], guard := none }
abbrev zls1 : Oper := { dst := some 17, op := Op.move (Operand.tmp 0), type := 23, pos := "lent.go:427", after := #[], guard := none }
abbrev zls2 : Oper := { dst := some 18, op := Op.move (Operand.tmp 4), type := 3, pos := "lent.go:427", after := #[], guard := none }
abbrev zls3 : Oper := { dst := some 19, op := Op.indexAddr 23 (Operand.tmp 17) (Operand.tmp 18), type := 0, pos := "lent.go:427", after := #[{ on := 1, ground := Ground.data }, { on := 2, ground := Ground.data }], guard := none }
abbrev zls4 : Oper := { dst := some 20, op := Op.fieldAddr 65 (Operand.tmp 19) 2, type := 0, pos := "lent.go:427", after := #[{ on := 3, ground := Ground.data }], guard := none }
abbrev zls5 : Oper := { dst := some 21, op := Op.load 4 (Operand.tmp 20), type := 4, pos := "lent.go:427", after := #[{ on := 4, ground := Ground.data }], guard := none }
abbrev zls6 : Oper := { dst := some 22, op := Op.move (Operand.tmp 0), type := 23, pos := "lent.go:427", after := #[], guard := none }
abbrev zls7 : Oper := { dst := some 23, op := Op.move (Operand.tmp 4), type := 3, pos := "lent.go:427", after := #[], guard := none }
abbrev zls8 : Oper := { dst := some 24, op := Op.indexAddr 23 (Operand.tmp 22) (Operand.tmp 23), type := 0, pos := "lent.go:427", after := #[{ on := 6, ground := Ground.data }, { on := 7, ground := Ground.data }], guard := none }
abbrev zls9 : Oper := { dst := some 25, op := Op.fieldAddr 65 (Operand.tmp 24) 0, type := 0, pos := "lent.go:427", after := #[{ on := 8, ground := Ground.data }], guard := none }
abbrev zls10 : Oper := { dst := some 26, op := Op.load 33 (Operand.tmp 25), type := 33, pos := "lent.go:427", after := #[{ on := 9, ground := Ground.data }], guard := none }
abbrev zls11 : Oper := { dst := some 27, op := Op.call { callee := Callee.value (Operand.func 25), args := #[Operand.tmp 26], argTypes := #[33] }, type := 33, pos := "lent.go:427", after := #[{ on := 10, ground := Ground.data }], guard := none }
abbrev zls12 : Oper := { dst := some 28, op := Op.move (Operand.tmp 0), type := 23, pos := "lent.go:427", after := #[], guard := none }
abbrev zls13 : Oper := { dst := some 29, op := Op.move (Operand.tmp 4), type := 3, pos := "lent.go:427", after := #[], guard := none }
abbrev zls14 : Oper := { dst := some 30, op := Op.indexAddr 23 (Operand.tmp 28) (Operand.tmp 29), type := 0, pos := "lent.go:427", after := #[{ on := 12, ground := Ground.data }, { on := 13, ground := Ground.data }], guard := none }
abbrev zls15 : Oper := { dst := some 31, op := Op.fieldAddr 65 (Operand.tmp 30) 1, type := 0, pos := "lent.go:427", after := #[{ on := 14, ground := Ground.data }], guard := none }
abbrev zls16 : Oper := { dst := some 32, op := Op.load 33 (Operand.tmp 31), type := 33, pos := "lent.go:427", after := #[{ on := 15, ground := Ground.data }], guard := none }
abbrev zls17 : Oper := { dst := some 33, op := Op.call { callee := Callee.value (Operand.func 25), args := #[Operand.tmp 32], argTypes := #[33] }, type := 33, pos := "lent.go:427", after := #[{ on := 16, ground := Ground.data }, { on := 11, ground := Ground.chain }], guard := none }
abbrev zls18 : Oper := { dst := some 34, op := Op.build 65 #[(2, Operand.tmp 21), (0, Operand.tmp 27), (1, Operand.tmp 33)], type := 65, pos := "lent.go:427", after := #[{ on := 5, ground := Ground.data }, { on := 11, ground := Ground.data }, { on := 17, ground := Ground.data }], guard := none }
abbrev zls19 : Oper := { dst := some 35, op := Op.buildSlice 23 1 #[(0, Operand.tmp 34)], type := 23, pos := "lent.go:427", after := #[{ on := 18, ground := Ground.data }], guard := none }
abbrev zls20 : Oper := { dst := some 36, op := Op.call { callee := Callee.builtin Builtin.append, args := #[Operand.tmp 16, Operand.tmp 35], argTypes := #[23, 23] }, type := 23, pos := "lent.go:427", after := #[{ on := 0, ground := Ground.data }, { on := 19, ground := Ground.data }, { on := 17, ground := Ground.chain }], guard := none }
abbrev zls21 : Oper := { dst := some 3, op := Op.assign (Operand.tmp 36), type := 23, pos := "lent.go:427", after := #[{ on := 20, ground := Ground.data }, { on := 20, ground := Ground.chain }, { on := 0, ground := Ground.phase }, { on := 1, ground := Ground.phase }, { on := 2, ground := Ground.phase }, { on := 3, ground := Ground.phase }, { on := 4, ground := Ground.phase }, { on := 5, ground := Ground.phase }, { on := 6, ground := Ground.phase }, { on := 7, ground := Ground.phase }, { on := 8, ground := Ground.phase }, { on := 9, ground := Ground.phase }, { on := 10, ground := Ground.phase }, { on := 11, ground := Ground.phase }, { on := 12, ground := Ground.phase }, { on := 13, ground := Ground.phase }, { on := 14, ground := Ground.phase }, { on := 15, ground := Ground.phase }, { on := 16, ground := Ground.phase }, { on := 17, ground := Ground.phase }, { on := 18, ground := Ground.phase }, { on := 19, ground := Ground.phase }, { on := 20, ground := Ground.phase }], guard := none }
set_option maxHeartbeats 3200000 in
set_option maxRecDepth 1000000 in
theorem lents_any {w : World} {a : Option Addr} {c : Nat} (x : En) (h : Ens w a 1 c [x]) (hl : x.e.key.length ≤ 30000 ∧ x.e.val.length ≤ 30000) :
    Calls Try.prog 29 #[.slice a 1 c] w fun e w' => ∃ g gk gv g9, e = .returned (.slice (some ⟨g, 0, none⟩) 1 2) ∧ Lt w w' g gk gv g9 x.e ∧ Below w.heap.size w w' := by
  obtain ⟨i0, hi, hz0, hz1, hz2⟩ := info_parts Try.infoE
  have SX0 := fun W (hW : Below w.heap.size w W) => (h.below hW).cells (k := 0) (x := x) rfl
  obtain ⟨b, off, rfl, hbs, -⟩ := SX0 w (Below.refl _ _)
  have SX : Hid (∀ W, Below w.heap.size w W → W.cell? ⟨b, off, none⟩ = some (.slice x.ka x.e.key.length x.kc) ∧ W.cell? ⟨b, off + 1, none⟩ = some (.slice x.va x.e.val.length x.vc) ∧ W.cell? ⟨b, off + 2, none⟩ = some (.bool x.e.del)) := hide fun W hW => by
    obtain ⟨b', off', e, _, c0, c1, c2⟩ := SX0 W hW
    cases e
    exact ⟨by simpa using c0, by simpa using c1, by simpa using c2⟩
  have hok := h.each x (by simp)
  have HOk := hide hok
  have hcap := h.cap
  have hmax := h.max
  clear h SX0 hok
  go_enter Try.func29, Try.ntmps29
  go_wp2_with (at_make; refine wpList_make_own _ rfl _ _ 23 rfl w.heap.size 65 i0 _ 3 Try.underlying23 hi hz0 hz1 _ _ _ 2 rfl rfl rfl (by rw [hz2]; omega) (by unfold maxLen; omega) (Nat.le_refl _) ?_; intro w0 hown0 hgrow0)
  have HRow0 := hide hown0
  have HB0 := hide ((Below.refl w.heap.size w).grown hgrow0 (Nat.le_refl _) (fun k h => by cases h))
  have HS0 : Hid (w.heap.size < w0.heap.size) := hide ((row_at hown0 (k := w.heap.size) (by simp [Value.ownBlock])).2.1)
  clear hown0 hgrow0
  go_loopw [3, 4] (fun s i wr => (i = .int .i64 0 ∧ s = .slice (some ⟨w.heap.size, 0, none⟩) 0 2 ∧ wr = w0) ∨ (i = .int .i64 1 ∧ s = .slice (some ⟨w.heap.size, 0, none⟩) 1 2 ∧ Lt1 w wr x.e)) (fun _ i _ => 1 - (intOf i).toNat)
  case atStart => exact .inl ⟨rfl, rfl, rfl⟩
  case round =>
    rcases hrel with ⟨rfl, rfl, rfl⟩ | ⟨rfl, rfl, hl1⟩
    · have HL1 : Hid (Calls Try.prog 25 #[.slice x.ka x.e.key.length x.kc] wr.drew fun e w' => e = .returned (.slice (some ⟨wr.heap.size, 0, none⟩) x.e.key.length (x.e.key.length + 2)) ∧ Own w' (.slice (some ⟨wr.heap.size, 0, none⟩) (x.e.key.length + 2) (x.e.key.length + 2)) (x.e.key ++ [91, 92]) ∧ Below wr.heap.size wr.drew w') := hide (Le.lent_any x.ka x.e.key.length x.kc x.e.key wr.drew rfl (by omega) HOk.out.key.bare (HOk.out.key.below HB0.out.drew).row)
      have HL2 := hide (fun W (hW : Below w.heap.size w W) => Le.lent_any x.va x.e.val.length x.vc x.e.val W rfl (by omega) HOk.out.val.bare (HOk.out.val.below hW).row)
      have hsx := SX.out _ HB0.out
      obtain ⟨c0, c1, c2⟩ := hsx
      have f1 : (0 : Int) < 1 := by omega
      go_wp2
      refine wp_region_noPanic ?_
      refine wp_region_held_drew (S := (fun W => W.cell? ⟨b, off, none⟩ = some (.slice x.ka x.e.key.length x.kc) ∧ W.cell? ⟨b, off + 1, none⟩ = some (.slice x.va x.e.val.length x.vc) ∧ W.cell? ⟨b, off + 2, none⟩ = some (.bool x.e.del))) (by kernel_rfl) (SX.out _ HB0.out.drew) (fun _hS => ?_)
      refine wtk (i := 0) (oi := zls0) (v := ?v0x1) rfl ⟨by rfl, ?hy0x1⟩ (by assumption) ?_
      case hy0x1 => (intro w s; (try dsimp only at s); first | (go_simp; with_reducible rfl) | go_simp)
      try simp only [Act.put, zps]
      refine wtk (i := 1) (oi := zls1) (v := ?v1x2) rfl ⟨by rfl, ?hy1x2⟩ (by assumption) ?_
      case hy1x2 => (intro w s; (try dsimp only at s); first | (go_simp; with_reducible rfl) | go_simp)
      try simp only [Act.put, zps]
      refine wtk (i := 2) (oi := zls2) (v := ?v2x3) rfl ⟨by rfl, ?hy2x3⟩ (by assumption) ?_
      case hy2x3 => (intro w s; (try dsimp only at s); first | (go_simp; with_reducible rfl) | go_simp)
      try simp only [Act.put, zps]
      refine wtk (i := 3) (oi := zls3) (v := ?v3x4) rfl ⟨by rfl, ?hy3x4⟩ (by assumption) ?_
      case hy3x4 => (intro w s; (try dsimp only at s); first | (go_simp; with_reducible rfl) | go_simp)
      try simp only [Act.put, zps]
      refine wtk (i := 4) (oi := zls4) (v := ?v4x5) rfl ⟨by rfl, ?hy4x5⟩ (by assumption) ?_
      case hy4x5 => (intro w s; (try dsimp only at s); first | (go_simp; with_reducible rfl) | go_simp)
      try simp only [Act.put, zps]
      refine wtk (i := 5) (oi := zls5) (v := ?v5x6) rfl ⟨by rfl, ?hy5x6⟩ (by assumption) ?_
      case hy5x6 => (intro w s; (try dsimp only at s); first | (go_simp; with_reducible rfl) | go_simp)
      try simp only [Act.put, zps]
      refine wtk (i := 6) (oi := zls6) (v := ?v6x7) rfl ⟨by rfl, ?hy6x7⟩ (by assumption) ?_
      case hy6x7 => (intro w s; (try dsimp only at s); first | (go_simp; with_reducible rfl) | go_simp)
      try simp only [Act.put, zps]
      refine wtk (i := 7) (oi := zls7) (v := ?v7x8) rfl ⟨by rfl, ?hy7x8⟩ (by assumption) ?_
      case hy7x8 => (intro w s; (try dsimp only at s); first | (go_simp; with_reducible rfl) | go_simp)
      try simp only [Act.put, zps]
      refine wtk (i := 8) (oi := zls8) (v := ?v8x9) rfl ⟨by rfl, ?hy8x9⟩ (by assumption) ?_
      case hy8x9 => (intro w s; (try dsimp only at s); first | (go_simp; with_reducible rfl) | go_simp)
      try simp only [Act.put, zps]
      refine wtk (i := 9) (oi := zls9) (v := ?v9x10) rfl ⟨by rfl, ?hy9x10⟩ (by assumption) ?_
      case hy9x10 => (intro w s; (try dsimp only at s); first | (go_simp; with_reducible rfl) | go_simp)
      try simp only [Act.put, zps]
      refine wtk (i := 10) (oi := zls10) (v := ?v10x11) rfl ⟨by rfl, ?hy10x11⟩ (by assumption) ?_
      case hy10x11 => (intro w s; (try dsimp only at s); first | (go_simp; with_reducible rfl) | go_simp)
      try simp only [Act.put, zps]
      refine wtk (i := 12) (oi := zls12) (v := ?v12x12) rfl ⟨by rfl, ?hy12x12⟩ (by assumption) ?_
      case hy12x12 => (intro w s; (try dsimp only at s); first | (go_simp; with_reducible rfl) | go_simp)
      try simp only [Act.put, zps]
      refine wtk (i := 13) (oi := zls13) (v := ?v13x13) rfl ⟨by rfl, ?hy13x13⟩ (by assumption) ?_
      case hy13x13 => (intro w s; (try dsimp only at s); first | (go_simp; with_reducible rfl) | go_simp)
      try simp only [Act.put, zps]
      refine wtk (i := 14) (oi := zls14) (v := ?v14x14) rfl ⟨by rfl, ?hy14x14⟩ (by assumption) ?_
      case hy14x14 => (intro w s; (try dsimp only at s); first | (go_simp; with_reducible rfl) | go_simp)
      try simp only [Act.put, zps]
      refine wtk (i := 15) (oi := zls15) (v := ?v15x15) rfl ⟨by rfl, ?hy15x15⟩ (by assumption) ?_
      case hy15x15 => (intro w s; (try dsimp only at s); first | (go_simp; with_reducible rfl) | go_simp)
      try simp only [Act.put, zps]
      refine wtk (i := 16) (oi := zls16) (v := ?v16x16) rfl ⟨by rfl, ?hy16x16⟩ (by assumption) ?_
      case hy16x16 => (intro w s; (try dsimp only at s); first | (go_simp; with_reducible rfl) | go_simp)
      try simp only [Act.put, zps]
      refine wpAnyH_ready (rs := [11]) (by kernel_rfl) (by simp) ?_
      refine AllReadyH.cons (o := zls11) rfl (fun K hK => ?_) (AllReadyH.nil)
      go_simp
      go_at_call 25
      refine HL1.out.mono ?_
      rintro e w1 ⟨rfl, ho1, hb1⟩
      have HO1 := hide ho1
      have HB1 := hide hb1
      have HBw1 := hide (HB0.out.drew.trans (hb1.mono HB0.out.size))
      clear ho1 hb1
      go_simp
      refine hK.out _ _ ?_ (fun _hS => ?_)
      · exact (SX.out _ HBw1.out)
      clear hK K
      try simp only [Act.put, zps]
      refine wpAnyH_ready (rs := [17]) (by kernel_rfl) (by simp) ?_
      refine AllReadyH.cons (o := zls17) rfl (fun K hK => ?_) (AllReadyH.nil)
      go_simp
      go_at_call 25
      refine (HL2.out _ HBw1.out).mono ?_
      rintro e w2 ⟨rfl, ho2, hb2⟩
      have HO2 := hide ho2
      have HB2 := hide hb2
      have HBw2 := hide (HBw1.out.trans (hb2.mono HBw1.out.size))
      obtain ⟨w3, run3, hown3, hg3⟩ := run_append_fits (P := Try.prog) (w2.alloc (.cells #[.slice (some ⟨wr.heap.size, 0, none⟩) x.e.key.length (x.e.key.length + 2), .slice (some ⟨w1.heap.size, 0, none⟩) x.e.val.length (x.e.val.length + 2), .bool x.e.del] 65)) w.heap.size 23 23 65 i0 3 Try.underlying23 hi hz1 w.heap.size 0 2 [] (row_keep HRow0.out ((Below.refl _ _).drew.trans (HB1.out.trans (hb2.mono HB1.out.size) |>.trans ((below_alloc w2 _).mono (Nat.le_trans HB1.out.size hb2.size))))) ⟨w2.heap.size, 0, none⟩ 1 1 (En.cells ⟨x.e, some ⟨wr.heap.size, 0, none⟩, x.e.key.length + 2, some ⟨w1.heap.size, 0, none⟩, x.e.val.length + 2⟩) (by rfl) (box_news w2 ⟨x.e, some ⟨wr.heap.size, 0, none⟩, x.e.key.length + 2, some ⟨w1.heap.size, 0, none⟩, x.e.val.length + 2⟩) (cells_one _) (by omega)
      have RUN3 := hide run3
      have HOwn3 := hide hown3
      have HG3 := hide hg3
      have hbA := HBw2.out.trans ((below_alloc w2 (.cells #[.slice (some ⟨wr.heap.size, 0, none⟩) x.e.key.length (x.e.key.length + 2), .slice (some ⟨w1.heap.size, 0, none⟩) x.e.val.length (x.e.val.length + 2), .bool x.e.del] 65)).mono HBw2.out.size)
      have HBw3 := hide (hbA.grown hg3 hbA.size fun k hk => by cases hk; exact Nat.le_refl _)
      clear ho2 hb2 run3 hown3 hg3 hbA
      go_simp
      refine hK.out _ _ ?_ (fun _hS => ?_)
      · exact (SX.out _ HBw2.out)
      clear hK K
      try simp only [Act.put, zps]
      refine wtk (i := 18) (oi := zls18) (v := ?v18x17) rfl ⟨by rfl, ?hy18x17⟩ (by assumption) ?_
      case hy18x17 => (intro w s; (try dsimp only at s); first | (go_simp; with_reducible rfl) | go_simp)
      try simp only [Act.put, zps]
      refine wpAnyH_ready (rs := [19]) (by kernel_rfl) (by simp) ?_
      refine AllReadyH.cons (o := zls19) rfl (fun K hK => ?_) (AllReadyH.nil)
      go_simp
      refine hK.out _ _ ?_ (fun _hS => ?_)
      · exact (SX.out _ (HBw2.out.trans ((below_alloc w2 (.cells #[.slice (some ⟨wr.heap.size, 0, none⟩) x.e.key.length (x.e.key.length + 2), .slice (some ⟨w1.heap.size, 0, none⟩) x.e.val.length (x.e.val.length + 2), .bool x.e.del] 65)).mono HBw2.out.size)))
      clear hK K
      try simp only [Act.put, zps]
      refine wpAnyH_ready (rs := [20]) (by kernel_rfl) (by simp) ?_
      refine AllReadyH.cons (o := zls20) rfl (fun K hK => ?_) (AllReadyH.nil)
      refine step_of rfl ?_
      refine wp_run_append (v := .slice (some ⟨w.heap.size, 0, none⟩) 0 2) (u := .slice (some ⟨w2.heap.size, 0, none⟩) 1 1) (.tmp 16) (.tmp 35) 23 rfl rfl rfl RUN3.out ?_
      go_simp
      refine hK.out _ _ ?_ (fun _hS => ?_)
      · exact (SX.out _ HBw3.out)
      clear hK K
      try simp only [Act.put, zps]
      refine wtk (i := 21) (oi := zls21) (v := ?v21x18) rfl ⟨by rfl, ?hy21x18⟩ (by assumption) ?_
      case hy21x18 => (intro w s; (try dsimp only at s); first | (go_simp; with_reducible rfl) | go_simp)
      try simp only [Act.put, zps]
      refine wpAnyH_done (by kernel_rfl) ?_ _
      refine NoPanic.normal ?_
      have HLt : Hid (Lt1 w w3 x.e) := hide (lt1_end HB0.out HS0.out ((Below.refl _ _).drew.trans HB1.out) HB2.out HO1.out HO2.out HOwn3.out HG3.out HBw3.out)
      go_wp2
      go_roundw
      case rel => exact .inr ⟨rfl, rfl, HLt.out⟩
      case measure => simp [intOf]
    · obtain ⟨gk, gv, l1, l2, l3, l4, l5, l6, l7⟩ := hl1
      have hbA := below_alloc wr (.cells #[.int .u8 91] 5)
      obtain ⟨w7, run7, hown7, hg7⟩ := run_append_fits (P := Try.prog) ((wr.alloc (.cells #[.int .u8 91] 5)).alloc (.cells #[.slice (some ⟨wr.heap.size, 0, none⟩) 1 1, .slice none 0 0, .bool false] 65)) w.heap.size 23 23 65 i0 3 Try.underlying23 hi hz1 w.heap.size 1 2 _ (row_keep l3 (hbA.trans ((below_alloc _ _).mono hbA.size))) ⟨(wr.alloc (.cells #[.int .u8 91] 5)).heap.size, 0, none⟩ 1 1 (En.cells ⟨⟨[91], [], false⟩, some ⟨wr.heap.size, 0, none⟩, 1, none, 0⟩) (by rfl) (box_news _ ⟨⟨[91], [], false⟩, some ⟨wr.heap.size, 0, none⟩, 1, none, 0⟩) (cells_one _) (by omega)
      have HLt := hide (lt_end l1 l2 l4 l5 l6 l7 hown7 hg7)
      rw [show (wr.alloc (.cells #[.int .u8 91] 5)).heap.size = wr.heap.size + 1 by simp] at run7
      have RUN7 := hide run7
      clear l1 l2 l3 l4 l5 l6 l7 hbA run7 hown7 hg7
      go_wp2_with (at_builtin; refine wpList_run_append (by rfl) (.tmp 37) (.tmp 40) 23 (by rfl) (by rfl) (by rfl) RUN7.out ?_)
      go_ret
      exact ⟨w.heap.size, gk, gv, wr.heap.size, rfl, HLt.out.1, HLt.out.2⟩
end Go.Proofs.Ytpoanlbjhhlagaa
