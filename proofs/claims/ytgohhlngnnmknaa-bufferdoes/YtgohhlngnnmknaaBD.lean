/- What undoes a Put or a Delete, called. -/
import Derived.Test.YtgohhlngnnmknaaE
import Derived.Test.YtgohhlngnnmknaaIH
import Derived.Test.YtgohhlngnnmknaaLC
import Derived.Shelf.Abstract
import Derived.Shelf.RegionOpen
import Derived.OwnWalkIn
import Derived.TacticsInMore
import Derived.LoopNIn
import Derived.LoopIn
import Derived.Sort.BigQuietIn
namespace Go.Proofs.Ytgohhlngnnmknaa
open Go.RowKit Go.Maps
set_option linter.unusedVariables false

/-- the call of what undoes. -/
def UndoOut (w : World) (p B : Nat) (sv uv : Value) (xs' : List En) (us : List Value) (r : Ending) (w' : World) : Prop := r = .returned (.tuple #[]) ∧ ∃ sv', Bf w' p B sv' uv xs' us ∧ sv'.ownBlock = sv.ownBlock ∧ Mv (Bo p sv uv) w w'
theorem und_end {w W : World} {p B : Nat} {sv uv : Value} {xs : List En} {us : List Value} {r : Ending} (h : UndoOut w p B sv uv xs us r W) : UndoOut w p B sv uv xs us r W.drew := by
  obtain ⟨h1, sv2, h2, h3, h4⟩ := h
  exact ⟨h1, sv2, h2.below (Below.refl _ _).drew, h3, h4.drew⟩
set_option maxHeartbeats 3200000 in
set_option maxRecDepth 1000000 in
theorem undo1_any {w : World} {p B : Nat} {sv uv : Value} {xs : List En} {us : List Value} (h : Bf w p B sv uv xs us) (ob bb ab i : Nat) (old : En) (h1 : w.heap[ob]? = some (.cells #[.slice old.ka old.e.key.length old.kc, .slice old.va old.e.val.length old.vc, .bool old.e.del] 85 (0, 0))) (h2 : w.heap[bb]? = some (.cells #[.pointer (some ⟨p, 0, none⟩)] 25 (0, 0))) (h3 : w.heap[ab]? = some (.cells #[.int .i64 (i : Int)] 3 (0, 0))) (hi : i < xs.length) (hob : sv.ownBlock ≠ some ob) (ho : old.Own B w) :
    Calls Try.prog 83 #[.pointer (some ⟨ob, 0, none⟩), .pointer (some ⟨bb, 0, none⟩), .pointer (some ⟨ab, 0, none⟩)] w (UndoOut w p B sv uv (xs.set i old) us) := by
  obtain ⟨a, c, rfl, hc1, hc2, hc3, hc4⟩ := row_shape h.said
  obtain ⟨g, rfl⟩ : ∃ g, a = some ⟨g, 0, none⟩ := hc4.elim (fun e => by have := (hc3 e).1; omega) id
  obtain ⟨hbf, hgo⟩ := said_over (y := old) h hi ho
  obtain ⟨s0, s1, f0⟩ := cells_two h.blk
  obtain ⟨o0, o1, o2, -⟩ := cells_three h1
  have b0 := cell_of_one h2
  have a0 := cell_of_one h3
  obtain ⟨cur, hcur⟩ := (row_at h.said (k := g) rfl).2.2
  have hx : xs[i]? = some xs[i] := List.getElem?_eq_getElem hi
  have hrc : ∀ j u, (xs[i]).cells[j]? = some u → w.cell? ⟨g, i * 3 + j, none⟩ = some u := fun j u hu => by
    have := h.said.cells (g := g) rfl (i * 3 + j) u (rowc_at hx hu)
    rw [Addr.add_lit] at this
    simpa using this
  have r0 := hrc 0 _ rfl
  have r1 := hrc 1 _ rfl
  have r2 := hrc 2 _ rfl
  rw [Nat.add_zero] at r0
  have rf : ∀ j, w.frozen? ⟨g, j, none⟩ = false := fun j => by simp [World.frozen?, hcur]
  have rf0 := rf (i * 3)
  have rf1 := rf (i * 3 + 1)
  have rf2 := rf (i * 3 + 2)
  have hgb : g ≠ bb := fun e => by rw [e] at hcur; rw [h2] at hcur; have := obj_type hcur; simp at this
  have hga : g ≠ ab := fun e => by rw [e] at hcur; rw [h3] at hcur; have := obj_type hcur; simp at this
  have hgo1 : g ≠ ob := fun e => hob (by rw [← e]; rfl)
  have hgp : g ≠ p := fun e => h.sne (by rw [← e]; rfl)
  have HFin : Hid (UndoOut w p B (.slice (some ⟨g, 0, none⟩) xs.length c) uv (xs.set i old) us (.returned (.tuple #[])) (over3 w g i old)) := hide ⟨rfl, _, hbf, rfl, hgo.mv⟩
  have hd0 : (0 : Int) ≤ (i : Int) := by omega
  have hd1 : (i : Int) < (xs.length : Int) := by omega
  have HK4 : Hid (∀ W : World, (∀ k, k ≠ g → W.heap[k]? = w.heap[k]?) → W.cell? ⟨bb, 0, none⟩ = some (.pointer (some ⟨p, 0, none⟩)) ∧ W.cell? ⟨p, 0, none⟩ = some (.slice (some ⟨g, 0, none⟩) xs.length c) ∧ W.cell? ⟨ab, 0, none⟩ = some (.int .i64 (i : Int)) ∧ W.cell? ⟨ob, 0, none⟩ = some (.slice old.ka old.e.key.length old.kc) ∧ W.cell? ⟨ob, 1, none⟩ = some (.slice old.va old.e.val.length old.vc) ∧ W.cell? ⟨ob, 2, none⟩ = some (.bool old.e.del)) := hide (fun W hW => by
    have st : ∀ k j, k ≠ g → W.cell? ⟨k, j, none⟩ = w.cell? ⟨k, j, none⟩ := fun k j hk => by simp only [World.cell?]; rw [hW k hk]
    exact ⟨(st _ _ (fun e => hgb e.symm)).trans b0, (st _ _ (fun e => hgp e.symm)).trans s0, (st _ _ (fun e => hga e.symm)).trans a0, (st _ _ (fun e => hgo1 e.symm)).trans o0, (st _ _ (fun e => hgo1 e.symm)).trans o1, (st _ _ (fun e => hgo1 e.symm)).trans o2⟩)
  clear h h1 h2 h3 hbf hgo hcur hx hrc rf ho hc1 hc2 hc3 hc4 hob
  go_enter Try.func83, Try.ntmps83
  go_wp2
  refine wp_region_noPanic ?_
  refine wp_region_held_drew (S := (fun W => W.cell? ⟨bb, 0, none⟩ = some (.pointer (some ⟨p, 0, none⟩)) ∧ W.cell? ⟨p, 0, none⟩ = some (.slice (some ⟨g, 0, none⟩) xs.length c) ∧ W.cell? ⟨ab, 0, none⟩ = some (.int .i64 (i : Int)) ∧ W.cell? ⟨ob, 0, none⟩ = some (.slice old.ka old.e.key.length old.kc) ∧ W.cell? ⟨ob, 1, none⟩ = some (.slice old.va old.e.val.length old.vc) ∧ W.cell? ⟨ob, 2, none⟩ = some (.bool old.e.del))) (by kernel_rfl) ⟨b0, s0, a0, o0, o1, o2⟩ (fun _hS => ?_)
  refine wpAnyH_take (i := 0) (oi := { dst := some 3, op := Op.load 25 (Operand.tmp 1), type := 25, pos := "mark.go:30", after := #[], guard := none }) (v := ?v0x101) rfl (by kernel_rfl) (by kernel_rfl) (by kernel_rfl) (fun _ _ _ h => h) (Or.inl ⟨by rfl, ?hy0x101⟩) (by assumption) ?rest0x101
  case hy0x101 => (intro w s; (try dsimp only at s); first | (go_simp; with_reducible rfl) | go_simp)
  try simp only [Act.put, zps]
  refine wpAnyH_take (i := 1) (oi := { dst := some 4, op := Op.nilCheck (Operand.tmp 3), type := 0, pos := "mark.go:30", after := #[{ on := 0, ground := Ground.data }], guard := none }) (v := ?v1x102) rfl (by kernel_rfl) (by kernel_rfl) (by kernel_rfl) (fun _ _ _ h => h) (Or.inl ⟨by rfl, ?hy1x102⟩) (by assumption) ?rest1x102
  case hy1x102 => (intro w s; (try dsimp only at s); first | (go_simp; with_reducible rfl) | go_simp)
  try simp only [Act.put, zps]
  refine wpAnyH_take (i := 2) (oi := { dst := some 5, op := Op.fieldAddr 69 (Operand.tmp 4) 0, type := 0, pos := "mark.go:30", after := #[{ on := 1, ground := Ground.data }], guard := none }) (v := ?v2x103) rfl (by kernel_rfl) (by kernel_rfl) (by kernel_rfl) (fun _ _ _ h => h) (Or.inl ⟨by rfl, ?hy2x103⟩) (by assumption) ?rest2x103
  case hy2x103 => (intro w s; (try dsimp only at s); first | (go_simp; with_reducible rfl) | go_simp)
  try simp only [Act.put, zps]
  refine wpAnyH_take (i := 3) (oi := { dst := some 6, op := Op.load 30 (Operand.tmp 5), type := 30, pos := "mark.go:30", after := #[{ on := 2, ground := Ground.data }], guard := none }) (v := ?v3x104) rfl (by kernel_rfl) (by kernel_rfl) (by kernel_rfl) (fun _ _ _ h => h) (Or.inl ⟨by rfl, ?hy3x104⟩) (by assumption) ?rest3x104
  case hy3x104 => (intro w s; (try dsimp only at s); first | (go_simp; with_reducible rfl) | go_simp)
  try simp only [Act.put, zps]
  refine wpAnyH_take (i := 4) (oi := { dst := some 7, op := Op.load 3 (Operand.tmp 2), type := 3, pos := "mark.go:30", after := #[], guard := none }) (v := ?v4x105) rfl (by kernel_rfl) (by kernel_rfl) (by kernel_rfl) (fun _ _ _ h => h) (Or.inl ⟨by rfl, ?hy4x105⟩) (by assumption) ?rest4x105
  case hy4x105 => (intro w s; (try dsimp only at s); first | (go_simp; with_reducible rfl) | go_simp)
  try simp only [Act.put, zps]
  refine wpAnyH_take (i := 5) (oi := { dst := some 8, op := Op.load 85 (Operand.tmp 0), type := 85, pos := "mark.go:30", after := #[], guard := none }) (v := ?v5x106) rfl (by kernel_rfl) (by kernel_rfl) (by kernel_rfl) (fun _ _ _ h => h) (Or.inl ⟨by rfl, ?hy5x106⟩) (by assumption) ?rest5x106
  case hy5x106 => (intro w s; (try dsimp only at s); first | (go_simp; with_reducible rfl) | go_simp)
  try simp only [Act.put, zps]
  refine wpAnyH_take (i := 6) (oi := { dst := some 9, op := Op.indexAddr 30 (Operand.tmp 6) (Operand.tmp 7), type := 0, pos := "mark.go:30", after := #[{ on := 3, ground := Ground.data }, { on := 4, ground := Ground.data }, { on := 0, ground := Ground.phase }, { on := 1, ground := Ground.phase }, { on := 2, ground := Ground.phase }, { on := 3, ground := Ground.phase }, { on := 4, ground := Ground.phase }, { on := 5, ground := Ground.phase }], guard := none }) (v := ?v6x107) rfl (by kernel_rfl) (by kernel_rfl) (by kernel_rfl) (fun _ _ _ h => h) (Or.inl ⟨by rfl, ?hy6x107⟩) (by assumption) ?rest6x107
  case hy6x107 => (intro w s; (try dsimp only at s); first | (go_simp; with_reducible rfl) | go_simp)
  try simp only [Act.put, zps]
  refine wpAnyH_ready (rs := [7]) (by kernel_rfl) (by simp) ?_
  refine AllReadyH.cons (o := { dst := none, op := Op.store 85 (Operand.tmp 9) (Operand.tmp 8), type := 0, pos := "mark.go:30", after := #[{ on := 6, ground := Ground.data }, { on := 5, ground := Ground.data }, { on := 0, ground := Ground.phase }, { on := 1, ground := Ground.phase }, { on := 2, ground := Ground.phase }, { on := 3, ground := Ground.phase }, { on := 4, ground := Ground.phase }, { on := 5, ground := Ground.phase }], guard := none }) rfl (fun K hK => ?_) (AllReadyH.nil)
  go_simp
  refine hK.out _ _ ?_ (fun _hS => ?_)
  · exact (HK4.out _ fun k hk => over3_other (w := w) (i := i) (y := old) hk)
  clear hK K
  try simp only [Act.put, zps]
  refine wpAnyH_done (by kernel_rfl) ?_ _
  refine NoPanic.normal ?_
  go_wp2
  go_end0
  exact und_end HFin.out
set_option maxHeartbeats 3200000 in
set_option maxRecDepth 1000000 in
theorem undo2_any {w : World} {p B : Nat} {sv uv : Value} {xs : List En} {us : List Value} (h : Bf w p B sv uv xs us) (bb ab i : Nat) (h2 : w.heap[bb]? = some (.cells #[.pointer (some ⟨p, 0, none⟩)] 25 (0, 0))) (h3 : w.heap[ab]? = some (.cells #[.int .i64 (i : Int)] 3 (0, 0))) (hi : i < xs.length) (hn : xs.length ≤ 1000000) :
    Calls Try.prog 85 #[.pointer (some ⟨bb, 0, none⟩), .pointer (some ⟨ab, 0, none⟩)] w (UndoOut w p B sv uv (xs.eraseIdx i) us) := by
  have hd := delete_any sv xs.length i B xs w.drew hi hn rfl h.said
  have HE : Hid (∀ v' w2, w2.ownsRow B 85 3 v' (xs.length - 1) (rowc (xs.eraseIdx i)) → w.drew.grownBy w2 sv.ownBlock → v'.ownBlock = sv.ownBlock → UndoOut w p B sv uv (xs.eraseIdx i) us (.returned (.tuple #[])) (w2.setCell ⟨p, 0, none⟩ v')) := hide (fun v' w2 ho hg hl => by
    have hle : (xs.eraseIdx i).length = xs.length - 1 := List.length_eraseIdx_of_lt hi
    obtain ⟨hb, hgo⟩ := said_turned (xs' := xs.eraseIdx i) h (Below.refl w.heap.size w).drew hg (by rw [hle]; exact ho) (.inl hl) (fun x hx => h.each x (List.mem_of_mem_eraseIdx hx))
    exact ⟨rfl, v', hb, hl, hgo.mv⟩)
  have HS : Hid (∀ w2, w.drew.grownBy w2 sv.ownBlock → w2.heap[bb]? = some (.cells #[.pointer (some ⟨p, 0, none⟩)] 25 (0, 0)) ∧ w2.heap[ab]? = some (.cells #[.int .i64 (i : Int)] 3 (0, 0)) ∧ w2.heap[p]? = some (.cells #[sv, uv] 69 (0, 0))) := hide (fun w2 hg => by
    have hsb : sv.ownBlock ≠ some bb := fun e => by obtain ⟨_, _, cc, hc⟩ := row_at h.said e; rw [h2] at hc; have := obj_type hc; simp at this
    have hsa : sv.ownBlock ≠ some ab := fun e => by obtain ⟨_, _, cc, hc⟩ := row_at h.said e; rw [h3] at hc; have := obj_type hc; simp at this
    exact ⟨(hg.block _ (lt_of_block h2) (fun e => hsb e.symm)).trans h2, (hg.block _ (lt_of_block h3) (fun e => hsa e.symm)).trans h3, (hg.block _ (lt_of_block h.blk) (fun e => h.sne e.symm)).trans h.blk⟩)
  obtain ⟨a, c, rfl, -⟩ := row_shape h.said
  obtain ⟨s0, s1, f0⟩ := cells_two h.blk
  have b0 := cell_of_one h2
  have a0 := cell_of_one h3
  have hbp : bb ≠ p := fun e => by rw [e] at h2; rw [h.blk] at h2; have := obj_type h2; simp at this
  have hap : ab ≠ p := fun e => by rw [e] at h3; rw [h.blk] at h3; have := obj_type h3; simp at this
  have HD := hide hd
  have hw1 : IntKind.i64.wrap ((i : Int) + 1) = (i : Int) + 1 := by rw [IntKind.wrap_i64] <;> omega
  clear h h2 h3 hd
  go_enter Try.func85, Try.ntmps85
  go_wp2
  refine wp_region_noPanic ?_
  refine wp_region_held_drew (S := (fun W => W.cell? ⟨bb, 0, none⟩ = some (.pointer (some ⟨p, 0, none⟩)) ∧ W.cell? ⟨ab, 0, none⟩ = some (.int .i64 (i : Int)))) (by kernel_rfl) ⟨b0, a0⟩ (fun _hS => ?_)
  refine wpAnyH_take (i := 0) (oi := { dst := some 2, op := Op.load 25 (Operand.tmp 0), type := 25, pos := "mark.go:34", after := #[], guard := none }) (v := ?v0x501) rfl (by kernel_rfl) (by kernel_rfl) (by kernel_rfl) (fun _ _ _ h => h) (Or.inl ⟨by rfl, ?hy0x501⟩) (by assumption) ?rest0x501
  case hy0x501 => (intro w s; (try dsimp only at s); first | (go_simp; with_reducible rfl) | go_simp)
  try simp only [Act.put, zps]
  refine wpAnyH_take (i := 1) (oi := { dst := some 3, op := Op.load 25 (Operand.tmp 0), type := 25, pos := "mark.go:34", after := #[], guard := none }) (v := ?v1x502) rfl (by kernel_rfl) (by kernel_rfl) (by kernel_rfl) (fun _ _ _ h => h) (Or.inl ⟨by rfl, ?hy1x502⟩) (by assumption) ?rest1x502
  case hy1x502 => (intro w s; (try dsimp only at s); first | (go_simp; with_reducible rfl) | go_simp)
  try simp only [Act.put, zps]
  refine wpAnyH_take (i := 2) (oi := { dst := some 4, op := Op.nilCheck (Operand.tmp 3), type := 0, pos := "mark.go:34", after := #[{ on := 1, ground := Ground.data }], guard := none }) (v := ?v2x503) rfl (by kernel_rfl) (by kernel_rfl) (by kernel_rfl) (fun _ _ _ h => h) (Or.inl ⟨by rfl, ?hy2x503⟩) (by assumption) ?rest2x503
  case hy2x503 => (intro w s; (try dsimp only at s); first | (go_simp; with_reducible rfl) | go_simp)
  try simp only [Act.put, zps]
  refine wpAnyH_take (i := 3) (oi := { dst := some 5, op := Op.fieldAddr 69 (Operand.tmp 4) 0, type := 0, pos := "mark.go:34", after := #[{ on := 2, ground := Ground.data }], guard := none }) (v := ?v3x504) rfl (by kernel_rfl) (by kernel_rfl) (by kernel_rfl) (fun _ _ _ h => h) (Or.inl ⟨by rfl, ?hy3x504⟩) (by assumption) ?rest3x504
  case hy3x504 => (intro w s; (try dsimp only at s); first | (go_simp; with_reducible rfl) | go_simp)
  try simp only [Act.put, zps]
  refine wpAnyH_take (i := 5) (oi := { dst := some 7, op := Op.load 3 (Operand.tmp 1), type := 3, pos := "mark.go:34", after := #[], guard := none }) (v := ?v5x505) rfl (by kernel_rfl) (by kernel_rfl) (by kernel_rfl) (fun _ _ _ h => h) (Or.inl ⟨by rfl, ?hy5x505⟩) (by assumption) ?rest5x505
  case hy5x505 => (intro w s; (try dsimp only at s); first | (go_simp; with_reducible rfl) | go_simp)
  try simp only [Act.put, zps]
  refine wpAnyH_take (i := 6) (oi := { dst := some 8, op := Op.load 3 (Operand.tmp 1), type := 3, pos := "mark.go:34", after := #[], guard := none }) (v := ?v6x506) rfl (by kernel_rfl) (by kernel_rfl) (by kernel_rfl) (fun _ _ _ h => h) (Or.inl ⟨by rfl, ?hy6x506⟩) (by assumption) ?rest6x506
  case hy6x506 => (intro w s; (try dsimp only at s); first | (go_simp; with_reducible rfl) | go_simp)
  try simp only [Act.put, zps]
  refine wpAnyH_take (i := 7) (oi := { dst := some 9, op := Op.binOp BinOp.add 3 (Operand.tmp 8) (Operand.const (Value.int IntKind.i64 1)) 3, type := 3, pos := "mark.go:34", after := #[{ on := 6, ground := Ground.data }], guard := none }) (v := ?v7x507) rfl (by kernel_rfl) (by kernel_rfl) (by kernel_rfl) (fun _ _ _ h => h) (Or.inl ⟨by rfl, ?hy7x507⟩) (by assumption) ?rest7x507
  case hy7x507 => (intro w s; (try dsimp only at s); first | (go_simp; with_reducible rfl) | go_simp)
  try simp only [Act.put, zps]
  refine wpAnyH_ready (rs := [4]) (by kernel_rfl) (by simp) ?_
  refine AllReadyH.cons (o := { dst := some 6, op := Op.load 30 (Operand.tmp 5), type := 30, pos := "mark.go:34", after := #[{ on := 3, ground := Ground.data }], guard := none }) rfl (fun K hK => ?_) (AllReadyH.nil)
  go_simp
  refine hK.out _ _ ?_ (fun _hS => ?_)
  · exact ⟨b0, a0⟩
  clear hK K
  try simp only [Act.put, zps]
  refine wpAnyH_ready (rs := [8]) (by kernel_rfl) (by simp) ?_
  refine AllReadyH.cons (o := { dst := some 10, op := Op.call { callee := Callee.value (Operand.func 86), args := #[Operand.tmp 6, Operand.tmp 7, Operand.tmp 9], argTypes := #[30, 3, 3] }, type := 30, pos := "mark.go:34", after := #[{ on := 4, ground := Ground.data }, { on := 5, ground := Ground.data }, { on := 7, ground := Ground.data }], guard := none }) rfl (fun K hK => ?_) (AllReadyH.nil)
  go_simp
  go_at_call 86
  refine HD.out.mono ?_
  rintro e w2 ⟨v', rfl, hown2, hg2, hl2⟩
  obtain ⟨a2, c2, rfl, -⟩ := row_shape hown2
  obtain ⟨k1, k2, k3⟩ := HS.out w2 hg2
  have b2 := cell_of_one k1
  have a2' := cell_of_one k2
  obtain ⟨s2, s3, f2⟩ := cells_two k3
  have HFin := hide (HE.out _ _ hown2 hg2 hl2)
  clear hown2 hg2 hl2 k1 k2 k3
  go_simp
  refine hK.out _ _ ?_ (fun _hS => ?_)
  · exact ⟨b2, a2'⟩
  clear hK K
  try simp only [Act.put, zps]
  refine wpAnyH_take (i := 9) (oi := { dst := some 11, op := Op.nilCheck (Operand.tmp 2), type := 0, pos := "mark.go:34", after := #[{ on := 0, ground := Ground.data }, { on := 0, ground := Ground.phase }, { on := 1, ground := Ground.phase }, { on := 2, ground := Ground.phase }, { on := 3, ground := Ground.phase }, { on := 4, ground := Ground.phase }, { on := 5, ground := Ground.phase }, { on := 6, ground := Ground.phase }, { on := 7, ground := Ground.phase }, { on := 8, ground := Ground.phase }], guard := none }) (v := ?v9x508) rfl (by kernel_rfl) (by kernel_rfl) (by kernel_rfl) (fun _ _ _ h => h) (Or.inl ⟨by rfl, ?hy9x508⟩) (by assumption) ?rest9x508
  case hy9x508 => (intro w s; (try dsimp only at s); first | (go_simp; with_reducible rfl) | go_simp)
  try simp only [Act.put, zps]
  refine wpAnyH_take (i := 10) (oi := { dst := some 12, op := Op.fieldAddr 69 (Operand.tmp 11) 0, type := 0, pos := "mark.go:34", after := #[{ on := 9, ground := Ground.data }, { on := 0, ground := Ground.phase }, { on := 1, ground := Ground.phase }, { on := 2, ground := Ground.phase }, { on := 3, ground := Ground.phase }, { on := 4, ground := Ground.phase }, { on := 5, ground := Ground.phase }, { on := 6, ground := Ground.phase }, { on := 7, ground := Ground.phase }, { on := 8, ground := Ground.phase }], guard := none }) (v := ?v10x509) rfl (by kernel_rfl) (by kernel_rfl) (by kernel_rfl) (fun _ _ _ h => h) (Or.inl ⟨by rfl, ?hy10x509⟩) (by assumption) ?rest10x509
  case hy10x509 => (intro w s; (try dsimp only at s); first | (go_simp; with_reducible rfl) | go_simp)
  try simp only [Act.put, zps]
  refine wpAnyH_ready (rs := [11]) (by kernel_rfl) (by simp) ?_
  refine AllReadyH.cons (o := { dst := none, op := Op.store 30 (Operand.tmp 12) (Operand.tmp 10), type := 0, pos := "mark.go:34", after := #[{ on := 10, ground := Ground.data }, { on := 8, ground := Ground.data }, { on := 8, ground := Ground.chain }, { on := 0, ground := Ground.phase }, { on := 1, ground := Ground.phase }, { on := 2, ground := Ground.phase }, { on := 3, ground := Ground.phase }, { on := 4, ground := Ground.phase }, { on := 5, ground := Ground.phase }, { on := 6, ground := Ground.phase }, { on := 7, ground := Ground.phase }, { on := 8, ground := Ground.phase }], guard := none }) rfl (fun K hK => ?_) (AllReadyH.nil)
  go_simp
  refine hK.out _ _ ?_ (fun _hS => ?_)
  · exact ⟨(cell_set_ne hbp).trans b2, (cell_set_ne hap).trans a2'⟩
  clear hK K
  try simp only [Act.put, zps]
  refine wpAnyH_done (by kernel_rfl) ?_ _
  refine NoPanic.normal ?_
  go_wp2
  go_end0
  exact HFin.out
end Go.Proofs.Ytgohhlngnnmknaa
/- slices.Backward over what undoes. -/
namespace Go.Proofs.Ytgohhlngnnmknaa
open Go.RowKit Go.Shelf Go.Maps
attribute [local go_sem] Oper.semAt_some
set_option linter.unusedVariables false
set_option maxHeartbeats 800000 in
theorem backward_any (a : Option Addr) (n c : Nat) (w : World) :
    Calls Try.prog 80 #[.slice a n c] w fun e w' => e = .returned (.func (.func 93) #[] #[.pointer (some ⟨w.heap.size, 0, none⟩)]) ∧ w' = w.alloc (.cells #[.slice a n c] 67) := by
  have hmf : ∀ (fn : Fn) (first cap : Array Value) (w : World), (Instr.makeFunc fn first cap).run Try.prog w = .ok (.func fn first cap) w := fun _ _ _ _ => rfl
  go_enter Try.func80, Try.ntmps80
  go_wp2
  go_ret
  exact ⟨rfl, rfl⟩
/-- the box of what is ranged over, and its row. -/
structure Mb (bq : Nat) (a : Option Addr) (r c : Nat) (vs : List Value) (W : World) : Prop where
  box : W.heap[bq]? = some (.cells #[.slice a r c] 67 (0, 0))
  row : vs = [] ∨ ∃ g o, a = some ⟨g, o, none⟩ ∧ ∀ k u, vs[k]? = some u → W.cell? ⟨g, o + k, none⟩ = some u
set_option maxHeartbeats 3200000 in
set_option maxRecDepth 1000000 in
theorem back_goes (bq : Nat) (a : Option Addr) (r c : Nat) (vs : List Value) (hl : vs.length = r) (hr : r ≤ 900000) (hc : r ≤ c) :
    GoesS Try.prog 93 #[.pointer (some ⟨bq, 0, none⟩)] (fun (x : Nat) => #[.int .i64 (x : Int), vs.getD x undef]) (List.range r).reverse (Mb bq a r c vs) := by
  intro l J Jx W hJ hJx hM hY h0
  have HM := hide hM
  have HJ := hide hJ
  have HY := hide hY
  have H0 := hide h0
  have hc0 := (hM [] W h0)
  have q0 := cell_of_one hc0.box
  clear hM hJ hY h0 hJx hc0
  refine (callsIn_wide (n := 9)).1 ?_
  refine callsIn_of_wp Try.func93 rfl trivial ?_ rfl
  simp only [Try.ntmps93, List.size_toArray, List.length_cons, List.length_nil, Nat.reduceAdd, Nat.reduceSub, Array.replicate_succ, Array.replicate_zero, List.push_toArray, List.append_toArray, List.nil_append, List.cons_append]
  gi_wp2
  gi_loopw [3] (fun i wr => ∃ j : Nat, j ≤ r ∧ i = .int .i64 ((j : Int) - 1) ∧ J ((List.range r).reverse.take (r - j)) wr) (fun i _ => (intOf i + 1).toNat)
  case atStart => exact ⟨r, Nat.le_refl _, rfl, by simpa using H0.out⟩
  case round =>
    obtain ⟨j, hj, rfl, hJs⟩ := hrel
    have hc1 := HM.out _ _ hJs
    have q2 := cell_of_one hc1.box
    clear q0
    by_cases hlt : 0 < j
    · obtain ⟨j, rfl⟩ : ∃ k, j = k + 1 := ⟨j - 1, by omega⟩
      have ek : (((j + 1 : Nat) : Int) - 1) = (j : Int) := by omega
      rw [ek]
      have d0 : (0 : Int) ≤ (j : Int) := by omega
      have d1 : (j : Int) < (r : Int) := by omega
      have hu : vs[j]? = some vs[j] := List.getElem?_eq_getElem (by omega)
      have hgd : vs.getD j undef = vs[j] := by rw [List.getD_eq_getElem?_getD, hu]; rfl
      obtain ⟨g, o, rfl, hrow⟩ : ∃ g o, a = some ⟨g, o, none⟩ ∧ ∀ k u, vs[k]? = some u → wr.cell? ⟨g, o + k, none⟩ = some u := by
        rcases hc1.row with h | h
        · rw [h] at hl; simp at hl; omega
        · exact h
      have q3 := hrow j _ hu
      have hrev : (List.range r).reverse = (List.range r).reverse.take (r - (j + 1)) ++ j :: (List.range r).reverse.drop (r - j) := by
        conv => lhs; rw [← List.take_append_drop (r - (j + 1)) (List.range r).reverse]
        congr 1
        have hlt2 : r - (j + 1) < (List.range r).reverse.length := by simp; omega
        rw [List.drop_eq_getElem_cons hlt2]
        congr 1
        · simp only [List.getElem_reverse, List.getElem_range, List.length_range]; omega
        · rw [show r - (j + 1) + 1 = r - j by omega]
      have hstep : (List.range r).reverse.take (r - j) = (List.range r).reverse.take (r - (j + 1)) ++ [j] := by
        have e : r - j = r - (j + 1) + 1 := by omega
        rw [e, List.take_add_one]
        congr 1
        have hlt2 : r - (j + 1) < (List.range r).reverse.length := by simp; omega
        rw [List.getElem?_eq_getElem hlt2]
        simp only [List.getElem_reverse, List.getElem_range, List.length_range, Option.toList]
        congr 1; omega
      obtain ⟨fn, tmps, assign, body, hy, hR⟩ := HY.out _ j _ wr hrev hJs
      rw [hgd] at hy
      have HStep := hide hstep
      clear hrev hstep hrow hu hgd hc1
      gi_wp2
      refine (RoundIn.anyDepth rfl hR).mono ?_
      rintro e W3 (⟨rfl, hJ3⟩ | ⟨rfl, hJx3⟩)
      · clear q2 q3
        gi_wp2
        refine ⟨⟨j, by omega, by rfl, by rw [HStep.out]; exact hJ3⟩, ?_⟩
        simp [intOf]
      · clear q2 q3
        gi_wp2
        refine bodyPost_ret (results_none rfl _ _ _) rfl ?_
        exact ⟨⟨_, rfl⟩, .inr hJx3⟩
    · obtain rfl : j = 0 := by omega
      have d0 : ¬ ((0 : Int) ≤ ((0 : Nat) : Int) - 1) := by omega
      have hfin : (List.range r).reverse.take (r - 0) = (List.range r).reverse := List.take_of_length_le (by simp)
      rw [hfin] at hJs
      gi_wp2
      refine bodyPost_end (results_none rfl _ _ _) rfl ?_
      exact ⟨⟨_, rfl⟩, .inl hJs⟩
end Go.Proofs.Ytgohhlngnnmknaa
/- slices.Delete of all that lies behind a place, of functions. -/
namespace Go.Proofs.Ytgohhlngnnmknaa
open Go.RowKit
set_option linter.unusedVariables false

theorem zero_funcs (k : Nat) : (Builtin.zeroCells Value.nilFunc.cells k).toList = List.replicate k .nilFunc := by
  have e : Value.nilFunc.cells = #[.nilFunc] := rfl
  rw [e, Builtin.zeroCells, Array.toList_map, Array.toList_range]
  apply List.ext_getElem
  · simp
  · intro i h1 h2
    simp [Nat.mod_one]
set_option maxHeartbeats 1600000 in
set_option maxRecDepth 1000000 in
theorem deletef_any (v : Value) (n m B : Nat) (us : List Value) (w : World) (hm : m ≤ n) (hn : n ≤ 1000000) (h : w.ownsRow B 1 1 v n us) :
    Calls Try.prog 81 #[v, .int .i64 (m : Int), .int .i64 (n : Int)] w fun e w' => ∃ v', e = .returned v' ∧ w'.ownsRow B 1 1 v' m (us.take m) ∧ w.grownBy w' v.ownBlock ∧ v'.ownBlock = v.ownBlock := by
  obtain ⟨a, c, rfl, h1, h2, h3, h4⟩ := row_shape h
  have hl : us.length = n := by have := h.1; omega
  have c1 : (0 : Int) ≤ (m : Int) := by omega
  have c2 : (m : Int) ≤ (n : Int) := by omega
  have c5 : (n : Int) ≤ (c : Int) := by omega
  have c6 : (m : Int) ≤ (c : Int) := by omega
  have c7 : (0 : Int) ≤ (n : Int) := by omega
  by_cases hmn : m = n
  · subst hmn
    have HFin : Hid (w.ownsRow B 1 1 (.slice a m c) m (us.take m)) := by
      rw [Hid, List.take_of_length_le (by omega)]; exact h
    clear h h3 h4 hl
    rcases (inferInstance : Decidable (a = none)) with hne | rfl
    · obtain ⟨g, rfl⟩ : ∃ g, a = some g := by cases a <;> simp_all
      go_enter Try.func81, Try.ntmps81
      go_wp2
      go_ret
      exact ⟨_, rfl, HFin.out, ⟨rfl, rfl, rfl, Nat.le_refl _, fun _ _ _ => rfl⟩, rfl⟩
    · go_enter Try.func81, Try.ntmps81
      go_wp2
      go_ret
      exact ⟨_, rfl, HFin.out, ⟨rfl, rfl, rfl, Nat.le_refl _, fun _ _ _ => rfl⟩, rfl⟩
  obtain ⟨g, rfl⟩ : ∃ g, a = some ⟨g, 0, none⟩ := h4.elim (fun e => by have := (h3 e).1; omega) id
  obtain ⟨i0, hi0, hz0, hzs, hzb⟩ := info_parts Try.infoF
  obtain ⟨cur, hgB, hg, hcm, hcs, htk⟩ : ∃ cur : Array Value, B ≤ g ∧ w.heap[g]? = some (.cells cur 1 (0, 0)) ∧ c ≤ maxLen ∧ cur.size = c * 1 ∧ cur.toList.take (n * 1) = us := by
    rcases h.2 with ⟨e, _⟩ | ⟨g', cap, cur, e, hb, hg, hnc, hcm, hcs, htk⟩
    · cases e
    · simp only [Value.slice.injEq, Option.some.injEq, Addr.mk.injEq, and_true, true_and] at e
      obtain ⟨rfl, rfl⟩ := e
      exact ⟨cur, hb, hg, hcm, hcs, htk⟩
  obtain ⟨ZS, hZS⟩ : ∃ ZS : List Value, ZS = List.replicate (n - m) .nilFunc := ⟨_, rfl⟩
  have hZL : ZS.length = n - m := by rw [hZS, List.length_replicate]
  obtain ⟨R3, hR3⟩ : ∃ R3 : Array Value, R3 = (cur.toList.take m ++ ZS ++ cur.toList.drop (m + ZS.length)).toArray := ⟨_, rfl⟩
  have hstz : ∀ W : World, W.heap[g]? = some (.cells cur 1 (0, 0)) → (storeCells ⟨g, m, none⟩ ZS).run Try.prog W = .ok () (W.setRow g R3) := fun W hgW => by
    have stz := run_storeCells_at Try.prog g m 1 ZS 0 cur W hgW (by rw [hcs, hZL]; omega) (by rw [hZS]; intro v hv; rw [List.mem_replicate] at hv; rw [hv.2]; rfl)
    simp only [Nat.add_zero] at stz
    rw [← hR3] at stz
    exact stz
  have hv : ∀ w, (zeroValue 1).run Try.prog w = .ok .nilFunc w := fun w => by simp [zeroValue, typeInfo, hi0, hz0]
  obtain ⟨W3, hW3⟩ : ∃ W3, W3 = w.drew.setRow g R3 := ⟨_, rfl⟩
  obtain ⟨k, hk⟩ : ∃ k, n - m = k + 1 := ⟨n - m - 1, by omega⟩
  have clq : (Builtin.clear_ #[67] 0 #[.slice (some ⟨g, m, none⟩) (n - m) (c - m)]).run Try.prog w.drew = .ok (.tuple #[]) W3 := by
    rw [hW3]
    have hzc := zero_funcs (n - m)
    rw [← hZS] at hzc
    rw [hk] at hzc ⊢
    simp [Builtin.clear_, run_underlying Try.underlying67, hv, hzc, hstz w.drew hg]
  have hown : W3.ownsRow B 1 1 (.slice (some ⟨g, 0, none⟩) m c) m (us.take m) := by
    have hg3 : W3.heap[g]? = some (.cells R3 1 (0, 0)) := by rw [hW3]; exact setRow_heap w.drew g _ _ _ _ hg
    have hA : cur.toList.take m = us.take m := by
      have : cur.toList.take m = (cur.toList.take (n * 1)).take m := by rw [List.take_take, Nat.min_eq_left (by omega)]
      rw [this, htk]
    refine ⟨by rw [List.length_take]; omega, .inr ⟨g, c, R3, rfl, hgB, hg3, by omega, hcm, ?_, ?_⟩⟩
    · rw [hR3, List.size_toArray]
      simp only [List.length_append, List.length_take, List.length_drop, Array.length_toList, hcs, hZL]
      omega
    · rw [hR3, List.append_assoc, Nat.mul_one, List.take_left' (by rw [List.length_take, Array.length_toList, hcs]; omega), hA]
  have hgrow : w.grownBy W3 (some g) := by
    rw [hW3]
    exact ⟨rfl, rfl, rfl, by simp [World.setRow], fun k _ hk => setRow_other _ g k _ (fun e => hk (by rw [e]))⟩
  have HOwn := hide hown
  have HGr := hide hgrow
  have hlt : m < n := by omega
  clear hown hgrow hR3 hW3 hZS hZL hstz hv htk hcs hg hk h h3 h4 hl
  have c3 : ¬ (m : Int) = (n : Int) := by omega
  have e7 : ¬ (c ≤ m) := by omega
  have e8 : ¬ (m = c) := by omega
  have e9 : ¬ (c = m) := by omega
  have c8 : ¬ (n ≤ m) := by omega
  have c9 : ¬ (n = m) := by omega
  by_cases hce : c = n
  · subst hce
    go_enter Try.func81, Try.ntmps81
    go_wp2_with (at_builtin; fail)
    go_region_with (fail)
    go_wp2
    go_ret
    exact ⟨_, rfl, HOwn.out, HGr.out, rfl⟩
  · have f1 : ¬ (n = c) := fun e => hce e.symm
    have f2 : ¬ (c ≤ n) := by omega
    have f4 : n - n = 0 := by omega
    go_enter Try.func81, Try.ntmps81
    go_wp2_with (at_builtin; fail)
    go_region_with (fail)
    go_wp2
    go_ret
    exact ⟨_, rfl, HOwn.out, HGr.out, rfl⟩
end Go.Proofs.Ytgohhlngnnmknaa
/- A buffer on its way back. -/
namespace Go.Proofs.Ytgohhlngnnmknaa
open Go.RowKit Go.Maps
set_option linter.unusedVariables false

/-- a buffer behind j steps back. -/
def Bk (w1 : World) (p B n : Nat) (sv uv : Value) (us : List Value) (hx : List (List En)) (j : Nat) (V : World) : Prop :=
  ∃ sv' l, hx[n - j]? = some l ∧ sv'.ownBlock = sv.ownBlock ∧ Bf V p B sv' uv l us ∧ Mv (Bo p sv uv) w1 V
section
variable {w1 V V' : World} {p B n j : Nat} {sv uv : Value} {xs : List En} {us : List Value} {hh : List (List En)}
theorem bo_same {sv' : Value} (h : sv'.ownBlock = sv.ownBlock) (k : Nat) : Bo p sv' uv k ↔ Bo p sv uv k := by unfold Bo; rw [h]
theorem Bh.own (h : Bh w1 p B sv uv xs us hh) {l : List En} (hl : l ∈ hh ++ [xs]) : ∀ x ∈ l, x.Own B w1 := by
  rcases List.mem_append.1 hl with hl | hl
  · exact h.olds l hl
  · simp at hl; subst hl; exact h.bf.each
theorem Bk.zero (h : Bh w1 p B sv uv xs us hh) (hn : us.length = n) : Bk w1 p B n sv uv us (hh ++ [xs]) 0 w1 :=
  ⟨sv, xs, by rw [Nat.sub_zero, ← hn, ← h.len]; simp, rfl, h.bf, Mv.refl _ _⟩
theorem Bk.move (h : Bh w1 p B sv uv xs us hh) (hb : Bk w1 p B n sv uv us (hh ++ [xs]) j V) (hm : Mv (Lp w1.heap.size) V V') : Bk w1 p B n sv uv us (hh ++ [xs]) j V' := by
  obtain ⟨sv', l, hl, ho, hbf, hmv⟩ := hb
  have st : ∀ k, k < w1.heap.size → V'.heap[k]? = V.heap[k]? := fun k hk => hm.block k (Nat.lt_of_lt_of_le hk hmv.size) (fun e => by unfold Lp at e; omega)
  refine ⟨sv', l, hl, ho, hbf.of_block fun k hk => st k ?_, hm.os.trans hmv.os, hm.tape.trans hmv.tape, hm.output.trans hmv.output, Nat.le_trans hmv.size hm.size, fun k hk hn => (st k hk).trans (hmv.block k hk hn)⟩
  rcases hk with hk | ⟨x, hx, hk⟩
  · exact h.bf.lt ((bo_same ho k).1 hk)
  · exact (h.own (List.mem_of_getElem? hl) x hx).lt hk
def BkOut (w1 : World) (p B n : Nat) (sv uv : Value) (us : List Value) (hx : List (List En)) (j : Nat) (V : World) (e : Ending) (V' : World) : Prop := e = .returned (.tuple #[]) ∧ Bk w1 p B n sv uv us hx (j + 1) V' ∧ Kl w1.heap.size V V'
theorem Bk.call (h : Bh w1 p B sv uv xs us hh) (hn : us.length = n) (hs : ∀ l, (hh ++ [xs])[n - j]? = some l → l.length ≤ 1000000) (hb : Bk w1 p B n sv uv us (hh ++ [xs]) j V) (hj : j < n) (hV : w1.heap.size + 1 < V.heap.size) {u : Value} (hu : us[n - 1 - j]? = some u) :
    (∃ ob bb ab : Nat, u = .func (.func 83) #[] #[.pointer (some ⟨ob, 0, none⟩), .pointer (some ⟨bb, 0, none⟩), .pointer (some ⟨ab, 0, none⟩)] ∧ Calls Try.prog 83 #[.pointer (some ⟨ob, 0, none⟩), .pointer (some ⟨bb, 0, none⟩), .pointer (some ⟨ab, 0, none⟩)] V (BkOut w1 p B n sv uv us (hh ++ [xs]) j V)) ∨
    (∃ bb ab : Nat, u = .func (.func 85) #[] #[.pointer (some ⟨bb, 0, none⟩), .pointer (some ⟨ab, 0, none⟩)] ∧ Calls Try.prog 85 #[.pointer (some ⟨bb, 0, none⟩), .pointer (some ⟨ab, 0, none⟩)] V (BkOut w1 p B n sv uv us (hh ++ [xs]) j V)) := by
  obtain ⟨sv', l, hl, ho, hbf, hmv⟩ := hb
  obtain ⟨a, b, ha, hb, hU⟩ := h.und _ u hu
  rw [show n - 1 - j + 1 = n - j by omega, hl] at hb
  cases hb
  have hU' := hU.move (sv' := sv') h.bf hmv (fun k hk => .inl (by rw [← ho]; exact hk))
  have hown : ∀ l' ∈ hh ++ [xs], ∀ x ∈ l', x.Own B V := fun l' hl' x hx => h.bf.own_move hmv (h.own hl' x hx)
  have fin : ∀ e V', UndoOut V p B sv' uv a us e V' → BkOut w1 p B n sv uv us (hh ++ [xs]) j V e V' := by
    rintro e V' ⟨rfl, sv2, h1, h2, h3⟩
    have h3' : Mv (Bo p sv uv) V V' := h3.mono fun k hk => (bo_same ho k).1 hk
    refine ⟨rfl, ⟨sv2, a, by rw [show n - (j + 1) = n - 1 - j by omega]; exact ha, h2.trans ho, h1, hmv.trans' h3'⟩, Kl.of_mv h3' hV (fun e => ?_) (fun e => ?_)⟩
    · have := h.bf.lt e; omega
    · have := h.bf.lt e; omega
  have hal := List.mem_of_getElem? ha
  rcases hU' with ⟨ob, bb, ab, i, old, rfl, h1, h2, h3, h4, h5, h6⟩ | ⟨bb, ab, i, rfl, h2, h3, h4, h5⟩
  · refine .inl ⟨ob, bb, ab, rfl, ?_⟩
    subst h5
    exact (undo1_any hbf ob bb ab i old h1 h2 h3 h4 h6 (hown _ hal old (List.mem_set h4 old))).mono fin
  · refine .inr ⟨bb, ab, rfl, ?_⟩
    subst h5
    exact (undo2_any hbf bb ab i h2 h3 h4 (hs _ hl)).mono fin
end
end Go.Proofs.Ytgohhlngnnmknaa
