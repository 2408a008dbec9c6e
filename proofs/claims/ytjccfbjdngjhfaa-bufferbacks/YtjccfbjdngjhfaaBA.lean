/- What undoes a Put or a Delete, called. -/
import Derived.Test.YtjccfbjdngjhfaaIH
import Derived.Test.YtjccfbjdngjhfaaLA
namespace Go.Proofs.Ytjccfbjdngjhfaa
open Go.RowKit Go.Maps
set_option linter.unusedVariables false

/-- the call of what undoes. -/
def UndoOut (w : World) (p B : Nat) (sv uv : Value) (xs' : List En) (us : List Value) (r : Ending) (w' : World) : Prop := r = .returned (.tuple #[]) ∧ ∃ sv', Bf w' p B sv' uv xs' us ∧ sv'.ownBlock = sv.ownBlock ∧ Mv (Bo p sv uv) w w'
theorem und_end {w W : World} {p B : Nat} {sv uv : Value} {xs : List En} {us : List Value} {r : Ending} (h : UndoOut w p B sv uv xs us r W) : UndoOut w p B sv uv xs us r W.drew := by
  obtain ⟨h1, sv2, h2, h3, h4⟩ := h
  exact ⟨h1, sv2, h2.below (Below.refl _ _).drew, h3, h4.drew⟩
set_option maxHeartbeats 3200000 in
set_option maxRecDepth 1000000 in
theorem undo1_any {w : World} {p B : Nat} {sv uv : Value} {xs : List En} {us : List Value} (h : Bf w p B sv uv xs us) (ob bb ab i : Nat) (old : En) (h1 : w.heap[ob]? = some (.cells #[.slice old.ka old.e.key.length old.kc, .slice old.va old.e.val.length old.vc, .bool old.e.del] 41 (0, 0))) (h2 : w.heap[bb]? = some (.cells #[.pointer (some ⟨p, 0, none⟩)] 24 (0, 0))) (h3 : w.heap[ab]? = some (.cells #[.int .i64 (i : Int)] 3 (0, 0))) (hi : i < xs.length) (hob : sv.ownBlock ≠ some ob) (ho : old.Own B w) :
    Calls Try.prog 36 #[.pointer (some ⟨ob, 0, none⟩), .pointer (some ⟨bb, 0, none⟩), .pointer (some ⟨ab, 0, none⟩)] w (UndoOut w p B sv uv (xs.set i old) us) := by
  obtain ⟨a, c, rfl, hc1, hc2, hc3, hc4⟩ := row_shape h.said
  obtain ⟨g, rfl⟩ : ∃ g, a = some ⟨g, 0, none⟩ := hc4.elim (fun e => by have := (hc3 e).1; omega) id
  obtain ⟨hbf, hgo⟩ := said_over (y := old) h hi ho
  obtain ⟨s0, s1, f0⟩ := cells_two h.blk
  obtain ⟨o0, o1, o2, -⟩ := cells_three h1
  have b0 := cell_of_one h2
  have a0 := cell_of_one h3
  obtain ⟨cur, hcur⟩ := (row_at h.said (k := g) rfl).2.2
  have hx : xs[i]? = some xs[i] := List.getElem?_eq_getElem hi
  have hrc : ∀ j u, (xs[i]).cells[j]? = some u → w.cell? ⟨g, i * 3 + j, none⟩ = some u := fun j u hu => by
    have := h.said.cells (g := g) rfl (i * 3 + j) u (rowc_at hx hu)
    rw [Addr.add_lit] at this
    simpa using this
  have r0 := hrc 0 _ rfl
  have r1 := hrc 1 _ rfl
  have r2 := hrc 2 _ rfl
  rw [Nat.add_zero] at r0
  have rf : ∀ j, w.frozen? ⟨g, j, none⟩ = false := fun j => by simp [World.frozen?, hcur]
  have rf0 := rf (i * 3)
  have rf1 := rf (i * 3 + 1)
  have rf2 := rf (i * 3 + 2)
  have hgb : g ≠ bb := fun e => by rw [e] at hcur; rw [h2] at hcur; have := obj_type hcur; simp at this
  have hga : g ≠ ab := fun e => by rw [e] at hcur; rw [h3] at hcur; have := obj_type hcur; simp at this
  have hgo1 : g ≠ ob := fun e => hob (by rw [← e]; rfl)
  have hgp : g ≠ p := fun e => h.sne (by rw [← e]; rfl)
  have HFin : Hid (UndoOut w p B (.slice (some ⟨g, 0, none⟩) xs.length c) uv (xs.set i old) us (.returned (.tuple #[])) (over3 w g i old)) := hide ⟨rfl, _, hbf, rfl, hgo.mv⟩
  have hd0 : (0 : Int) ≤ (i : Int) := by omega
  have hd1 : (i : Int) < (xs.length : Int) := by omega
  have HK4 : Hid (∀ W : World, (∀ k, k ≠ g → W.heap[k]? = w.heap[k]?) → W.cell? ⟨bb, 0, none⟩ = some (.pointer (some ⟨p, 0, none⟩)) ∧ W.cell? ⟨p, 0, none⟩ = some (.slice (some ⟨g, 0, none⟩) xs.length c) ∧ W.cell? ⟨ab, 0, none⟩ = some (.int .i64 (i : Int)) ∧ W.cell? ⟨ob, 0, none⟩ = some (.slice old.ka old.e.key.length old.kc) ∧ W.cell? ⟨ob, 1, none⟩ = some (.slice old.va old.e.val.length old.vc) ∧ W.cell? ⟨ob, 2, none⟩ = some (.bool old.e.del)) := hide (fun W hW => by
    have st : ∀ k j, k ≠ g → W.cell? ⟨k, j, none⟩ = w.cell? ⟨k, j, none⟩ := fun k j hk => by simp only [World.cell?]; rw [hW k hk]
    exact ⟨(st _ _ (fun e => hgb e.symm)).trans b0, (st _ _ (fun e => hgp e.symm)).trans s0, (st _ _ (fun e => hga e.symm)).trans a0, (st _ _ (fun e => hgo1 e.symm)).trans o0, (st _ _ (fun e => hgo1 e.symm)).trans o1, (st _ _ (fun e => hgo1 e.symm)).trans o2⟩)
  clear h h1 h2 h3 hbf hgo hcur hx hrc rf ho hc1 hc2 hc3 hc4 hob
  go_enter Try.func36, Try.ntmps36
  go_wp2
  refine wp_region_noPanic ?_
  refine wp_region_held_drew (S := (fun W => W.cell? ⟨bb, 0, none⟩ = some (.pointer (some ⟨p, 0, none⟩)) ∧ W.cell? ⟨p, 0, none⟩ = some (.slice (some ⟨g, 0, none⟩) xs.length c) ∧ W.cell? ⟨ab, 0, none⟩ = some (.int .i64 (i : Int)) ∧ W.cell? ⟨ob, 0, none⟩ = some (.slice old.ka old.e.key.length old.kc) ∧ W.cell? ⟨ob, 1, none⟩ = some (.slice old.va old.e.val.length old.vc) ∧ W.cell? ⟨ob, 2, none⟩ = some (.bool old.e.del))) (by kernel_rfl) ⟨b0, s0, a0, o0, o1, o2⟩ (fun _hS => ?_)
  refine wpAnyH_take (i := 0) (oi := { dst := some 3, op := Op.load 24 (Operand.tmp 1), type := 24, pos := "mark.go:30", after := #[], guard := none }) (v := ?v0x101) rfl (by kernel_rfl) (by kernel_rfl) (by kernel_rfl) (fun _ _ _ h => h) (Or.inl ⟨by rfl, ?hy0x101⟩) (by assumption) ?rest0x101
  case hy0x101 => (intro w hSw; (try dsimp only at hSw); (first | (go_simp; with_reducible rfl) | go_simp))
  try simp only [Act.put, List.setIfInBounds_toArray, List.set_cons_zero, List.set_cons_succ]
  refine wpAnyH_take (i := 1) (oi := { dst := some 4, op := Op.nilCheck (Operand.tmp 3), type := 0, pos := "mark.go:30", after := #[{ on := 0, ground := Ground.data }], guard := none }) (v := ?v1x102) rfl (by kernel_rfl) (by kernel_rfl) (by kernel_rfl) (fun _ _ _ h => h) (Or.inl ⟨by rfl, ?hy1x102⟩) (by assumption) ?rest1x102
  case hy1x102 => (intro w hSw; (try dsimp only at hSw); (first | (go_simp; with_reducible rfl) | go_simp))
  try simp only [Act.put, List.setIfInBounds_toArray, List.set_cons_zero, List.set_cons_succ]
  refine wpAnyH_take (i := 2) (oi := { dst := some 5, op := Op.fieldAddr 57 (Operand.tmp 4) 0, type := 0, pos := "mark.go:30", after := #[{ on := 1, ground := Ground.data }], guard := none }) (v := ?v2x103) rfl (by kernel_rfl) (by kernel_rfl) (by kernel_rfl) (fun _ _ _ h => h) (Or.inl ⟨by rfl, ?hy2x103⟩) (by assumption) ?rest2x103
  case hy2x103 => (intro w hSw; (try dsimp only at hSw); (first | (go_simp; with_reducible rfl) | go_simp))
  try simp only [Act.put, List.setIfInBounds_toArray, List.set_cons_zero, List.set_cons_succ]
  refine wpAnyH_take (i := 3) (oi := { dst := some 6, op := Op.load 28 (Operand.tmp 5), type := 28, pos := "mark.go:30", after := #[{ on := 2, ground := Ground.data }], guard := none }) (v := ?v3x104) rfl (by kernel_rfl) (by kernel_rfl) (by kernel_rfl) (fun _ _ _ h => h) (Or.inl ⟨by rfl, ?hy3x104⟩) (by assumption) ?rest3x104
  case hy3x104 => (intro w hSw; (try dsimp only at hSw); (first | (go_simp; with_reducible rfl) | go_simp))
  try simp only [Act.put, List.setIfInBounds_toArray, List.set_cons_zero, List.set_cons_succ]
  refine wpAnyH_take (i := 4) (oi := { dst := some 7, op := Op.load 3 (Operand.tmp 2), type := 3, pos := "mark.go:30", after := #[], guard := none }) (v := ?v4x105) rfl (by kernel_rfl) (by kernel_rfl) (by kernel_rfl) (fun _ _ _ h => h) (Or.inl ⟨by rfl, ?hy4x105⟩) (by assumption) ?rest4x105
  case hy4x105 => (intro w hSw; (try dsimp only at hSw); (first | (go_simp; with_reducible rfl) | go_simp))
  try simp only [Act.put, List.setIfInBounds_toArray, List.set_cons_zero, List.set_cons_succ]
  refine wpAnyH_take (i := 5) (oi := { dst := some 8, op := Op.load 41 (Operand.tmp 0), type := 41, pos := "mark.go:30", after := #[], guard := none }) (v := ?v5x106) rfl (by kernel_rfl) (by kernel_rfl) (by kernel_rfl) (fun _ _ _ h => h) (Or.inl ⟨by rfl, ?hy5x106⟩) (by assumption) ?rest5x106
  case hy5x106 => (intro w hSw; (try dsimp only at hSw); (first | (go_simp; with_reducible rfl) | go_simp))
  try simp only [Act.put, List.setIfInBounds_toArray, List.set_cons_zero, List.set_cons_succ]
  refine wpAnyH_take (i := 6) (oi := { dst := some 9, op := Op.indexAddr 28 (Operand.tmp 6) (Operand.tmp 7), type := 0, pos := "mark.go:30", after := #[{ on := 3, ground := Ground.data }, { on := 4, ground := Ground.data }, { on := 0, ground := Ground.phase }, { on := 1, ground := Ground.phase }, { on := 2, ground := Ground.phase }, { on := 3, ground := Ground.phase }, { on := 4, ground := Ground.phase }, { on := 5, ground := Ground.phase }], guard := none }) (v := ?v6x107) rfl (by kernel_rfl) (by kernel_rfl) (by kernel_rfl) (fun _ _ _ h => h) (Or.inl ⟨by rfl, ?hy6x107⟩) (by assumption) ?rest6x107
  case hy6x107 => (intro w hSw; (try dsimp only at hSw); (first | (go_simp; with_reducible rfl) | go_simp))
  try simp only [Act.put, List.setIfInBounds_toArray, List.set_cons_zero, List.set_cons_succ]
  refine wpAnyH_ready (rs := [7]) (by kernel_rfl) (by simp) ?_
  refine AllReadyH.cons (o := { dst := none, op := Op.store 41 (Operand.tmp 9) (Operand.tmp 8), type := 0, pos := "mark.go:30", after := #[{ on := 6, ground := Ground.data }, { on := 5, ground := Ground.data }, { on := 0, ground := Ground.phase }, { on := 1, ground := Ground.phase }, { on := 2, ground := Ground.phase }, { on := 3, ground := Ground.phase }, { on := 4, ground := Ground.phase }, { on := 5, ground := Ground.phase }], guard := none }) rfl (fun K hK => ?_) (AllReadyH.nil)
  go_simp
  refine hK.out _ _ ?_ (fun _hS => ?_)
  · exact (HK4.out _ fun k hk => over3_other (w := w) (i := i) (y := old) hk)
  clear hK K
  try simp only [Act.put, List.setIfInBounds_toArray, List.set_cons_zero, List.set_cons_succ]
  refine wpAnyH_done (by kernel_rfl) ?_ _
  refine NoPanic.normal ?_
  go_wp2
  go_end0
  exact und_end HFin.out
set_option maxHeartbeats 3200000 in
set_option maxRecDepth 1000000 in
theorem undo2_any {w : World} {p B : Nat} {sv uv : Value} {xs : List En} {us : List Value} (h : Bf w p B sv uv xs us) (bb ab i : Nat) (h2 : w.heap[bb]? = some (.cells #[.pointer (some ⟨p, 0, none⟩)] 24 (0, 0))) (h3 : w.heap[ab]? = some (.cells #[.int .i64 (i : Int)] 3 (0, 0))) (hi : i < xs.length) (hn : xs.length ≤ 1000000) :
    Calls Try.prog 38 #[.pointer (some ⟨bb, 0, none⟩), .pointer (some ⟨ab, 0, none⟩)] w (UndoOut w p B sv uv (xs.eraseIdx i) us) := by
  have hd := delete_any sv xs.length i B xs w.drew hi hn rfl h.said
  have HE : Hid (∀ v' w2, w2.ownsRow B 41 3 v' (xs.length - 1) (rowc (xs.eraseIdx i)) → w.drew.grownBy w2 sv.ownBlock → v'.ownBlock = sv.ownBlock → UndoOut w p B sv uv (xs.eraseIdx i) us (.returned (.tuple #[])) (w2.setCell ⟨p, 0, none⟩ v')) := hide (fun v' w2 ho hg hl => by
    have hle : (xs.eraseIdx i).length = xs.length - 1 := List.length_eraseIdx_of_lt hi
    obtain ⟨hb, hgo⟩ := said_turned (xs' := xs.eraseIdx i) h (Below.refl w.heap.size w).drew hg (by rw [hle]; exact ho) (.inl hl) (fun x hx => h.each x (List.mem_of_mem_eraseIdx hx))
    exact ⟨rfl, v', hb, hl, hgo.mv⟩)
  have HS : Hid (∀ w2, w.drew.grownBy w2 sv.ownBlock → w2.heap[bb]? = some (.cells #[.pointer (some ⟨p, 0, none⟩)] 24 (0, 0)) ∧ w2.heap[ab]? = some (.cells #[.int .i64 (i : Int)] 3 (0, 0)) ∧ w2.heap[p]? = some (.cells #[sv, uv] 57 (0, 0))) := hide (fun w2 hg => by
    have hsb : sv.ownBlock ≠ some bb := fun e => by obtain ⟨_, _, cc, hc⟩ := row_at h.said e; rw [h2] at hc; have := obj_type hc; simp at this
    have hsa : sv.ownBlock ≠ some ab := fun e => by obtain ⟨_, _, cc, hc⟩ := row_at h.said e; rw [h3] at hc; have := obj_type hc; simp at this
    exact ⟨(hg.block _ (lt_of_block h2) (fun e => hsb e.symm)).trans h2, (hg.block _ (lt_of_block h3) (fun e => hsa e.symm)).trans h3, (hg.block _ (lt_of_block h.blk) (fun e => h.sne e.symm)).trans h.blk⟩)
  obtain ⟨a, c, rfl, -⟩ := row_shape h.said
  obtain ⟨s0, s1, f0⟩ := cells_two h.blk
  have b0 := cell_of_one h2
  have a0 := cell_of_one h3
  have hbp : bb ≠ p := fun e => by rw [e] at h2; rw [h.blk] at h2; have := obj_type h2; simp at this
  have hap : ab ≠ p := fun e => by rw [e] at h3; rw [h.blk] at h3; have := obj_type h3; simp at this
  have HD := hide hd
  have hw1 : IntKind.i64.wrap ((i : Int) + 1) = (i : Int) + 1 := by rw [IntKind.wrap_i64] <;> omega
  clear h h2 h3 hd
  go_enter Try.func38, Try.ntmps38
  go_wp2
  refine wp_region_noPanic ?_
  refine wp_region_held_drew (S := (fun W => W.cell? ⟨bb, 0, none⟩ = some (.pointer (some ⟨p, 0, none⟩)) ∧ W.cell? ⟨ab, 0, none⟩ = some (.int .i64 (i : Int)))) (by kernel_rfl) ⟨b0, a0⟩ (fun _hS => ?_)
  refine wpAnyH_take (i := 0) (oi := { dst := some 2, op := Op.load 24 (Operand.tmp 0), type := 24, pos := "mark.go:34", after := #[], guard := none }) (v := ?v0x501) rfl (by kernel_rfl) (by kernel_rfl) (by kernel_rfl) (fun _ _ _ h => h) (Or.inl ⟨by rfl, ?hy0x501⟩) (by assumption) ?rest0x501
  case hy0x501 => (intro w hSw; (try dsimp only at hSw); (first | (go_simp; with_reducible rfl) | go_simp))
  try simp only [Act.put, List.setIfInBounds_toArray, List.set_cons_zero, List.set_cons_succ]
  refine wpAnyH_take (i := 1) (oi := { dst := some 3, op := Op.load 24 (Operand.tmp 0), type := 24, pos := "mark.go:34", after := #[], guard := none }) (v := ?v1x502) rfl (by kernel_rfl) (by kernel_rfl) (by kernel_rfl) (fun _ _ _ h => h) (Or.inl ⟨by rfl, ?hy1x502⟩) (by assumption) ?rest1x502
  case hy1x502 => (intro w hSw; (try dsimp only at hSw); (first | (go_simp; with_reducible rfl) | go_simp))
  try simp only [Act.put, List.setIfInBounds_toArray, List.set_cons_zero, List.set_cons_succ]
  refine wpAnyH_take (i := 2) (oi := { dst := some 4, op := Op.nilCheck (Operand.tmp 3), type := 0, pos := "mark.go:34", after := #[{ on := 1, ground := Ground.data }], guard := none }) (v := ?v2x503) rfl (by kernel_rfl) (by kernel_rfl) (by kernel_rfl) (fun _ _ _ h => h) (Or.inl ⟨by rfl, ?hy2x503⟩) (by assumption) ?rest2x503
  case hy2x503 => (intro w hSw; (try dsimp only at hSw); (first | (go_simp; with_reducible rfl) | go_simp))
  try simp only [Act.put, List.setIfInBounds_toArray, List.set_cons_zero, List.set_cons_succ]
  refine wpAnyH_take (i := 3) (oi := { dst := some 5, op := Op.fieldAddr 57 (Operand.tmp 4) 0, type := 0, pos := "mark.go:34", after := #[{ on := 2, ground := Ground.data }], guard := none }) (v := ?v3x504) rfl (by kernel_rfl) (by kernel_rfl) (by kernel_rfl) (fun _ _ _ h => h) (Or.inl ⟨by rfl, ?hy3x504⟩) (by assumption) ?rest3x504
  case hy3x504 => (intro w hSw; (try dsimp only at hSw); (first | (go_simp; with_reducible rfl) | go_simp))
  try simp only [Act.put, List.setIfInBounds_toArray, List.set_cons_zero, List.set_cons_succ]
  refine wpAnyH_take (i := 5) (oi := { dst := some 7, op := Op.load 3 (Operand.tmp 1), type := 3, pos := "mark.go:34", after := #[], guard := none }) (v := ?v5x505) rfl (by kernel_rfl) (by kernel_rfl) (by kernel_rfl) (fun _ _ _ h => h) (Or.inl ⟨by rfl, ?hy5x505⟩) (by assumption) ?rest5x505
  case hy5x505 => (intro w hSw; (try dsimp only at hSw); (first | (go_simp; with_reducible rfl) | go_simp))
  try simp only [Act.put, List.setIfInBounds_toArray, List.set_cons_zero, List.set_cons_succ]
  refine wpAnyH_take (i := 6) (oi := { dst := some 8, op := Op.load 3 (Operand.tmp 1), type := 3, pos := "mark.go:34", after := #[], guard := none }) (v := ?v6x506) rfl (by kernel_rfl) (by kernel_rfl) (by kernel_rfl) (fun _ _ _ h => h) (Or.inl ⟨by rfl, ?hy6x506⟩) (by assumption) ?rest6x506
  case hy6x506 => (intro w hSw; (try dsimp only at hSw); (first | (go_simp; with_reducible rfl) | go_simp))
  try simp only [Act.put, List.setIfInBounds_toArray, List.set_cons_zero, List.set_cons_succ]
  refine wpAnyH_take (i := 7) (oi := { dst := some 9, op := Op.binOp BinOp.add 3 (Operand.tmp 8) (Operand.const (Value.int IntKind.i64 1)) 3, type := 3, pos := "mark.go:34", after := #[{ on := 6, ground := Ground.data }], guard := none }) (v := ?v7x507) rfl (by kernel_rfl) (by kernel_rfl) (by kernel_rfl) (fun _ _ _ h => h) (Or.inl ⟨by rfl, ?hy7x507⟩) (by assumption) ?rest7x507
  case hy7x507 => (intro w hSw; (try dsimp only at hSw); (first | (go_simp; with_reducible rfl) | go_simp))
  try simp only [Act.put, List.setIfInBounds_toArray, List.set_cons_zero, List.set_cons_succ]
  refine wpAnyH_ready (rs := [4]) (by kernel_rfl) (by simp) ?_
  refine AllReadyH.cons (o := { dst := some 6, op := Op.load 28 (Operand.tmp 5), type := 28, pos := "mark.go:34", after := #[{ on := 3, ground := Ground.data }], guard := none }) rfl (fun K hK => ?_) (AllReadyH.nil)
  go_simp
  refine hK.out _ _ ?_ (fun _hS => ?_)
  · exact ⟨b0, a0⟩
  clear hK K
  try simp only [Act.put, List.setIfInBounds_toArray, List.set_cons_zero, List.set_cons_succ]
  refine wpAnyH_ready (rs := [8]) (by kernel_rfl) (by simp) ?_
  refine AllReadyH.cons (o := { dst := some 10, op := Op.call { callee := Callee.value (Operand.func 39), args := #[Operand.tmp 6, Operand.tmp 7, Operand.tmp 9], argTypes := #[28, 3, 3] }, type := 28, pos := "mark.go:34", after := #[{ on := 4, ground := Ground.data }, { on := 5, ground := Ground.data }, { on := 7, ground := Ground.data }], guard := none }) rfl (fun K hK => ?_) (AllReadyH.nil)
  go_simp
  go_at_call 39
  refine HD.out.mono ?_
  rintro e w2 ⟨v', rfl, hown2, hg2, hl2⟩
  obtain ⟨a2, c2, rfl, -⟩ := row_shape hown2
  obtain ⟨k1, k2, k3⟩ := HS.out w2 hg2
  have b2 := cell_of_one k1
  have a2' := cell_of_one k2
  obtain ⟨s2, s3, f2⟩ := cells_two k3
  have HFin := hide (HE.out _ _ hown2 hg2 hl2)
  clear hown2 hg2 hl2 k1 k2 k3
  go_simp
  refine hK.out _ _ ?_ (fun _hS => ?_)
  · exact ⟨b2, a2'⟩
  clear hK K
  try simp only [Act.put, List.setIfInBounds_toArray, List.set_cons_zero, List.set_cons_succ]
  refine wpAnyH_take (i := 9) (oi := { dst := some 11, op := Op.nilCheck (Operand.tmp 2), type := 0, pos := "mark.go:34", after := #[{ on := 0, ground := Ground.data }, { on := 0, ground := Ground.phase }, { on := 1, ground := Ground.phase }, { on := 2, ground := Ground.phase }, { on := 3, ground := Ground.phase }, { on := 4, ground := Ground.phase }, { on := 5, ground := Ground.phase }, { on := 6, ground := Ground.phase }, { on := 7, ground := Ground.phase }, { on := 8, ground := Ground.phase }], guard := none }) (v := ?v9x508) rfl (by kernel_rfl) (by kernel_rfl) (by kernel_rfl) (fun _ _ _ h => h) (Or.inl ⟨by rfl, ?hy9x508⟩) (by assumption) ?rest9x508
  case hy9x508 => (intro w hSw; (try dsimp only at hSw); (first | (go_simp; with_reducible rfl) | go_simp))
  try simp only [Act.put, List.setIfInBounds_toArray, List.set_cons_zero, List.set_cons_succ]
  refine wpAnyH_take (i := 10) (oi := { dst := some 12, op := Op.fieldAddr 57 (Operand.tmp 11) 0, type := 0, pos := "mark.go:34", after := #[{ on := 9, ground := Ground.data }, { on := 0, ground := Ground.phase }, { on := 1, ground := Ground.phase }, { on := 2, ground := Ground.phase }, { on := 3, ground := Ground.phase }, { on := 4, ground := Ground.phase }, { on := 5, ground := Ground.phase }, { on := 6, ground := Ground.phase }, { on := 7, ground := Ground.phase }, { on := 8, ground := Ground.phase }], guard := none }) (v := ?v10x509) rfl (by kernel_rfl) (by kernel_rfl) (by kernel_rfl) (fun _ _ _ h => h) (Or.inl ⟨by rfl, ?hy10x509⟩) (by assumption) ?rest10x509
  case hy10x509 => (intro w hSw; (try dsimp only at hSw); (first | (go_simp; with_reducible rfl) | go_simp))
  try simp only [Act.put, List.setIfInBounds_toArray, List.set_cons_zero, List.set_cons_succ]
  refine wpAnyH_ready (rs := [11]) (by kernel_rfl) (by simp) ?_
  refine AllReadyH.cons (o := { dst := none, op := Op.store 28 (Operand.tmp 12) (Operand.tmp 10), type := 0, pos := "mark.go:34", after := #[{ on := 10, ground := Ground.data }, { on := 8, ground := Ground.data }, { on := 8, ground := Ground.chain }, { on := 0, ground := Ground.phase }, { on := 1, ground := Ground.phase }, { on := 2, ground := Ground.phase }, { on := 3, ground := Ground.phase }, { on := 4, ground := Ground.phase }, { on := 5, ground := Ground.phase }, { on := 6, ground := Ground.phase }, { on := 7, ground := Ground.phase }, { on := 8, ground := Ground.phase }], guard := none }) rfl (fun K hK => ?_) (AllReadyH.nil)
  go_simp
  refine hK.out _ _ ?_ (fun _hS => ?_)
  · exact ⟨(cell_set_ne hbp).trans b2, (cell_set_ne hap).trans a2'⟩
  clear hK K
  try simp only [Act.put, List.setIfInBounds_toArray, List.set_cons_zero, List.set_cons_succ]
  refine wpAnyH_done (by kernel_rfl) ?_ _
  refine NoPanic.normal ?_
  go_wp2
  go_end0
  exact HFin.out
end Go.Proofs.Ytjccfbjdngjhfaa
