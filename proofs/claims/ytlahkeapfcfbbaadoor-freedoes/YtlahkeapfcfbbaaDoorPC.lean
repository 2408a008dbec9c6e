/- A pile: one page is laid behind the others. -/
import Derived.Test.YtlahkeapfcfbbaaDoorPB
namespace Go.Proofs.YtlahkeapfcfbbaaDoor
open Go.RowKit Go.Maps
set_option linter.unusedVariables false
variable {w w' : World} {p : Nat} {b : Bool} {v : Value} {xs : List Pg}
/-- a page as a value. -/
def pgv (x : Pg) : Value := .agg #[.int .u32 x.1, .int .u64 x.2]
theorem infoPg : (Tryd.prog.info? 87).map (fun i => (i.zero, i.size, i.bytes)) = some (some (.agg #[.int .u32 0, .int .u64 0]), 2, 16) := by kernel_rfl
theorem pgc_one (x : Pg) : ∀ u ∈ pgc x, u.oneCell' = true := by
  intro u hu
  simp only [pgc, List.mem_cons, List.not_mem_nil, or_false] at hu
  rcases hu with rfl | rfl <;> rfl
theorem ta_pg (v : Value) (w : World) : (Instr.typeAssert (.iface 87 v) 20 87 false).run Tryd.prog w = .ok v w := by
  simp [Instr.typeAssert, run_underlying Tryd.underlying87]
theorem grown_setCell (w : World) (p j : Nat) (v : Value) : w.grownBy (w.setCell ⟨p, j, none⟩ v) (some p) :=
  ⟨rfl, rfl, rfl, by simp [World.setCell], fun k _ hne => Below.heap_setCell _ _ _ _ (fun e => hne (by rw [e]))⟩
set_option maxHeartbeats 1600000 in
set_option maxRecDepth 1000000 in
theorem push_any (h : Pl w p b v xs) (x : Pg) (hf : xs.length + 1 ≤ 1000000) :
    Calls Tryd.prog 92 #[.pointer (some ⟨p, 0, none⟩), .iface 87 (pgv x)] w fun e w' => e = .returned (.tuple #[]) ∧ ∃ v', Pl w' p b v' (xs ++ [x]) ∧ (∀ k, v'.ownBlock = some k → v.ownBlock = some k ∨ w.heap.size ≤ k) ∧ Mv (fun k => k = p ∨ v.ownBlock = some k) w w' := by
  obtain ⟨a, c, rfl, hc1, hc2, hg⟩ := h.shape
  have c0 := h.c0
  have f0 := h.fz 0
  have HP := hide h
  clear hg h
  obtain ⟨x1, x2⟩ := x
  obtain ⟨i0, hi, hz0, hz1, hz2⟩ := info_parts infoPg
  have HC : Hid (∀ j u, (pgc (x1, x2))[j]? = some u → (w.alloc (.cells #[.int .u32 x1, .int .u64 x2] 87)).cell? ((⟨w.heap.size, 0, none⟩ : Addr).add j) = some u) := fun j u hu => by
    rw [Addr.add_lit, cell_of_row _ _ (0 + j) _ 87 (0, 0) (heap_alloc_new w _)]
    simpa [pgc] using hu
  have hp : p < w.heap.size := HP.out.lt
  have HB2 : Hid (∀ w2, (w.alloc (.cells #[.int .u32 x1, .int .u64 x2] 87)).drew.grownBy w2 (Value.slice a xs.length c).ownBlock → w2.heap[p]? = some (.cells #[.slice a xs.length c, fnv b p] 97 (0, 0))) := fun w2 hgr => by
    rw [hgr.block p (Nat.lt_of_lt_of_le hp (by simp)) (fun e => HP.out.pv e.symm)]
    exact (Below.heap_alloc w _ p hp).trans HP.out.blk
  have HFin : Hid (∀ v' w2, w2.ownsRow 0 87 2 v' (xs.length + 1) (pflat xs ++ pgc (x1, x2)) → (w.alloc (.cells #[.int .u32 x1, .int .u64 x2] 87)).drew.grownBy w2 (Value.slice a xs.length c).ownBlock → (v'.ownBlock = (Value.slice a xs.length c).ownBlock ∨ v'.ownBlock = some (w.alloc (.cells #[.int .u32 x1, .int .u64 x2] 87)).drew.heap.size) →
      Pl (w2.setCell ⟨p, 0, none⟩ v') p b v' (xs ++ [(x1, x2)]) ∧ (∀ k, v'.ownBlock = some k → (Value.slice a xs.length c).ownBlock = some k ∨ w.heap.size ≤ k) ∧ Mv (fun k => k = p ∨ (Value.slice a xs.length c).ownBlock = some k) w (w2.setCell ⟨p, 0, none⟩ v')) := by
    intro v' w2 ho hg hloc
    have hsz : (w.alloc (.cells #[.int .u32 x1, .int .u64 x2] 87)).drew.heap.size = w.heap.size + 1 := by simp
    have hnp : v'.ownBlock ≠ some p := by
      rcases hloc with e | e <;> rw [e]
      · exact HP.out.pv
      · intro e'; cases e'; omega
    refine ⟨⟨?_, ?_, hnp⟩, ?_, ?_⟩
    · rw [heap_setCell_same w2 p 0 _ 97 _ (HB2.out w2 hg)]; rfl
    · rw [pflat_snoc, List.length_append, List.length_singleton]
      exact ho.kept (row := some p) (grown_setCell w2 p 0 v') (.inr hnp)
    · intro k hk
      rcases hloc with e | e
      · left; rw [← e]; exact hk
      · right; rw [e] at hk; cases hk; omega
    · exact (((Mv.refl _ w).alloc _).drew.grown hg (fun k hk => .inl (.inr hk))).setB (.inl rfl) 0 v'
  have hta := ta_pg
  unfold pgv
  go_enter Tryd.func92, Tryd.ntmps92
  go_wp2
  refine wp_region_any (by kernel_rfl) ?_
  change wpAny _ _ _ _ _ _ _ (World.drew _)
  refine wpAny_take (i := 0) (oi := { dst := some 4, op := Op.move (Operand.tmp 0), type := 73, pos := "pile.go:59", after := #[], guard := none }) (v := ?v0x1) rfl (by kernel_rfl) (by kernel_rfl) (by kernel_rfl) (fun _ _ _ h => h) (Or.inl ⟨by rfl, ?hy0x1⟩) ?rest0x1
  case hy0x1 => (intro w; (first | (go_simp; with_reducible rfl) | go_simp))
  try simp only [Act.put, List.setIfInBounds_toArray, List.set_cons_zero, List.set_cons_succ]
  refine wpAny_take (i := 1) (oi := { dst := some 5, op := Op.move (Operand.tmp 0), type := 73, pos := "pile.go:59", after := #[], guard := none }) (v := ?v1x2) rfl (by kernel_rfl) (by kernel_rfl) (by kernel_rfl) (fun _ _ _ h => h) (Or.inl ⟨by rfl, ?hy1x2⟩) ?rest1x2
  case hy1x2 => (intro w; (first | (go_simp; with_reducible rfl) | go_simp))
  try simp only [Act.put, List.setIfInBounds_toArray, List.set_cons_zero, List.set_cons_succ]
  refine wpAny_take (i := 2) (oi := { dst := some 6, op := Op.nilCheck (Operand.tmp 5), type := 0, pos := "pile.go:59", after := #[{ on := 1, ground := Ground.data }], guard := none }) (v := ?v2x3) rfl (by kernel_rfl) (by kernel_rfl) (by kernel_rfl) (fun _ _ _ h => h) (Or.inl ⟨by rfl, ?hy2x3⟩) ?rest2x3
  case hy2x3 => (intro w; (first | (go_simp; with_reducible rfl) | go_simp))
  try simp only [Act.put, List.setIfInBounds_toArray, List.set_cons_zero, List.set_cons_succ]
  refine wpAny_take (i := 3) (oi := { dst := some 7, op := Op.fieldAddr 97 (Operand.tmp 6) 0, type := 0, pos := "pile.go:59", after := #[{ on := 2, ground := Ground.data }], guard := none }) (v := ?v3x4) rfl (by kernel_rfl) (by kernel_rfl) (by kernel_rfl) (fun _ _ _ h => h) (Or.inl ⟨by rfl, ?hy3x4⟩) ?rest3x4
  case hy3x4 => (intro w; (first | (go_simp; with_reducible rfl) | go_simp))
  try simp only [Act.put, List.setIfInBounds_toArray, List.set_cons_zero, List.set_cons_succ]
  refine wpAny_take (i := 5) (oi := { dst := some 9, op := Op.move (Operand.tmp 1), type := 20, pos := "pile.go:59", after := #[], guard := none }) (v := ?v5x5) rfl (by kernel_rfl) (by kernel_rfl) (by kernel_rfl) (fun _ _ _ h => h) (Or.inl ⟨by rfl, ?hy5x5⟩) ?rest5x5
  case hy5x5 => (intro w; (first | (go_simp; with_reducible rfl) | go_simp))
  try simp only [Act.put, List.setIfInBounds_toArray, List.set_cons_zero, List.set_cons_succ]
  refine wpAny_take (i := 6) (oi := { dst := some 10, op := Op.typeAssert (Operand.tmp 9) 20 87 false, type := 87, pos := "pile.go:59", after := #[{ on := 5, ground := Ground.data }], guard := none }) (v := ?v6x6) rfl (by kernel_rfl) (by kernel_rfl) (by kernel_rfl) (fun _ _ _ h => h) (Or.inl ⟨by rfl, ?hy6x6⟩) ?rest6x6
  case hy6x6 => (intro w; (first | (go_simp; with_reducible rfl) | go_simp))
  try simp only [Act.put, List.setIfInBounds_toArray, List.set_cons_zero, List.set_cons_succ]
  refine wpAny_ready (rs := [4, 7]) (by kernel_rfl) (by simp) ?_
  refine AllReady.cons (o := { dst := some 8, op := Op.load 93 (Operand.tmp 7), type := 93, pos := "pile.go:59", after := #[{ on := 3, ground := Ground.data }], guard := none }) rfl (fun K hK => ?_) (AllReady.cons (o := { dst := some 11, op := Op.buildSlice 93 1 #[(0, Operand.tmp 10)], type := 93, pos := "pile.go:59", after := #[{ on := 6, ground := Ground.data }], guard := none }) rfl (fun K hK => ?_) AllReady.nil)
  · go_simp
    refine hK _ _ ?_
    clear hK K
    try simp only [Act.put, List.setIfInBounds_toArray, List.set_cons_zero, List.set_cons_succ]
    refine wpAny_ready (rs := [7]) (by kernel_rfl) (by simp) ?_
    refine AllReady.cons (o := { dst := some 11, op := Op.buildSlice 93 1 #[(0, Operand.tmp 10)], type := 93, pos := "pile.go:59", after := #[{ on := 6, ground := Ground.data }], guard := none }) rfl (fun K hK => ?_) AllReady.nil
    go_simp
    refine hK _ _ ?_
    clear hK K
    try simp only [Act.put, List.setIfInBounds_toArray, List.set_cons_zero, List.set_cons_succ]
    refine wpAny_ready (rs := [8]) (by kernel_rfl) (by simp) ?_
    refine AllReady.cons (o := { dst := some 12, op := Op.call { callee := Callee.builtin Builtin.append, args := #[Operand.tmp 8, Operand.tmp 11], argTypes := #[93, 93] }, type := 93, pos := "pile.go:59", after := #[{ on := 4, ground := Ground.data }, { on := 7, ground := Ground.data }], guard := none }) rfl (fun K hK => ?_) AllReady.nil
    refine step_of rfl ?_
    refine wp_append_at (.tmp 8) (.tmp 11) 93 87 rfl 0 i0 _ 2 16 Tryd.underlying93 hi hz0 hz1 hz2 (by simp [Value.cells]) (by omega) (.slice a xs.length c) xs.length (pflat xs) rfl (HP.out.row.alloc _) ⟨w.heap.size, 0, none⟩ 1 1 (pgc (x1, x2)) rfl rfl HC.out (pgc_one _) (by unfold maxLen; omega) (by omega) (Nat.zero_le _) ?_
    intro v' w2 hown hgr hloc
    obtain ⟨a2, c2, rfl⟩ := row_shape hown
    have b2 := HB2.out w2 hgr
    have k2 : w2.cell? ⟨p, 0, none⟩ = some (.slice a xs.length c) := by simp [World.cell?, b2]
    have z2 : w2.frozen? ⟨p, 0, none⟩ = false := by simp [World.frozen?, b2]
    have HF := hide (HFin.out _ _ hown hgr hloc)
    clear b2 hown hgr hloc
    refine hK _ _ ?_
    clear hK K
    try simp only [Act.put, List.setIfInBounds_toArray, List.set_cons_zero, List.set_cons_succ]
    refine wpAny_take (i := 9) (oi := { dst := some 13, op := Op.nilCheck (Operand.tmp 4), type := 0, pos := "pile.go:59", after := #[{ on := 0, ground := Ground.data }, { on := 0, ground := Ground.phase }, { on := 1, ground := Ground.phase }, { on := 2, ground := Ground.phase }, { on := 3, ground := Ground.phase }, { on := 4, ground := Ground.phase }, { on := 5, ground := Ground.phase }, { on := 6, ground := Ground.phase }, { on := 7, ground := Ground.phase }, { on := 8, ground := Ground.phase }], guard := none }) (v := ?v9x7) rfl (by kernel_rfl) (by kernel_rfl) (by kernel_rfl) (fun _ _ _ h => h) (Or.inl ⟨by rfl, ?hy9x7⟩) ?rest9x7
    case hy9x7 => (intro w; (first | (go_simp; with_reducible rfl) | go_simp))
    try simp only [Act.put, List.setIfInBounds_toArray, List.set_cons_zero, List.set_cons_succ]
    refine wpAny_take (i := 10) (oi := { dst := some 14, op := Op.fieldAddr 97 (Operand.tmp 13) 0, type := 0, pos := "pile.go:59", after := #[{ on := 9, ground := Ground.data }, { on := 0, ground := Ground.phase }, { on := 1, ground := Ground.phase }, { on := 2, ground := Ground.phase }, { on := 3, ground := Ground.phase }, { on := 4, ground := Ground.phase }, { on := 5, ground := Ground.phase }, { on := 6, ground := Ground.phase }, { on := 7, ground := Ground.phase }, { on := 8, ground := Ground.phase }], guard := none }) (v := ?v10x8) rfl (by kernel_rfl) (by kernel_rfl) (by kernel_rfl) (fun _ _ _ h => h) (Or.inl ⟨by rfl, ?hy10x8⟩) ?rest10x8
    case hy10x8 => (intro w; (first | (go_simp; with_reducible rfl) | go_simp))
    try simp only [Act.put, List.setIfInBounds_toArray, List.set_cons_zero, List.set_cons_succ]
    refine wpAny_ready (rs := [11]) (by kernel_rfl) (by simp) ?_
    refine AllReady.cons (o := { dst := none, op := Op.store 93 (Operand.tmp 14) (Operand.tmp 12), type := 0, pos := "pile.go:59", after := #[{ on := 10, ground := Ground.data }, { on := 8, ground := Ground.data }, { on := 8, ground := Ground.chain }, { on := 0, ground := Ground.phase }, { on := 1, ground := Ground.phase }, { on := 2, ground := Ground.phase }, { on := 3, ground := Ground.phase }, { on := 4, ground := Ground.phase }, { on := 5, ground := Ground.phase }, { on := 6, ground := Ground.phase }, { on := 7, ground := Ground.phase }, { on := 8, ground := Ground.phase }], guard := none }) rfl (fun K hK => ?_) AllReady.nil
    go_simp
    refine hK _ _ ?_
    clear hK K
    try simp only [Act.put, List.setIfInBounds_toArray, List.set_cons_zero, List.set_cons_succ]
    refine wpAny_done (by kernel_rfl) ?_ _
    go_wp2
    go_end0
    exact ⟨rfl, _, HF.out⟩
  · go_simp
    refine hK _ _ ?_
    clear hK K
    try simp only [Act.put, List.setIfInBounds_toArray, List.set_cons_zero, List.set_cons_succ]
    refine wpAny_ready (rs := [4]) (by kernel_rfl) (by simp) ?_
    refine AllReady.cons (o := { dst := some 8, op := Op.load 93 (Operand.tmp 7), type := 93, pos := "pile.go:59", after := #[{ on := 3, ground := Ground.data }], guard := none }) rfl (fun K hK => ?_) AllReady.nil
    go_simp
    refine hK _ _ ?_
    clear hK K
    try simp only [Act.put, List.setIfInBounds_toArray, List.set_cons_zero, List.set_cons_succ]
    refine wpAny_ready (rs := [8]) (by kernel_rfl) (by simp) ?_
    refine AllReady.cons (o := { dst := some 12, op := Op.call { callee := Callee.builtin Builtin.append, args := #[Operand.tmp 8, Operand.tmp 11], argTypes := #[93, 93] }, type := 93, pos := "pile.go:59", after := #[{ on := 4, ground := Ground.data }, { on := 7, ground := Ground.data }], guard := none }) rfl (fun K hK => ?_) AllReady.nil
    refine step_of rfl ?_
    refine wp_append_at (.tmp 8) (.tmp 11) 93 87 rfl 0 i0 _ 2 16 Tryd.underlying93 hi hz0 hz1 hz2 (by simp [Value.cells]) (by omega) (.slice a xs.length c) xs.length (pflat xs) rfl (HP.out.row.alloc _) ⟨w.heap.size, 0, none⟩ 1 1 (pgc (x1, x2)) rfl rfl HC.out (pgc_one _) (by unfold maxLen; omega) (by omega) (Nat.zero_le _) ?_
    intro v' w2 hown hgr hloc
    obtain ⟨a2, c2, rfl⟩ := row_shape hown
    have b2 := HB2.out w2 hgr
    have k2 : w2.cell? ⟨p, 0, none⟩ = some (.slice a xs.length c) := by simp [World.cell?, b2]
    have z2 : w2.frozen? ⟨p, 0, none⟩ = false := by simp [World.frozen?, b2]
    have HF := hide (HFin.out _ _ hown hgr hloc)
    clear b2 hown hgr hloc
    refine hK _ _ ?_
    clear hK K
    try simp only [Act.put, List.setIfInBounds_toArray, List.set_cons_zero, List.set_cons_succ]
    refine wpAny_take (i := 9) (oi := { dst := some 13, op := Op.nilCheck (Operand.tmp 4), type := 0, pos := "pile.go:59", after := #[{ on := 0, ground := Ground.data }, { on := 0, ground := Ground.phase }, { on := 1, ground := Ground.phase }, { on := 2, ground := Ground.phase }, { on := 3, ground := Ground.phase }, { on := 4, ground := Ground.phase }, { on := 5, ground := Ground.phase }, { on := 6, ground := Ground.phase }, { on := 7, ground := Ground.phase }, { on := 8, ground := Ground.phase }], guard := none }) (v := ?v9x9) rfl (by kernel_rfl) (by kernel_rfl) (by kernel_rfl) (fun _ _ _ h => h) (Or.inl ⟨by rfl, ?hy9x9⟩) ?rest9x9
    case hy9x9 => (intro w; (first | (go_simp; with_reducible rfl) | go_simp))
    try simp only [Act.put, List.setIfInBounds_toArray, List.set_cons_zero, List.set_cons_succ]
    refine wpAny_take (i := 10) (oi := { dst := some 14, op := Op.fieldAddr 97 (Operand.tmp 13) 0, type := 0, pos := "pile.go:59", after := #[{ on := 9, ground := Ground.data }, { on := 0, ground := Ground.phase }, { on := 1, ground := Ground.phase }, { on := 2, ground := Ground.phase }, { on := 3, ground := Ground.phase }, { on := 4, ground := Ground.phase }, { on := 5, ground := Ground.phase }, { on := 6, ground := Ground.phase }, { on := 7, ground := Ground.phase }, { on := 8, ground := Ground.phase }], guard := none }) (v := ?v10x10) rfl (by kernel_rfl) (by kernel_rfl) (by kernel_rfl) (fun _ _ _ h => h) (Or.inl ⟨by rfl, ?hy10x10⟩) ?rest10x10
    case hy10x10 => (intro w; (first | (go_simp; with_reducible rfl) | go_simp))
    try simp only [Act.put, List.setIfInBounds_toArray, List.set_cons_zero, List.set_cons_succ]
    refine wpAny_ready (rs := [11]) (by kernel_rfl) (by simp) ?_
    refine AllReady.cons (o := { dst := none, op := Op.store 93 (Operand.tmp 14) (Operand.tmp 12), type := 0, pos := "pile.go:59", after := #[{ on := 10, ground := Ground.data }, { on := 8, ground := Ground.data }, { on := 8, ground := Ground.chain }, { on := 0, ground := Ground.phase }, { on := 1, ground := Ground.phase }, { on := 2, ground := Ground.phase }, { on := 3, ground := Ground.phase }, { on := 4, ground := Ground.phase }, { on := 5, ground := Ground.phase }, { on := 6, ground := Ground.phase }, { on := 7, ground := Ground.phase }, { on := 8, ground := Ground.phase }], guard := none }) rfl (fun K hK => ?_) AllReady.nil
    go_simp
    refine hK _ _ ?_
    clear hK K
    try simp only [Act.put, List.setIfInBounds_toArray, List.set_cons_zero, List.set_cons_succ]
    refine wpAny_done (by kernel_rfl) ?_ _
    go_wp2
    go_end0
    exact ⟨rfl, _, HF.out⟩
end Go.Proofs.YtlahkeapfcfbbaaDoor
