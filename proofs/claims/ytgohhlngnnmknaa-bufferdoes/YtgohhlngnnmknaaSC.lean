/- say: a Put or a Delete of a key of which nothing was said. -/
import Derived.Test.YtgohhlngnnmknaaE
import Derived.Test.YtgohhlngnnmknaaSB
namespace Go.Proofs.Ytgohhlngnnmknaa
open Go.RowKit Go.Maps
set_option linter.unusedVariables false
abbrev zoscx1 : Oper := { dst := some 39, op := Op.load 25 (Operand.tmp 2), type := 25, pos := "mark.go:33", after := #[], guard := none }
abbrev zoscx2 : Oper := { dst := some 40, op := Op.load 25 (Operand.tmp 2), type := 25, pos := "mark.go:33", after := #[], guard := none }
abbrev zoscx3 : Oper := { dst := some 41, op := Op.nilCheck (Operand.tmp 40), type := 0, pos := "mark.go:33", after := #[{ on := 1, ground := Ground.data }], guard := none }
abbrev zoscx4 : Oper := { dst := some 42, op := Op.fieldAddr 69 (Operand.tmp 41) 0, type := 0, pos := "mark.go:33", after := #[{ on := 2, ground := Ground.data }], guard := none }
abbrev zoscx5 : Oper := { dst := some 44, op := Op.load 3 (Operand.tmp 4), type := 3, pos := "mark.go:33", after := #[], guard := none }
abbrev zoscx6 : Oper := { dst := some 45, op := Op.load 85 (Operand.tmp 3), type := 85, pos := "mark.go:33", after := #[], guard := none }
abbrev zoscx7 : Oper := { dst := some 43, op := Op.load 30 (Operand.tmp 42), type := 30, pos := "mark.go:33", after := #[{ on := 3, ground := Ground.data }], guard := none }
abbrev zoscx8 : Oper := { dst := some 46, op := Op.buildSlice 30 1 #[(0, Operand.tmp 45)], type := 30, pos := "mark.go:33", after := #[{ on := 6, ground := Ground.data }], guard := none }
abbrev zoscx9 : Oper := { dst := some 47, op := Op.call { callee := Callee.value (Operand.func 84), args := #[Operand.tmp 43, Operand.tmp 44, Operand.tmp 46], argTypes := #[30, 3, 30] }, type := 30, pos := "mark.go:33", after := #[{ on := 4, ground := Ground.data }, { on := 5, ground := Ground.data }, { on := 7, ground := Ground.data }], guard := none }
abbrev zoscx10 : Oper := { dst := some 48, op := Op.nilCheck (Operand.tmp 39), type := 0, pos := "mark.go:33", after := #[{ on := 0, ground := Ground.data }, { on := 0, ground := Ground.phase }, { on := 1, ground := Ground.phase }, { on := 2, ground := Ground.phase }, { on := 3, ground := Ground.phase }, { on := 4, ground := Ground.phase }, { on := 5, ground := Ground.phase }, { on := 6, ground := Ground.phase }, { on := 7, ground := Ground.phase }, { on := 8, ground := Ground.phase }], guard := none }
abbrev zoscx11 : Oper := { dst := some 49, op := Op.fieldAddr 69 (Operand.tmp 48) 0, type := 0, pos := "mark.go:33", after := #[{ on := 9, ground := Ground.data }, { on := 0, ground := Ground.phase }, { on := 1, ground := Ground.phase }, { on := 2, ground := Ground.phase }, { on := 3, ground := Ground.phase }, { on := 4, ground := Ground.phase }, { on := 5, ground := Ground.phase }, { on := 6, ground := Ground.phase }, { on := 7, ground := Ground.phase }, { on := 8, ground := Ground.phase }], guard := none }
abbrev zoscx12 : Oper := { dst := none, op := Op.store 30 (Operand.tmp 49) (Operand.tmp 47), type := 0, pos := "mark.go:33", after := #[{ on := 10, ground := Ground.data }, { on := 8, ground := Ground.data }, { on := 8, ground := Ground.chain }, { on := 0, ground := Ground.phase }, { on := 1, ground := Ground.phase }, { on := 2, ground := Ground.phase }, { on := 3, ground := Ground.phase }, { on := 4, ground := Ground.phase }, { on := 5, ground := Ground.phase }, { on := 6, ground := Ground.phase }, { on := 7, ground := Ground.phase }, { on := 8, ground := Ground.phase }], guard := none }
abbrev zoscx13 : Oper := { dst := some 50, op := Op.load 25 (Operand.tmp 2), type := 25, pos := "mark.go:34", after := #[], guard := none }
abbrev zoscx14 : Oper := { dst := some 51, op := Op.load 25 (Operand.tmp 2), type := 25, pos := "mark.go:34", after := #[], guard := none }
abbrev zoscx15 : Oper := { dst := some 52, op := Op.nilCheck (Operand.tmp 51), type := 0, pos := "mark.go:34", after := #[{ on := 1, ground := Ground.data }], guard := none }
abbrev zoscx16 : Oper := { dst := some 53, op := Op.fieldAddr 69 (Operand.tmp 52) 1, type := 0, pos := "mark.go:34", after := #[{ on := 2, ground := Ground.data }], guard := none }
abbrev zoscx17 : Oper := { dst := some 55, op := Op.makeFunc (Fn.func 85) #[] #[Operand.tmp 2, Operand.tmp 4], type := 1, pos := "mark.go:34", after := #[], guard := none }
abbrev zoscx18 : Oper := { dst := some 54, op := Op.load 67 (Operand.tmp 53), type := 67, pos := "mark.go:34", after := #[{ on := 3, ground := Ground.data }], guard := none }
abbrev zoscx19 : Oper := { dst := some 56, op := Op.buildSlice 67 1 #[(0, Operand.tmp 55)], type := 67, pos := "mark.go:34", after := #[{ on := 5, ground := Ground.data }], guard := none }
abbrev zoscx20 : Oper := { dst := some 57, op := Op.call { callee := Callee.builtin Builtin.append, args := #[Operand.tmp 54, Operand.tmp 56], argTypes := #[67, 67] }, type := 67, pos := "mark.go:34", after := #[{ on := 4, ground := Ground.data }, { on := 6, ground := Ground.data }], guard := none }
abbrev zoscx21 : Oper := { dst := some 58, op := Op.nilCheck (Operand.tmp 50), type := 0, pos := "mark.go:34", after := #[{ on := 0, ground := Ground.data }, { on := 0, ground := Ground.phase }, { on := 1, ground := Ground.phase }, { on := 2, ground := Ground.phase }, { on := 3, ground := Ground.phase }, { on := 4, ground := Ground.phase }, { on := 5, ground := Ground.phase }, { on := 6, ground := Ground.phase }, { on := 7, ground := Ground.phase }], guard := none }
abbrev zoscx22 : Oper := { dst := some 59, op := Op.fieldAddr 69 (Operand.tmp 58) 1, type := 0, pos := "mark.go:34", after := #[{ on := 8, ground := Ground.data }, { on := 0, ground := Ground.phase }, { on := 1, ground := Ground.phase }, { on := 2, ground := Ground.phase }, { on := 3, ground := Ground.phase }, { on := 4, ground := Ground.phase }, { on := 5, ground := Ground.phase }, { on := 6, ground := Ground.phase }, { on := 7, ground := Ground.phase }], guard := none }
abbrev zoscx23 : Oper := { dst := none, op := Op.store 67 (Operand.tmp 59) (Operand.tmp 57), type := 0, pos := "mark.go:34", after := #[{ on := 9, ground := Ground.data }, { on := 7, ground := Ground.data }, { on := 7, ground := Ground.chain }, { on := 0, ground := Ground.phase }, { on := 1, ground := Ground.phase }, { on := 2, ground := Ground.phase }, { on := 3, ground := Ground.phase }, { on := 4, ground := Ground.phase }, { on := 5, ground := Ground.phase }, { on := 6, ground := Ground.phase }, { on := 7, ground := Ground.phase }], guard := none }

theorem ins_erase {xs : List En} {i : Nat} {y : En} (h : i ≤ xs.length) : xs = (ins xs i y).eraseIdx i := by
  unfold ins
  rw [List.eraseIdx_append_of_length_le (by rw [List.length_take]; omega), List.length_take, Nat.min_eq_left h, Nat.sub_self, List.eraseIdx_cons_zero, List.take_append_drop]
set_option maxHeartbeats 3200000 in
set_option maxRecDepth 1000000 in
theorem say_new {w : World} {p B : Nat} {sv uv : Value} {xs : List En} {us : List Value} {hs : List (List En)} (h : Bh w p B sv uv xs us hs) (y : En) (hy : y.Own B w) (hB : B ≤ w.heap.size) (hn : xs.length ≤ 900000) (hu : us.length ≤ 900000)
    (hth : ∀ i, At (pge y.e.key) xs i → ther xs i y.e.key = false) :
    Calls Try.prog 67 #[.pointer (some ⟨p, 0, none⟩), .agg #[.slice y.ka y.e.key.length y.kc, .slice y.va y.e.val.length y.vc, .bool y.e.del]] w fun e w' => e = .returned (.tuple #[]) ∧ ∃ i sv' uv' u, At (pge y.e.key) xs i ∧ Bh w' p B sv' uv' (ins xs i y) (us ++ [u]) (hs ++ [xs]) ∧ Go1 (Bo p sv uv) w (Bo p sv' uv') w' := by
  obtain ⟨w1, hw1⟩ : ∃ w1, w1 = (w.alloc (.cells #[.pointer (some ⟨p, 0, none⟩)] 25)).alloc (.cells #[.slice y.ka y.e.key.length y.kc, .slice y.va y.e.val.length y.vc, .bool y.e.del] 85) := ⟨_, rfl⟩
  have hB1 : Below w.heap.size w w1 := by rw [hw1]; exact two_alloc _ _
  have hb0 : w1.heap[w.heap.size]? = some (.cells #[.pointer (some ⟨p, 0, none⟩)] 25 (0, 0)) := by rw [hw1]; exact (Below.heap_alloc _ _ _ (by simp)).trans (heap_alloc_new w _)
  have hb1 : w1.heap[w.heap.size + 1]? = some (.cells #[.slice y.ka y.e.key.length y.kc, .slice y.va y.e.val.length y.vc, .bool y.e.del] 85 (0, 0)) := by
    rw [hw1]
    have := heap_alloc_new (w.alloc (.cells #[.pointer (some ⟨p, 0, none⟩)] 25)) (.cells #[.slice y.ka y.e.key.length y.kc, .slice y.va y.e.val.length y.vc, .bool y.e.del] 85)
    rwa [World.size_alloc] at this
  have hs1 : w1.heap.size = w.heap.size + 2 := by rw [hw1]; simp
  have hp0 := cell_of_one hb0
  obtain ⟨q0, q1, q2, -⟩ := cells_three hb1
  have HF := hide (find_any (h.bf.below hB1) y.ka y.e.key.length y.kc y.e.key (hy.ok.key.below hB1) (by omega))
  have HB1 := hide hB1
  have HB0 := hide hb0
  have HBq := hide hb1
  have HS1 := hide hs1
  have HH := hide h
  have HY := hide hy
  have HT := hide hth
  clear h hB1 hb0 hb1 hs1 hy hth
  obtain ⟨f0i, hf0, hfz, hf1, hf2⟩ := info_parts Try.infoF
  have hmf : ∀ (fn : Fn) (first cap : Array Value) (w : World), (Instr.makeFunc fn first cap).run Try.prog w = .ok (.func fn first cap) w := fun _ _ _ _ => rfl
  go_enter Try.func67, Try.ntmps67
  go_wp2_with fail
  rw [← hw1]
  clear hw1
  go_wp2_with (go_at_call 74; refine HF.out.mono ?_; rintro e w2 ⟨i, rfl, hat, hb2⟩; rw [HT.out i hat]; have HAt := hide hat; have HB2 := hide hb2; have hp2 := cell_of_one ((HB2.out.block _ (lt_of_block HB0.out)).trans HB0.out); clear hat hb2)
  obtain ⟨W3, hW3⟩ : ∃ W3, W3 = w2.alloc (.cells #[.int .i64 (i : Int)] 3) := ⟨_, rfl⟩
  have hB3 : Below w1.heap.size w1 W3 := by rw [hW3]; exact HB2.out.alloc HB2.out.size _
  have hb3 : W3.heap[w2.heap.size]? = some (.cells #[.int .i64 (i : Int)] 3 (0, 0)) := by rw [hW3]; exact heap_alloc_new w2 _
  rw [← hW3]
  clear hW3 hp2 hp0 q0 q1 q2
  have hsz3 : w1.heap.size ≤ w2.heap.size := HB2.out.size
  have hlt3 : w2.heap.size < W3.heap.size := lt_of_block hb3
  have hbb := (hB3.block _ (lt_of_block HB0.out)).trans HB0.out
  have hbq := (hB3.block _ (lt_of_block HBq.out)).trans HBq.out
  have hBw3 : Below w.heap.size w W3 := HB1.out.trans (hB3.mono HB1.out.size)
  have hf3 := HH.out.bf.below hBw3
  obtain ⟨a0, c0, rfl, hc1, hc2, hc3, hc4⟩ := row_shape HH.out.bf.said
  obtain ⟨a1, c1, rfl, hd1, hd2, hd3, hd4⟩ := row_shape HH.out.bf.undo
  have HI := hide (insert_any (.slice a0 xs.length c0) W3.heap.size xs.length i B xs y (W3.drew.alloc (.cells #[.slice y.ka y.e.key.length y.kc, .slice y.va y.e.val.length y.vc, .bool y.e.del] 85)) HAt.out.1 (by omega) rfl (row_of_block hf3.said (fun k hk => Below.heap_alloc _ _ _ (row_at hf3.said hk).2.1)) (by simp; have := hBw3.size; omega) (fun e => by have := (row_at hf3.said e).2.1; omega) (heap_alloc_new W3.drew _))
  have hp3 := cell_of_one hbb
  have hi3 := cell_of_one hb3
  obtain ⟨q0, q1, q2, -⟩ := cells_three hbq
  obtain ⟨s0, s1, f0⟩ := cells_two hf3.blk
  have HB3 := hide hB3
  have Hb3 := hide hb3
  have Hbb := hide hbb
  have Hbq := hide hbq
  have HBw := hide hBw3
  have HF3 := hide hf3
  clear hB3 hb3 hbb hbq hBw3 hf3 hc1 hc2 hc3 hc4 hd1 hd2 hd3 hd4
  have HS : Hid (∀ w4, (W3.drew.alloc (.cells #[.slice y.ka y.e.key.length y.kc, .slice y.va y.e.val.length y.vc, .bool y.e.del] 85)).grownBy w4 (Value.slice a0 xs.length c0).ownBlock → w4.heap[w.heap.size]? = some (.cells #[.pointer (some ⟨p, 0, none⟩)] 25 (0, 0)) ∧ w4.heap[w.heap.size + 1]? = some (.cells #[.slice y.ka y.e.key.length y.kc, .slice y.va y.e.val.length y.vc, .bool y.e.del] 85 (0, 0)) ∧ w4.heap[w2.heap.size]? = some (.cells #[.int .i64 (i : Int)] 3 (0, 0)) ∧ w4.heap[p]? = some (.cells #[.slice a0 xs.length c0, .slice a1 us.length c1] 69 (0, 0))) := hide (fun w4 hg => by
    have hsw := (fun k (e : (Value.slice a0 xs.length c0).ownBlock = some k) => (row_at HH.out.bf.said e).2.1)
    have st : ∀ k, k < W3.heap.size → (Value.slice a0 xs.length c0).ownBlock ≠ some k → w4.heap[k]? = W3.heap[k]? := fun k hk hne => by
      rw [hg.block k (by simp; omega) (fun e => hne e.symm)]
      exact Below.heap_alloc W3.drew _ k hk
    refine ⟨(st _ (lt_of_block Hbb.out) (fun e => by have := hsw _ e; omega)).trans Hbb.out, (st _ (lt_of_block Hbq.out) (fun e => by have := hsw _ e; omega)).trans Hbq.out, (st _ (lt_of_block Hb3.out) (fun e => by have := hsw _ e; have := HS1.out; omega)).trans Hb3.out, (st _ (lt_of_block HF3.out.blk) HF3.out.sne).trans HF3.out.blk⟩)
  have HSA : Hid ((W3.drew.alloc (.cells #[.slice y.ka y.e.key.length y.kc, .slice y.va y.e.val.length y.vc, .bool y.e.del] 85)).cell? ⟨w.heap.size, 0, none⟩ = some (.pointer (some ⟨p, 0, none⟩)) ∧ (W3.drew.alloc (.cells #[.slice y.ka y.e.key.length y.kc, .slice y.va y.e.val.length y.vc, .bool y.e.del] 85)).cell? ⟨w2.heap.size, 0, none⟩ = some (.int .i64 (i : Int)) ∧ (W3.drew.alloc (.cells #[.slice y.ka y.e.key.length y.kc, .slice y.va y.e.val.length y.vc, .bool y.e.del] 85)).cell? ⟨w.heap.size + 1, 0, none⟩ = some (.slice y.ka y.e.key.length y.kc) ∧ (W3.drew.alloc (.cells #[.slice y.ka y.e.key.length y.kc, .slice y.va y.e.val.length y.vc, .bool y.e.del] 85)).cell? ⟨w.heap.size + 1, 1, none⟩ = some (.slice y.va y.e.val.length y.vc) ∧ (W3.drew.alloc (.cells #[.slice y.ka y.e.key.length y.kc, .slice y.va y.e.val.length y.vc, .bool y.e.del] 85)).cell? ⟨w.heap.size + 1, 2, none⟩ = some (.bool y.e.del)) := hide (by
    obtain ⟨e1, e2, e3, _⟩ := cells_three ((Below.heap_alloc W3.drew (.cells #[.slice y.ka y.e.key.length y.kc, .slice y.va y.e.val.length y.vc, .bool y.e.del] 85) _ (lt_of_block Hbq.out)).trans Hbq.out)
    exact ⟨cell_of_one ((Below.heap_alloc W3.drew _ _ (lt_of_block Hbb.out)).trans Hbb.out), cell_of_one ((Below.heap_alloc W3.drew _ _ (lt_of_block Hb3.out)).trans Hb3.out), e1, e2, e3⟩)
  obtain ⟨sa0, sa1, sfa⟩ := cells_two ((Below.heap_alloc W3.drew (.cells #[.slice y.ka y.e.key.length y.kc, .slice y.va y.e.val.length y.vc, .bool y.e.del] 85) p (lt_of_block HF3.out.blk)).trans HF3.out.blk)
  have sb0 : (W3.alloc (.cells #[.slice y.ka y.e.key.length y.kc, .slice y.va y.e.val.length y.vc, .bool y.e.del] 85)).cell? ⟨p, 0, none⟩ = some (.slice a0 xs.length c0) := sa0
  have hpw : p < w.heap.size := lt_of_block HH.out.bf.blk
  have HB6 : Hid (Below w.heap.size w (W3.drew.alloc (.cells #[.slice y.ka y.e.key.length y.kc, .slice y.va y.e.val.length y.vc, .bool y.e.del] 85))) := hide (HBw.out.drew.trans ((below_alloc W3.drew _).mono HBw.out.size))
  have hwsz : w.heap.size ≤ w2.heap.size := by have := HS1.out; omega
  refine wp_region_noPanic ?_
  refine wp_region_held_drew (S := (fun W => W.cell? ⟨w.heap.size, 0, none⟩ = some (.pointer (some ⟨p, 0, none⟩)) ∧ W.cell? ⟨w2.heap.size, 0, none⟩ = some (.int .i64 (i : Int)) ∧ W.cell? ⟨w.heap.size + 1, 0, none⟩ = some (.slice y.ka y.e.key.length y.kc) ∧ W.cell? ⟨w.heap.size + 1, 1, none⟩ = some (.slice y.va y.e.val.length y.vc) ∧ W.cell? ⟨w.heap.size + 1, 2, none⟩ = some (.bool y.e.del))) (by kernel_rfl) ⟨hp3, hi3, q0, q1, q2⟩ (fun _hS => ?_)
  refine wtk (i := 0) (oi := zoscx1) (v := ?v0x601) rfl ⟨by rfl, ?hy0x601⟩ (by assumption) ?_
  case hy0x601 => (intro w s; (try dsimp only at s); first | (go_simp; with_reducible rfl) | go_simp)
  try simp only [Act.put, zps]
  refine wtk (i := 1) (oi := zoscx2) (v := ?v1x602) rfl ⟨by rfl, ?hy1x602⟩ (by assumption) ?_
  case hy1x602 => (intro w s; (try dsimp only at s); first | (go_simp; with_reducible rfl) | go_simp)
  try simp only [Act.put, zps]
  refine wtk (i := 2) (oi := zoscx3) (v := ?v2x603) rfl ⟨by rfl, ?hy2x603⟩ (by assumption) ?_
  case hy2x603 => (intro w s; (try dsimp only at s); first | (go_simp; with_reducible rfl) | go_simp)
  try simp only [Act.put, zps]
  refine wtk (i := 3) (oi := zoscx4) (v := ?v3x604) rfl ⟨by rfl, ?hy3x604⟩ (by assumption) ?_
  case hy3x604 => (intro w s; (try dsimp only at s); first | (go_simp; with_reducible rfl) | go_simp)
  try simp only [Act.put, zps]
  refine wtk (i := 5) (oi := zoscx5) (v := ?v5x605) rfl ⟨by rfl, ?hy5x605⟩ (by assumption) ?_
  case hy5x605 => (intro w s; (try dsimp only at s); first | (go_simp; with_reducible rfl) | go_simp)
  try simp only [Act.put, zps]
  refine wtk (i := 6) (oi := zoscx6) (v := ?v6x606) rfl ⟨by rfl, ?hy6x606⟩ (by assumption) ?_
  case hy6x606 => (intro w s; (try dsimp only at s); first | (go_simp; with_reducible rfl) | go_simp)
  try simp only [Act.put, zps]
  refine wpAnyH_ready (rs := [4, 7]) (by kernel_rfl) (by simp) ?_
  refine AllReadyH.cons (o := zoscx7) rfl (fun K hK => ?_) (AllReadyH.cons (o := zoscx8) rfl (fun K hK => ?_) (AllReadyH.nil))
  · go_simp
    refine hK.out _ _ ?_ (fun _hS => ?_)
    · exact ⟨hp3, hi3, q0, q1, q2⟩
    clear hK K
    try simp only [Act.put, zps]
    refine wpAnyH_ready (rs := [7]) (by kernel_rfl) (by simp) ?_
    refine AllReadyH.cons (o := zoscx8) rfl (fun K hK => ?_) (AllReadyH.nil)
    go_simp
    refine hK.out _ _ ?_ (fun _hS => ?_)
    · exact HSA.out
    clear hK K
    try simp only [Act.put, zps]
    refine wpAnyH_ready (rs := [8]) (by kernel_rfl) (by simp) ?_
    refine AllReadyH.cons (o := zoscx9) rfl (fun K hK => ?_) (AllReadyH.nil)
    go_simp
    go_at_call 84
    refine HI.out.mono ?_
    rintro e w4 ⟨v', rfl, hown4, hg4, hloc4⟩
    obtain ⟨a2, c2, rfl, -⟩ := row_shape hown4
    have HO4 := hide hown4
    have HG4 := hide hg4
    have HL4 := hide hloc4
    obtain ⟨k0, k1, k2, k3⟩ := HS.out w4 hg4
    clear hown4 hg4 hloc4
    have hp4 := cell_of_one k0
    have hi4 := cell_of_one k2
    obtain ⟨z0, z1, z2, -⟩ := cells_three k1
    obtain ⟨s0, s1, f0⟩ := cells_two k3
    have K0 := hide k0
    have K2 := hide k2
    have K3 := hide k3
    clear k0 k1 k2 k3
    go_simp
    refine hK.out _ _ ?_ (fun _hS => ?_)
    · exact ⟨hp4, hi4, z0, z1, z2⟩
    clear hK K
    try simp only [Act.put, zps]
    refine wtk (i := 9) (oi := zoscx10) (v := ?v9x607) rfl ⟨by rfl, ?hy9x607⟩ (by assumption) ?_
    case hy9x607 => (intro w s; (try dsimp only at s); first | (go_simp; with_reducible rfl) | go_simp)
    try simp only [Act.put, zps]
    refine wtk (i := 10) (oi := zoscx11) (v := ?v10x608) rfl ⟨by rfl, ?hy10x608⟩ (by assumption) ?_
    case hy10x608 => (intro w s; (try dsimp only at s); first | (go_simp; with_reducible rfl) | go_simp)
    try simp only [Act.put, zps]
    refine wpAnyH_ready (rs := [11]) (by kernel_rfl) (by simp) ?_
    refine AllReadyH.cons (o := zoscx12) rfl (fun K hK => ?_) (AllReadyH.nil)
    go_simp
    refine hK.out _ _ ?_ (fun _hS => ?_)
    · exact ⟨(cell_set_ne (by omega)).trans hp4, (cell_set_ne (by omega)).trans hi4, (cell_set_ne (by omega)).trans z0, (cell_set_ne (by omega)).trans z1, (cell_set_ne (by omega)).trans z2⟩
    clear hK K
    try simp only [Act.put, zps]
    refine wpAnyH_done (by kernel_rfl) ?_ _
    refine NoPanic.normal ?_
    go_wp2
    have HLen : Hid ((ins xs i y).length = xs.length + 1) := hide (by have := HAt.out.1; unfold ins; simp; omega)
    have hE4 : ∀ x ∈ ins xs i y, x.Own B w := fun x hx => by
      unfold ins at hx
      rcases List.mem_append.1 hx with hx | hx
      · exact HH.out.bf.each x (List.mem_of_mem_take hx)
      · rcases List.mem_cons.1 hx with rfl | hx
        · exact HY.out
        · exact HH.out.bf.each x (List.mem_of_mem_drop hx)
    obtain ⟨hbf5, hgo5⟩ := said_turned (xs' := ins xs i y) HH.out.bf HB6.out HG4.out (by rw [HLen.out]; exact HO4.out) HL4.out hE4
    have J0' : (w4.setCell ⟨p, 0, none⟩ (.slice a2 (xs.length + 1) c2)).heap[w.heap.size]? = some (.cells #[.pointer (some ⟨p, 0, none⟩)] 25 (0, 0)) := (set_other _ _ _ _ _ (by omega)).trans K0.out
    have J2' : (w4.setCell ⟨p, 0, none⟩ (.slice a2 (xs.length + 1) c2)).heap[w2.heap.size]? = some (.cells #[.int .i64 (i : Int)] 3 (0, 0)) := (set_other _ _ _ _ _ (by omega)).trans K2.out
    have HL5 : Hid ((Value.slice a2 (xs.length + 1) c2).ownBlock = (Value.slice a0 xs.length c0).ownBlock ∨ ∃ k, (Value.slice a2 (xs.length + 1) c2).ownBlock = some k ∧ w.heap.size ≤ k) := hide (HL4.out.imp id fun ⟨k, h1, h2⟩ => ⟨k, h1, Nat.le_trans HB6.out.size h2⟩)
    clear hE4 hp3 hi3 q0 q1 q2 sa0 sa1 sfa sb0 hp4 hi4 z0 z1 z2 s0 s1 f0
    generalize w4.setCell ⟨p, 0, none⟩ (.slice a2 (xs.length + 1) c2) = W5 at *
    have HF5 := hide hbf5
    have HG5 := hide hgo5
    have J0 := hide J0'
    have J2 := hide J2'
    have J0s := True.intro
    have HNB : Hid (∀ k, Bo p (.slice a2 (xs.length + 1) c2) (.slice a1 us.length c1) k → k < w.heap.size ∨ k ≠ w.heap.size ∧ k ≠ w2.heap.size) := hide (fun k hk => by
      by_cases hlt : k < w.heap.size
      · exact .inl hlt
      · refine .inr ⟨fun e => ?_, fun e => ?_⟩
        · subst e
          rcases hk with e | e | e
          · omega
          · obtain ⟨_, _, cc, hc⟩ := row_at hbf5.said e; rw [J0'] at hc; have := obj_type hc; simp at this
          · obtain ⟨_, _, cc, hc⟩ := row_at hbf5.undo e; rw [J0'] at hc; have := obj_type hc; simp at this
        · subst e
          rcases hk with e | e | e
          · omega
          · obtain ⟨_, _, cc, hc⟩ := row_at hbf5.said e; rw [J2'] at hc; have := obj_type hc; simp at this
          · obtain ⟨_, _, cc, hc⟩ := row_at hbf5.undo e; rw [J2'] at hc; have := obj_type hc; simp at this)
    clear hbf5 hgo5 J0' J2'
    have hu9 : us.length ≤ 900000 := hu
    have HS7 : Hid (W5.cell? ⟨w.heap.size, 0, none⟩ = some (.pointer (some ⟨p, 0, none⟩))) := hide (cell_of_one J0.out)
    have HSA7 : Hid ((W5.drew.alloc (.cells #[.func (.func 85) #[] #[.pointer (some ⟨w.heap.size, 0, none⟩), .pointer (some ⟨w2.heap.size, 0, none⟩)]] 1)).cell? ⟨w.heap.size, 0, none⟩ = some (.pointer (some ⟨p, 0, none⟩))) := hide (cell_of_one ((Below.heap_alloc W5.drew _ _ (lt_of_block J0.out)).trans J0.out))
    have HU7 : Hid ((W5.drew.alloc (.cells #[.func (.func 85) #[] #[.pointer (some ⟨w.heap.size, 0, none⟩), .pointer (some ⟨w2.heap.size, 0, none⟩)]] 1)).ownsRow B 1 1 (.slice a1 us.length c1) us.length us) := hide (row_of_block HF5.out.undo fun k hk => Below.heap_alloc W5.drew _ k (row_at HF5.out.undo hk).2.1)
    have HN7 : Hid (∀ j u, ([.func (.func 85) #[] #[.pointer (some ⟨w.heap.size, 0, none⟩), .pointer (some ⟨w2.heap.size, 0, none⟩)]] : List Value)[j]? = some u → (W5.drew.alloc (.cells #[.func (.func 85) #[] #[.pointer (some ⟨w.heap.size, 0, none⟩), .pointer (some ⟨w2.heap.size, 0, none⟩)]] 1)).cell? ((⟨W5.heap.size, 0, none⟩ : Addr).add j) = some u) := hide (fun j u hj => by
      match j, hj with
      | 0, hj => simp at hj; subst hj; rw [Addr.add_lit]; exact cell_of_one (heap_alloc_new W5.drew _)
      | j + 1, hj => simp at hj)
    have HB7 : Hid (B ≤ (W5.drew.alloc (.cells #[.func (.func 85) #[] #[.pointer (some ⟨w.heap.size, 0, none⟩), .pointer (some ⟨w2.heap.size, 0, none⟩)]] 1)).heap.size) := hide (by have h1 := HF5.out.base; have h2 := lt_of_block HF5.out.blk; simp; omega)
    have HT7 : Hid (∀ w6, (W5.drew.alloc (.cells #[.func (.func 85) #[] #[.pointer (some ⟨w.heap.size, 0, none⟩), .pointer (some ⟨w2.heap.size, 0, none⟩)]] 1)).grownBy w6 (Value.slice a1 us.length c1).ownBlock → w6.cell? ⟨w.heap.size, 0, none⟩ = some (.pointer (some ⟨p, 0, none⟩)) ∧ w6.heap[p]? = some (.cells #[.slice a2 (xs.length + 1) c2, .slice a1 us.length c1] 69 (0, 0))) := hide (fun w6 hg => by
      have st : ∀ k, k < W5.heap.size → (Value.slice a1 us.length c1).ownBlock ≠ some k → w6.heap[k]? = W5.heap[k]? := fun k hk hne => by
        rw [hg.block k (by simp; omega) (fun e => hne e.symm)]
        exact Below.heap_alloc W5.drew _ k hk
      have hu := fun k (e : (Value.slice a1 us.length c1).ownBlock = some k) => (row_at HH.out.bf.undo e).2.1
      exact ⟨cell_of_one ((st _ (lt_of_block J0.out) (fun e => by have := hu _ e; omega)).trans J0.out), (st _ (lt_of_block HF5.out.blk) HF5.out.une).trans HF5.out.blk⟩)
    have HFin : Hid (∀ v6 w6, w6.ownsRow B 1 1 v6 (us.length + 1) (us ++ [.func (.func 85) #[] #[.pointer (some ⟨w.heap.size, 0, none⟩), .pointer (some ⟨w2.heap.size, 0, none⟩)]]) → (W5.drew.alloc (.cells #[.func (.func 85) #[] #[.pointer (some ⟨w.heap.size, 0, none⟩), .pointer (some ⟨w2.heap.size, 0, none⟩)]] 1)).grownBy w6 (Value.slice a1 us.length c1).ownBlock → (v6.ownBlock = (Value.slice a1 us.length c1).ownBlock ∨ v6.ownBlock = some (W5.drew.alloc (.cells #[.func (.func 85) #[] #[.pointer (some ⟨w.heap.size, 0, none⟩), .pointer (some ⟨w2.heap.size, 0, none⟩)]] 1)).heap.size) → ∃ i sv' uv' u, At (pge y.e.key) xs i ∧ Bh (w6.setCell ⟨p, 1, none⟩ v6) p B sv' uv' (ins xs i y) (us ++ [u]) (hs ++ [xs]) ∧ Go1 (Bo p (.slice a0 xs.length c0) (.slice a1 us.length c1)) w (Bo p sv' uv') (w6.setCell ⟨p, 1, none⟩ v6)) := hide (fun v6 w6 ho hg hl => by
      obtain ⟨hbf7, hgo7⟩ := undo_turned (us' := us ++ [.func (.func 85) #[] #[.pointer (some ⟨w.heap.size, 0, none⟩), .pointer (some ⟨w2.heap.size, 0, none⟩)]]) HF5.out ((Below.refl W5.heap.size W5).drew.trans (below_alloc W5.drew _)) hg (by rw [List.length_append]; exact ho) (hl.imp id fun e => ⟨_, e, Nat.le_refl _⟩)
      have hgo := HG5.out.trans hgo7
      refine ⟨i, _, v6, _, HAt.out, HH.out.more hgo.mv (fun k hk => ?_) hbf7 ?_, hgo⟩
      · rcases HL5.out with h | ⟨k', h, hk'⟩
        · left; rw [← h]; exact hk
        · right; rw [h] at hk; cases hk; exact hk'
      · have j0 := hgo7.mv.block _ (lt_of_block J0.out) (fun e => by have := HNB.out _ e; omega)
        have j2 := hgo7.mv.block _ (lt_of_block J2.out) (fun e => by have := HNB.out _ e; omega)
        refine .inr ⟨w.heap.size, w2.heap.size, i, rfl, j0.trans J0.out, j2.trans J2.out, ?_, ?_⟩
        · rw [HLen.out]; have := HAt.out.1; omega
        · exact ins_erase HAt.out.1)
    clear J0s
    obtain ⟨t0, t1, tf⟩ := cells_two HF5.out.blk
    obtain ⟨ta0, ta1, taf⟩ := cells_two ((Below.heap_alloc W5.drew (.cells #[.func (.func 85) #[] #[.pointer (some ⟨w.heap.size, 0, none⟩), .pointer (some ⟨w2.heap.size, 0, none⟩)]] 1) p (lt_of_block HF5.out.blk)).trans HF5.out.blk)
    have tb1 : (W5.alloc (.cells #[.func (.func 85) #[] #[.pointer (some ⟨w.heap.size, 0, none⟩), .pointer (some ⟨w2.heap.size, 0, none⟩)]] 1)).cell? ⟨p, 1, none⟩ = some (.slice a1 us.length c1) := ta1
    refine wp_region_noPanic ?_
    refine wp_region_held_drew (S := (fun W => W.cell? ⟨w.heap.size, 0, none⟩ = some (.pointer (some ⟨p, 0, none⟩)))) (by kernel_rfl) HS7.out (fun _hS => ?_)
    refine wtk (i := 0) (oi := zoscx13) (v := ?v0x1001) rfl ⟨by rfl, ?hy0x1001⟩ (by assumption) ?_
    case hy0x1001 => (intro w s; (try dsimp only at s); first | (go_simp; with_reducible rfl) | go_simp)
    try simp only [Act.put, zps]
    refine wtk (i := 1) (oi := zoscx14) (v := ?v1x1002) rfl ⟨by rfl, ?hy1x1002⟩ (by assumption) ?_
    case hy1x1002 => (intro w s; (try dsimp only at s); first | (go_simp; with_reducible rfl) | go_simp)
    try simp only [Act.put, zps]
    refine wtk (i := 2) (oi := zoscx15) (v := ?v2x1003) rfl ⟨by rfl, ?hy2x1003⟩ (by assumption) ?_
    case hy2x1003 => (intro w s; (try dsimp only at s); first | (go_simp; with_reducible rfl) | go_simp)
    try simp only [Act.put, zps]
    refine wtk (i := 3) (oi := zoscx16) (v := ?v3x1004) rfl ⟨by rfl, ?hy3x1004⟩ (by assumption) ?_
    case hy3x1004 => (intro w s; (try dsimp only at s); first | (go_simp; with_reducible rfl) | go_simp)
    try simp only [Act.put, zps]
    refine wtk (i := 5) (oi := zoscx17) (v := ?v5x1005) rfl ⟨by rfl, ?hy5x1005⟩ (by assumption) ?_
    case hy5x1005 => (intro w s; (try dsimp only at s); first | (go_simp; with_reducible rfl) | go_simp)
    try simp only [Act.put, zps]
    refine wpAnyH_ready (rs := [4, 6]) (by kernel_rfl) (by simp) ?_
    refine AllReadyH.cons (o := zoscx18) rfl (fun K hK => ?_) (AllReadyH.cons (o := zoscx19) rfl (fun K hK => ?_) (AllReadyH.nil))
    · go_simp
      refine hK.out _ _ ?_ (fun _hS => ?_)
      · exact HS7.out
      clear hK K
      try simp only [Act.put, zps]
      refine wpAnyH_ready (rs := [6]) (by kernel_rfl) (by simp) ?_
      refine AllReadyH.cons (o := zoscx19) rfl (fun K hK => ?_) (AllReadyH.nil)
      go_simp
      refine hK.out _ _ ?_ (fun _hS => ?_)
      · exact HSA7.out
      clear hK K
      try simp only [Act.put, zps]
      refine wpAnyH_ready (rs := [7]) (by kernel_rfl) (by simp) ?_
      refine AllReadyH.cons (o := zoscx20) rfl (fun K hK => ?_) (AllReadyH.nil)
      refine step_of rfl ?_
      refine wp_append_at (.tmp 54) (.tmp 56) 67 1 rfl B f0i _ 1 8 Try.underlying67 hf0 hfz hf1 hf2 (by rfl) (by omega) (.slice a1 us.length c1) us.length us rfl HU7.out ⟨W5.heap.size, 0, none⟩ 1 1 [.func (.func 85) #[] #[.pointer (some ⟨w.heap.size, 0, none⟩), .pointer (some ⟨w2.heap.size, 0, none⟩)]] rfl rfl HN7.out (fun u hu => by simp at hu; subst hu; rfl) (by unfold maxLen; omega) (by omega) HB7.out ?_
      intro v6 w6 hown6 hg6 hloc6
      obtain ⟨a6, c6, rfl, -⟩ := row_shape hown6
      have HO6 := hide hown6
      have HG6 := hide hg6
      have HL6 := hide hloc6
      obtain ⟨k0, k3⟩ := HT7.out w6 hg6
      clear hown6 hg6 hloc6
      obtain ⟨s2, s3, f3⟩ := cells_two k3
      have f4 : w6.frozen? ⟨p, 1, none⟩ = false := by simp [World.frozen?, k3]
      have K6 := hide k3
      clear k3
      refine hK.out _ _ ?_ (fun _hS => ?_)
      · exact k0
      clear hK K
      try simp only [Act.put, zps]
      refine wtk (i := 8) (oi := zoscx21) (v := ?v8x1006) rfl ⟨by rfl, ?hy8x1006⟩ (by assumption) ?_
      case hy8x1006 => (intro w s; (try dsimp only at s); first | (go_simp; with_reducible rfl) | go_simp)
      try simp only [Act.put, zps]
      refine wtk (i := 9) (oi := zoscx22) (v := ?v9x1007) rfl ⟨by rfl, ?hy9x1007⟩ (by assumption) ?_
      case hy9x1007 => (intro w s; (try dsimp only at s); first | (go_simp; with_reducible rfl) | go_simp)
      try simp only [Act.put, zps]
      refine wpAnyH_ready (rs := [10]) (by kernel_rfl) (by simp) ?_
      refine AllReadyH.cons (o := zoscx23) rfl (fun K hK => ?_) (AllReadyH.nil)
      go_simp
      refine hK.out _ _ ?_ (fun _hS => ?_)
      · exact (cell_set_ne (by omega)).trans k0
      clear hK K
      try simp only [Act.put, zps]
      refine wpAnyH_done (by kernel_rfl) ?_ _
      refine NoPanic.normal ?_
      go_wp2
      go_end0
      exact ⟨rfl, HFin.out _ _ HO6.out HG6.out HL6.out⟩
    · go_simp
      refine hK.out _ _ ?_ (fun _hS => ?_)
      · exact HSA7.out
      clear hK K
      try simp only [Act.put, zps]
      refine wpAnyH_ready (rs := [4]) (by kernel_rfl) (by simp) ?_
      refine AllReadyH.cons (o := zoscx18) rfl (fun K hK => ?_) (AllReadyH.nil)
      go_simp
      refine hK.out _ _ ?_ (fun _hS => ?_)
      · exact HSA7.out
      clear hK K
      try simp only [Act.put, zps]
      refine wpAnyH_ready (rs := [7]) (by kernel_rfl) (by simp) ?_
      refine AllReadyH.cons (o := zoscx20) rfl (fun K hK => ?_) (AllReadyH.nil)
      refine step_of rfl ?_
      refine wp_append_at (.tmp 54) (.tmp 56) 67 1 rfl B f0i _ 1 8 Try.underlying67 hf0 hfz hf1 hf2 (by rfl) (by omega) (.slice a1 us.length c1) us.length us rfl HU7.out ⟨W5.heap.size, 0, none⟩ 1 1 [.func (.func 85) #[] #[.pointer (some ⟨w.heap.size, 0, none⟩), .pointer (some ⟨w2.heap.size, 0, none⟩)]] rfl rfl HN7.out (fun u hu => by simp at hu; subst hu; rfl) (by unfold maxLen; omega) (by omega) HB7.out ?_
      intro v6 w6 hown6 hg6 hloc6
      obtain ⟨a6, c6, rfl, -⟩ := row_shape hown6
      have HO6 := hide hown6
      have HG6 := hide hg6
      have HL6 := hide hloc6
      obtain ⟨k0, k3⟩ := HT7.out w6 hg6
      clear hown6 hg6 hloc6
      obtain ⟨s2, s3, f3⟩ := cells_two k3
      have f4 : w6.frozen? ⟨p, 1, none⟩ = false := by simp [World.frozen?, k3]
      have K6 := hide k3
      clear k3
      refine hK.out _ _ ?_ (fun _hS => ?_)
      · exact k0
      clear hK K
      try simp only [Act.put, zps]
      refine wtk (i := 8) (oi := zoscx21) (v := ?v8x1008) rfl ⟨by rfl, ?hy8x1008⟩ (by assumption) ?_
      case hy8x1008 => (intro w s; (try dsimp only at s); first | (go_simp; with_reducible rfl) | go_simp)
      try simp only [Act.put, zps]
      refine wtk (i := 9) (oi := zoscx22) (v := ?v9x1009) rfl ⟨by rfl, ?hy9x1009⟩ (by assumption) ?_
      case hy9x1009 => (intro w s; (try dsimp only at s); first | (go_simp; with_reducible rfl) | go_simp)
      try simp only [Act.put, zps]
      refine wpAnyH_ready (rs := [10]) (by kernel_rfl) (by simp) ?_
      refine AllReadyH.cons (o := zoscx23) rfl (fun K hK => ?_) (AllReadyH.nil)
      go_simp
      refine hK.out _ _ ?_ (fun _hS => ?_)
      · exact (cell_set_ne (by omega)).trans k0
      clear hK K
      try simp only [Act.put, zps]
      refine wpAnyH_done (by kernel_rfl) ?_ _
      refine NoPanic.normal ?_
      go_wp2
      go_end0
      exact ⟨rfl, HFin.out _ _ HO6.out HG6.out HL6.out⟩
  · go_simp
    refine hK.out _ _ ?_ (fun _hS => ?_)
    · exact HSA.out
    clear hK K
    try simp only [Act.put, zps]
    refine wpAnyH_ready (rs := [4]) (by kernel_rfl) (by simp) ?_
    refine AllReadyH.cons (o := zoscx7) rfl (fun K hK => ?_) (AllReadyH.nil)
    go_simp
    refine hK.out _ _ ?_ (fun _hS => ?_)
    · exact HSA.out
    clear hK K
    try simp only [Act.put, zps]
    refine wpAnyH_ready (rs := [8]) (by kernel_rfl) (by simp) ?_
    refine AllReadyH.cons (o := zoscx9) rfl (fun K hK => ?_) (AllReadyH.nil)
    go_simp
    go_at_call 84
    refine HI.out.mono ?_
    rintro e w4 ⟨v', rfl, hown4, hg4, hloc4⟩
    obtain ⟨a2, c2, rfl, -⟩ := row_shape hown4
    have HO4 := hide hown4
    have HG4 := hide hg4
    have HL4 := hide hloc4
    obtain ⟨k0, k1, k2, k3⟩ := HS.out w4 hg4
    clear hown4 hg4 hloc4
    have hp4 := cell_of_one k0
    have hi4 := cell_of_one k2
    obtain ⟨z0, z1, z2, -⟩ := cells_three k1
    obtain ⟨s0, s1, f0⟩ := cells_two k3
    have K0 := hide k0
    have K2 := hide k2
    have K3 := hide k3
    clear k0 k1 k2 k3
    go_simp
    refine hK.out _ _ ?_ (fun _hS => ?_)
    · exact ⟨hp4, hi4, z0, z1, z2⟩
    clear hK K
    try simp only [Act.put, zps]
    refine wtk (i := 9) (oi := zoscx10) (v := ?v9x609) rfl ⟨by rfl, ?hy9x609⟩ (by assumption) ?_
    case hy9x609 => (intro w s; (try dsimp only at s); first | (go_simp; with_reducible rfl) | go_simp)
    try simp only [Act.put, zps]
    refine wtk (i := 10) (oi := zoscx11) (v := ?v10x610) rfl ⟨by rfl, ?hy10x610⟩ (by assumption) ?_
    case hy10x610 => (intro w s; (try dsimp only at s); first | (go_simp; with_reducible rfl) | go_simp)
    try simp only [Act.put, zps]
    refine wpAnyH_ready (rs := [11]) (by kernel_rfl) (by simp) ?_
    refine AllReadyH.cons (o := zoscx12) rfl (fun K hK => ?_) (AllReadyH.nil)
    go_simp
    refine hK.out _ _ ?_ (fun _hS => ?_)
    · exact ⟨(cell_set_ne (by omega)).trans hp4, (cell_set_ne (by omega)).trans hi4, (cell_set_ne (by omega)).trans z0, (cell_set_ne (by omega)).trans z1, (cell_set_ne (by omega)).trans z2⟩
    clear hK K
    try simp only [Act.put, zps]
    refine wpAnyH_done (by kernel_rfl) ?_ _
    refine NoPanic.normal ?_
    go_wp2
    have HLen : Hid ((ins xs i y).length = xs.length + 1) := hide (by have := HAt.out.1; unfold ins; simp; omega)
    have hE4 : ∀ x ∈ ins xs i y, x.Own B w := fun x hx => by
      unfold ins at hx
      rcases List.mem_append.1 hx with hx | hx
      · exact HH.out.bf.each x (List.mem_of_mem_take hx)
      · rcases List.mem_cons.1 hx with rfl | hx
        · exact HY.out
        · exact HH.out.bf.each x (List.mem_of_mem_drop hx)
    obtain ⟨hbf5, hgo5⟩ := said_turned (xs' := ins xs i y) HH.out.bf HB6.out HG4.out (by rw [HLen.out]; exact HO4.out) HL4.out hE4
    have J0' : (w4.setCell ⟨p, 0, none⟩ (.slice a2 (xs.length + 1) c2)).heap[w.heap.size]? = some (.cells #[.pointer (some ⟨p, 0, none⟩)] 25 (0, 0)) := (set_other _ _ _ _ _ (by omega)).trans K0.out
    have J2' : (w4.setCell ⟨p, 0, none⟩ (.slice a2 (xs.length + 1) c2)).heap[w2.heap.size]? = some (.cells #[.int .i64 (i : Int)] 3 (0, 0)) := (set_other _ _ _ _ _ (by omega)).trans K2.out
    have HL5 : Hid ((Value.slice a2 (xs.length + 1) c2).ownBlock = (Value.slice a0 xs.length c0).ownBlock ∨ ∃ k, (Value.slice a2 (xs.length + 1) c2).ownBlock = some k ∧ w.heap.size ≤ k) := hide (HL4.out.imp id fun ⟨k, h1, h2⟩ => ⟨k, h1, Nat.le_trans HB6.out.size h2⟩)
    clear hE4 hp3 hi3 q0 q1 q2 sa0 sa1 sfa sb0 hp4 hi4 z0 z1 z2 s0 s1 f0
    generalize w4.setCell ⟨p, 0, none⟩ (.slice a2 (xs.length + 1) c2) = W5 at *
    have HF5 := hide hbf5
    have HG5 := hide hgo5
    have J0 := hide J0'
    have J2 := hide J2'
    have J0s := True.intro
    have HNB : Hid (∀ k, Bo p (.slice a2 (xs.length + 1) c2) (.slice a1 us.length c1) k → k < w.heap.size ∨ k ≠ w.heap.size ∧ k ≠ w2.heap.size) := hide (fun k hk => by
      by_cases hlt : k < w.heap.size
      · exact .inl hlt
      · refine .inr ⟨fun e => ?_, fun e => ?_⟩
        · subst e
          rcases hk with e | e | e
          · omega
          · obtain ⟨_, _, cc, hc⟩ := row_at hbf5.said e; rw [J0'] at hc; have := obj_type hc; simp at this
          · obtain ⟨_, _, cc, hc⟩ := row_at hbf5.undo e; rw [J0'] at hc; have := obj_type hc; simp at this
        · subst e
          rcases hk with e | e | e
          · omega
          · obtain ⟨_, _, cc, hc⟩ := row_at hbf5.said e; rw [J2'] at hc; have := obj_type hc; simp at this
          · obtain ⟨_, _, cc, hc⟩ := row_at hbf5.undo e; rw [J2'] at hc; have := obj_type hc; simp at this)
    clear hbf5 hgo5 J0' J2'
    have hu9 : us.length ≤ 900000 := hu
    have HS7 : Hid (W5.cell? ⟨w.heap.size, 0, none⟩ = some (.pointer (some ⟨p, 0, none⟩))) := hide (cell_of_one J0.out)
    have HSA7 : Hid ((W5.drew.alloc (.cells #[.func (.func 85) #[] #[.pointer (some ⟨w.heap.size, 0, none⟩), .pointer (some ⟨w2.heap.size, 0, none⟩)]] 1)).cell? ⟨w.heap.size, 0, none⟩ = some (.pointer (some ⟨p, 0, none⟩))) := hide (cell_of_one ((Below.heap_alloc W5.drew _ _ (lt_of_block J0.out)).trans J0.out))
    have HU7 : Hid ((W5.drew.alloc (.cells #[.func (.func 85) #[] #[.pointer (some ⟨w.heap.size, 0, none⟩), .pointer (some ⟨w2.heap.size, 0, none⟩)]] 1)).ownsRow B 1 1 (.slice a1 us.length c1) us.length us) := hide (row_of_block HF5.out.undo fun k hk => Below.heap_alloc W5.drew _ k (row_at HF5.out.undo hk).2.1)
    have HN7 : Hid (∀ j u, ([.func (.func 85) #[] #[.pointer (some ⟨w.heap.size, 0, none⟩), .pointer (some ⟨w2.heap.size, 0, none⟩)]] : List Value)[j]? = some u → (W5.drew.alloc (.cells #[.func (.func 85) #[] #[.pointer (some ⟨w.heap.size, 0, none⟩), .pointer (some ⟨w2.heap.size, 0, none⟩)]] 1)).cell? ((⟨W5.heap.size, 0, none⟩ : Addr).add j) = some u) := hide (fun j u hj => by
      match j, hj with
      | 0, hj => simp at hj; subst hj; rw [Addr.add_lit]; exact cell_of_one (heap_alloc_new W5.drew _)
      | j + 1, hj => simp at hj)
    have HB7 : Hid (B ≤ (W5.drew.alloc (.cells #[.func (.func 85) #[] #[.pointer (some ⟨w.heap.size, 0, none⟩), .pointer (some ⟨w2.heap.size, 0, none⟩)]] 1)).heap.size) := hide (by have h1 := HF5.out.base; have h2 := lt_of_block HF5.out.blk; simp; omega)
    have HT7 : Hid (∀ w6, (W5.drew.alloc (.cells #[.func (.func 85) #[] #[.pointer (some ⟨w.heap.size, 0, none⟩), .pointer (some ⟨w2.heap.size, 0, none⟩)]] 1)).grownBy w6 (Value.slice a1 us.length c1).ownBlock → w6.cell? ⟨w.heap.size, 0, none⟩ = some (.pointer (some ⟨p, 0, none⟩)) ∧ w6.heap[p]? = some (.cells #[.slice a2 (xs.length + 1) c2, .slice a1 us.length c1] 69 (0, 0))) := hide (fun w6 hg => by
      have st : ∀ k, k < W5.heap.size → (Value.slice a1 us.length c1).ownBlock ≠ some k → w6.heap[k]? = W5.heap[k]? := fun k hk hne => by
        rw [hg.block k (by simp; omega) (fun e => hne e.symm)]
        exact Below.heap_alloc W5.drew _ k hk
      have hu := fun k (e : (Value.slice a1 us.length c1).ownBlock = some k) => (row_at HH.out.bf.undo e).2.1
      exact ⟨cell_of_one ((st _ (lt_of_block J0.out) (fun e => by have := hu _ e; omega)).trans J0.out), (st _ (lt_of_block HF5.out.blk) HF5.out.une).trans HF5.out.blk⟩)
    have HFin : Hid (∀ v6 w6, w6.ownsRow B 1 1 v6 (us.length + 1) (us ++ [.func (.func 85) #[] #[.pointer (some ⟨w.heap.size, 0, none⟩), .pointer (some ⟨w2.heap.size, 0, none⟩)]]) → (W5.drew.alloc (.cells #[.func (.func 85) #[] #[.pointer (some ⟨w.heap.size, 0, none⟩), .pointer (some ⟨w2.heap.size, 0, none⟩)]] 1)).grownBy w6 (Value.slice a1 us.length c1).ownBlock → (v6.ownBlock = (Value.slice a1 us.length c1).ownBlock ∨ v6.ownBlock = some (W5.drew.alloc (.cells #[.func (.func 85) #[] #[.pointer (some ⟨w.heap.size, 0, none⟩), .pointer (some ⟨w2.heap.size, 0, none⟩)]] 1)).heap.size) → ∃ i sv' uv' u, At (pge y.e.key) xs i ∧ Bh (w6.setCell ⟨p, 1, none⟩ v6) p B sv' uv' (ins xs i y) (us ++ [u]) (hs ++ [xs]) ∧ Go1 (Bo p (.slice a0 xs.length c0) (.slice a1 us.length c1)) w (Bo p sv' uv') (w6.setCell ⟨p, 1, none⟩ v6)) := hide (fun v6 w6 ho hg hl => by
      obtain ⟨hbf7, hgo7⟩ := undo_turned (us' := us ++ [.func (.func 85) #[] #[.pointer (some ⟨w.heap.size, 0, none⟩), .pointer (some ⟨w2.heap.size, 0, none⟩)]]) HF5.out ((Below.refl W5.heap.size W5).drew.trans (below_alloc W5.drew _)) hg (by rw [List.length_append]; exact ho) (hl.imp id fun e => ⟨_, e, Nat.le_refl _⟩)
      have hgo := HG5.out.trans hgo7
      refine ⟨i, _, v6, _, HAt.out, HH.out.more hgo.mv (fun k hk => ?_) hbf7 ?_, hgo⟩
      · rcases HL5.out with h | ⟨k', h, hk'⟩
        · left; rw [← h]; exact hk
        · right; rw [h] at hk; cases hk; exact hk'
      · have j0 := hgo7.mv.block _ (lt_of_block J0.out) (fun e => by have := HNB.out _ e; omega)
        have j2 := hgo7.mv.block _ (lt_of_block J2.out) (fun e => by have := HNB.out _ e; omega)
        refine .inr ⟨w.heap.size, w2.heap.size, i, rfl, j0.trans J0.out, j2.trans J2.out, ?_, ?_⟩
        · rw [HLen.out]; have := HAt.out.1; omega
        · exact ins_erase HAt.out.1)
    clear J0s
    obtain ⟨t0, t1, tf⟩ := cells_two HF5.out.blk
    obtain ⟨ta0, ta1, taf⟩ := cells_two ((Below.heap_alloc W5.drew (.cells #[.func (.func 85) #[] #[.pointer (some ⟨w.heap.size, 0, none⟩), .pointer (some ⟨w2.heap.size, 0, none⟩)]] 1) p (lt_of_block HF5.out.blk)).trans HF5.out.blk)
    have tb1 : (W5.alloc (.cells #[.func (.func 85) #[] #[.pointer (some ⟨w.heap.size, 0, none⟩), .pointer (some ⟨w2.heap.size, 0, none⟩)]] 1)).cell? ⟨p, 1, none⟩ = some (.slice a1 us.length c1) := ta1
    refine wp_region_noPanic ?_
    refine wp_region_held_drew (S := (fun W => W.cell? ⟨w.heap.size, 0, none⟩ = some (.pointer (some ⟨p, 0, none⟩)))) (by kernel_rfl) HS7.out (fun _hS => ?_)
    refine wtk (i := 0) (oi := zoscx13) (v := ?v0x2001) rfl ⟨by rfl, ?hy0x2001⟩ (by assumption) ?_
    case hy0x2001 => (intro w s; (try dsimp only at s); first | (go_simp; with_reducible rfl) | go_simp)
    try simp only [Act.put, zps]
    refine wtk (i := 1) (oi := zoscx14) (v := ?v1x2002) rfl ⟨by rfl, ?hy1x2002⟩ (by assumption) ?_
    case hy1x2002 => (intro w s; (try dsimp only at s); first | (go_simp; with_reducible rfl) | go_simp)
    try simp only [Act.put, zps]
    refine wtk (i := 2) (oi := zoscx15) (v := ?v2x2003) rfl ⟨by rfl, ?hy2x2003⟩ (by assumption) ?_
    case hy2x2003 => (intro w s; (try dsimp only at s); first | (go_simp; with_reducible rfl) | go_simp)
    try simp only [Act.put, zps]
    refine wtk (i := 3) (oi := zoscx16) (v := ?v3x2004) rfl ⟨by rfl, ?hy3x2004⟩ (by assumption) ?_
    case hy3x2004 => (intro w s; (try dsimp only at s); first | (go_simp; with_reducible rfl) | go_simp)
    try simp only [Act.put, zps]
    refine wtk (i := 5) (oi := zoscx17) (v := ?v5x2005) rfl ⟨by rfl, ?hy5x2005⟩ (by assumption) ?_
    case hy5x2005 => (intro w s; (try dsimp only at s); first | (go_simp; with_reducible rfl) | go_simp)
    try simp only [Act.put, zps]
    refine wpAnyH_ready (rs := [4, 6]) (by kernel_rfl) (by simp) ?_
    refine AllReadyH.cons (o := zoscx18) rfl (fun K hK => ?_) (AllReadyH.cons (o := zoscx19) rfl (fun K hK => ?_) (AllReadyH.nil))
    · go_simp
      refine hK.out _ _ ?_ (fun _hS => ?_)
      · exact HS7.out
      clear hK K
      try simp only [Act.put, zps]
      refine wpAnyH_ready (rs := [6]) (by kernel_rfl) (by simp) ?_
      refine AllReadyH.cons (o := zoscx19) rfl (fun K hK => ?_) (AllReadyH.nil)
      go_simp
      refine hK.out _ _ ?_ (fun _hS => ?_)
      · exact HSA7.out
      clear hK K
      try simp only [Act.put, zps]
      refine wpAnyH_ready (rs := [7]) (by kernel_rfl) (by simp) ?_
      refine AllReadyH.cons (o := zoscx20) rfl (fun K hK => ?_) (AllReadyH.nil)
      refine step_of rfl ?_
      refine wp_append_at (.tmp 54) (.tmp 56) 67 1 rfl B f0i _ 1 8 Try.underlying67 hf0 hfz hf1 hf2 (by rfl) (by omega) (.slice a1 us.length c1) us.length us rfl HU7.out ⟨W5.heap.size, 0, none⟩ 1 1 [.func (.func 85) #[] #[.pointer (some ⟨w.heap.size, 0, none⟩), .pointer (some ⟨w2.heap.size, 0, none⟩)]] rfl rfl HN7.out (fun u hu => by simp at hu; subst hu; rfl) (by unfold maxLen; omega) (by omega) HB7.out ?_
      intro v6 w6 hown6 hg6 hloc6
      obtain ⟨a6, c6, rfl, -⟩ := row_shape hown6
      have HO6 := hide hown6
      have HG6 := hide hg6
      have HL6 := hide hloc6
      obtain ⟨k0, k3⟩ := HT7.out w6 hg6
      clear hown6 hg6 hloc6
      obtain ⟨s2, s3, f3⟩ := cells_two k3
      have f4 : w6.frozen? ⟨p, 1, none⟩ = false := by simp [World.frozen?, k3]
      have K6 := hide k3
      clear k3
      refine hK.out _ _ ?_ (fun _hS => ?_)
      · exact k0
      clear hK K
      try simp only [Act.put, zps]
      refine wtk (i := 8) (oi := zoscx21) (v := ?v8x2006) rfl ⟨by rfl, ?hy8x2006⟩ (by assumption) ?_
      case hy8x2006 => (intro w s; (try dsimp only at s); first | (go_simp; with_reducible rfl) | go_simp)
      try simp only [Act.put, zps]
      refine wtk (i := 9) (oi := zoscx22) (v := ?v9x2007) rfl ⟨by rfl, ?hy9x2007⟩ (by assumption) ?_
      case hy9x2007 => (intro w s; (try dsimp only at s); first | (go_simp; with_reducible rfl) | go_simp)
      try simp only [Act.put, zps]
      refine wpAnyH_ready (rs := [10]) (by kernel_rfl) (by simp) ?_
      refine AllReadyH.cons (o := zoscx23) rfl (fun K hK => ?_) (AllReadyH.nil)
      go_simp
      refine hK.out _ _ ?_ (fun _hS => ?_)
      · exact (cell_set_ne (by omega)).trans k0
      clear hK K
      try simp only [Act.put, zps]
      refine wpAnyH_done (by kernel_rfl) ?_ _
      refine NoPanic.normal ?_
      go_wp2
      go_end0
      exact ⟨rfl, HFin.out _ _ HO6.out HG6.out HL6.out⟩
    · go_simp
      refine hK.out _ _ ?_ (fun _hS => ?_)
      · exact HSA7.out
      clear hK K
      try simp only [Act.put, zps]
      refine wpAnyH_ready (rs := [4]) (by kernel_rfl) (by simp) ?_
      refine AllReadyH.cons (o := zoscx18) rfl (fun K hK => ?_) (AllReadyH.nil)
      go_simp
      refine hK.out _ _ ?_ (fun _hS => ?_)
      · exact HSA7.out
      clear hK K
      try simp only [Act.put, zps]
      refine wpAnyH_ready (rs := [7]) (by kernel_rfl) (by simp) ?_
      refine AllReadyH.cons (o := zoscx20) rfl (fun K hK => ?_) (AllReadyH.nil)
      refine step_of rfl ?_
      refine wp_append_at (.tmp 54) (.tmp 56) 67 1 rfl B f0i _ 1 8 Try.underlying67 hf0 hfz hf1 hf2 (by rfl) (by omega) (.slice a1 us.length c1) us.length us rfl HU7.out ⟨W5.heap.size, 0, none⟩ 1 1 [.func (.func 85) #[] #[.pointer (some ⟨w.heap.size, 0, none⟩), .pointer (some ⟨w2.heap.size, 0, none⟩)]] rfl rfl HN7.out (fun u hu => by simp at hu; subst hu; rfl) (by unfold maxLen; omega) (by omega) HB7.out ?_
      intro v6 w6 hown6 hg6 hloc6
      obtain ⟨a6, c6, rfl, -⟩ := row_shape hown6
      have HO6 := hide hown6
      have HG6 := hide hg6
      have HL6 := hide hloc6
      obtain ⟨k0, k3⟩ := HT7.out w6 hg6
      clear hown6 hg6 hloc6
      obtain ⟨s2, s3, f3⟩ := cells_two k3
      have f4 : w6.frozen? ⟨p, 1, none⟩ = false := by simp [World.frozen?, k3]
      have K6 := hide k3
      clear k3
      refine hK.out _ _ ?_ (fun _hS => ?_)
      · exact k0
      clear hK K
      try simp only [Act.put, zps]
      refine wtk (i := 8) (oi := zoscx21) (v := ?v8x2008) rfl ⟨by rfl, ?hy8x2008⟩ (by assumption) ?_
      case hy8x2008 => (intro w s; (try dsimp only at s); first | (go_simp; with_reducible rfl) | go_simp)
      try simp only [Act.put, zps]
      refine wtk (i := 9) (oi := zoscx22) (v := ?v9x2009) rfl ⟨by rfl, ?hy9x2009⟩ (by assumption) ?_
      case hy9x2009 => (intro w s; (try dsimp only at s); first | (go_simp; with_reducible rfl) | go_simp)
      try simp only [Act.put, zps]
      refine wpAnyH_ready (rs := [10]) (by kernel_rfl) (by simp) ?_
      refine AllReadyH.cons (o := zoscx23) rfl (fun K hK => ?_) (AllReadyH.nil)
      go_simp
      refine hK.out _ _ ?_ (fun _hS => ?_)
      · exact (cell_set_ne (by omega)).trans k0
      clear hK K
      try simp only [Act.put, zps]
      refine wpAnyH_done (by kernel_rfl) ?_ _
      refine NoPanic.normal ?_
      go_wp2
      go_end0
      exact ⟨rfl, HFin.out _ _ HO6.out HG6.out HL6.out⟩
end Go.Proofs.Ytgohhlngnnmknaa
