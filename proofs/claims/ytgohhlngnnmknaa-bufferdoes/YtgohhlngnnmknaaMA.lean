/- An entry of a buffer's list is written over. -/
import Derived.Test.YtgohhlngnnmknaaSC
import Derived.Test.YtgohhlngnnmknaaE
namespace Go.Proofs.Ytgohhlngnnmknaa
open Go.RowKit Go.Maps
set_option linter.unusedVariables false

theorem set3 (L : List Value) (k : Nat) (a b c : Value) (h : k + 3 ≤ L.length) : ((L.set k a).set (k + 1) b).set (k + 2) c = L.take k ++ [a, b, c] ++ L.drop (k + 3) := by
  induction k generalizing L with
  | zero =>
    match L, h with
    | x :: y :: z :: t, _ => simp
  | succ k ih =>
    match L, h with
    | x :: t, h =>
      have := ih t (by simp at h; omega)
      rw [show k + 1 + 1 = (k + 1) + 1 from rfl, show k + 1 + 2 = (k + 2) + 1 from rfl, show k + 1 + 3 = (k + 3) + 1 from rfl]
      simp only [List.set_cons_succ, List.take_succ_cons, List.drop_succ_cons, List.cons_append]
      rw [this]
theorem rowc_take (xs : List En) (k : Nat) : rowc (xs.take k) = (rowc xs).take (k * 3) := by
  by_cases h : k ≤ xs.length
  · conv => rhs; rw [← List.take_append_drop k xs, rowc_app]
    rw [List.take_left' (by rw [rowc_len, List.length_take]; omega)]
  · rw [List.take_of_length_le (by omega), List.take_of_length_le (by rw [rowc_len]; omega)]
theorem rowc_set (xs : List En) (i : Nat) (y : En) (h : i < xs.length) : rowc (xs.set i y) = (rowc xs).take (i * 3) ++ y.cells ++ (rowc xs).drop (i * 3 + 3) := by
  rw [List.set_eq_take_append_cons_drop, if_pos h, rowc_app, rowc_take]
  have e : rowc (y :: xs.drop (i + 1)) = y.cells ++ rowc (xs.drop (i + 1)) := by simp [rowc]
  rw [e, rowc_drop, List.append_assoc, show (i + 1) * 3 = i * 3 + 3 by omega]
/-- the cells of the entry at i, written over. -/
def over3 (w : World) (g i : Nat) (y : En) : World := ((w.setCell ⟨g, i * 3, none⟩ (.slice y.ka y.e.key.length y.kc)).setCell ⟨g, i * 3 + 1, none⟩ (.slice y.va y.e.val.length y.vc)).setCell ⟨g, i * 3 + 2, none⟩ (.bool y.e.del)
theorem over3_other {w : World} {g i k : Nat} {y : En} (h : k ≠ g) : (over3 w g i y).heap[k]? = w.heap[k]? := by
  unfold over3
  rw [Below.heap_setCell _ _ _ _ h, Below.heap_setCell _ _ _ _ h, Below.heap_setCell _ _ _ _ h]
theorem over3_row {w : World} {B g n c i : Nat} {xs : List En} {y : En} (hl : xs.length = n) (h : w.ownsRow B 85 3 (.slice (some ⟨g, 0, none⟩) n c) n (rowc xs)) (hi : i < n) :
    (over3 w g i y).ownsRow B 85 3 (.slice (some ⟨g, 0, none⟩) n c) n (rowc (xs.set i y)) := by
  obtain ⟨h1, h2⟩ := h
  rcases h2 with ⟨e, _⟩ | ⟨g', cap, cur, e, hb, hg, hnc, hcm, hcs, htk⟩
  · cases e
  · simp only [Value.slice.injEq, Option.some.injEq, Addr.mk.injEq, and_true, true_and] at e
    obtain ⟨rfl, rfl⟩ := e
    have e1 := heap_setCell_same w g (i * 3) _ 85 (.slice y.ka y.e.key.length y.kc) hg
    have e2 := heap_setCell_same _ g (i * 3 + 1) _ 85 (.slice y.va y.e.val.length y.vc) e1
    have e3 := heap_setCell_same _ g (i * 3 + 2) _ 85 (.bool y.e.del) e2
    refine ⟨by rw [rowc_len, List.length_set, hl], .inr ⟨g, c, _, rfl, hb, e3, hnc, hcm, by simp [hcs], ?_⟩⟩
    simp only [Array.toList_setIfInBounds]
    rw [set3 _ _ _ _ _ (by rw [Array.length_toList, hcs]; omega), rowc_set _ _ _ (by omega), ← htk]
    have hln : cur.toList.length = c * 3 := by rw [Array.length_toList, hcs]
    rw [List.take_take, Nat.min_eq_left (by omega), List.drop_take, List.append_assoc, List.append_assoc, List.take_append, List.take_of_length_le (by rw [List.length_take]; omega), List.length_take, Nat.min_eq_left (by omega)]
    congr 1
    rw [List.take_append, List.take_of_length_le (by simp; omega)]
    simp only [List.length_cons, List.length_nil]
    rw [show n * 3 - i * 3 - (0 + 1 + 1 + 1) = n * 3 - (i * 3 + 3) by omega]
    rfl
theorem over3_mv {w : World} {p g i n c : Nat} {uv : Value} {y : En} : Mv (Bo p (.slice (some ⟨g, 0, none⟩) n c) uv) w (over3 w g i y) :=
  (((Mv.refl _ w).setB (b := g) (.inr (.inl rfl)) _ _).setB (b := g) (.inr (.inl rfl)) _ _).setB (b := g) (.inr (.inl rfl)) _ _
theorem said_over {w : World} {p B g c i : Nat} {uv : Value} {xs : List En} {us : List Value} {y : En} (hb : Bf w p B (.slice (some ⟨g, 0, none⟩) xs.length c) uv xs us) (hi : i < xs.length) (hy : y.Own B w) :
    Bf (over3 w g i y) p B (.slice (some ⟨g, 0, none⟩) xs.length c) uv (xs.set i y) us ∧ Go1 (Bo p (.slice (some ⟨g, 0, none⟩) xs.length c) uv) w (Bo p (.slice (some ⟨g, 0, none⟩) xs.length c) uv) (over3 w g i y) := by
  have hm : Mv (Bo p (.slice (some ⟨g, 0, none⟩) xs.length c) uv) w (over3 w g i y) := over3_mv
  have hgp : p ≠ g := fun e => hb.sne (by rw [e]; rfl)
  refine ⟨⟨(over3_other hgp).trans hb.blk, by rw [List.length_set]; exact over3_row rfl hb.said hi, row_of_block hb.undo fun k hk => over3_other fun e => hb.sune (k := g) rfl (by rw [← e]; exact hk), fun x hx => ?_, hb.base⟩, hm, fun k hk => .inl hk⟩
  rcases List.mem_or_eq_of_mem_set hx with hx | rfl
  · exact hb.own_move hm (hb.each x hx)
  · exact hb.own_move hm hy
end Go.Proofs.Ytgohhlngnnmknaa
/- say: a Put or a Delete of a key of which something was said. -/
namespace Go.Proofs.Ytgohhlngnnmknaa
open Go.RowKit Go.Maps
set_option linter.unusedVariables false
abbrev zosex1 : Oper := { dst := some 15, op := Op.load 25 (Operand.tmp 2), type := 25, pos := "mark.go:28", after := #[], guard := none }
abbrev zosex2 : Oper := { dst := some 16, op := Op.nilCheck (Operand.tmp 15), type := 0, pos := "mark.go:28", after := #[{ on := 0, ground := Ground.data }], guard := none }
abbrev zosex3 : Oper := { dst := some 17, op := Op.fieldAddr 69 (Operand.tmp 16) 0, type := 0, pos := "mark.go:28", after := #[{ on := 1, ground := Ground.data }], guard := none }
abbrev zosex4 : Oper := { dst := some 18, op := Op.load 30 (Operand.tmp 17), type := 30, pos := "mark.go:28", after := #[{ on := 2, ground := Ground.data }], guard := none }
abbrev zosex5 : Oper := { dst := some 19, op := Op.load 3 (Operand.tmp 4), type := 3, pos := "mark.go:28", after := #[], guard := none }
abbrev zosex6 : Oper := { dst := some 20, op := Op.indexAddr 30 (Operand.tmp 18) (Operand.tmp 19), type := 0, pos := "mark.go:28", after := #[{ on := 3, ground := Ground.data }, { on := 4, ground := Ground.data }], guard := none }
abbrev zosex7 : Oper := { dst := some 21, op := Op.load 85 (Operand.tmp 20), type := 85, pos := "mark.go:28", after := #[{ on := 5, ground := Ground.data }], guard := none }
abbrev zosex8 : Oper := { dst := some 6, op := Op.alloc 85, type := 0, pos := "mark.go:28", after := #[], guard := none }
abbrev zosex9 : Oper := { dst := none, op := Op.store 85 (Operand.tmp 6) (Operand.tmp 21), type := 0, pos := "mark.go:28", after := #[{ on := 7, ground := Ground.data }, { on := 6, ground := Ground.data }, { on := 0, ground := Ground.phase }, { on := 1, ground := Ground.phase }, { on := 2, ground := Ground.phase }, { on := 3, ground := Ground.phase }, { on := 4, ground := Ground.phase }, { on := 5, ground := Ground.phase }, { on := 6, ground := Ground.phase }, { on := 7, ground := Ground.phase }], guard := none }
abbrev zosex10 : Oper := { dst := some 22, op := Op.load 25 (Operand.tmp 2), type := 25, pos := "mark.go:29", after := #[], guard := none }
abbrev zosex11 : Oper := { dst := some 23, op := Op.nilCheck (Operand.tmp 22), type := 0, pos := "mark.go:29", after := #[{ on := 0, ground := Ground.data }], guard := none }
abbrev zosex12 : Oper := { dst := some 24, op := Op.fieldAddr 69 (Operand.tmp 23) 0, type := 0, pos := "mark.go:29", after := #[{ on := 1, ground := Ground.data }], guard := none }
abbrev zosex13 : Oper := { dst := some 25, op := Op.load 30 (Operand.tmp 24), type := 30, pos := "mark.go:29", after := #[{ on := 2, ground := Ground.data }], guard := none }
abbrev zosex14 : Oper := { dst := some 26, op := Op.load 3 (Operand.tmp 4), type := 3, pos := "mark.go:29", after := #[], guard := none }
abbrev zosex15 : Oper := { dst := some 27, op := Op.load 85 (Operand.tmp 3), type := 85, pos := "mark.go:29", after := #[], guard := none }
abbrev zosex16 : Oper := { dst := some 28, op := Op.indexAddr 30 (Operand.tmp 25) (Operand.tmp 26), type := 0, pos := "mark.go:29", after := #[{ on := 3, ground := Ground.data }, { on := 4, ground := Ground.data }, { on := 0, ground := Ground.phase }, { on := 1, ground := Ground.phase }, { on := 2, ground := Ground.phase }, { on := 3, ground := Ground.phase }, { on := 4, ground := Ground.phase }, { on := 5, ground := Ground.phase }], guard := none }
abbrev zosex17 : Oper := { dst := none, op := Op.store 85 (Operand.tmp 28) (Operand.tmp 27), type := 0, pos := "mark.go:29", after := #[{ on := 6, ground := Ground.data }, { on := 5, ground := Ground.data }, { on := 0, ground := Ground.phase }, { on := 1, ground := Ground.phase }, { on := 2, ground := Ground.phase }, { on := 3, ground := Ground.phase }, { on := 4, ground := Ground.phase }, { on := 5, ground := Ground.phase }], guard := none }
abbrev zosex18 : Oper := { dst := some 29, op := Op.load 25 (Operand.tmp 2), type := 25, pos := "mark.go:30", after := #[], guard := none }
abbrev zosex19 : Oper := { dst := some 30, op := Op.load 25 (Operand.tmp 2), type := 25, pos := "mark.go:30", after := #[], guard := none }
abbrev zosex20 : Oper := { dst := some 31, op := Op.nilCheck (Operand.tmp 30), type := 0, pos := "mark.go:30", after := #[{ on := 1, ground := Ground.data }], guard := none }
abbrev zosex21 : Oper := { dst := some 32, op := Op.fieldAddr 69 (Operand.tmp 31) 1, type := 0, pos := "mark.go:30", after := #[{ on := 2, ground := Ground.data }], guard := none }
abbrev zosex22 : Oper := { dst := some 34, op := Op.makeFunc (Fn.func 83) #[] #[Operand.tmp 6, Operand.tmp 2, Operand.tmp 4], type := 1, pos := "mark.go:30", after := #[], guard := none }
abbrev zosex23 : Oper := { dst := some 33, op := Op.load 67 (Operand.tmp 32), type := 67, pos := "mark.go:30", after := #[{ on := 3, ground := Ground.data }], guard := none }
abbrev zosex24 : Oper := { dst := some 35, op := Op.buildSlice 67 1 #[(0, Operand.tmp 34)], type := 67, pos := "mark.go:30", after := #[{ on := 5, ground := Ground.data }], guard := none }
abbrev zosex25 : Oper := { dst := some 36, op := Op.call { callee := Callee.builtin Builtin.append, args := #[Operand.tmp 33, Operand.tmp 35], argTypes := #[67, 67] }, type := 67, pos := "mark.go:30", after := #[{ on := 4, ground := Ground.data }, { on := 6, ground := Ground.data }], guard := none }
abbrev zosex26 : Oper := { dst := some 37, op := Op.nilCheck (Operand.tmp 29), type := 0, pos := "mark.go:30", after := #[{ on := 0, ground := Ground.data }, { on := 0, ground := Ground.phase }, { on := 1, ground := Ground.phase }, { on := 2, ground := Ground.phase }, { on := 3, ground := Ground.phase }, { on := 4, ground := Ground.phase }, { on := 5, ground := Ground.phase }, { on := 6, ground := Ground.phase }, { on := 7, ground := Ground.phase }], guard := none }
abbrev zosex27 : Oper := { dst := some 38, op := Op.fieldAddr 69 (Operand.tmp 37) 1, type := 0, pos := "mark.go:30", after := #[{ on := 8, ground := Ground.data }, { on := 0, ground := Ground.phase }, { on := 1, ground := Ground.phase }, { on := 2, ground := Ground.phase }, { on := 3, ground := Ground.phase }, { on := 4, ground := Ground.phase }, { on := 5, ground := Ground.phase }, { on := 6, ground := Ground.phase }, { on := 7, ground := Ground.phase }], guard := none }
abbrev zosex28 : Oper := { dst := none, op := Op.store 67 (Operand.tmp 38) (Operand.tmp 36), type := 0, pos := "mark.go:30", after := #[{ on := 9, ground := Ground.data }, { on := 7, ground := Ground.data }, { on := 7, ground := Ground.chain }, { on := 0, ground := Ground.phase }, { on := 1, ground := Ground.phase }, { on := 2, ground := Ground.phase }, { on := 3, ground := Ground.phase }, { on := 4, ground := Ground.phase }, { on := 5, ground := Ground.phase }, { on := 6, ground := Ground.phase }, { on := 7, ground := Ground.phase }], guard := none }

theorem set_same {α : Type} {l : List α} {i : Nat} {x : α} (h : l[i]? = some x) : l = l.set i x := by
  obtain ⟨hi, rfl⟩ := List.getElem?_eq_some_iff.1 h
  rw [List.set_getElem_self]
set_option maxHeartbeats 3200000 in
set_option maxRecDepth 1000000 in
theorem say_old {w : World} {p B : Nat} {sv uv : Value} {xs : List En} {us : List Value} {hs : List (List En)} (h : Bh w p B sv uv xs us hs) (y : En) (hy : y.Own B w) (hB : B ≤ w.heap.size) (hn : xs.length ≤ 900000) (hu : us.length ≤ 900000)
    (hth : ∀ i, At (pge y.e.key) xs i → ther xs i y.e.key = true) :
    Calls Try.prog 67 #[.pointer (some ⟨p, 0, none⟩), .agg #[.slice y.ka y.e.key.length y.kc, .slice y.va y.e.val.length y.vc, .bool y.e.del]] w fun e w' => e = .returned (.tuple #[]) ∧ ∃ i sv' uv' u, At (pge y.e.key) xs i ∧ Bh w' p B sv' uv' (xs.set i y) (us ++ [u]) (hs ++ [xs]) ∧ Go1 (Bo p sv uv) w (Bo p sv' uv') w' := by
  obtain ⟨w1, hw1⟩ : ∃ w1, w1 = (w.alloc (.cells #[.pointer (some ⟨p, 0, none⟩)] 25)).alloc (.cells #[.slice y.ka y.e.key.length y.kc, .slice y.va y.e.val.length y.vc, .bool y.e.del] 85) := ⟨_, rfl⟩
  have hB1 : Below w.heap.size w w1 := by rw [hw1]; exact two_alloc _ _
  have hb0 : w1.heap[w.heap.size]? = some (.cells #[.pointer (some ⟨p, 0, none⟩)] 25 (0, 0)) := by rw [hw1]; exact (Below.heap_alloc _ _ _ (by simp)).trans (heap_alloc_new w _)
  have hb1 : w1.heap[w.heap.size + 1]? = some (.cells #[.slice y.ka y.e.key.length y.kc, .slice y.va y.e.val.length y.vc, .bool y.e.del] 85 (0, 0)) := by
    rw [hw1]
    have := heap_alloc_new (w.alloc (.cells #[.pointer (some ⟨p, 0, none⟩)] 25)) (.cells #[.slice y.ka y.e.key.length y.kc, .slice y.va y.e.val.length y.vc, .bool y.e.del] 85)
    rwa [World.size_alloc] at this
  have hs1 : w1.heap.size = w.heap.size + 2 := by rw [hw1]; simp
  have hp0 := cell_of_one hb0
  obtain ⟨q0, q1, q2, -⟩ := cells_three hb1
  have HF := hide (find_any (h.bf.below hB1) y.ka y.e.key.length y.kc y.e.key (hy.ok.key.below hB1) (by omega))
  have HB1 := hide hB1
  have HB0 := hide hb0
  have HBq := hide hb1
  have HS1 := hide hs1
  have HH := hide h
  have HY := hide hy
  have HT := hide hth
  clear h hB1 hb0 hb1 hs1 hy hth
  obtain ⟨f0i, hf0, hfz, hf1, hf2⟩ := info_parts Try.infoF
  have hmf : ∀ (fn : Fn) (first cap : Array Value) (w : World), (Instr.makeFunc fn first cap).run Try.prog w = .ok (.func fn first cap) w := fun _ _ _ _ => rfl
  go_enter Try.func67, Try.ntmps67
  go_wp2_with fail
  rw [← hw1]
  clear hw1
  go_wp2_with (go_at_call 74; refine HF.out.mono ?_; rintro e w2 ⟨i, rfl, hat, hb2⟩; rw [HT.out i hat]; have HAt := hide hat; have HB2 := hide hb2; have hp2 := cell_of_one ((HB2.out.block _ (lt_of_block HB0.out)).trans HB0.out); clear hat hb2)
  obtain ⟨W3, hW3⟩ : ∃ W3, W3 = w2.alloc (.cells #[.int .i64 (i : Int)] 3) := ⟨_, rfl⟩
  have hB3 : Below w1.heap.size w1 W3 := by rw [hW3]; exact HB2.out.alloc HB2.out.size _
  have hb3 : W3.heap[w2.heap.size]? = some (.cells #[.int .i64 (i : Int)] 3 (0, 0)) := by rw [hW3]; exact heap_alloc_new w2 _
  rw [← hW3]
  clear hW3 hp2 hp0 q0 q1 q2
  have hsz3 : w1.heap.size ≤ w2.heap.size := HB2.out.size
  have hlt3 : w2.heap.size < W3.heap.size := lt_of_block hb3
  have hbb := (hB3.block _ (lt_of_block HB0.out)).trans HB0.out
  have hbq := (hB3.block _ (lt_of_block HBq.out)).trans HBq.out
  have hBw3 : Below w.heap.size w W3 := HB1.out.trans (hB3.mono HB1.out.size)
  have hf3 := HH.out.bf.below hBw3
  obtain ⟨a0, c0, rfl, hc1, hc2, hc3, hc4⟩ := row_shape HH.out.bf.said
  obtain ⟨a1, c1, rfl, hd1, hd2, hd3, hd4⟩ := row_shape HH.out.bf.undo
  obtain ⟨x, hx, hxk⟩ : ∃ x, xs[i]? = some x ∧ x.e.key = y.e.key := by
    have := HT.out i HAt.out
    unfold ther at this
    split at this
    · rename_i x hx; exact ⟨x, hx, of_decide_eq_true this⟩
    · cases this
  have hil : i < xs.length := (List.getElem?_eq_some_iff.1 hx).1
  obtain ⟨g, rfl⟩ : ∃ g, a0 = some ⟨g, 0, none⟩ := hc4.elim (fun e => by have := (hc3 e).1; omega) id
  have hrc : ∀ j u, x.cells[j]? = some u → W3.cell? ⟨g, i * 3 + j, none⟩ = some u := fun j u hu => by
    have := hf3.said.cells (g := g) rfl (i * 3 + j) u (rowc_at hx hu)
    rw [Addr.add_lit] at this
    simpa using this
  have r0 : W3.cell? ⟨g, i * 3, none⟩ = some (.slice x.ka x.e.key.length x.kc) := by simpa using hrc 0 _ rfl
  have r1 : W3.cell? ⟨g, i * 3 + 1, none⟩ = some (.slice x.va x.e.val.length x.vc) := hrc 1 _ rfl
  have r2 : W3.cell? ⟨g, i * 3 + 2, none⟩ = some (.bool x.e.del) := hrc 2 _ rfl
  have hp3 := cell_of_one hbb
  have hi3 := cell_of_one hb3
  obtain ⟨q0, q1, q2, -⟩ := cells_three hbq
  obtain ⟨s0, s1, f0⟩ := cells_two hf3.blk
  have HB3 := hide hB3
  have Hb3 := hide hb3
  have Hbb := hide hbb
  have Hbq := hide hbq
  have HBw := hide hBw3
  have HF3 := hide hf3
  have HX := hide hx
  have hd0 : (0 : Int) ≤ (i : Int) := by omega
  have hd1 : (i : Int) < (xs.length : Int) := by omega
  clear hB3 hb3 hbb hbq hBw3 hf3 hc1 hc2 hc3 hc4 hd1 hd2 hd3 hd4 hx hxk hrc
  have hd1 : (i : Int) < (xs.length : Int) := by omega
  have hpw : p < w.heap.size := lt_of_block HH.out.bf.blk
  have hgw : g < w.heap.size := (row_at HH.out.bf.said (k := g) rfl).2.1
  have hgp : g ≠ p := fun e => HH.out.bf.sne (by rw [← e]; rfl)
  have hwsz : w.heap.size ≤ w2.heap.size := by have := HS1.out; omega
  have HK3 : Hid (∀ W : World, (∀ k, k < W3.heap.size → W.heap[k]? = W3.heap[k]?) → W.cell? ⟨w.heap.size, 0, none⟩ = some (.pointer (some ⟨p, 0, none⟩)) ∧ W.cell? ⟨p, 0, none⟩ = some (.slice (some ⟨g, 0, none⟩) xs.length c0) ∧ W.cell? ⟨w2.heap.size, 0, none⟩ = some (.int .i64 (i : Int)) ∧ W.cell? ⟨g, i * 3, none⟩ = some (.slice x.ka x.e.key.length x.kc) ∧ W.cell? ⟨g, i * 3 + 1, none⟩ = some (.slice x.va x.e.val.length x.vc) ∧ W.cell? ⟨g, i * 3 + 2, none⟩ = some (.bool x.e.del)) := hide (fun W hW => by
    have st : ∀ k j, k < W3.heap.size → W.cell? ⟨k, j, none⟩ = W3.cell? ⟨k, j, none⟩ := fun k j hk => by simp only [World.cell?]; rw [hW k hk]
    exact ⟨(st _ _ (by omega)).trans hp3, (st _ _ (by omega)).trans s0, (st _ _ (by omega)).trans hi3, (st _ _ (by omega)).trans r0, (st _ _ (by omega)).trans r1, (st _ _ (by omega)).trans r2⟩)
  refine wp_region_noPanic ?_
  refine wp_region_held_drew (S := (fun W => W.cell? ⟨w.heap.size, 0, none⟩ = some (.pointer (some ⟨p, 0, none⟩)) ∧ W.cell? ⟨p, 0, none⟩ = some (.slice (some ⟨g, 0, none⟩) xs.length c0) ∧ W.cell? ⟨w2.heap.size, 0, none⟩ = some (.int .i64 (i : Int)) ∧ W.cell? ⟨g, i * 3, none⟩ = some (.slice x.ka x.e.key.length x.kc) ∧ W.cell? ⟨g, i * 3 + 1, none⟩ = some (.slice x.va x.e.val.length x.vc) ∧ W.cell? ⟨g, i * 3 + 2, none⟩ = some (.bool x.e.del))) (by kernel_rfl) ⟨hp3, s0, hi3, r0, r1, r2⟩ (fun _hS => ?_)
  refine wtk (i := 0) (oi := zosex1) (v := ?v0x301) rfl ⟨by rfl, ?hy0x301⟩ (by assumption) ?_
  case hy0x301 => (intro w s; (try dsimp only at s); first | (go_simp; with_reducible rfl) | go_simp)
  try simp only [Act.put, zps]
  refine wtk (i := 1) (oi := zosex2) (v := ?v1x302) rfl ⟨by rfl, ?hy1x302⟩ (by assumption) ?_
  case hy1x302 => (intro w s; (try dsimp only at s); first | (go_simp; with_reducible rfl) | go_simp)
  try simp only [Act.put, zps]
  refine wtk (i := 2) (oi := zosex3) (v := ?v2x303) rfl ⟨by rfl, ?hy2x303⟩ (by assumption) ?_
  case hy2x303 => (intro w s; (try dsimp only at s); first | (go_simp; with_reducible rfl) | go_simp)
  try simp only [Act.put, zps]
  refine wtk (i := 3) (oi := zosex4) (v := ?v3x304) rfl ⟨by rfl, ?hy3x304⟩ (by assumption) ?_
  case hy3x304 => (intro w s; (try dsimp only at s); first | (go_simp; with_reducible rfl) | go_simp)
  try simp only [Act.put, zps]
  refine wtk (i := 4) (oi := zosex5) (v := ?v4x305) rfl ⟨by rfl, ?hy4x305⟩ (by assumption) ?_
  case hy4x305 => (intro w s; (try dsimp only at s); first | (go_simp; with_reducible rfl) | go_simp)
  try simp only [Act.put, zps]
  refine wtk (i := 5) (oi := zosex6) (v := ?v5x306) rfl ⟨by rfl, ?hy5x306⟩ (by assumption) ?_
  case hy5x306 => (intro w s; (try dsimp only at s); first | (go_simp; with_reducible rfl) | go_simp)
  try simp only [Act.put, zps]
  refine wtk (i := 6) (oi := zosex7) (v := ?v6x307) rfl ⟨by rfl, ?hy6x307⟩ (by assumption) ?_
  case hy6x307 => (intro w s; (try dsimp only at s); first | (go_simp; with_reducible rfl) | go_simp)
  try simp only [Act.put, zps]
  refine wpAnyH_ready (rs := [7]) (by kernel_rfl) (by simp) ?_
  refine AllReadyH.cons (o := zosex8) rfl (fun K hK => ?_) (AllReadyH.nil)
  go_simp
  refine hK.out _ _ ?_ (fun _hS => ?_)
  · exact (HK3.out _ fun k hk => Below.heap_alloc W3.drew _ k hk)
  clear hK K
  try simp only [Act.put, zps]
  refine wpAnyH_ready (rs := [8]) (by kernel_rfl) (by simp) ?_
  refine AllReadyH.cons (o := zosex9) rfl (fun K hK => ?_) (AllReadyH.nil)
  go_simp
  refine hK.out _ _ ?_ (fun _hS => ?_)
  · exact (HK3.out _ fun k hk => Below.heap_alloc W3.drew _ k hk)
  clear hK K
  try simp only [Act.put, zps]
  refine wpAnyH_done (by kernel_rfl) ?_ _
  refine NoPanic.normal ?_
  go_wp2
  obtain ⟨W4, hW4⟩ : ∃ W4, W4 = (W3.alloc (.cells #[.slice x.ka x.e.key.length x.kc, .slice x.va x.e.val.length x.vc, .bool x.e.del] 85)).drew := ⟨_, rfl⟩
  have hst4 : ∀ k, k < W3.heap.size → W4.heap[k]? = W3.heap[k]? := fun k hk => by rw [hW4]; exact Below.heap_alloc W3 _ k hk
  have hob4 : W4.heap[W3.heap.size]? = some (.cells #[.slice x.ka x.e.key.length x.kc, .slice x.va x.e.val.length x.vc, .bool x.e.del] 85 (0, 0)) := by rw [hW4]; exact heap_alloc_new W3 _
  have hB4 : Below w.heap.size w W4 := by rw [hW4]; exact (HBw.out.trans ((below_alloc W3 _).mono HBw.out.size)).drew
  rw [← hW4]
  clear hW4 hp3 hi3 q0 q1 q2 s0 s1 f0 r0 r1 r2
  have hbb4 := (hst4 _ (lt_of_block Hbb.out)).trans Hbb.out
  have hbq4 := (hst4 _ (lt_of_block Hbq.out)).trans Hbq.out
  have hbi4 := (hst4 _ (lt_of_block Hb3.out)).trans Hb3.out
  have hf4 := HH.out.bf.below hB4
  have hp4 := cell_of_one hbb4
  have hi4 := cell_of_one hbi4
  obtain ⟨q0, q1, q2, -⟩ := cells_three hbq4
  obtain ⟨s0, s1, f0⟩ := cells_two hf4.blk
  obtain ⟨cur4, hcur4⟩ := (row_at hf4.said (k := g) rfl).2.2
  have hrc : ∀ j u, x.cells[j]? = some u → W4.cell? ⟨g, i * 3 + j, none⟩ = some u := fun j u hu => by
    have := hf4.said.cells (g := g) rfl (i * 3 + j) u (rowc_at HX.out hu)
    rw [Addr.add_lit] at this
    simpa using this
  have r0 : W4.cell? ⟨g, i * 3, none⟩ = some (.slice x.ka x.e.key.length x.kc) := by simpa using hrc 0 _ rfl
  have r1 : W4.cell? ⟨g, i * 3 + 1, none⟩ = some (.slice x.va x.e.val.length x.vc) := hrc 1 _ rfl
  have r2 : W4.cell? ⟨g, i * 3 + 2, none⟩ = some (.bool x.e.del) := hrc 2 _ rfl
  have rf : ∀ j, W4.frozen? ⟨g, j, none⟩ = false := fun j => by simp [World.frozen?, hcur4]
  have rf0 := rf (i * 3)
  have rf1 := rf (i * 3 + 1)
  have rf2 := rf (i * 3 + 2)
  have HB4 := hide hB4
  have Hob := hide hob4
  have Kbb := hide hbb4
  have Kbq := hide hbq4
  have Kbi := hide hbi4
  have HF4 := hide hf4
  clear hst4 hob4 hB4 hbb4 hbq4 hbi4 hf4 hcur4 hrc rf
  have HK4 : Hid (∀ W : World, (∀ k, k ≠ g → W.heap[k]? = W4.heap[k]?) → W.cell? ⟨w.heap.size, 0, none⟩ = some (.pointer (some ⟨p, 0, none⟩)) ∧ W.cell? ⟨p, 0, none⟩ = some (.slice (some ⟨g, 0, none⟩) xs.length c0) ∧ W.cell? ⟨w2.heap.size, 0, none⟩ = some (.int .i64 (i : Int)) ∧ W.cell? ⟨w.heap.size + 1, 0, none⟩ = some (.slice y.ka y.e.key.length y.kc) ∧ W.cell? ⟨w.heap.size + 1, 1, none⟩ = some (.slice y.va y.e.val.length y.vc) ∧ W.cell? ⟨w.heap.size + 1, 2, none⟩ = some (.bool y.e.del)) := hide (fun W hW => by
    have st : ∀ k j, k ≠ g → W.cell? ⟨k, j, none⟩ = W4.cell? ⟨k, j, none⟩ := fun k j hk => by simp only [World.cell?]; rw [hW k hk]
    exact ⟨(st _ _ (by omega)).trans hp4, (st _ _ (by omega)).trans s0, (st _ _ (by omega)).trans hi4, (st _ _ (by omega)).trans q0, (st _ _ (by omega)).trans q1, (st _ _ (by omega)).trans q2⟩)
  refine wp_region_noPanic ?_
  refine wp_region_held_drew (S := (fun W => W.cell? ⟨w.heap.size, 0, none⟩ = some (.pointer (some ⟨p, 0, none⟩)) ∧ W.cell? ⟨p, 0, none⟩ = some (.slice (some ⟨g, 0, none⟩) xs.length c0) ∧ W.cell? ⟨w2.heap.size, 0, none⟩ = some (.int .i64 (i : Int)) ∧ W.cell? ⟨w.heap.size + 1, 0, none⟩ = some (.slice y.ka y.e.key.length y.kc) ∧ W.cell? ⟨w.heap.size + 1, 1, none⟩ = some (.slice y.va y.e.val.length y.vc) ∧ W.cell? ⟨w.heap.size + 1, 2, none⟩ = some (.bool y.e.del))) (by kernel_rfl) ⟨hp4, s0, hi4, q0, q1, q2⟩ (fun _hS => ?_)
  refine wtk (i := 0) (oi := zosex10) (v := ?v0x401) rfl ⟨by rfl, ?hy0x401⟩ (by assumption) ?_
  case hy0x401 => (intro w s; (try dsimp only at s); first | (go_simp; with_reducible rfl) | go_simp)
  try simp only [Act.put, zps]
  refine wtk (i := 1) (oi := zosex11) (v := ?v1x402) rfl ⟨by rfl, ?hy1x402⟩ (by assumption) ?_
  case hy1x402 => (intro w s; (try dsimp only at s); first | (go_simp; with_reducible rfl) | go_simp)
  try simp only [Act.put, zps]
  refine wtk (i := 2) (oi := zosex12) (v := ?v2x403) rfl ⟨by rfl, ?hy2x403⟩ (by assumption) ?_
  case hy2x403 => (intro w s; (try dsimp only at s); first | (go_simp; with_reducible rfl) | go_simp)
  try simp only [Act.put, zps]
  refine wtk (i := 3) (oi := zosex13) (v := ?v3x404) rfl ⟨by rfl, ?hy3x404⟩ (by assumption) ?_
  case hy3x404 => (intro w s; (try dsimp only at s); first | (go_simp; with_reducible rfl) | go_simp)
  try simp only [Act.put, zps]
  refine wtk (i := 4) (oi := zosex14) (v := ?v4x405) rfl ⟨by rfl, ?hy4x405⟩ (by assumption) ?_
  case hy4x405 => (intro w s; (try dsimp only at s); first | (go_simp; with_reducible rfl) | go_simp)
  try simp only [Act.put, zps]
  refine wtk (i := 5) (oi := zosex15) (v := ?v5x406) rfl ⟨by rfl, ?hy5x406⟩ (by assumption) ?_
  case hy5x406 => (intro w s; (try dsimp only at s); first | (go_simp; with_reducible rfl) | go_simp)
  try simp only [Act.put, zps]
  refine wtk (i := 6) (oi := zosex16) (v := ?v6x407) rfl ⟨by rfl, ?hy6x407⟩ (by assumption) ?_
  case hy6x407 => (intro w s; (try dsimp only at s); first | (go_simp; with_reducible rfl) | go_simp)
  try simp only [Act.put, zps]
  refine wpAnyH_ready (rs := [7]) (by kernel_rfl) (by simp) ?_
  refine AllReadyH.cons (o := zosex17) rfl (fun K hK => ?_) (AllReadyH.nil)
  go_simp
  refine hK.out _ _ ?_ (fun _hS => ?_)
  · exact (HK4.out _ fun k hk => over3_other (w := W4) (i := i) (y := y) hk)
  clear hK K
  try simp only [Act.put, zps]
  refine wpAnyH_done (by kernel_rfl) ?_ _
  refine NoPanic.normal ?_
  go_wp2
  change Code.wp _ _ _ _ (over3 W4 g i y).drew
  obtain ⟨hbf5', hgo5'⟩ := said_over (y := y) HF4.out hil (HY.out.below HB4.out)
  have hbf5 : Bf (over3 W4 g i y).drew p B (.slice (some ⟨g, 0, none⟩) xs.length c0) (.slice a1 us.length c1) (xs.set i y) us := hbf5'.below (Below.refl _ _).drew
  have hgo5 : Go1 (Bo p (.slice (some ⟨g, 0, none⟩) xs.length c0) (.slice a1 us.length c1)) w (Bo p (.slice (some ⟨g, 0, none⟩) xs.length c0) (.slice a1 us.length c1)) (over3 W4 g i y).drew := ((Go1.of_below HB4.out).trans hgo5').drew
  have J0' : (over3 W4 g i y).drew.heap[w.heap.size]? = some (.cells #[.pointer (some ⟨p, 0, none⟩)] 25 (0, 0)) := (over3_other (by omega)).trans Kbb.out
  have J2' : (over3 W4 g i y).drew.heap[w2.heap.size]? = some (.cells #[.int .i64 (i : Int)] 3 (0, 0)) := (over3_other (by omega)).trans Kbi.out
  have J3' : (over3 W4 g i y).drew.heap[W3.heap.size]? = some (.cells #[.slice x.ka x.e.key.length x.kc, .slice x.va x.e.val.length x.vc, .bool x.e.del] 85 (0, 0)) := (over3_other (by omega)).trans Hob.out
  have HL5 : Hid ((Value.slice (some ⟨g, 0, none⟩) xs.length c0).ownBlock = (Value.slice (some ⟨g, 0, none⟩) xs.length c0).ownBlock ∨ ∃ k, (Value.slice (some ⟨g, 0, none⟩) xs.length c0).ownBlock = some k ∧ w.heap.size ≤ k) := hide (.inl rfl)
  clear hgo5' hbf5' hp4 hi4 q0 q1 q2 s0 s1 f0 r0 r1 r2 rf0 rf1 rf2
  generalize (over3 W4 g i y).drew = W5 at *
  have HF5 := hide hbf5
  have HG5 := hide hgo5
  have J0 := hide J0'
  have J2 := hide J2'
  have J3 := hide J3'
  have J0s := True.intro
  have HNB : Hid (∀ k, Bo p (.slice (some ⟨g, 0, none⟩) xs.length c0) (.slice a1 us.length c1) k → k < w.heap.size) := hide (fun k hk => HH.out.bf.lt hk)
  clear hbf5 hgo5 J0' J2' J3'
  have hu9 : us.length ≤ 900000 := hu
  have HS7 : Hid (W5.cell? ⟨w.heap.size, 0, none⟩ = some (.pointer (some ⟨p, 0, none⟩))) := hide (cell_of_one J0.out)
  have HSA7 : Hid ((W5.drew.alloc (.cells #[.func (.func 83) #[] #[.pointer (some ⟨W3.heap.size, 0, none⟩), .pointer (some ⟨w.heap.size, 0, none⟩), .pointer (some ⟨w2.heap.size, 0, none⟩)]] 1)).cell? ⟨w.heap.size, 0, none⟩ = some (.pointer (some ⟨p, 0, none⟩))) := hide (cell_of_one ((Below.heap_alloc W5.drew _ _ (lt_of_block J0.out)).trans J0.out))
  have HU7 : Hid ((W5.drew.alloc (.cells #[.func (.func 83) #[] #[.pointer (some ⟨W3.heap.size, 0, none⟩), .pointer (some ⟨w.heap.size, 0, none⟩), .pointer (some ⟨w2.heap.size, 0, none⟩)]] 1)).ownsRow B 1 1 (.slice a1 us.length c1) us.length us) := hide (row_of_block HF5.out.undo fun k hk => Below.heap_alloc W5.drew _ k (row_at HF5.out.undo hk).2.1)
  have HN7 : Hid (∀ j u, ([.func (.func 83) #[] #[.pointer (some ⟨W3.heap.size, 0, none⟩), .pointer (some ⟨w.heap.size, 0, none⟩), .pointer (some ⟨w2.heap.size, 0, none⟩)]] : List Value)[j]? = some u → (W5.drew.alloc (.cells #[.func (.func 83) #[] #[.pointer (some ⟨W3.heap.size, 0, none⟩), .pointer (some ⟨w.heap.size, 0, none⟩), .pointer (some ⟨w2.heap.size, 0, none⟩)]] 1)).cell? ((⟨W5.heap.size, 0, none⟩ : Addr).add j) = some u) := hide (fun j u hj => by
    match j, hj with
    | 0, hj => simp at hj; subst hj; rw [Addr.add_lit]; exact cell_of_one (heap_alloc_new W5.drew _)
    | j + 1, hj => simp at hj)
  have HB7 : Hid (B ≤ (W5.drew.alloc (.cells #[.func (.func 83) #[] #[.pointer (some ⟨W3.heap.size, 0, none⟩), .pointer (some ⟨w.heap.size, 0, none⟩), .pointer (some ⟨w2.heap.size, 0, none⟩)]] 1)).heap.size) := hide (by have h1 := HF5.out.base; have h2 := lt_of_block HF5.out.blk; simp; omega)
  have HT7 : Hid (∀ w6, (W5.drew.alloc (.cells #[.func (.func 83) #[] #[.pointer (some ⟨W3.heap.size, 0, none⟩), .pointer (some ⟨w.heap.size, 0, none⟩), .pointer (some ⟨w2.heap.size, 0, none⟩)]] 1)).grownBy w6 (Value.slice a1 us.length c1).ownBlock → w6.cell? ⟨w.heap.size, 0, none⟩ = some (.pointer (some ⟨p, 0, none⟩)) ∧ w6.heap[p]? = some (.cells #[.slice (some ⟨g, 0, none⟩) xs.length c0, .slice a1 us.length c1] 69 (0, 0))) := hide (fun w6 hg => by
    have st : ∀ k, k < W5.heap.size → (Value.slice a1 us.length c1).ownBlock ≠ some k → w6.heap[k]? = W5.heap[k]? := fun k hk hne => by
      rw [hg.block k (by simp; omega) (fun e => hne e.symm)]
      exact Below.heap_alloc W5.drew _ k hk
    have hu := fun k (e : (Value.slice a1 us.length c1).ownBlock = some k) => (row_at HH.out.bf.undo e).2.1
    exact ⟨cell_of_one ((st _ (lt_of_block J0.out) (fun e => by have := hu _ e; omega)).trans J0.out), (st _ (lt_of_block HF5.out.blk) HF5.out.une).trans HF5.out.blk⟩)
  have HFin : Hid (∀ v6 w6, w6.ownsRow B 1 1 v6 (us.length + 1) (us ++ [.func (.func 83) #[] #[.pointer (some ⟨W3.heap.size, 0, none⟩), .pointer (some ⟨w.heap.size, 0, none⟩), .pointer (some ⟨w2.heap.size, 0, none⟩)]]) → (W5.drew.alloc (.cells #[.func (.func 83) #[] #[.pointer (some ⟨W3.heap.size, 0, none⟩), .pointer (some ⟨w.heap.size, 0, none⟩), .pointer (some ⟨w2.heap.size, 0, none⟩)]] 1)).grownBy w6 (Value.slice a1 us.length c1).ownBlock → (v6.ownBlock = (Value.slice a1 us.length c1).ownBlock ∨ v6.ownBlock = some (W5.drew.alloc (.cells #[.func (.func 83) #[] #[.pointer (some ⟨W3.heap.size, 0, none⟩), .pointer (some ⟨w.heap.size, 0, none⟩), .pointer (some ⟨w2.heap.size, 0, none⟩)]] 1)).heap.size) → ∃ i sv' uv' u, At (pge y.e.key) xs i ∧ Bh (w6.setCell ⟨p, 1, none⟩ v6) p B sv' uv' (xs.set i y) (us ++ [u]) (hs ++ [xs]) ∧ Go1 (Bo p (.slice (some ⟨g, 0, none⟩) xs.length c0) (.slice a1 us.length c1)) w (Bo p sv' uv') (w6.setCell ⟨p, 1, none⟩ v6)) := hide (fun v6 w6 ho hg hl => by
    obtain ⟨hbf7, hgo7⟩ := undo_turned (us' := us ++ [.func (.func 83) #[] #[.pointer (some ⟨W3.heap.size, 0, none⟩), .pointer (some ⟨w.heap.size, 0, none⟩), .pointer (some ⟨w2.heap.size, 0, none⟩)]]) HF5.out ((Below.refl W5.heap.size W5).drew.trans (below_alloc W5.drew _)) hg (by rw [List.length_append]; exact ho) (hl.imp id fun e => ⟨_, e, Nat.le_refl _⟩)
    have hgo := HG5.out.trans hgo7
    refine ⟨i, _, v6, _, HAt.out, HH.out.more hgo.mv (fun k hk => ?_) hbf7 ?_, hgo⟩
    · rcases HL5.out with h | ⟨k', h, hk'⟩
      · left; rw [← h]; exact hk
      · right; rw [h] at hk; cases hk; exact hk'
    · have j0 := hgo7.mv.block _ (lt_of_block J0.out) (fun e => by have := HNB.out _ e; omega)
      have j2 := hgo7.mv.block _ (lt_of_block J2.out) (fun e => by have := HNB.out _ e; omega)
      have j3 := hgo7.mv.block _ (lt_of_block J3.out) (fun e => by have := HNB.out _ e; omega)
      refine .inl ⟨W3.heap.size, w.heap.size, w2.heap.size, i, x, rfl, j3.trans J3.out, j0.trans J0.out, j2.trans J2.out, ?_, ?_, fun e => ?_⟩
      · rw [List.length_set]; exact hil
      · rw [List.set_set]; exact set_same HX.out
      · simp only [Value.ownBlock, Option.some.injEq] at e; omega)
  clear J0s
  obtain ⟨t0, t1, tf⟩ := cells_two HF5.out.blk
  obtain ⟨ta0, ta1, taf⟩ := cells_two ((Below.heap_alloc W5.drew (.cells #[.func (.func 83) #[] #[.pointer (some ⟨W3.heap.size, 0, none⟩), .pointer (some ⟨w.heap.size, 0, none⟩), .pointer (some ⟨w2.heap.size, 0, none⟩)]] 1) p (lt_of_block HF5.out.blk)).trans HF5.out.blk)
  have tb1 : (W5.alloc (.cells #[.func (.func 83) #[] #[.pointer (some ⟨W3.heap.size, 0, none⟩), .pointer (some ⟨w.heap.size, 0, none⟩), .pointer (some ⟨w2.heap.size, 0, none⟩)]] 1)).cell? ⟨p, 1, none⟩ = some (.slice a1 us.length c1) := ta1
  refine wp_region_noPanic ?_
  refine wp_region_held_drew (S := (fun W => W.cell? ⟨w.heap.size, 0, none⟩ = some (.pointer (some ⟨p, 0, none⟩)))) (by kernel_rfl) HS7.out (fun _hS => ?_)
  refine wtk (i := 0) (oi := zosex18) (v := ?v0x1001) rfl ⟨by rfl, ?hy0x1001⟩ (by assumption) ?_
  case hy0x1001 => (intro w s; (try dsimp only at s); first | (go_simp; with_reducible rfl) | go_simp)
  try simp only [Act.put, zps]
  refine wtk (i := 1) (oi := zosex19) (v := ?v1x1002) rfl ⟨by rfl, ?hy1x1002⟩ (by assumption) ?_
  case hy1x1002 => (intro w s; (try dsimp only at s); first | (go_simp; with_reducible rfl) | go_simp)
  try simp only [Act.put, zps]
  refine wtk (i := 2) (oi := zosex20) (v := ?v2x1003) rfl ⟨by rfl, ?hy2x1003⟩ (by assumption) ?_
  case hy2x1003 => (intro w s; (try dsimp only at s); first | (go_simp; with_reducible rfl) | go_simp)
  try simp only [Act.put, zps]
  refine wtk (i := 3) (oi := zosex21) (v := ?v3x1004) rfl ⟨by rfl, ?hy3x1004⟩ (by assumption) ?_
  case hy3x1004 => (intro w s; (try dsimp only at s); first | (go_simp; with_reducible rfl) | go_simp)
  try simp only [Act.put, zps]
  refine wtk (i := 5) (oi := zosex22) (v := ?v5x1005) rfl ⟨by rfl, ?hy5x1005⟩ (by assumption) ?_
  case hy5x1005 => (intro w s; (try dsimp only at s); first | (go_simp; with_reducible rfl) | go_simp)
  try simp only [Act.put, zps]
  refine wpAnyH_ready (rs := [4, 6]) (by kernel_rfl) (by simp) ?_
  refine AllReadyH.cons (o := zosex23) rfl (fun K hK => ?_) (AllReadyH.cons (o := zosex24) rfl (fun K hK => ?_) (AllReadyH.nil))
  · go_simp
    refine hK.out _ _ ?_ (fun _hS => ?_)
    · exact HS7.out
    clear hK K
    try simp only [Act.put, zps]
    refine wpAnyH_ready (rs := [6]) (by kernel_rfl) (by simp) ?_
    refine AllReadyH.cons (o := zosex24) rfl (fun K hK => ?_) (AllReadyH.nil)
    go_simp
    refine hK.out _ _ ?_ (fun _hS => ?_)
    · exact HSA7.out
    clear hK K
    try simp only [Act.put, zps]
    refine wpAnyH_ready (rs := [7]) (by kernel_rfl) (by simp) ?_
    refine AllReadyH.cons (o := zosex25) rfl (fun K hK => ?_) (AllReadyH.nil)
    refine step_of rfl ?_
    refine wp_append_at (.tmp 33) (.tmp 35) 67 1 rfl B f0i _ 1 8 Try.underlying67 hf0 hfz hf1 hf2 (by rfl) (by omega) (.slice a1 us.length c1) us.length us rfl HU7.out ⟨W5.heap.size, 0, none⟩ 1 1 [.func (.func 83) #[] #[.pointer (some ⟨W3.heap.size, 0, none⟩), .pointer (some ⟨w.heap.size, 0, none⟩), .pointer (some ⟨w2.heap.size, 0, none⟩)]] rfl rfl HN7.out (fun u hu => by simp at hu; subst hu; rfl) (by unfold maxLen; omega) (by omega) HB7.out ?_
    intro v6 w6 hown6 hg6 hloc6
    obtain ⟨a6, c6, rfl, -⟩ := row_shape hown6
    have HO6 := hide hown6
    have HG6 := hide hg6
    have HL6 := hide hloc6
    obtain ⟨k0, k3⟩ := HT7.out w6 hg6
    clear hown6 hg6 hloc6
    obtain ⟨s2, s3, f3⟩ := cells_two k3
    have f4 : w6.frozen? ⟨p, 1, none⟩ = false := by simp [World.frozen?, k3]
    have K6 := hide k3
    clear k3
    refine hK.out _ _ ?_ (fun _hS => ?_)
    · exact k0
    clear hK K
    try simp only [Act.put, zps]
    refine wtk (i := 8) (oi := zosex26) (v := ?v8x1006) rfl ⟨by rfl, ?hy8x1006⟩ (by assumption) ?_
    case hy8x1006 => (intro w s; (try dsimp only at s); first | (go_simp; with_reducible rfl) | go_simp)
    try simp only [Act.put, zps]
    refine wtk (i := 9) (oi := zosex27) (v := ?v9x1007) rfl ⟨by rfl, ?hy9x1007⟩ (by assumption) ?_
    case hy9x1007 => (intro w s; (try dsimp only at s); first | (go_simp; with_reducible rfl) | go_simp)
    try simp only [Act.put, zps]
    refine wpAnyH_ready (rs := [10]) (by kernel_rfl) (by simp) ?_
    refine AllReadyH.cons (o := zosex28) rfl (fun K hK => ?_) (AllReadyH.nil)
    go_simp
    refine hK.out _ _ ?_ (fun _hS => ?_)
    · exact (cell_set_ne (by omega)).trans k0
    clear hK K
    try simp only [Act.put, zps]
    refine wpAnyH_done (by kernel_rfl) ?_ _
    refine NoPanic.normal ?_
    go_wp2
    go_returns
    (obtain ⟨i9, v9, v8, u9, h9, h8, h7⟩ := HFin.out _ _ HO6.out HG6.out HL6.out; exact ⟨rfl, i9, h9, v9, v8, ⟨u9, h8⟩, h7⟩)
  · go_simp
    refine hK.out _ _ ?_ (fun _hS => ?_)
    · exact HSA7.out
    clear hK K
    try simp only [Act.put, zps]
    refine wpAnyH_ready (rs := [4]) (by kernel_rfl) (by simp) ?_
    refine AllReadyH.cons (o := zosex23) rfl (fun K hK => ?_) (AllReadyH.nil)
    go_simp
    refine hK.out _ _ ?_ (fun _hS => ?_)
    · exact HSA7.out
    clear hK K
    try simp only [Act.put, zps]
    refine wpAnyH_ready (rs := [7]) (by kernel_rfl) (by simp) ?_
    refine AllReadyH.cons (o := zosex25) rfl (fun K hK => ?_) (AllReadyH.nil)
    refine step_of rfl ?_
    refine wp_append_at (.tmp 33) (.tmp 35) 67 1 rfl B f0i _ 1 8 Try.underlying67 hf0 hfz hf1 hf2 (by rfl) (by omega) (.slice a1 us.length c1) us.length us rfl HU7.out ⟨W5.heap.size, 0, none⟩ 1 1 [.func (.func 83) #[] #[.pointer (some ⟨W3.heap.size, 0, none⟩), .pointer (some ⟨w.heap.size, 0, none⟩), .pointer (some ⟨w2.heap.size, 0, none⟩)]] rfl rfl HN7.out (fun u hu => by simp at hu; subst hu; rfl) (by unfold maxLen; omega) (by omega) HB7.out ?_
    intro v6 w6 hown6 hg6 hloc6
    obtain ⟨a6, c6, rfl, -⟩ := row_shape hown6
    have HO6 := hide hown6
    have HG6 := hide hg6
    have HL6 := hide hloc6
    obtain ⟨k0, k3⟩ := HT7.out w6 hg6
    clear hown6 hg6 hloc6
    obtain ⟨s2, s3, f3⟩ := cells_two k3
    have f4 : w6.frozen? ⟨p, 1, none⟩ = false := by simp [World.frozen?, k3]
    have K6 := hide k3
    clear k3
    refine hK.out _ _ ?_ (fun _hS => ?_)
    · exact k0
    clear hK K
    try simp only [Act.put, zps]
    refine wtk (i := 8) (oi := zosex26) (v := ?v8x1008) rfl ⟨by rfl, ?hy8x1008⟩ (by assumption) ?_
    case hy8x1008 => (intro w s; (try dsimp only at s); first | (go_simp; with_reducible rfl) | go_simp)
    try simp only [Act.put, zps]
    refine wtk (i := 9) (oi := zosex27) (v := ?v9x1009) rfl ⟨by rfl, ?hy9x1009⟩ (by assumption) ?_
    case hy9x1009 => (intro w s; (try dsimp only at s); first | (go_simp; with_reducible rfl) | go_simp)
    try simp only [Act.put, zps]
    refine wpAnyH_ready (rs := [10]) (by kernel_rfl) (by simp) ?_
    refine AllReadyH.cons (o := zosex28) rfl (fun K hK => ?_) (AllReadyH.nil)
    go_simp
    refine hK.out _ _ ?_ (fun _hS => ?_)
    · exact (cell_set_ne (by omega)).trans k0
    clear hK K
    try simp only [Act.put, zps]
    refine wpAnyH_done (by kernel_rfl) ?_ _
    refine NoPanic.normal ?_
    go_wp2
    go_returns
    (obtain ⟨i9, v9, v8, u9, h9, h8, h7⟩ := HFin.out _ _ HO6.out HG6.out HL6.out; exact ⟨rfl, i9, h9, v9, v8, ⟨u9, h8⟩, h7⟩)
end Go.Proofs.Ytgohhlngnnmknaa
/- Mathematics of what is said: the rising list, and what a Put or a Delete makes of it. -/
namespace Go.Proofs.Ytgohhlngnnmknaa
open Go.RowKit
set_option linter.unusedVariables false

def Ris (es : List Ee) : Prop := es.Pairwise (fun a b => ordI a.key b.key < 0)
def put : List Ee → Ee → List Ee
  | [], e => [e]
  | x :: t, e => if ordI x.key e.key < 0 then x :: put t e else if x.key = e.key then e :: t else e :: x :: t
/-- what is said of a key. -/
def lk (es : List Ee) (k : List Int) : Option Ee := es.find? (fun e => decide (e.key = k))
theorem put_mem {es : List Ee} {e x : Ee} (h : x ∈ put es e) : x = e ∨ x ∈ es := by
  induction es with
  | nil => simp [put] at h; exact .inl h
  | cons z t ih =>
    unfold put at h
    split at h
    · rcases List.mem_cons.1 h with rfl | h
      · simp
      · rcases ih h with h | h
        · exact .inl h
        · simp [h]
    · split at h
      · rcases List.mem_cons.1 h with rfl | h
        · simp
        · simp [h]
      · rcases List.mem_cons.1 h with rfl | h
        · simp
        · exact .inr h
theorem ris_nil : Ris [] := List.Pairwise.nil
theorem ris_put {es : List Ee} {e : Ee} (h : Ris es) : Ris (put es e) := by
  induction es with
  | nil => unfold put Ris; simp
  | cons z t ih =>
    obtain ⟨h1, h2⟩ := List.pairwise_cons.1 h
    unfold put
    split
    · rename_i hlt
      refine List.pairwise_cons.2 ⟨fun x hx => ?_, ih h2⟩
      rcases put_mem hx with rfl | hx
      · exact hlt
      · exact h1 x hx
    · rename_i hge
      split
      · rename_i he
        refine List.pairwise_cons.2 ⟨fun x hx => ?_, h2⟩
        rw [← he]; exact h1 x hx
      · rename_i hne
        have hez : ordI e.key z.key < 0 := by
          have := ordI_anti z.key e.key
          have h0 : ordI z.key e.key ≠ 0 := fun h0 => hne (ordI_zero _ _ h0)
          omega
        refine List.pairwise_cons.2 ⟨fun x hx => ?_, h⟩
        rcases List.mem_cons.1 hx with rfl | hx
        · exact hez
        · exact ordI_trans_lt _ _ _ hez (Int.le_of_lt (h1 x hx))
theorem put_len (es : List Ee) (e : Ee) : (put es e).length ≤ es.length + 1 ∧ es.length ≤ (put es e).length := by
  induction es with
  | nil => simp [put]
  | cons z t ih =>
    unfold put
    split
    · simp only [List.length_cons]; omega
    · split
      · simp
      · simp
theorem lk_put (es : List Ee) (e : Ee) (k : List Int) : lk (put es e) k = if e.key = k then some e else lk es k := by
  induction es with
  | nil => simp only [put, lk, List.find?_cons, List.find?_nil]; split <;> simp_all
  | cons z t ih =>
    unfold put
    split
    · rename_i hlt
      have hne : z.key ≠ e.key := fun h => by rw [h, ordI_self] at hlt; omega
      by_cases hz : z.key = k
      · have : ¬ e.key = k := fun h => hne (hz.trans h.symm)
        simp [lk, hz, this]
      · have e1 : lk (z :: put t e) k = lk (put t e) k := by simp [lk, hz]
        have e2 : lk (z :: t) k = lk t k := by simp [lk, hz]
        rw [e1, e2, ih]
    · split
      · rename_i he
        by_cases hk : e.key = k
        · simp [lk, hk]
        · have : ¬ z.key = k := fun h => hk (he.symm.trans h)
          simp [lk, hk, this]
      · by_cases hk : e.key = k <;> simp [lk, hk]
theorem at_cases {k : List Int} {x : En} {t : List En} {i : Nat} (hr : Ris (ers (x :: t))) (h : At (pge k) (x :: t) i) : (ordI x.e.key k < 0 ∧ ∃ j, i = j + 1 ∧ At (pge k) t j) ∨ (¬ ordI x.e.key k < 0 ∧ i = 0) := by
  obtain ⟨h1, h2, h3⟩ := h
  by_cases hlt : ordI x.e.key k < 0
  · left
    refine ⟨hlt, ?_⟩
    cases i with
    | zero =>
      have := h3 x rfl
      simp only [pge, decide_eq_true_eq] at this
      omega
    | succ j =>
      refine ⟨j, rfl, by simpa using h1, fun z hj hz => ?_, fun z hz => h3 z (by simpa using hz)⟩
      refine h2 z (by omega) ?_
      obtain ⟨m, rfl⟩ : ∃ m, j = m + 1 := ⟨j - 1, by omega⟩
      simpa using hz
  · right
    refine ⟨hlt, ?_⟩
    cases i with
    | zero => rfl
    | succ j =>
      exfalso
      have hj : j < (x :: t).length := by simp at h1 ⊢; omega
      have := h2 _ (by omega) (List.getElem?_eq_getElem hj)
      simp only [pge, decide_eq_false_iff_not] at this
      cases j with
      | zero => simp at this; omega
      | succ m =>
        have hx : ordI x.e.key ((x :: t)[m + 1]).e.key < 0 := by
          refine (List.pairwise_cons.1 hr).1 _ ?_
          simp only [List.mem_map]
          exact ⟨_, by simp, rfl⟩
        have h4 := ordI_trans_lt _ _ k hx (by omega)
        omega
theorem put_at {xs : List En} {y : En} {i : Nat} (hr : Ris (ers xs)) (h : At (pge y.e.key) xs i) : ers (putAt xs i y) = put (ers xs) y.e := by
  induction xs generalizing i with
  | nil =>
    have : i = 0 := by have := h.1; simp at this; omega
    subst this
    simp [putAt, ther, ers, put]
  | cons x t ih =>
    have hr2 : Ris (ers t) := (List.pairwise_cons.1 hr).2
    have e0 : ers (x :: t) = x.e :: ers t := rfl
    rcases at_cases hr h with ⟨hlt, j, rfl, hj⟩ | ⟨hge, rfl⟩
    · have e1 : putAt (x :: t) (j + 1) y = x :: putAt t j y := by
        have : ther (x :: t) (j + 1) y.e.key = ther t j y.e.key := by simp [ther]
        unfold putAt
        rw [this]
        split <;> simp
      rw [e1, e0, put, if_pos hlt, ← ih hr2 hj]
      rfl
    · rw [e0, put, if_neg hge]
      by_cases he : x.e.key = y.e.key
      · have : ther (x :: t) 0 y.e.key = true := by simp [ther, he]
        rw [if_pos he, putAt, this, if_pos rfl]
        rfl
      · have : ther (x :: t) 0 y.e.key = false := by simp [ther, he]
        rw [if_neg he, putAt, this]
        simp [ers]
theorem lk_at {xs : List En} {k : List Int} {i : Nat} (hr : Ris (ers xs)) (h : At (pge k) xs i) : lk (ers xs) k = if ther xs i k then (xs[i]?).map En.e else none := by
  induction xs generalizing i with
  | nil => simp [lk, ers, ther]
  | cons x t ih =>
    have hr2 : Ris (ers t) := (List.pairwise_cons.1 hr).2
    have e0 : ers (x :: t) = x.e :: ers t := rfl
    rcases at_cases hr h with ⟨hlt, j, rfl, hj⟩ | ⟨hge, rfl⟩
    · have hne : ¬ x.e.key = k := fun e => by rw [e, ordI_self] at hlt; omega
      have : ther (x :: t) (j + 1) k = ther t j k := by simp [ther]
      rw [this, e0]
      have e1 : lk (x.e :: ers t) k = lk (ers t) k := by simp [lk, hne]
      rw [e1, ih hr2 hj]
      simp
    · by_cases he : x.e.key = k
      · have : ther (x :: t) 0 k = true := by simp [ther, he]
        rw [this, e0]; simp [lk, he]
      · have : ther (x :: t) 0 k = false := by simp [ther, he]
        rw [this, e0]
        have hnone : (ers t).find? (fun e => decide (e.key = k)) = none := by
          rw [List.find?_eq_none]
          intro z hz
          have := (List.pairwise_cons.1 hr).1 z hz
          simp only [decide_eq_true_eq]
          intro e
          rw [e] at this
          exact hge this
        simp only [lk, List.find?_cons, he, decide_false, hnone]
        rfl
theorem lk_mem {es : List Ee} {k : List Int} {e : Ee} (h : lk es k = some e) : e ∈ es ∧ e.key = k := by
  refine ⟨List.mem_of_find?_eq_some h, ?_⟩
  have := List.find?_some h
  simpa using this
end Go.Proofs.Ytgohhlngnnmknaa
