/- say: a Put or a Delete of a key of which something was said. -/
import Derived.Test.YtfcebpenjdhgbaaSD
namespace Go.Proofs.Ytfcebpenjdhgbaa
open Go.RowKit Go.Maps
set_option linter.unusedVariables false

theorem set_same {α : Type} {l : List α} {i : Nat} {x : α} (h : l[i]? = some x) : l = l.set i x := by
  obtain ⟨hi, rfl⟩ := List.getElem?_eq_some_iff.1 h
  rw [List.set_getElem_self]
set_option maxHeartbeats 3200000 in
set_option maxRecDepth 1000000 in
theorem say_old {w : World} {p B : Nat} {sv uv : Value} {xs : List En} {us : List Value} {hs : List (List En)} (h : Bh w p B sv uv xs us hs) (y : En) (hy : y.Own B w) (hB : B ≤ w.heap.size) (hn : xs.length ≤ 900000) (hu : us.length ≤ 900000)
    (hth : ∀ i, At (pge y.e.key) xs i → ther xs i y.e.key = true) :
    Calls Try.prog 35 #[.pointer (some ⟨p, 0, none⟩), .agg #[.slice y.ka y.e.key.length y.kc, .slice y.va y.e.val.length y.vc, .bool y.e.del]] w fun e w' => e = .returned (.tuple #[]) ∧ ∃ i sv' uv' u, At (pge y.e.key) xs i ∧ Bh w' p B sv' uv' (xs.set i y) (us ++ [u]) (hs ++ [xs]) ∧ Go1 (Bo p sv uv) w (Bo p sv' uv') w' := by
  obtain ⟨w1, hw1⟩ : ∃ w1, w1 = (w.alloc (.cells #[.pointer (some ⟨p, 0, none⟩)] 25)).alloc (.cells #[.slice y.ka y.e.key.length y.kc, .slice y.va y.e.val.length y.vc, .bool y.e.del] 36) := ⟨_, rfl⟩
  have hB1 : Below w.heap.size w w1 := by rw [hw1]; exact two_alloc _ _
  have hb0 : w1.heap[w.heap.size]? = some (.cells #[.pointer (some ⟨p, 0, none⟩)] 25 (0, 0)) := by rw [hw1]; exact (Below.heap_alloc _ _ _ (by simp)).trans (heap_alloc_new w _)
  have hb1 : w1.heap[w.heap.size + 1]? = some (.cells #[.slice y.ka y.e.key.length y.kc, .slice y.va y.e.val.length y.vc, .bool y.e.del] 36 (0, 0)) := by
    rw [hw1]
    have := heap_alloc_new (w.alloc (.cells #[.pointer (some ⟨p, 0, none⟩)] 25)) (.cells #[.slice y.ka y.e.key.length y.kc, .slice y.va y.e.val.length y.vc, .bool y.e.del] 36)
    rwa [World.size_alloc] at this
  have hs1 : w1.heap.size = w.heap.size + 2 := by rw [hw1]; simp
  have hp0 := cell_of_one hb0
  obtain ⟨q0, q1, q2, -⟩ := cells_three hb1
  have HF := hide (find_any (h.bf.below hB1) y.ka y.e.key.length y.kc y.e.key (hy.ok.key.below hB1) (by omega))
  have HB1 := hide hB1
  have HB0 := hide hb0
  have HBq := hide hb1
  have HS1 := hide hs1
  have HH := hide h
  have HY := hide hy
  have HT := hide hth
  clear h hB1 hb0 hb1 hs1 hy hth
  obtain ⟨f0i, hf0, hfz, hf1, hf2⟩ := info_parts Try.infoF
  have hmf : ∀ (fn : Fn) (first cap : Array Value) (w : World), (Instr.makeFunc fn first cap).run Try.prog w = .ok (.func fn first cap) w := fun _ _ _ _ => rfl
  go_enter Try.func35, Try.ntmps35
  go_wp2_with fail
  rw [← hw1]
  clear hw1
  go_wp2_with (go_at_call 41; refine HF.out.mono ?_; rintro e w2 ⟨i, rfl, hat, hb2⟩; rw [HT.out i hat]; have HAt := hide hat; have HB2 := hide hb2; have hp2 := cell_of_one ((HB2.out.block _ (lt_of_block HB0.out)).trans HB0.out); clear hat hb2)
  obtain ⟨W3, hW3⟩ : ∃ W3, W3 = w2.alloc (.cells #[.int .i64 (i : Int)] 3) := ⟨_, rfl⟩
  have hB3 : Below w1.heap.size w1 W3 := by rw [hW3]; exact HB2.out.alloc HB2.out.size _
  have hb3 : W3.heap[w2.heap.size]? = some (.cells #[.int .i64 (i : Int)] 3 (0, 0)) := by rw [hW3]; exact heap_alloc_new w2 _
  rw [← hW3]
  clear hW3 hp2 hp0 q0 q1 q2
  have hsz3 : w1.heap.size ≤ w2.heap.size := HB2.out.size
  have hlt3 : w2.heap.size < W3.heap.size := lt_of_block hb3
  have hbb := (hB3.block _ (lt_of_block HB0.out)).trans HB0.out
  have hbq := (hB3.block _ (lt_of_block HBq.out)).trans HBq.out
  have hBw3 : Below w.heap.size w W3 := HB1.out.trans (hB3.mono HB1.out.size)
  have hf3 := HH.out.bf.below hBw3
  obtain ⟨a0, c0, rfl, hc1, hc2, hc3, hc4⟩ := row_shape HH.out.bf.said
  obtain ⟨a1, c1, rfl, hd1, hd2, hd3, hd4⟩ := row_shape HH.out.bf.undo
  obtain ⟨x, hx, hxk⟩ : ∃ x, xs[i]? = some x ∧ x.e.key = y.e.key := by
    have := HT.out i HAt.out
    unfold ther at this
    split at this
    · rename_i x hx; exact ⟨x, hx, of_decide_eq_true this⟩
    · cases this
  have hil : i < xs.length := (List.getElem?_eq_some_iff.1 hx).1
  obtain ⟨g, rfl⟩ : ∃ g, a0 = some ⟨g, 0, none⟩ := hc4.elim (fun e => by have := (hc3 e).1; omega) id
  have hrc : ∀ j u, x.cells[j]? = some u → W3.cell? ⟨g, i * 3 + j, none⟩ = some u := fun j u hu => by
    have := hf3.said.cells (g := g) rfl (i * 3 + j) u (rowc_at hx hu)
    rw [Addr.add_lit] at this
    simpa using this
  have r0 : W3.cell? ⟨g, i * 3, none⟩ = some (.slice x.ka x.e.key.length x.kc) := by simpa using hrc 0 _ rfl
  have r1 : W3.cell? ⟨g, i * 3 + 1, none⟩ = some (.slice x.va x.e.val.length x.vc) := hrc 1 _ rfl
  have r2 : W3.cell? ⟨g, i * 3 + 2, none⟩ = some (.bool x.e.del) := hrc 2 _ rfl
  have hp3 := cell_of_one hbb
  have hi3 := cell_of_one hb3
  obtain ⟨q0, q1, q2, -⟩ := cells_three hbq
  obtain ⟨s0, s1, f0⟩ := cells_two hf3.blk
  have HB3 := hide hB3
  have Hb3 := hide hb3
  have Hbb := hide hbb
  have Hbq := hide hbq
  have HBw := hide hBw3
  have HF3 := hide hf3
  have HX := hide hx
  have hd0 : (0 : Int) ≤ (i : Int) := by omega
  have hd1 : (i : Int) < (xs.length : Int) := by omega
  clear hB3 hb3 hbb hbq hBw3 hf3 hc1 hc2 hc3 hc4 hd1 hd2 hd3 hd4 hx hxk hrc
  have hd1 : (i : Int) < (xs.length : Int) := by omega
  have hpw : p < w.heap.size := lt_of_block HH.out.bf.blk
  have hgw : g < w.heap.size := (row_at HH.out.bf.said (k := g) rfl).2.1
  have hgp : g ≠ p := fun e => HH.out.bf.sne (by rw [← e]; rfl)
  have hwsz : w.heap.size ≤ w2.heap.size := by have := HS1.out; omega
  have HK3 : Hid (∀ W : World, (∀ k, k < W3.heap.size → W.heap[k]? = W3.heap[k]?) → W.cell? ⟨w.heap.size, 0, none⟩ = some (.pointer (some ⟨p, 0, none⟩)) ∧ W.cell? ⟨p, 0, none⟩ = some (.slice (some ⟨g, 0, none⟩) xs.length c0) ∧ W.cell? ⟨w2.heap.size, 0, none⟩ = some (.int .i64 (i : Int)) ∧ W.cell? ⟨g, i * 3, none⟩ = some (.slice x.ka x.e.key.length x.kc) ∧ W.cell? ⟨g, i * 3 + 1, none⟩ = some (.slice x.va x.e.val.length x.vc) ∧ W.cell? ⟨g, i * 3 + 2, none⟩ = some (.bool x.e.del)) := hide (fun W hW => by
    have st : ∀ k j, k < W3.heap.size → W.cell? ⟨k, j, none⟩ = W3.cell? ⟨k, j, none⟩ := fun k j hk => by simp only [World.cell?]; rw [hW k hk]
    exact ⟨(st _ _ (by omega)).trans hp3, (st _ _ (by omega)).trans s0, (st _ _ (by omega)).trans hi3, (st _ _ (by omega)).trans r0, (st _ _ (by omega)).trans r1, (st _ _ (by omega)).trans r2⟩)
  refine wp_region_noPanic ?_
  refine wp_region_held_drew (S := (fun W => W.cell? ⟨w.heap.size, 0, none⟩ = some (.pointer (some ⟨p, 0, none⟩)) ∧ W.cell? ⟨p, 0, none⟩ = some (.slice (some ⟨g, 0, none⟩) xs.length c0) ∧ W.cell? ⟨w2.heap.size, 0, none⟩ = some (.int .i64 (i : Int)) ∧ W.cell? ⟨g, i * 3, none⟩ = some (.slice x.ka x.e.key.length x.kc) ∧ W.cell? ⟨g, i * 3 + 1, none⟩ = some (.slice x.va x.e.val.length x.vc) ∧ W.cell? ⟨g, i * 3 + 2, none⟩ = some (.bool x.e.del))) (by kernel_rfl) ⟨hp3, s0, hi3, r0, r1, r2⟩ (fun _hS => ?_)
  refine wpAnyH_take (i := 0) (oi := { dst := some 15, op := Op.load 25 (Operand.tmp 2), type := 25, pos := "mark.go:28", after := #[], guard := none }) (v := ?v0x301) rfl (by kernel_rfl) (by kernel_rfl) (by kernel_rfl) (fun _ _ _ h => h) (Or.inl ⟨by rfl, ?hy0x301⟩) (by assumption) ?rest0x301
  case hy0x301 => (intro w hSw; (try dsimp only at hSw); (first | (go_simp; with_reducible rfl) | go_simp))
  try simp only [Act.put, List.setIfInBounds_toArray, List.set_cons_zero, List.set_cons_succ]
  refine wpAnyH_take (i := 1) (oi := { dst := some 16, op := Op.nilCheck (Operand.tmp 15), type := 0, pos := "mark.go:28", after := #[{ on := 0, ground := Ground.data }], guard := none }) (v := ?v1x302) rfl (by kernel_rfl) (by kernel_rfl) (by kernel_rfl) (fun _ _ _ h => h) (Or.inl ⟨by rfl, ?hy1x302⟩) (by assumption) ?rest1x302
  case hy1x302 => (intro w hSw; (try dsimp only at hSw); (first | (go_simp; with_reducible rfl) | go_simp))
  try simp only [Act.put, List.setIfInBounds_toArray, List.set_cons_zero, List.set_cons_succ]
  refine wpAnyH_take (i := 2) (oi := { dst := some 17, op := Op.fieldAddr 59 (Operand.tmp 16) 0, type := 0, pos := "mark.go:28", after := #[{ on := 1, ground := Ground.data }], guard := none }) (v := ?v2x303) rfl (by kernel_rfl) (by kernel_rfl) (by kernel_rfl) (fun _ _ _ h => h) (Or.inl ⟨by rfl, ?hy2x303⟩) (by assumption) ?rest2x303
  case hy2x303 => (intro w hSw; (try dsimp only at hSw); (first | (go_simp; with_reducible rfl) | go_simp))
  try simp only [Act.put, List.setIfInBounds_toArray, List.set_cons_zero, List.set_cons_succ]
  refine wpAnyH_take (i := 3) (oi := { dst := some 18, op := Op.load 30 (Operand.tmp 17), type := 30, pos := "mark.go:28", after := #[{ on := 2, ground := Ground.data }], guard := none }) (v := ?v3x304) rfl (by kernel_rfl) (by kernel_rfl) (by kernel_rfl) (fun _ _ _ h => h) (Or.inl ⟨by rfl, ?hy3x304⟩) (by assumption) ?rest3x304
  case hy3x304 => (intro w hSw; (try dsimp only at hSw); (first | (go_simp; with_reducible rfl) | go_simp))
  try simp only [Act.put, List.setIfInBounds_toArray, List.set_cons_zero, List.set_cons_succ]
  refine wpAnyH_take (i := 4) (oi := { dst := some 19, op := Op.load 3 (Operand.tmp 4), type := 3, pos := "mark.go:28", after := #[], guard := none }) (v := ?v4x305) rfl (by kernel_rfl) (by kernel_rfl) (by kernel_rfl) (fun _ _ _ h => h) (Or.inl ⟨by rfl, ?hy4x305⟩) (by assumption) ?rest4x305
  case hy4x305 => (intro w hSw; (try dsimp only at hSw); (first | (go_simp; with_reducible rfl) | go_simp))
  try simp only [Act.put, List.setIfInBounds_toArray, List.set_cons_zero, List.set_cons_succ]
  refine wpAnyH_take (i := 5) (oi := { dst := some 20, op := Op.indexAddr 30 (Operand.tmp 18) (Operand.tmp 19), type := 0, pos := "mark.go:28", after := #[{ on := 3, ground := Ground.data }, { on := 4, ground := Ground.data }], guard := none }) (v := ?v5x306) rfl (by kernel_rfl) (by kernel_rfl) (by kernel_rfl) (fun _ _ _ h => h) (Or.inl ⟨by rfl, ?hy5x306⟩) (by assumption) ?rest5x306
  case hy5x306 => (intro w hSw; (try dsimp only at hSw); (first | (go_simp; with_reducible rfl) | go_simp))
  try simp only [Act.put, List.setIfInBounds_toArray, List.set_cons_zero, List.set_cons_succ]
  refine wpAnyH_take (i := 6) (oi := { dst := some 21, op := Op.load 36 (Operand.tmp 20), type := 36, pos := "mark.go:28", after := #[{ on := 5, ground := Ground.data }], guard := none }) (v := ?v6x307) rfl (by kernel_rfl) (by kernel_rfl) (by kernel_rfl) (fun _ _ _ h => h) (Or.inl ⟨by rfl, ?hy6x307⟩) (by assumption) ?rest6x307
  case hy6x307 => (intro w hSw; (try dsimp only at hSw); (first | (go_simp; with_reducible rfl) | go_simp))
  try simp only [Act.put, List.setIfInBounds_toArray, List.set_cons_zero, List.set_cons_succ]
  refine wpAnyH_ready (rs := [7]) (by kernel_rfl) (by simp) ?_
  refine AllReadyH.cons (o := { dst := some 6, op := Op.alloc 36, type := 0, pos := "mark.go:28", after := #[], guard := none }) rfl (fun K hK => ?_) (AllReadyH.nil)
  go_simp
  refine hK.out _ _ ?_ (fun _hS => ?_)
  · exact (HK3.out _ fun k hk => Below.heap_alloc W3.drew _ k hk)
  clear hK K
  try simp only [Act.put, List.setIfInBounds_toArray, List.set_cons_zero, List.set_cons_succ]
  refine wpAnyH_ready (rs := [8]) (by kernel_rfl) (by simp) ?_
  refine AllReadyH.cons (o := { dst := none, op := Op.store 36 (Operand.tmp 6) (Operand.tmp 21), type := 0, pos := "mark.go:28", after := #[{ on := 7, ground := Ground.data }, { on := 6, ground := Ground.data }, { on := 0, ground := Ground.phase }, { on := 1, ground := Ground.phase }, { on := 2, ground := Ground.phase }, { on := 3, ground := Ground.phase }, { on := 4, ground := Ground.phase }, { on := 5, ground := Ground.phase }, { on := 6, ground := Ground.phase }, { on := 7, ground := Ground.phase }], guard := none }) rfl (fun K hK => ?_) (AllReadyH.nil)
  go_simp
  refine hK.out _ _ ?_ (fun _hS => ?_)
  · exact (HK3.out _ fun k hk => Below.heap_alloc W3.drew _ k hk)
  clear hK K
  try simp only [Act.put, List.setIfInBounds_toArray, List.set_cons_zero, List.set_cons_succ]
  refine wpAnyH_done (by kernel_rfl) ?_ _
  refine NoPanic.normal ?_
  go_wp2
  obtain ⟨W4, hW4⟩ : ∃ W4, W4 = (W3.alloc (.cells #[.slice x.ka x.e.key.length x.kc, .slice x.va x.e.val.length x.vc, .bool x.e.del] 36)).drew := ⟨_, rfl⟩
  have hst4 : ∀ k, k < W3.heap.size → W4.heap[k]? = W3.heap[k]? := fun k hk => by rw [hW4]; exact Below.heap_alloc W3 _ k hk
  have hob4 : W4.heap[W3.heap.size]? = some (.cells #[.slice x.ka x.e.key.length x.kc, .slice x.va x.e.val.length x.vc, .bool x.e.del] 36 (0, 0)) := by rw [hW4]; exact heap_alloc_new W3 _
  have hB4 : Below w.heap.size w W4 := by rw [hW4]; exact (HBw.out.trans ((below_alloc W3 _).mono HBw.out.size)).drew
  rw [← hW4]
  clear hW4 hp3 hi3 q0 q1 q2 s0 s1 f0 r0 r1 r2
  have hbb4 := (hst4 _ (lt_of_block Hbb.out)).trans Hbb.out
  have hbq4 := (hst4 _ (lt_of_block Hbq.out)).trans Hbq.out
  have hbi4 := (hst4 _ (lt_of_block Hb3.out)).trans Hb3.out
  have hf4 := HH.out.bf.below hB4
  have hp4 := cell_of_one hbb4
  have hi4 := cell_of_one hbi4
  obtain ⟨q0, q1, q2, -⟩ := cells_three hbq4
  obtain ⟨s0, s1, f0⟩ := cells_two hf4.blk
  obtain ⟨cur4, hcur4⟩ := (row_at hf4.said (k := g) rfl).2.2
  have hrc : ∀ j u, x.cells[j]? = some u → W4.cell? ⟨g, i * 3 + j, none⟩ = some u := fun j u hu => by
    have := hf4.said.cells (g := g) rfl (i * 3 + j) u (rowc_at HX.out hu)
    rw [Addr.add_lit] at this
    simpa using this
  have r0 : W4.cell? ⟨g, i * 3, none⟩ = some (.slice x.ka x.e.key.length x.kc) := by simpa using hrc 0 _ rfl
  have r1 : W4.cell? ⟨g, i * 3 + 1, none⟩ = some (.slice x.va x.e.val.length x.vc) := hrc 1 _ rfl
  have r2 : W4.cell? ⟨g, i * 3 + 2, none⟩ = some (.bool x.e.del) := hrc 2 _ rfl
  have rf : ∀ j, W4.frozen? ⟨g, j, none⟩ = false := fun j => by simp [World.frozen?, hcur4]
  have rf0 := rf (i * 3)
  have rf1 := rf (i * 3 + 1)
  have rf2 := rf (i * 3 + 2)
  have HB4 := hide hB4
  have Hob := hide hob4
  have Kbb := hide hbb4
  have Kbq := hide hbq4
  have Kbi := hide hbi4
  have HF4 := hide hf4
  clear hst4 hob4 hB4 hbb4 hbq4 hbi4 hf4 hcur4 hrc rf
  have HK4 : Hid (∀ W : World, (∀ k, k ≠ g → W.heap[k]? = W4.heap[k]?) → W.cell? ⟨w.heap.size, 0, none⟩ = some (.pointer (some ⟨p, 0, none⟩)) ∧ W.cell? ⟨p, 0, none⟩ = some (.slice (some ⟨g, 0, none⟩) xs.length c0) ∧ W.cell? ⟨w2.heap.size, 0, none⟩ = some (.int .i64 (i : Int)) ∧ W.cell? ⟨w.heap.size + 1, 0, none⟩ = some (.slice y.ka y.e.key.length y.kc) ∧ W.cell? ⟨w.heap.size + 1, 1, none⟩ = some (.slice y.va y.e.val.length y.vc) ∧ W.cell? ⟨w.heap.size + 1, 2, none⟩ = some (.bool y.e.del)) := hide (fun W hW => by
    have st : ∀ k j, k ≠ g → W.cell? ⟨k, j, none⟩ = W4.cell? ⟨k, j, none⟩ := fun k j hk => by simp only [World.cell?]; rw [hW k hk]
    exact ⟨(st _ _ (by omega)).trans hp4, (st _ _ (by omega)).trans s0, (st _ _ (by omega)).trans hi4, (st _ _ (by omega)).trans q0, (st _ _ (by omega)).trans q1, (st _ _ (by omega)).trans q2⟩)
  refine wp_region_noPanic ?_
  refine wp_region_held_drew (S := (fun W => W.cell? ⟨w.heap.size, 0, none⟩ = some (.pointer (some ⟨p, 0, none⟩)) ∧ W.cell? ⟨p, 0, none⟩ = some (.slice (some ⟨g, 0, none⟩) xs.length c0) ∧ W.cell? ⟨w2.heap.size, 0, none⟩ = some (.int .i64 (i : Int)) ∧ W.cell? ⟨w.heap.size + 1, 0, none⟩ = some (.slice y.ka y.e.key.length y.kc) ∧ W.cell? ⟨w.heap.size + 1, 1, none⟩ = some (.slice y.va y.e.val.length y.vc) ∧ W.cell? ⟨w.heap.size + 1, 2, none⟩ = some (.bool y.e.del))) (by kernel_rfl) ⟨hp4, s0, hi4, q0, q1, q2⟩ (fun _hS => ?_)
  refine wpAnyH_take (i := 0) (oi := { dst := some 22, op := Op.load 25 (Operand.tmp 2), type := 25, pos := "mark.go:29", after := #[], guard := none }) (v := ?v0x401) rfl (by kernel_rfl) (by kernel_rfl) (by kernel_rfl) (fun _ _ _ h => h) (Or.inl ⟨by rfl, ?hy0x401⟩) (by assumption) ?rest0x401
  case hy0x401 => (intro w hSw; (try dsimp only at hSw); (first | (go_simp; with_reducible rfl) | go_simp))
  try simp only [Act.put, List.setIfInBounds_toArray, List.set_cons_zero, List.set_cons_succ]
  refine wpAnyH_take (i := 1) (oi := { dst := some 23, op := Op.nilCheck (Operand.tmp 22), type := 0, pos := "mark.go:29", after := #[{ on := 0, ground := Ground.data }], guard := none }) (v := ?v1x402) rfl (by kernel_rfl) (by kernel_rfl) (by kernel_rfl) (fun _ _ _ h => h) (Or.inl ⟨by rfl, ?hy1x402⟩) (by assumption) ?rest1x402
  case hy1x402 => (intro w hSw; (try dsimp only at hSw); (first | (go_simp; with_reducible rfl) | go_simp))
  try simp only [Act.put, List.setIfInBounds_toArray, List.set_cons_zero, List.set_cons_succ]
  refine wpAnyH_take (i := 2) (oi := { dst := some 24, op := Op.fieldAddr 59 (Operand.tmp 23) 0, type := 0, pos := "mark.go:29", after := #[{ on := 1, ground := Ground.data }], guard := none }) (v := ?v2x403) rfl (by kernel_rfl) (by kernel_rfl) (by kernel_rfl) (fun _ _ _ h => h) (Or.inl ⟨by rfl, ?hy2x403⟩) (by assumption) ?rest2x403
  case hy2x403 => (intro w hSw; (try dsimp only at hSw); (first | (go_simp; with_reducible rfl) | go_simp))
  try simp only [Act.put, List.setIfInBounds_toArray, List.set_cons_zero, List.set_cons_succ]
  refine wpAnyH_take (i := 3) (oi := { dst := some 25, op := Op.load 30 (Operand.tmp 24), type := 30, pos := "mark.go:29", after := #[{ on := 2, ground := Ground.data }], guard := none }) (v := ?v3x404) rfl (by kernel_rfl) (by kernel_rfl) (by kernel_rfl) (fun _ _ _ h => h) (Or.inl ⟨by rfl, ?hy3x404⟩) (by assumption) ?rest3x404
  case hy3x404 => (intro w hSw; (try dsimp only at hSw); (first | (go_simp; with_reducible rfl) | go_simp))
  try simp only [Act.put, List.setIfInBounds_toArray, List.set_cons_zero, List.set_cons_succ]
  refine wpAnyH_take (i := 4) (oi := { dst := some 26, op := Op.load 3 (Operand.tmp 4), type := 3, pos := "mark.go:29", after := #[], guard := none }) (v := ?v4x405) rfl (by kernel_rfl) (by kernel_rfl) (by kernel_rfl) (fun _ _ _ h => h) (Or.inl ⟨by rfl, ?hy4x405⟩) (by assumption) ?rest4x405
  case hy4x405 => (intro w hSw; (try dsimp only at hSw); (first | (go_simp; with_reducible rfl) | go_simp))
  try simp only [Act.put, List.setIfInBounds_toArray, List.set_cons_zero, List.set_cons_succ]
  refine wpAnyH_take (i := 5) (oi := { dst := some 27, op := Op.load 36 (Operand.tmp 3), type := 36, pos := "mark.go:29", after := #[], guard := none }) (v := ?v5x406) rfl (by kernel_rfl) (by kernel_rfl) (by kernel_rfl) (fun _ _ _ h => h) (Or.inl ⟨by rfl, ?hy5x406⟩) (by assumption) ?rest5x406
  case hy5x406 => (intro w hSw; (try dsimp only at hSw); (first | (go_simp; with_reducible rfl) | go_simp))
  try simp only [Act.put, List.setIfInBounds_toArray, List.set_cons_zero, List.set_cons_succ]
  refine wpAnyH_take (i := 6) (oi := { dst := some 28, op := Op.indexAddr 30 (Operand.tmp 25) (Operand.tmp 26), type := 0, pos := "mark.go:29", after := #[{ on := 3, ground := Ground.data }, { on := 4, ground := Ground.data }, { on := 0, ground := Ground.phase }, { on := 1, ground := Ground.phase }, { on := 2, ground := Ground.phase }, { on := 3, ground := Ground.phase }, { on := 4, ground := Ground.phase }, { on := 5, ground := Ground.phase }], guard := none }) (v := ?v6x407) rfl (by kernel_rfl) (by kernel_rfl) (by kernel_rfl) (fun _ _ _ h => h) (Or.inl ⟨by rfl, ?hy6x407⟩) (by assumption) ?rest6x407
  case hy6x407 => (intro w hSw; (try dsimp only at hSw); (first | (go_simp; with_reducible rfl) | go_simp))
  try simp only [Act.put, List.setIfInBounds_toArray, List.set_cons_zero, List.set_cons_succ]
  refine wpAnyH_ready (rs := [7]) (by kernel_rfl) (by simp) ?_
  refine AllReadyH.cons (o := { dst := none, op := Op.store 36 (Operand.tmp 28) (Operand.tmp 27), type := 0, pos := "mark.go:29", after := #[{ on := 6, ground := Ground.data }, { on := 5, ground := Ground.data }, { on := 0, ground := Ground.phase }, { on := 1, ground := Ground.phase }, { on := 2, ground := Ground.phase }, { on := 3, ground := Ground.phase }, { on := 4, ground := Ground.phase }, { on := 5, ground := Ground.phase }], guard := none }) rfl (fun K hK => ?_) (AllReadyH.nil)
  go_simp
  refine hK.out _ _ ?_ (fun _hS => ?_)
  · exact (HK4.out _ fun k hk => over3_other (w := W4) (i := i) (y := y) hk)
  clear hK K
  try simp only [Act.put, List.setIfInBounds_toArray, List.set_cons_zero, List.set_cons_succ]
  refine wpAnyH_done (by kernel_rfl) ?_ _
  refine NoPanic.normal ?_
  go_wp2
  change Code.wp _ _ _ _ (over3 W4 g i y).drew
  obtain ⟨hbf5', hgo5'⟩ := said_over (y := y) HF4.out hil (HY.out.below HB4.out)
  have hbf5 : Bf (over3 W4 g i y).drew p B (.slice (some ⟨g, 0, none⟩) xs.length c0) (.slice a1 us.length c1) (xs.set i y) us := hbf5'.below (Below.refl _ _).drew
  have hgo5 : Go1 (Bo p (.slice (some ⟨g, 0, none⟩) xs.length c0) (.slice a1 us.length c1)) w (Bo p (.slice (some ⟨g, 0, none⟩) xs.length c0) (.slice a1 us.length c1)) (over3 W4 g i y).drew := ((Go1.of_below HB4.out).trans hgo5').drew
  have J0' : (over3 W4 g i y).drew.heap[w.heap.size]? = some (.cells #[.pointer (some ⟨p, 0, none⟩)] 25 (0, 0)) := (over3_other (by omega)).trans Kbb.out
  have J2' : (over3 W4 g i y).drew.heap[w2.heap.size]? = some (.cells #[.int .i64 (i : Int)] 3 (0, 0)) := (over3_other (by omega)).trans Kbi.out
  have J3' : (over3 W4 g i y).drew.heap[W3.heap.size]? = some (.cells #[.slice x.ka x.e.key.length x.kc, .slice x.va x.e.val.length x.vc, .bool x.e.del] 36 (0, 0)) := (over3_other (by omega)).trans Hob.out
  have HL5 : Hid ((Value.slice (some ⟨g, 0, none⟩) xs.length c0).ownBlock = (Value.slice (some ⟨g, 0, none⟩) xs.length c0).ownBlock ∨ ∃ k, (Value.slice (some ⟨g, 0, none⟩) xs.length c0).ownBlock = some k ∧ w.heap.size ≤ k) := hide (.inl rfl)
  clear hgo5' hbf5' hp4 hi4 q0 q1 q2 s0 s1 f0 r0 r1 r2 rf0 rf1 rf2
  generalize (over3 W4 g i y).drew = W5 at *
  have HF5 := hide hbf5
  have HG5 := hide hgo5
  have J0 := hide J0'
  have J2 := hide J2'
  have J3 := hide J3'
  have J0s := True.intro
  have HNB : Hid (∀ k, Bo p (.slice (some ⟨g, 0, none⟩) xs.length c0) (.slice a1 us.length c1) k → k < w.heap.size) := hide (fun k hk => HH.out.bf.lt hk)
  clear hbf5 hgo5 J0' J2' J3'
  have hu9 : us.length ≤ 900000 := hu
  have HS7 : Hid (W5.cell? ⟨w.heap.size, 0, none⟩ = some (.pointer (some ⟨p, 0, none⟩))) := hide (cell_of_one J0.out)
  have HSA7 : Hid ((W5.drew.alloc (.cells #[.func (.func 45) #[] #[.pointer (some ⟨W3.heap.size, 0, none⟩), .pointer (some ⟨w.heap.size, 0, none⟩), .pointer (some ⟨w2.heap.size, 0, none⟩)]] 1)).cell? ⟨w.heap.size, 0, none⟩ = some (.pointer (some ⟨p, 0, none⟩))) := hide (cell_of_one ((Below.heap_alloc W5.drew _ _ (lt_of_block J0.out)).trans J0.out))
  have HU7 : Hid ((W5.drew.alloc (.cells #[.func (.func 45) #[] #[.pointer (some ⟨W3.heap.size, 0, none⟩), .pointer (some ⟨w.heap.size, 0, none⟩), .pointer (some ⟨w2.heap.size, 0, none⟩)]] 1)).ownsRow B 1 1 (.slice a1 us.length c1) us.length us) := hide (row_of_block HF5.out.undo fun k hk => Below.heap_alloc W5.drew _ k (row_at HF5.out.undo hk).2.1)
  have HN7 : Hid (∀ j u, ([.func (.func 45) #[] #[.pointer (some ⟨W3.heap.size, 0, none⟩), .pointer (some ⟨w.heap.size, 0, none⟩), .pointer (some ⟨w2.heap.size, 0, none⟩)]] : List Value)[j]? = some u → (W5.drew.alloc (.cells #[.func (.func 45) #[] #[.pointer (some ⟨W3.heap.size, 0, none⟩), .pointer (some ⟨w.heap.size, 0, none⟩), .pointer (some ⟨w2.heap.size, 0, none⟩)]] 1)).cell? ((⟨W5.heap.size, 0, none⟩ : Addr).add j) = some u) := hide (fun j u hj => by
    match j, hj with
    | 0, hj => simp at hj; subst hj; rw [Addr.add_lit]; exact cell_of_one (heap_alloc_new W5.drew _)
    | j + 1, hj => simp at hj)
  have HB7 : Hid (B ≤ (W5.drew.alloc (.cells #[.func (.func 45) #[] #[.pointer (some ⟨W3.heap.size, 0, none⟩), .pointer (some ⟨w.heap.size, 0, none⟩), .pointer (some ⟨w2.heap.size, 0, none⟩)]] 1)).heap.size) := hide (by have h1 := HF5.out.base; have h2 := lt_of_block HF5.out.blk; simp; omega)
  have HT7 : Hid (∀ w6, (W5.drew.alloc (.cells #[.func (.func 45) #[] #[.pointer (some ⟨W3.heap.size, 0, none⟩), .pointer (some ⟨w.heap.size, 0, none⟩), .pointer (some ⟨w2.heap.size, 0, none⟩)]] 1)).grownBy w6 (Value.slice a1 us.length c1).ownBlock → w6.cell? ⟨w.heap.size, 0, none⟩ = some (.pointer (some ⟨p, 0, none⟩)) ∧ w6.heap[p]? = some (.cells #[.slice (some ⟨g, 0, none⟩) xs.length c0, .slice a1 us.length c1] 59 (0, 0))) := hide (fun w6 hg => by
    have st : ∀ k, k < W5.heap.size → (Value.slice a1 us.length c1).ownBlock ≠ some k → w6.heap[k]? = W5.heap[k]? := fun k hk hne => by
      rw [hg.block k (by simp; omega) (fun e => hne e.symm)]
      exact Below.heap_alloc W5.drew _ k hk
    have hu := fun k (e : (Value.slice a1 us.length c1).ownBlock = some k) => (row_at HH.out.bf.undo e).2.1
    exact ⟨cell_of_one ((st _ (lt_of_block J0.out) (fun e => by have := hu _ e; omega)).trans J0.out), (st _ (lt_of_block HF5.out.blk) HF5.out.une).trans HF5.out.blk⟩)
  have HFin : Hid (∀ v6 w6, w6.ownsRow B 1 1 v6 (us.length + 1) (us ++ [.func (.func 45) #[] #[.pointer (some ⟨W3.heap.size, 0, none⟩), .pointer (some ⟨w.heap.size, 0, none⟩), .pointer (some ⟨w2.heap.size, 0, none⟩)]]) → (W5.drew.alloc (.cells #[.func (.func 45) #[] #[.pointer (some ⟨W3.heap.size, 0, none⟩), .pointer (some ⟨w.heap.size, 0, none⟩), .pointer (some ⟨w2.heap.size, 0, none⟩)]] 1)).grownBy w6 (Value.slice a1 us.length c1).ownBlock → (v6.ownBlock = (Value.slice a1 us.length c1).ownBlock ∨ v6.ownBlock = some (W5.drew.alloc (.cells #[.func (.func 45) #[] #[.pointer (some ⟨W3.heap.size, 0, none⟩), .pointer (some ⟨w.heap.size, 0, none⟩), .pointer (some ⟨w2.heap.size, 0, none⟩)]] 1)).heap.size) → ∃ i sv' uv' u, At (pge y.e.key) xs i ∧ Bh (w6.setCell ⟨p, 1, none⟩ v6) p B sv' uv' (xs.set i y) (us ++ [u]) (hs ++ [xs]) ∧ Go1 (Bo p (.slice (some ⟨g, 0, none⟩) xs.length c0) (.slice a1 us.length c1)) w (Bo p sv' uv') (w6.setCell ⟨p, 1, none⟩ v6)) := hide (fun v6 w6 ho hg hl => by
    obtain ⟨hbf7, hgo7⟩ := undo_turned (us' := us ++ [.func (.func 45) #[] #[.pointer (some ⟨W3.heap.size, 0, none⟩), .pointer (some ⟨w.heap.size, 0, none⟩), .pointer (some ⟨w2.heap.size, 0, none⟩)]]) HF5.out ((Below.refl W5.heap.size W5).drew.trans (below_alloc W5.drew _)) hg (by rw [List.length_append]; exact ho) (hl.imp id fun e => ⟨_, e, Nat.le_refl _⟩)
    have hgo := HG5.out.trans hgo7
    refine ⟨i, _, v6, _, HAt.out, HH.out.more hgo.mv (fun k hk => ?_) hbf7 ?_, hgo⟩
    · rcases HL5.out with h | ⟨k', h, hk'⟩
      · left; rw [← h]; exact hk
      · right; rw [h] at hk; cases hk; exact hk'
    · have j0 := hgo7.mv.block _ (lt_of_block J0.out) (fun e => by have := HNB.out _ e; omega)
      have j2 := hgo7.mv.block _ (lt_of_block J2.out) (fun e => by have := HNB.out _ e; omega)
      have j3 := hgo7.mv.block _ (lt_of_block J3.out) (fun e => by have := HNB.out _ e; omega)
      refine .inl ⟨W3.heap.size, w.heap.size, w2.heap.size, i, x, rfl, j3.trans J3.out, j0.trans J0.out, j2.trans J2.out, ?_, ?_, fun e => ?_⟩
      · rw [List.length_set]; exact hil
      · rw [List.set_set]; exact set_same HX.out
      · simp only [Value.ownBlock, Option.some.injEq] at e; omega)
  clear J0s
  obtain ⟨t0, t1, tf⟩ := cells_two HF5.out.blk
  obtain ⟨ta0, ta1, taf⟩ := cells_two ((Below.heap_alloc W5.drew (.cells #[.func (.func 45) #[] #[.pointer (some ⟨W3.heap.size, 0, none⟩), .pointer (some ⟨w.heap.size, 0, none⟩), .pointer (some ⟨w2.heap.size, 0, none⟩)]] 1) p (lt_of_block HF5.out.blk)).trans HF5.out.blk)
  have tb1 : (W5.alloc (.cells #[.func (.func 45) #[] #[.pointer (some ⟨W3.heap.size, 0, none⟩), .pointer (some ⟨w.heap.size, 0, none⟩), .pointer (some ⟨w2.heap.size, 0, none⟩)]] 1)).cell? ⟨p, 1, none⟩ = some (.slice a1 us.length c1) := ta1
  refine wp_region_noPanic ?_
  refine wp_region_held_drew (S := (fun W => W.cell? ⟨w.heap.size, 0, none⟩ = some (.pointer (some ⟨p, 0, none⟩)))) (by kernel_rfl) HS7.out (fun _hS => ?_)
  refine wpAnyH_take (i := 0) (oi := { dst := some 29, op := Op.load 25 (Operand.tmp 2), type := 25, pos := "mark.go:30", after := #[], guard := none }) (v := ?v0x1001) rfl (by kernel_rfl) (by kernel_rfl) (by kernel_rfl) (fun _ _ _ h => h) (Or.inl ⟨by rfl, ?hy0x1001⟩) (by assumption) ?rest0x1001
  case hy0x1001 => (intro w hSw; (try dsimp only at hSw); (first | (go_simp; with_reducible rfl) | go_simp))
  try simp only [Act.put, List.setIfInBounds_toArray, List.set_cons_zero, List.set_cons_succ]
  refine wpAnyH_take (i := 1) (oi := { dst := some 30, op := Op.load 25 (Operand.tmp 2), type := 25, pos := "mark.go:30", after := #[], guard := none }) (v := ?v1x1002) rfl (by kernel_rfl) (by kernel_rfl) (by kernel_rfl) (fun _ _ _ h => h) (Or.inl ⟨by rfl, ?hy1x1002⟩) (by assumption) ?rest1x1002
  case hy1x1002 => (intro w hSw; (try dsimp only at hSw); (first | (go_simp; with_reducible rfl) | go_simp))
  try simp only [Act.put, List.setIfInBounds_toArray, List.set_cons_zero, List.set_cons_succ]
  refine wpAnyH_take (i := 2) (oi := { dst := some 31, op := Op.nilCheck (Operand.tmp 30), type := 0, pos := "mark.go:30", after := #[{ on := 1, ground := Ground.data }], guard := none }) (v := ?v2x1003) rfl (by kernel_rfl) (by kernel_rfl) (by kernel_rfl) (fun _ _ _ h => h) (Or.inl ⟨by rfl, ?hy2x1003⟩) (by assumption) ?rest2x1003
  case hy2x1003 => (intro w hSw; (try dsimp only at hSw); (first | (go_simp; with_reducible rfl) | go_simp))
  try simp only [Act.put, List.setIfInBounds_toArray, List.set_cons_zero, List.set_cons_succ]
  refine wpAnyH_take (i := 3) (oi := { dst := some 32, op := Op.fieldAddr 59 (Operand.tmp 31) 1, type := 0, pos := "mark.go:30", after := #[{ on := 2, ground := Ground.data }], guard := none }) (v := ?v3x1004) rfl (by kernel_rfl) (by kernel_rfl) (by kernel_rfl) (fun _ _ _ h => h) (Or.inl ⟨by rfl, ?hy3x1004⟩) (by assumption) ?rest3x1004
  case hy3x1004 => (intro w hSw; (try dsimp only at hSw); (first | (go_simp; with_reducible rfl) | go_simp))
  try simp only [Act.put, List.setIfInBounds_toArray, List.set_cons_zero, List.set_cons_succ]
  refine wpAnyH_take (i := 5) (oi := { dst := some 34, op := Op.makeFunc (Fn.func 45) #[] #[Operand.tmp 6, Operand.tmp 2, Operand.tmp 4], type := 1, pos := "mark.go:30", after := #[], guard := none }) (v := ?v5x1005) rfl (by kernel_rfl) (by kernel_rfl) (by kernel_rfl) (fun _ _ _ h => h) (Or.inl ⟨by rfl, ?hy5x1005⟩) (by assumption) ?rest5x1005
  case hy5x1005 => (intro w hSw; (try dsimp only at hSw); (first | (go_simp; with_reducible rfl) | go_simp))
  try simp only [Act.put, List.setIfInBounds_toArray, List.set_cons_zero, List.set_cons_succ]
  refine wpAnyH_ready (rs := [4, 6]) (by kernel_rfl) (by simp) ?_
  refine AllReadyH.cons (o := { dst := some 33, op := Op.load 57 (Operand.tmp 32), type := 57, pos := "mark.go:30", after := #[{ on := 3, ground := Ground.data }], guard := none }) rfl (fun K hK => ?_) (AllReadyH.cons (o := { dst := some 35, op := Op.buildSlice 57 1 #[(0, Operand.tmp 34)], type := 57, pos := "mark.go:30", after := #[{ on := 5, ground := Ground.data }], guard := none }) rfl (fun K hK => ?_) (AllReadyH.nil))
  · go_simp
    refine hK.out _ _ ?_ (fun _hS => ?_)
    · exact HS7.out
    clear hK K
    try simp only [Act.put, List.setIfInBounds_toArray, List.set_cons_zero, List.set_cons_succ]
    refine wpAnyH_ready (rs := [6]) (by kernel_rfl) (by simp) ?_
    refine AllReadyH.cons (o := { dst := some 35, op := Op.buildSlice 57 1 #[(0, Operand.tmp 34)], type := 57, pos := "mark.go:30", after := #[{ on := 5, ground := Ground.data }], guard := none }) rfl (fun K hK => ?_) (AllReadyH.nil)
    go_simp
    refine hK.out _ _ ?_ (fun _hS => ?_)
    · exact HSA7.out
    clear hK K
    try simp only [Act.put, List.setIfInBounds_toArray, List.set_cons_zero, List.set_cons_succ]
    refine wpAnyH_ready (rs := [7]) (by kernel_rfl) (by simp) ?_
    refine AllReadyH.cons (o := { dst := some 36, op := Op.call { callee := Callee.builtin Builtin.append, args := #[Operand.tmp 33, Operand.tmp 35], argTypes := #[57, 57] }, type := 57, pos := "mark.go:30", after := #[{ on := 4, ground := Ground.data }, { on := 6, ground := Ground.data }], guard := none }) rfl (fun K hK => ?_) (AllReadyH.nil)
    refine step_of rfl ?_
    refine wp_append_at (.tmp 33) (.tmp 35) 57 1 rfl B f0i _ 1 8 Try.underlying57 hf0 hfz hf1 hf2 (by rfl) (by omega) (.slice a1 us.length c1) us.length us rfl HU7.out ⟨W5.heap.size, 0, none⟩ 1 1 [.func (.func 45) #[] #[.pointer (some ⟨W3.heap.size, 0, none⟩), .pointer (some ⟨w.heap.size, 0, none⟩), .pointer (some ⟨w2.heap.size, 0, none⟩)]] rfl rfl HN7.out (fun u hu => by simp at hu; subst hu; rfl) (by unfold maxLen; omega) (by omega) HB7.out ?_
    intro v6 w6 hown6 hg6 hloc6
    obtain ⟨a6, c6, rfl, -⟩ := row_shape hown6
    have HO6 := hide hown6
    have HG6 := hide hg6
    have HL6 := hide hloc6
    obtain ⟨k0, k3⟩ := HT7.out w6 hg6
    clear hown6 hg6 hloc6
    obtain ⟨s2, s3, f3⟩ := cells_two k3
    have f4 : w6.frozen? ⟨p, 1, none⟩ = false := by simp [World.frozen?, k3]
    have K6 := hide k3
    clear k3
    refine hK.out _ _ ?_ (fun _hS => ?_)
    · exact k0
    clear hK K
    try simp only [Act.put, List.setIfInBounds_toArray, List.set_cons_zero, List.set_cons_succ]
    refine wpAnyH_take (i := 8) (oi := { dst := some 37, op := Op.nilCheck (Operand.tmp 29), type := 0, pos := "mark.go:30", after := #[{ on := 0, ground := Ground.data }, { on := 0, ground := Ground.phase }, { on := 1, ground := Ground.phase }, { on := 2, ground := Ground.phase }, { on := 3, ground := Ground.phase }, { on := 4, ground := Ground.phase }, { on := 5, ground := Ground.phase }, { on := 6, ground := Ground.phase }, { on := 7, ground := Ground.phase }], guard := none }) (v := ?v8x1006) rfl (by kernel_rfl) (by kernel_rfl) (by kernel_rfl) (fun _ _ _ h => h) (Or.inl ⟨by rfl, ?hy8x1006⟩) (by assumption) ?rest8x1006
    case hy8x1006 => (intro w hSw; (try dsimp only at hSw); (first | (go_simp; with_reducible rfl) | go_simp))
    try simp only [Act.put, List.setIfInBounds_toArray, List.set_cons_zero, List.set_cons_succ]
    refine wpAnyH_take (i := 9) (oi := { dst := some 38, op := Op.fieldAddr 59 (Operand.tmp 37) 1, type := 0, pos := "mark.go:30", after := #[{ on := 8, ground := Ground.data }, { on := 0, ground := Ground.phase }, { on := 1, ground := Ground.phase }, { on := 2, ground := Ground.phase }, { on := 3, ground := Ground.phase }, { on := 4, ground := Ground.phase }, { on := 5, ground := Ground.phase }, { on := 6, ground := Ground.phase }, { on := 7, ground := Ground.phase }], guard := none }) (v := ?v9x1007) rfl (by kernel_rfl) (by kernel_rfl) (by kernel_rfl) (fun _ _ _ h => h) (Or.inl ⟨by rfl, ?hy9x1007⟩) (by assumption) ?rest9x1007
    case hy9x1007 => (intro w hSw; (try dsimp only at hSw); (first | (go_simp; with_reducible rfl) | go_simp))
    try simp only [Act.put, List.setIfInBounds_toArray, List.set_cons_zero, List.set_cons_succ]
    refine wpAnyH_ready (rs := [10]) (by kernel_rfl) (by simp) ?_
    refine AllReadyH.cons (o := { dst := none, op := Op.store 57 (Operand.tmp 38) (Operand.tmp 36), type := 0, pos := "mark.go:30", after := #[{ on := 9, ground := Ground.data }, { on := 7, ground := Ground.data }, { on := 7, ground := Ground.chain }, { on := 0, ground := Ground.phase }, { on := 1, ground := Ground.phase }, { on := 2, ground := Ground.phase }, { on := 3, ground := Ground.phase }, { on := 4, ground := Ground.phase }, { on := 5, ground := Ground.phase }, { on := 6, ground := Ground.phase }, { on := 7, ground := Ground.phase }], guard := none }) rfl (fun K hK => ?_) (AllReadyH.nil)
    go_simp
    refine hK.out _ _ ?_ (fun _hS => ?_)
    · exact (cell_set_ne (by omega)).trans k0
    clear hK K
    try simp only [Act.put, List.setIfInBounds_toArray, List.set_cons_zero, List.set_cons_succ]
    refine wpAnyH_done (by kernel_rfl) ?_ _
    refine NoPanic.normal ?_
    go_wp2
    go_returns
    (obtain ⟨i9, v9, v8, u9, h9, h8, h7⟩ := HFin.out _ _ HO6.out HG6.out HL6.out; exact ⟨rfl, i9, h9, v9, v8, ⟨u9, h8⟩, h7⟩)
  · go_simp
    refine hK.out _ _ ?_ (fun _hS => ?_)
    · exact HSA7.out
    clear hK K
    try simp only [Act.put, List.setIfInBounds_toArray, List.set_cons_zero, List.set_cons_succ]
    refine wpAnyH_ready (rs := [4]) (by kernel_rfl) (by simp) ?_
    refine AllReadyH.cons (o := { dst := some 33, op := Op.load 57 (Operand.tmp 32), type := 57, pos := "mark.go:30", after := #[{ on := 3, ground := Ground.data }], guard := none }) rfl (fun K hK => ?_) (AllReadyH.nil)
    go_simp
    refine hK.out _ _ ?_ (fun _hS => ?_)
    · exact HSA7.out
    clear hK K
    try simp only [Act.put, List.setIfInBounds_toArray, List.set_cons_zero, List.set_cons_succ]
    refine wpAnyH_ready (rs := [7]) (by kernel_rfl) (by simp) ?_
    refine AllReadyH.cons (o := { dst := some 36, op := Op.call { callee := Callee.builtin Builtin.append, args := #[Operand.tmp 33, Operand.tmp 35], argTypes := #[57, 57] }, type := 57, pos := "mark.go:30", after := #[{ on := 4, ground := Ground.data }, { on := 6, ground := Ground.data }], guard := none }) rfl (fun K hK => ?_) (AllReadyH.nil)
    refine step_of rfl ?_
    refine wp_append_at (.tmp 33) (.tmp 35) 57 1 rfl B f0i _ 1 8 Try.underlying57 hf0 hfz hf1 hf2 (by rfl) (by omega) (.slice a1 us.length c1) us.length us rfl HU7.out ⟨W5.heap.size, 0, none⟩ 1 1 [.func (.func 45) #[] #[.pointer (some ⟨W3.heap.size, 0, none⟩), .pointer (some ⟨w.heap.size, 0, none⟩), .pointer (some ⟨w2.heap.size, 0, none⟩)]] rfl rfl HN7.out (fun u hu => by simp at hu; subst hu; rfl) (by unfold maxLen; omega) (by omega) HB7.out ?_
    intro v6 w6 hown6 hg6 hloc6
    obtain ⟨a6, c6, rfl, -⟩ := row_shape hown6
    have HO6 := hide hown6
    have HG6 := hide hg6
    have HL6 := hide hloc6
    obtain ⟨k0, k3⟩ := HT7.out w6 hg6
    clear hown6 hg6 hloc6
    obtain ⟨s2, s3, f3⟩ := cells_two k3
    have f4 : w6.frozen? ⟨p, 1, none⟩ = false := by simp [World.frozen?, k3]
    have K6 := hide k3
    clear k3
    refine hK.out _ _ ?_ (fun _hS => ?_)
    · exact k0
    clear hK K
    try simp only [Act.put, List.setIfInBounds_toArray, List.set_cons_zero, List.set_cons_succ]
    refine wpAnyH_take (i := 8) (oi := { dst := some 37, op := Op.nilCheck (Operand.tmp 29), type := 0, pos := "mark.go:30", after := #[{ on := 0, ground := Ground.data }, { on := 0, ground := Ground.phase }, { on := 1, ground := Ground.phase }, { on := 2, ground := Ground.phase }, { on := 3, ground := Ground.phase }, { on := 4, ground := Ground.phase }, { on := 5, ground := Ground.phase }, { on := 6, ground := Ground.phase }, { on := 7, ground := Ground.phase }], guard := none }) (v := ?v8x1008) rfl (by kernel_rfl) (by kernel_rfl) (by kernel_rfl) (fun _ _ _ h => h) (Or.inl ⟨by rfl, ?hy8x1008⟩) (by assumption) ?rest8x1008
    case hy8x1008 => (intro w hSw; (try dsimp only at hSw); (first | (go_simp; with_reducible rfl) | go_simp))
    try simp only [Act.put, List.setIfInBounds_toArray, List.set_cons_zero, List.set_cons_succ]
    refine wpAnyH_take (i := 9) (oi := { dst := some 38, op := Op.fieldAddr 59 (Operand.tmp 37) 1, type := 0, pos := "mark.go:30", after := #[{ on := 8, ground := Ground.data }, { on := 0, ground := Ground.phase }, { on := 1, ground := Ground.phase }, { on := 2, ground := Ground.phase }, { on := 3, ground := Ground.phase }, { on := 4, ground := Ground.phase }, { on := 5, ground := Ground.phase }, { on := 6, ground := Ground.phase }, { on := 7, ground := Ground.phase }], guard := none }) (v := ?v9x1009) rfl (by kernel_rfl) (by kernel_rfl) (by kernel_rfl) (fun _ _ _ h => h) (Or.inl ⟨by rfl, ?hy9x1009⟩) (by assumption) ?rest9x1009
    case hy9x1009 => (intro w hSw; (try dsimp only at hSw); (first | (go_simp; with_reducible rfl) | go_simp))
    try simp only [Act.put, List.setIfInBounds_toArray, List.set_cons_zero, List.set_cons_succ]
    refine wpAnyH_ready (rs := [10]) (by kernel_rfl) (by simp) ?_
    refine AllReadyH.cons (o := { dst := none, op := Op.store 57 (Operand.tmp 38) (Operand.tmp 36), type := 0, pos := "mark.go:30", after := #[{ on := 9, ground := Ground.data }, { on := 7, ground := Ground.data }, { on := 7, ground := Ground.chain }, { on := 0, ground := Ground.phase }, { on := 1, ground := Ground.phase }, { on := 2, ground := Ground.phase }, { on := 3, ground := Ground.phase }, { on := 4, ground := Ground.phase }, { on := 5, ground := Ground.phase }, { on := 6, ground := Ground.phase }, { on := 7, ground := Ground.phase }], guard := none }) rfl (fun K hK => ?_) (AllReadyH.nil)
    go_simp
    refine hK.out _ _ ?_ (fun _hS => ?_)
    · exact (cell_set_ne (by omega)).trans k0
    clear hK K
    try simp only [Act.put, List.setIfInBounds_toArray, List.set_cons_zero, List.set_cons_succ]
    refine wpAnyH_done (by kernel_rfl) ?_ _
    refine NoPanic.normal ?_
    go_wp2
    go_returns
    (obtain ⟨i9, v9, v8, u9, h9, h8, h7⟩ := HFin.out _ _ HO6.out HG6.out HL6.out; exact ⟨rfl, i9, h9, v9, v8, ⟨u9, h8⟩, h7⟩)
end Go.Proofs.Ytfcebpenjdhgbaa
