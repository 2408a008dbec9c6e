/- A first write goes into the cache; any write. -/
import Derived.Test.YtobokocpapfjbaaGreatDG
import Derived.Deep.RegionHeld3
namespace Go.Proofs.YtobokocpapfjbaaGreat
open Go.RowKit Go.Maps
set_option linter.unusedVariables false
theorem size_al (w : World) (o : Obj) : (w.alloc o).heap.size = w.heap.size + 1 := Array.size_push _
/-- a disk that is given an empty map. -/
theorem Dk.mapped {w : World} {p q : Nat} {vw : Value} {S : DS} (h : Dk w p q vw none S) : Dk ((w.alloc (.map #[] 0)).setCell ⟨p, 2, none⟩ (.map (some w.heap.size))) p q vw (some w.heap.size) S := by
  have hp := h.lt p (.inl rfl)
  have hq := h.lt q (.inr (.inl rfl))
  have hws : S.ws = [] := h.map
  refine ⟨?_, ?_, ?_, ?_, h.pq, h.pv, h.qv, fun e => by cases e; omega, fun e => by cases e; omega, fun k hk e => by cases e; have := (h.wri.lt _ hk).2; omega, h.good⟩
  · rw [heap_setCell_same _ p 2 _ 108 _ ((Below.heap_alloc w _ p hp).trans h.blk)]; rfl
  · rw [set_other _ _ _ _ _ h.pq.symm, Below.heap_alloc w _ q hq]; exact h.las
  · exact (h.wri.alloc _).kept (row := some p) (grown_setCell _ p 2 _) (.inr h.pv)
  · refine ⟨0, .map [], Nat.zero_le _, ?_, by rw [hws]; exact Tells.nil⟩
    exact (World.ownsMap_made w Tryz.prog 3 _).kept (row := some p) (grown_setCell _ p 2 _) (by intro e; cases e; omega)
set_option maxHeartbeats 3200000 in
set_option maxRecDepth 1000000 in
theorem add_none (p q : Nat) (vw : Value) (S : DS) (n : Nat) (ys : List Int) (w : World) (h : Dk w p q vw none S) (hn : n < S.ls.length) (hy : ys.length = 128) (hb : Byts ys) (hf : S.ws.length + 1 ≤ 1000000) :
    Calls Tryz.prog 40 #[.pointer (some ⟨p, 1, none⟩), .int .i64 (n : Int), .agg (sv ys).toArray] w fun e w' => e = .returned (.tuple #[]) ∧ ∃ vw', Dk w' p q vw' (some (w.heap.size + 1)) (S.add n ys) ∧ (∀ k, vw'.ownBlock = some k → vw.ownBlock = some k ∨ w.heap.size ≤ k) ∧ Mv (Ow p q vw none) w w' := by
  have hd0 := h.below (below_alloc w (.cells (sv ys).toArray 114))
  have hs1 : (w.alloc (.cells (sv ys).toArray 114)).heap.size = w.heap.size + 1 := size_al _ _
  have k2 := hd0.c 2 (.map none) rfl
  have k2' : ((w.alloc (.cells (sv ys).toArray 114)).alloc (.map #[] 0)).cell? ⟨p, 2, none⟩ = some (.map none) := (hd0.below (below_alloc _ _)).c 2 (.map none) rfl
  have f2' : ((w.alloc (.cells (sv ys).toArray 114)).alloc (.map #[] 0)).frozen? ⟨p, 2, none⟩ = false := (hd0.below (below_alloc _ _)).f 2
  have HDx := hide hd0.mapped
  rw [hs1] at HDx
  have hpl : p < w.heap.size := h.lt p (.inl rfl)
  have HBx0 : Hid ((((w.alloc (.cells (sv ys).toArray 114)).alloc (.map #[] 0)).setCell ⟨p, 2, none⟩ (.map (some (w.heap.size + 1)))).heap[w.heap.size]? = some (.cells (sv ys).toArray 114 (0, 0))) := by
    rw [Hid, set_other _ _ _ _ _ (by omega), Below.heap_alloc _ _ _ (by omega)]
    exact heap_alloc_new w _
  have HSx : Hid ((((w.alloc (.cells (sv ys).toArray 114)).alloc (.map #[] 0)).setCell ⟨p, 2, none⟩ (.map (some (w.heap.size + 1)))).heap.size = w.heap.size + 2) := by rw [Hid, World.size_setCell, size_al, size_al]
  have HOx : Hid (∀ k, k < w.heap.size → k ≠ p → (((w.alloc (.cells (sv ys).toArray 114)).alloc (.map #[] 0)).setCell ⟨p, 2, none⟩ (.map (some (w.heap.size + 1)))).heap[k]? = w.heap[k]?) := fun k hk hkp => by
    rw [set_other _ _ _ _ _ hkp, Below.heap_alloc _ _ _ (by omega)]
    exact Below.heap_alloc w _ k hk
  have HOs : Hid ((((w.alloc (.cells (sv ys).toArray 114)).alloc (.map #[] 0)).setCell ⟨p, 2, none⟩ (.map (some (w.heap.size + 1)))).drew.os = w.os ∧ (((w.alloc (.cells (sv ys).toArray 114)).alloc (.map #[] 0)).setCell ⟨p, 2, none⟩ (.map (some (w.heap.size + 1)))).drew.tape = w.tape ∧ (((w.alloc (.cells (sv ys).toArray 114)).alloc (.map #[] 0)).setCell ⟨p, 2, none⟩ (.map (some (w.heap.size + 1)))).drew.output = w.output) := ⟨rfl, rfl, rfl⟩
  have heq := map_nil none
  have hmm := @run_makeMap Tryz.prog
  clear hd0 hpl
  go_enter Tryz.func40, Tryz.ntmps40
  go_wp2
  clear k2 k2' f2' hs1 hmm
  generalize ((w.alloc (.cells (sv ys).toArray 114)).alloc (.map #[] 0)).setCell ⟨p, 2, none⟩ (.map (some (w.heap.size + 1))) = Wx at HDx HBx0 HSx HOx HOs ⊢
  obtain ⟨b, HBe⟩ : ∃ b, Hid (b = w.heap.size + 1) := ⟨_, rfl⟩
  rw [← HBe.out] at HDx ⊢
  have k1 := HDx.out.c 1 vw rfl
  have k2 := HDx.out.c 2 (.map (some b)) rfl
  obtain ⟨a, len, cap, rfl, hlen⟩ : ∃ a len cap, vw = .slice a len cap ∧ len = S.ws.length := by
    rcases HDx.out.wri.2 with ⟨e, e2⟩ | ⟨g, cap, cur, e, _⟩
    · exact ⟨none, 0, 0, e, e2.symm⟩
    · exact ⟨_, _, cap, e, rfl⟩
  have HL := hide hlen
  clear hlen
  obtain ⟨N, D, hN, hown, htell⟩ := HDx.out.map
  have hkey : keyOf Tryz.prog 3 (.int .i64 (n : Int)) = some (.int .i64 (n : Int)) := keyOf_int_mk Tryz.underlying3 (WalkArith.wf_i64 (by have := HDx.out.good.most; omega))
  obtain ⟨w1, hrun, hown1, hgrow1⟩ := hown.drew.update law3 Tryz.underlying100 (by unfold maxLen; omega) hkey (plainElem_int Tryz.underlying3 (WalkArith.wf_i64 (n := (S.ws.length : Int)) (by omega)))
  rw [← HL.out] at hrun
  have HO1 := hide hown1
  have HG1 := hide hgrow1
  have HT := hide htell
  have HO0 := hide hown
  clear hown1 hgrow1 htell hown hkey
  go_region
  clear k1 k2
  have hbl : b = w.heap.size + 1 := HBe.out
  have hpl : p < w.heap.size := h.lt p (.inl rfl)
  have HNe : Hid (w.heap.size ≠ p) := by rw [Hid]; omega
  have HDp : Hid (w1.heap[p]? = some (.cells (cells q (.slice a len cap) (some b) S) 108 (0, 0))) := by
    rw [Hid, HG1.out.block p (lt_of_block HDx.out.blk) (by intro e; cases e; exact HDx.out.pm rfl)]
    exact HDx.out.blk
  have k1' : w1.cell? ⟨p, 1, none⟩ = some (.slice a len cap) := by simp [World.cell?, HDp.out, cells]
  have k1a : (w1.alloc (.cells (Value.int .i64 (n : Int) :: sv ys).toArray 165)).cell? ⟨p, 1, none⟩ = some (.slice a len cap) := by rw [World.cell?_of_block (w := w1) (Below.heap_alloc w1 _ p (lt_of_block HDp.out))]; exact k1'
  have HIm := hide (HO0.out.isMap)
  have HBx : Hid (w1.heap[w.heap.size]? = some (.cells (sv ys).toArray 114 (0, 0))) := by
    rw [Hid, HG1.out.block w.heap.size (by show _ < Wx.heap.size; rw [HSx.out]; omega) (by intro e; cases e; omega)]
    exact HBx0.out
  have HRg : Hid (w1.drew.rangeAt w.heap.size 0 (sv ys)) := fun j v hv => by
    rw [cell_of_row w1.drew w.heap.size (0 + j) _ 114 (0, 0) HBx.out]
    simpa using hv
  have HA : Hid ((sv ys).length = 128) := by rw [Hid, sv_len]; exact hy
  have HI : Hid ((Tryz.prog.info? 114).map (·.size) = some (sv ys).length) := by rw [Hid, HA.out]; exact size110
  have HR2 : Hid ((w1.drew.alloc (.cells (Value.int .i64 (n : Int) :: sv ys).toArray 165)).rangeAt w.heap.size 0 (sv ys)) := World.rangeAt_alloc HRg.out _
  have HO1' := hide HDx.out.wri
  have HO2 : Hid ((w1.drew.alloc (.cells (Value.int .i64 (n : Int) :: sv ys).toArray 165)).ownsRow 0 165 129 (.slice a len cap) S.ws.length (wflat S.ws)) := (HDx.out.wri.kept (w' := w1) (row := some b) ⟨HG1.out.os, HG1.out.tape, HG1.out.output, HG1.out.size, HG1.out.block⟩ (by
      right
      intro e
      exact HDx.out.vm b e rfl)).alloc _
  have HWl : Hid ((wv (n, ys)).length = 1 * 129) := by simp [wv, sv_len, hy, Hid]
  have HB1 : Hid (S.ws.length + 1 ≤ maxLen) := by unfold Hid maxLen; omega
  have HB2 : Hid ((S.ws.length + 1) * 136 ≤ 140737488355328) := by rw [Hid]; omega
  have HNw : Hid (∀ j u, (wv (n, ys))[j]? = some u → (w1.drew.alloc (.cells (Value.int .i64 (n : Int) :: sv ys).toArray 165)).cell? ((⟨w1.drew.heap.size, 0, none⟩ : Addr).add j) = some u) := fun j u hu => by
    rw [Addr.add_lit, cell_of_row _ _ (0 + j) _ 165 (0, 0) (heap_alloc_new w1.drew _)]
    simpa [wv] using hu
  have HPp : Hid (∀ w2, (w1.drew.alloc (.cells (Value.int .i64 (n : Int) :: sv ys).toArray 165)).grownBy w2 (Value.slice a len cap).ownBlock → w2.heap[p]? = some (.cells (cells q (.slice a len cap) (some b) S) 108 (0, 0))) := fun w2 hg => by
    rw [hg.block p (Nat.lt_of_lt_of_le (lt_of_block HDp.out) (by simp)) (fun e => HDx.out.pv e.symm), Below.heap_alloc w1.drew _ p (lt_of_block HDp.out)]
    exact HDp.out
  have HRr : Hid (∀ w2, (w1.drew.alloc (.cells (Value.int .i64 (n : Int) :: sv ys).toArray 165)).grownBy w2 (Value.slice a len cap).ownBlock → w2.rangeAt w.heap.size 0 (sv ys)) := fun w2 hg j v hv => by
    refine hg.cell (HR2.out j v hv) (fun e => ?_)
    have := (h.wri.lt w.heap.size e.symm).2
    omega
  have HFin : Hid (∀ v' w2, w2.ownsRow 0 165 129 v' (S.ws.length + 1) (wflat S.ws ++ wv (n, ys)) → (w1.drew.alloc (.cells (Value.int .i64 (n : Int) :: sv ys).toArray 165)).grownBy w2 (Value.slice a len cap).ownBlock → (v'.ownBlock = (Value.slice a len cap).ownBlock ∨ v'.ownBlock = some (w1.drew.alloc (.cells (Value.int .i64 (n : Int) :: sv ys).toArray 165)).heap.size) → w2.heap[p]? = some (.cells (cells q (.slice a len cap) (some b) S) 108 (0, 0)) →
      ∃ vw', Dk (w2.setCell ⟨p, 1, none⟩ v') p q vw' (some b) (S.add n ys) ∧ (∀ k, vw'.ownBlock = some k → (Value.slice a len cap).ownBlock = some k ∨ w.heap.size ≤ k) ∧ Mv (Ow p q (.slice a len cap) none) w (w2.setCell ⟨p, 1, none⟩ v')) := by
    intro v' w2 ho hg hloc hblk
    have hql : q < w.heap.size := h.lt q (.inr (.inl rfl))
    have hsz : w.heap.size + 1 < w1.heap.size := by have h1 := HG1.out.size; have h2 : Wx.drew.heap.size = w.heap.size + 2 := HSx.out; omega
    have hsz2 : (w1.drew.alloc (.cells (Value.int .i64 (n : Int) :: sv ys).toArray 165)).heap.size = w1.heap.size + 1 := by simp [World.alloc]
    have old : ∀ k, k < w.heap.size → k ≠ p → (Value.slice a len cap).ownBlock ≠ some k → w2.heap[k]? = w.heap[k]? := fun k hk h1 h2 => by
      rw [hg.block k (by omega) (fun e => h2 e.symm), Below.heap_alloc w1.drew _ k (by show k < w1.heap.size; omega)]
      show w1.heap[k]? = _
      rw [HG1.out.block k (by show k < Wx.heap.size; rw [HSx.out]; omega) (by intro e; cases e; omega)]
      exact HOx.out k hk h1
    have hnp : v'.ownBlock ≠ some p := by
      rcases hloc with e | e <;> rw [e]
      · exact HDx.out.pv
      · intro e'; cases e'; omega
    have hnq : v'.ownBlock ≠ some q := by
      rcases hloc with e | e <;> rw [e]
      · exact HDx.out.qv
      · intro e'; cases e'; omega
    have hnb : v'.ownBlock ≠ some b := by
      rcases hloc with e | e <;> rw [e]
      · exact fun e => HDx.out.vm b e rfl
      · intro e'; cases e'; omega
    refine ⟨v', ⟨?_, ?_, ?_, ?_, h.pq, hnp, hnq, HDx.out.pm, HDx.out.qm, fun k hk e => hnb (by cases e; exact hk), h.good.add n ys hn hy hb hf⟩, ?_, ?_⟩
    · rw [heap_setCell_same w2 p 1 _ 108 _ hblk]; rfl
    · rw [set_other _ _ _ _ _ h.pq.symm, old q hql h.pq.symm h.qv]
      exact h.las
    · show World.ownsRow _ 0 165 129 v' (S.ws ++ [(n, ys)]).length (wflat (S.ws ++ [(n, ys)]))
      rw [wflat_snoc, List.length_append, List.length_singleton]
      exact ho.kept (row := some p) (grown_setCell w2 p 1 v') (.inr hnp)
    · refine ⟨N + 1, _, by show N + 1 ≤ (S.ws ++ [(n, ys)]).length; simp; exact hN, ?_, HT.out.snoc HIm.out (n, ys)⟩
      exact ((HO1.out.drew.alloc _).kept hg (fun e => HDx.out.vm b e.symm rfl)).kept (row := some p) (grown_setCell w2 p 1 v') (by intro e; cases e; exact HDx.out.pm rfl)
    · intro k hk
      rcases hloc with e | e
      · left; rw [← e]; exact hk
      · right; rw [e] at hk; cases hk; omega
    · refine ⟨?_, ?_, ?_, ?_, fun k hk ho => ?_⟩
      · show w2.os = _; rw [hg.os]; show w1.os = _; rw [HG1.out.os]; exact HOs.out.1
      · show w2.tape = _; rw [hg.tape]; show w1.tape = _; rw [HG1.out.tape]; exact HOs.out.2.1
      · show w2.output = _; rw [hg.output]; show w1.output = _; rw [HG1.out.output]; exact HOs.out.2.2
      · have := hg.size
        simp only [World.size_setCell]
        omega
      · rw [set_other _ _ _ _ _ (fun e => ho (.inl e)), old k hk (fun e => ho (.inl e)) (fun e => ho (.inr (.inr (.inl e))))]
  obtain ⟨i0, hi, hz0, hz1, hz2⟩ := info_parts info117
  clear hrun heq h HO1' hpl
  go_wp2
  refine wp_region_noPanic ?_
  refine wp_region_held_drew (S := (fun W => W.rangeAt w.heap.size 0 (sv ys))) (by kernel_rfl) HRg.out (fun _hS => ?_)
  refine wpAnyH_take (i := 0) (oi := { dst := some 25, op := Op.move (Operand.tmp 0), type := 163, pos := "cache.go:21", after := #[], guard := none }) (v := ?v0x1) rfl (by kernel_rfl) (by kernel_rfl) (by kernel_rfl) (fun _ _ _ h => h) (Or.inl ⟨by rfl, ?hy0x1⟩) (by assumption) ?rest0x1
  case hy0x1 => (intro w hSw; (try dsimp only at hSw); (first | (go_simp; with_reducible rfl) | go_simp))
  try simp only [Act.put, List.setIfInBounds_toArray, List.set_cons_zero, List.set_cons_succ]
  refine wpAnyH_take (i := 1) (oi := { dst := some 26, op := Op.move (Operand.tmp 0), type := 163, pos := "cache.go:21", after := #[], guard := none }) (v := ?v1x2) rfl (by kernel_rfl) (by kernel_rfl) (by kernel_rfl) (fun _ _ _ h => h) (Or.inl ⟨by rfl, ?hy1x2⟩) (by assumption) ?rest1x2
  case hy1x2 => (intro w hSw; (try dsimp only at hSw); (first | (go_simp; with_reducible rfl) | go_simp))
  try simp only [Act.put, List.setIfInBounds_toArray, List.set_cons_zero, List.set_cons_succ]
  refine wpAnyH_take (i := 2) (oi := { dst := some 27, op := Op.nilCheck (Operand.tmp 26), type := 0, pos := "cache.go:21", after := #[{ on := 1, ground := Ground.data }], guard := none }) (v := ?v2x3) rfl (by kernel_rfl) (by kernel_rfl) (by kernel_rfl) (fun _ _ _ h => h) (Or.inl ⟨by rfl, ?hy2x3⟩) (by assumption) ?rest2x3
  case hy2x3 => (intro w hSw; (try dsimp only at hSw); (first | (go_simp; with_reducible rfl) | go_simp))
  try simp only [Act.put, List.setIfInBounds_toArray, List.set_cons_zero, List.set_cons_succ]
  refine wpAnyH_take (i := 3) (oi := { dst := some 28, op := Op.fieldAddr 102 (Operand.tmp 27) 0, type := 0, pos := "cache.go:21", after := #[{ on := 2, ground := Ground.data }], guard := none }) (v := ?v3x4) rfl (by kernel_rfl) (by kernel_rfl) (by kernel_rfl) (fun _ _ _ h => h) (Or.inl ⟨by rfl, ?hy3x4⟩) (by assumption) ?rest3x4
  case hy3x4 => (intro w hSw; (try dsimp only at hSw); (first | (go_simp; with_reducible rfl) | go_simp))
  try simp only [Act.put, List.setIfInBounds_toArray, List.set_cons_zero, List.set_cons_succ]
  refine wpAnyH_take (i := 5) (oi := { dst := some 30, op := Op.move (Operand.tmp 1), type := 3, pos := "cache.go:21", after := #[], guard := none }) (v := ?v5x5) rfl (by kernel_rfl) (by kernel_rfl) (by kernel_rfl) (fun _ _ _ h => h) (Or.inl ⟨by rfl, ?hy5x5⟩) (by assumption) ?rest5x5
  case hy5x5 => (intro w hSw; (try dsimp only at hSw); (first | (go_simp; with_reducible rfl) | go_simp))
  try simp only [Act.put, List.setIfInBounds_toArray, List.set_cons_zero, List.set_cons_succ]
  refine wpAnyH_take (i := 6) (oi := { dst := some 31, op := Op.load 114 (Operand.tmp 5), type := 114, pos := "cache.go:21", after := #[], guard := none }) (v := .agg (sv ys).toArray) rfl (by kernel_rfl) (by kernel_rfl) (by kernel_rfl) (fun _ _ _ h => h) (yieldsIf_load_mid (by rfl) 114 (.tmp 5) (by rfl) w.heap.size 0 (by rfl) (sv ys) _ (fun w h => h) Tryz.underlying114 rfl HI.out) (by assumption) ?_
  try simp only [Act.put, List.setIfInBounds_toArray, List.set_cons_zero, List.set_cons_succ]
  refine wpAnyH_take (i := 7) (oi := { dst := some 32, op := Op.build 165 #[(0, Operand.tmp 30), (1, Operand.tmp 31)], type := 165, pos := "cache.go:21", after := #[{ on := 5, ground := Ground.data }, { on := 6, ground := Ground.data }], guard := none }) (v := .agg (wv (n, ys)).toArray) rfl (by kernel_rfl) (by kernel_rfl) (by kernel_rfl) (fun _ _ _ h => h) (Or.inl ⟨by rfl, fun w _ => yields_build (n : Int) (sv ys) HA.out w (.tmp 30) (.tmp 31) rfl rfl rfl⟩) (by assumption) ?_
  try simp only [Act.put, List.setIfInBounds_toArray, List.set_cons_zero, List.set_cons_succ]
  refine wpAnyH_ready (rs := [4, 8]) (by kernel_rfl) (by simp) ?_
  refine AllReadyH.cons (o := { dst := some 29, op := Op.load 99 (Operand.tmp 28), type := 99, pos := "cache.go:21", after := #[{ on := 3, ground := Ground.data }], guard := none }) rfl (fun K hK => ?_) (AllReadyH.cons (o := { dst := some 33, op := Op.buildSlice 99 1 #[(0, Operand.tmp 32)], type := 99, pos := "cache.go:21", after := #[{ on := 7, ground := Ground.data }], guard := none }) rfl (fun K hK => ?_) AllReadyH.nil)
  · go_simp
    refine hK.out _ _ (by assumption) (fun _hS => ?_)
    clear hK K
    try simp only [Act.put, List.setIfInBounds_toArray, List.set_cons_zero, List.set_cons_succ]
    refine wpAnyH_ready (rs := [8]) (by kernel_rfl) (by simp) ?_
    refine AllReadyH.cons (o := { dst := some 33, op := Op.buildSlice 99 1 #[(0, Operand.tmp 32)], type := 99, pos := "cache.go:21", after := #[{ on := 7, ground := Ground.data }], guard := none }) rfl (fun K hK => ?_) AllReadyH.nil
    refine step_of rfl ?_
    refine wp_slice91 (.tmp 32) rfl (n : Int) (sv ys) HA.out rfl ?_
    refine hK.out _ _ HR2.out (fun _hS => ?_)
    clear hK K
    try simp only [Act.put, List.setIfInBounds_toArray, List.set_cons_zero, List.set_cons_succ]
    refine wpAnyH_ready (rs := [9]) (by kernel_rfl) (by simp) ?_
    refine AllReadyH.cons (o := { dst := some 34, op := Op.call { callee := Callee.builtin Builtin.append, args := #[Operand.tmp 29, Operand.tmp 33], argTypes := #[99, 99] }, type := 99, pos := "cache.go:21", after := #[{ on := 4, ground := Ground.data }, { on := 8, ground := Ground.data }], guard := none }) rfl (fun K hK => ?_) AllReadyH.nil
    refine step_of rfl ?_
    refine wp_append_at (.tmp 29) (.tmp 33) 99 165 rfl 0 i0 (.agg z117) 129 136 Tryz.underlying99 hi hz0 hz1 hz2 (by simp [z117, Value.cells]) (by omega) (.slice a len cap) S.ws.length (wflat S.ws) rfl HO2.out _ 1 1 (wv (n, ys)) rfl HWl.out HNw.out (wv_one _) HB1.out HB2.out (Nat.zero_le _) ?_
    intro v' w2 hown2 hgr2 hloc2
    obtain ⟨a', len', cap', rfl⟩ := row_shape hown2
    have HO3 := hide hown2
    have HG2 := hide hgr2
    have HLc := hide hloc2
    have HDp2 := hide (HPp.out w2 hgr2)
    have k1'' : w2.cell? ⟨p, 1, none⟩ = some (.slice a len cap) := by simp [World.cell?, HDp2.out, cells]
    have f1'' : w2.frozen? ⟨p, 1, none⟩ = false := by simp [World.frozen?, HDp2.out]
    clear hown2 hgr2 hloc2
    refine hK.out _ _ (HRr.out w2 HG2.out) (fun _hS => ?_)
    clear hK K
    try simp only [Act.put, List.setIfInBounds_toArray, List.set_cons_zero, List.set_cons_succ]
    refine wpAnyH_take (i := 10) (oi := { dst := some 35, op := Op.nilCheck (Operand.tmp 25), type := 0, pos := "cache.go:21", after := #[{ on := 0, ground := Ground.data }, { on := 0, ground := Ground.phase }, { on := 1, ground := Ground.phase }, { on := 2, ground := Ground.phase }, { on := 3, ground := Ground.phase }, { on := 4, ground := Ground.phase }, { on := 5, ground := Ground.phase }, { on := 6, ground := Ground.phase }, { on := 7, ground := Ground.phase }, { on := 8, ground := Ground.phase }, { on := 9, ground := Ground.phase }], guard := none }) (v := ?v10x101) rfl (by kernel_rfl) (by kernel_rfl) (by kernel_rfl) (fun _ _ _ h => h) (Or.inl ⟨by rfl, ?hy10x101⟩) (by assumption) ?rest10x101
    case hy10x101 => (intro w hSw; (try dsimp only at hSw); (first | (go_simp; with_reducible rfl) | go_simp))
    try simp only [Act.put, List.setIfInBounds_toArray, List.set_cons_zero, List.set_cons_succ]
    refine wpAnyH_take (i := 11) (oi := { dst := some 36, op := Op.fieldAddr 102 (Operand.tmp 35) 0, type := 0, pos := "cache.go:21", after := #[{ on := 10, ground := Ground.data }, { on := 0, ground := Ground.phase }, { on := 1, ground := Ground.phase }, { on := 2, ground := Ground.phase }, { on := 3, ground := Ground.phase }, { on := 4, ground := Ground.phase }, { on := 5, ground := Ground.phase }, { on := 6, ground := Ground.phase }, { on := 7, ground := Ground.phase }, { on := 8, ground := Ground.phase }, { on := 9, ground := Ground.phase }], guard := none }) (v := ?v11x102) rfl (by kernel_rfl) (by kernel_rfl) (by kernel_rfl) (fun _ _ _ h => h) (Or.inl ⟨by rfl, ?hy11x102⟩) (by assumption) ?rest11x102
    case hy11x102 => (intro w hSw; (try dsimp only at hSw); (first | (go_simp; with_reducible rfl) | go_simp))
    try simp only [Act.put, List.setIfInBounds_toArray, List.set_cons_zero, List.set_cons_succ]
    refine wpAnyH_ready (rs := [12]) (by kernel_rfl) (by simp) ?_
    refine AllReadyH.cons (o := { dst := none, op := Op.store 99 (Operand.tmp 36) (Operand.tmp 34), type := 0, pos := "cache.go:21", after := #[{ on := 11, ground := Ground.data }, { on := 9, ground := Ground.data }, { on := 9, ground := Ground.chain }, { on := 0, ground := Ground.phase }, { on := 1, ground := Ground.phase }, { on := 2, ground := Ground.phase }, { on := 3, ground := Ground.phase }, { on := 4, ground := Ground.phase }, { on := 5, ground := Ground.phase }, { on := 6, ground := Ground.phase }, { on := 7, ground := Ground.phase }, { on := 8, ground := Ground.phase }, { on := 9, ground := Ground.phase }], guard := none }) rfl (fun K hK => ?_) AllReadyH.nil
    go_simp
    refine hK.out _ _ (World.rangeAt_setCell _hS _ _ _ HNe.out) (fun _hS => ?_)
    clear hK K
    try simp only [Act.put, List.setIfInBounds_toArray, List.set_cons_zero, List.set_cons_succ]
    refine wpAnyH_done (by kernel_rfl) ?_ _
    refine NoPanic.normal ?_
    go_wp2
    go_end0
    exact ⟨rfl, by have hh := HFin.out _ w2 HO3.out HG2.out HLc.out HDp2.out; rw [HBe.out] at hh; exact hh⟩
  · refine step_of rfl ?_
    refine wp_slice91 (.tmp 32) rfl (n : Int) (sv ys) HA.out rfl ?_
    refine hK.out _ _ HR2.out (fun _hS => ?_)
    clear hK K
    try simp only [Act.put, List.setIfInBounds_toArray, List.set_cons_zero, List.set_cons_succ]
    refine wpAnyH_ready (rs := [4]) (by kernel_rfl) (by simp) ?_
    refine AllReadyH.cons (o := { dst := some 29, op := Op.load 99 (Operand.tmp 28), type := 99, pos := "cache.go:21", after := #[{ on := 3, ground := Ground.data }], guard := none }) rfl (fun K hK => ?_) AllReadyH.nil
    go_simp
    refine hK.out _ _ (by assumption) (fun _hS => ?_)
    clear hK K
    try simp only [Act.put, List.setIfInBounds_toArray, List.set_cons_zero, List.set_cons_succ]
    refine wpAnyH_ready (rs := [9]) (by kernel_rfl) (by simp) ?_
    refine AllReadyH.cons (o := { dst := some 34, op := Op.call { callee := Callee.builtin Builtin.append, args := #[Operand.tmp 29, Operand.tmp 33], argTypes := #[99, 99] }, type := 99, pos := "cache.go:21", after := #[{ on := 4, ground := Ground.data }, { on := 8, ground := Ground.data }], guard := none }) rfl (fun K hK => ?_) AllReadyH.nil
    refine step_of rfl ?_
    refine wp_append_at (.tmp 29) (.tmp 33) 99 165 rfl 0 i0 (.agg z117) 129 136 Tryz.underlying99 hi hz0 hz1 hz2 (by simp [z117, Value.cells]) (by omega) (.slice a len cap) S.ws.length (wflat S.ws) rfl HO2.out _ 1 1 (wv (n, ys)) rfl HWl.out HNw.out (wv_one _) HB1.out HB2.out (Nat.zero_le _) ?_
    intro v' w2 hown2 hgr2 hloc2
    obtain ⟨a', len', cap', rfl⟩ := row_shape hown2
    have HO3 := hide hown2
    have HG2 := hide hgr2
    have HLc := hide hloc2
    have HDp2 := hide (HPp.out w2 hgr2)
    have k1'' : w2.cell? ⟨p, 1, none⟩ = some (.slice a len cap) := by simp [World.cell?, HDp2.out, cells]
    have f1'' : w2.frozen? ⟨p, 1, none⟩ = false := by simp [World.frozen?, HDp2.out]
    clear hown2 hgr2 hloc2
    refine hK.out _ _ (HRr.out w2 HG2.out) (fun _hS => ?_)
    clear hK K
    try simp only [Act.put, List.setIfInBounds_toArray, List.set_cons_zero, List.set_cons_succ]
    refine wpAnyH_take (i := 10) (oi := { dst := some 35, op := Op.nilCheck (Operand.tmp 25), type := 0, pos := "cache.go:21", after := #[{ on := 0, ground := Ground.data }, { on := 0, ground := Ground.phase }, { on := 1, ground := Ground.phase }, { on := 2, ground := Ground.phase }, { on := 3, ground := Ground.phase }, { on := 4, ground := Ground.phase }, { on := 5, ground := Ground.phase }, { on := 6, ground := Ground.phase }, { on := 7, ground := Ground.phase }, { on := 8, ground := Ground.phase }, { on := 9, ground := Ground.phase }], guard := none }) (v := ?v10x201) rfl (by kernel_rfl) (by kernel_rfl) (by kernel_rfl) (fun _ _ _ h => h) (Or.inl ⟨by rfl, ?hy10x201⟩) (by assumption) ?rest10x201
    case hy10x201 => (intro w hSw; (try dsimp only at hSw); (first | (go_simp; with_reducible rfl) | go_simp))
    try simp only [Act.put, List.setIfInBounds_toArray, List.set_cons_zero, List.set_cons_succ]
    refine wpAnyH_take (i := 11) (oi := { dst := some 36, op := Op.fieldAddr 102 (Operand.tmp 35) 0, type := 0, pos := "cache.go:21", after := #[{ on := 10, ground := Ground.data }, { on := 0, ground := Ground.phase }, { on := 1, ground := Ground.phase }, { on := 2, ground := Ground.phase }, { on := 3, ground := Ground.phase }, { on := 4, ground := Ground.phase }, { on := 5, ground := Ground.phase }, { on := 6, ground := Ground.phase }, { on := 7, ground := Ground.phase }, { on := 8, ground := Ground.phase }, { on := 9, ground := Ground.phase }], guard := none }) (v := ?v11x202) rfl (by kernel_rfl) (by kernel_rfl) (by kernel_rfl) (fun _ _ _ h => h) (Or.inl ⟨by rfl, ?hy11x202⟩) (by assumption) ?rest11x202
    case hy11x202 => (intro w hSw; (try dsimp only at hSw); (first | (go_simp; with_reducible rfl) | go_simp))
    try simp only [Act.put, List.setIfInBounds_toArray, List.set_cons_zero, List.set_cons_succ]
    refine wpAnyH_ready (rs := [12]) (by kernel_rfl) (by simp) ?_
    refine AllReadyH.cons (o := { dst := none, op := Op.store 99 (Operand.tmp 36) (Operand.tmp 34), type := 0, pos := "cache.go:21", after := #[{ on := 11, ground := Ground.data }, { on := 9, ground := Ground.data }, { on := 9, ground := Ground.chain }, { on := 0, ground := Ground.phase }, { on := 1, ground := Ground.phase }, { on := 2, ground := Ground.phase }, { on := 3, ground := Ground.phase }, { on := 4, ground := Ground.phase }, { on := 5, ground := Ground.phase }, { on := 6, ground := Ground.phase }, { on := 7, ground := Ground.phase }, { on := 8, ground := Ground.phase }, { on := 9, ground := Ground.phase }], guard := none }) rfl (fun K hK => ?_) AllReadyH.nil
    go_simp
    refine hK.out _ _ (World.rangeAt_setCell _hS _ _ _ HNe.out) (fun _hS => ?_)
    clear hK K
    try simp only [Act.put, List.setIfInBounds_toArray, List.set_cons_zero, List.set_cons_succ]
    refine wpAnyH_done (by kernel_rfl) ?_ _
    refine NoPanic.normal ?_
    go_wp2
    go_end0
    exact ⟨rfl, by have hh := HFin.out _ w2 HO3.out HG2.out HLc.out HDp2.out; rw [HBe.out] at hh; exact hh⟩
/-- a write goes into the cache. -/
theorem add_any (p q : Nat) (vw : Value) (m : Option Nat) (S : DS) (n : Nat) (ys : List Int) (w : World) (h : Dk w p q vw m S) (hn : n < S.ls.length) (hy : ys.length = 128) (hb : Byts ys) (hf : S.ws.length + 1 ≤ 1000000) :
    Calls Tryz.prog 40 #[.pointer (some ⟨p, 1, none⟩), .int .i64 (n : Int), .agg (sv ys).toArray] w fun e w' => e = .returned (.tuple #[]) ∧ ∃ vw' m', Dk w' p q vw' m' (S.add n ys) ∧ Go1 (Ow p q vw m) w (Ow p q vw' m') w' := by
  cases m with
  | none =>
    refine (add_none p q vw S n ys w h hn hy hb hf).mono ?_
    rintro e w' ⟨rfl, vw', hd, ho, hm⟩
    refine ⟨rfl, vw', _, hd, hm, fun k hk => ?_⟩
    rcases hk with rfl | rfl | hk | hk
    · exact .inl (.inl rfl)
    · exact .inl (.inr (.inl rfl))
    · exact (ho k hk).imp (fun e => .inr (.inr (.inl e))) id
    · cases hk; right; omega
  | some b =>
    refine (add_some p q vw b S n ys w h hn hy hb hf).mono ?_
    rintro e w' ⟨rfl, vw', hd, ho, hm⟩
    refine ⟨rfl, vw', _, hd, hm, fun k hk => ?_⟩
    rcases hk with rfl | rfl | hk | hk
    · exact .inl (.inl rfl)
    · exact .inl (.inr (.inl rfl))
    · exact (ho k hk).imp (fun e => .inr (.inr (.inl e))) id
    · exact .inl (.inr (.inr (.inr hk)))
end Go.Proofs.YtobokocpapfjbaaGreat
/- What a write does, where nothing is in its way. -/
namespace Go.Proofs.YtobokocpapfjbaaGreat
open Go.RowKit Go.Maps
set_option linter.unusedVariables false

/-- the i-th sector of bytes. -/
def sec (zs : List Int) (i : Nat) : List Int := (zs.drop (i * 128)).take 128
/-- k sectors more in the cache, from the number b on. -/
def DS.adds (S : DS) (b : Nat) (zs : List Int) (k : Nat) : DS := { S with ws := S.ws ++ (List.range k).map fun i => (b + i, sec zs i) }
theorem DS.adds_zero (S : DS) (b : Nat) (zs : List Int) : S.adds b zs 0 = S := by simp [DS.adds]
theorem DS.adds_succ (S : DS) (b : Nat) (zs : List Int) (k : Nat) : S.adds b zs (k + 1) = (S.adds b zs k).add (b + k) (sec zs k) := by
  simp [DS.adds, DS.add, List.range_succ]
theorem DS.adds_len (S : DS) (b : Nat) (zs : List Int) (k : Nat) : (S.adds b zs k).ws.length = S.ws.length + k := by simp [DS.adds]
theorem sec_len (zs : List Int) (i : Nat) (h : i * 128 + 128 ≤ zs.length) : (sec zs i).length = 128 := by simp [sec]; omega
theorem sec_byts {zs : List Int} (h : Byts zs) (i : Nat) : Byts (sec zs i) := (h.drop _).take _
theorem Mv.drew {O : Nat → Prop} {w w' : World} (h : Mv O w w') : Mv O w w'.drew := ⟨h.os, h.tape, h.output, h.size, h.block⟩
theorem Go1.drew {O O' : Nat → Prop} {w w' : World} (h : Go1 O w O' w') : Go1 O w O' w'.drew := ⟨h.mv.drew, h.own⟩
theorem Mv.cell {O : Nat → Prop} {w w' : World} (h : Mv O w w') {b o : Nat} {v : Value} (hc : w.cell? ⟨b, o, none⟩ = some v) (ho : ¬ O b) : w'.cell? ⟨b, o, none⟩ = some v := by
  rw [World.cell?_of_block (w := w) (h.block b (World.block_lt_of_cell? w _ hc) ho)]; exact hc
theorem Mv.row {O : Nat → Prop} {w w' : World} (h : Mv O w w') {b o : Nat} {zs : List Int} (hr : Row w (some ⟨b, o, none⟩) zs) (ho : ¬ O b) : Row w' (some ⟨b, o, none⟩) zs := by
  rcases hr with hr | ⟨b', off, e, hlt, hc⟩
  · exact .inl hr
  · cases e
    exact .inr ⟨b, o, rfl, Nat.lt_of_lt_of_le hlt h.size, fun i hi => h.cell (hc i hi) ho⟩

set_option maxHeartbeats 3200000 in
set_option maxRecDepth 1000000 in
/-- bytes of a page or a sector, a page that is there. -/
theorem writes_any (p q : Nat) (vw : Value) (m : Option Nat) (S : DS) (k0 k1 k2 : Nat) (pg : Nat) (b off len cap : Nat) (zs : List Int) (N : Nat) (w : World) (h : Dk w p q vw m S)
    (c0 : w.cell? ⟨k0, 0, none⟩ = some (.pointer (some ⟨p, 0, none⟩))) (c1 : w.cell? ⟨k1, 0, none⟩ = some (.int .i64 (pg : Int))) (c2 : w.cell? ⟨k2, 0, none⟩ = some (.slice (some ⟨b, off, none⟩) len cap))
    (o0 : ¬ Ow p q vw m k0) (o1 : ¬ Ow p q vw m k1) (o2 : ¬ Ow p q vw m k2) (ob : ¬ Ow p q vw m b) (hr : Row w (some ⟨b, off, none⟩) zs) (hz : zs.length = len) (hby : Byts zs) (hlc : len ≤ cap) (hcm : cap ≤ 9223372036854775807)
    (hpg : pg < S.ls.length / 8) (hl8 : S.ls.length % 8 = 0) (hN : len = 1024 ∧ N = 8 ∨ len = 128 ∧ N = 1) (hf : S.ws.length + 8 ≤ 1000000) :
    Calls Tryz.prog 38 #[.pointer (some ⟨k0, 0, none⟩), .pointer (some ⟨k1, 0, none⟩), .pointer (some ⟨k2, 0, none⟩)] w fun e w' => e = .returned (.int .u16 0) ∧ ∃ vw' m', Dk w' p q vw' m' (S.adds (8 * pg) zs N) ∧ Go1 (Ow p q vw m) w (Ow p q vw' m') w' := by
  have HD := hide h
  have HK : Hid (∀ W, Mv (Ow p q vw m) w W → W.cell? ⟨k0, 0, none⟩ = some (.pointer (some ⟨p, 0, none⟩)) ∧ W.cell? ⟨k1, 0, none⟩ = some (.int .i64 (pg : Int)) ∧ W.cell? ⟨k2, 0, none⟩ = some (.slice (some ⟨b, off, none⟩) len cap)) := fun W hm => ⟨hm.cell c0 o0, hm.cell c1 o1, hm.cell c2 o2⟩
  have HRw : Hid (∀ W, Mv (Ow p q vw m) w W → Row W (some ⟨b, off, none⟩) zs) := fun W hm => hm.row hr ob
  have HZ := hide hz
  have HBy := hide hby
  have HG := hide h.good
  have k00 := h.c 0 (.slice (some ⟨q, 0, none⟩) S.ls.length S.ls.length) rfl
  have Hhas := hide (has_any p q S.ls.length (pg : Int) w k00 h.good.most)
  have hdec : decide (0 ≤ (pg : Int) ∧ (pg : Int) < ((S.ls.length / 8 : Nat) : Int)) = true := by simp only [decide_eq_true_eq]; omega
  rw [hdec] at Hhas
  have Hpn : Hid (8 * pg + 8 ≤ S.ls.length) := by rw [Hid]; omega
  have hpb : pg ≤ 131072 := by have := h.good.most; omega
  have Hf := hide hf
  clear h o0 o1 o2 ob hr hz hby k00 hdec hpg hl8
  rcases hN with ⟨rfl, rfl⟩ | ⟨rfl, rfl⟩
  · go_enter Tryz.func38, Tryz.ntmps38
    go_wp2_with fail
    refine Hhas.out.mono ?_
    rintro e w1 ⟨rfl, hb1⟩
    have HM1 := hide (Go1.of_below (O := Ow p q vw m) hb1)
    have HD1 := hide (HD.out.below hb1)
    clear hb1 c0 c1 c2
    obtain ⟨c0, c1, c2⟩ := HK.out w1 HM1.out.mv
    go_wp2
    clear c0 c1 c2
    go_loopw [20] (fun i wr' => ∃ (k : Nat) (vw' : Value) (m' : Option Nat), k ≤ 8 ∧ i = .int .i64 (k : Int) ∧ Dk wr' p q vw' m' (S.adds (8 * pg) zs k) ∧ Go1 (Ow p q vw m) w (Ow p q vw' m') wr') (fun i _ => 8 - (intOf i).toNat)
    case atStart => exact ⟨0, vw, m, Nat.zero_le _, rfl, by rw [DS.adds_zero]; exact HD1.out, HM1.out⟩
    case round =>
      obtain ⟨k, vw', m', hk, rfl, hd, hg⟩ := hrel
      have HDr := hide hd
      have HGr := hide hg
      clear hd hg
      by_cases hlt : k < 8
      · have HS : Hid (∀ W, Row W (some ⟨b, off, none⟩) zs → Calls Tryz.prog 41 #[.slice (some ⟨b, off, none⟩) 1024 cap, .int .i64 (k : Int)] W fun e w' => e = .returned (.agg (sv (sec zs k)).toArray) ∧ Below W.heap.size W w') := fun W hr => sectorAt_any b off 1024 cap zs k W hr HZ.out hlc hcm (by omega)
        have hnn : ((8 * pg + k : Nat) : Int) = 8 * (pg : Int) + (k : Int) := by omega
        have HAd : Hid (∀ W vx mx, Dk W p q vx mx (S.adds (8 * pg) zs k) → Calls Tryz.prog 40 #[.pointer (some ⟨p, 1, none⟩), .int .i64 (8 * (pg : Int) + (k : Int)), .agg (sv (sec zs k)).toArray] W fun e w' => e = .returned (.tuple #[]) ∧ ∃ vw' m', Dk w' p q vw' m' (S.adds (8 * pg) zs (k + 1)) ∧ Go1 (Ow p q vx mx) W (Ow p q vw' m') w') := fun W vx mx h => by
          rw [← hnn, DS.adds_succ]
          exact add_any p q vx mx (S.adds (8 * pg) zs k) (8 * pg + k) (sec zs k) W h (by have := Hpn.out; show 8 * pg + k < S.ls.length; omega) (sec_len zs k (by rw [HZ.out]; omega)) (sec_byts HBy.out k) (by rw [DS.adds_len]; have := Hf.out; omega)
        clear hnn
        have hx1 : IntKind.i64.wrap ((pg : Int) * 8) = (pg : Int) * 8 := by rw [IntKind.wrap_i64]; omega
        have hx2 : IntKind.i64.wrap ((pg : Int) * 8 + (k : Int)) = 8 * (pg : Int) + (k : Int) := by rw [IntKind.wrap_i64]; omega
        have HGd := hide (Go1.drew HGr.out)
        have HDd := hide (HDr.out.below (Below.refl _ _).drew)
        obtain ⟨c0, c1, c2⟩ := HK.out wr.drew HGd.out.mv
        go_wp2
        go_region_held3 (fun W => W.cell? ⟨k0, 0, none⟩ = some (.pointer (some ⟨p, 0, none⟩)) ∧ W.cell? ⟨k1, 0, none⟩ = some (.int .i64 (pg : Int)) ∧ W.cell? ⟨k2, 0, none⟩ = some (.slice (some ⟨b, off, none⟩) 1024 cap)) ((refine ⟨?_, ?_, ?_⟩ <;> assumption)) ((first | (go_at_call 41; refine (HS.out _ (HRw.out _ HGd.out.mv)).mono ?_; intro r' w2 hh; obtain ⟨rfl, hb2⟩ := hh; have HD2 := hide (HDd.out.below hb2); have HG2 := hide (HGd.out.trans (Go1.of_below hb2)); clear hb2 c0 c1 c2; obtain ⟨c0, c1, c2⟩ := HK.out w2 HG2.out.mv) | (go_at_call 40; refine (HAd.out _ _ _ HD2.out).mono ?_; intro r' w3 hh; obtain ⟨rfl, vw3, m3, hd3, hg3⟩ := hh; have HD3 := hide hd3; have HG3 := hide (HG2.out.trans hg3); clear hd3 hg3 c0 c1 c2; obtain ⟨c0, c1, c2⟩ := HK.out w3 HG3.out.mv)))
        go_wp2
        go_roundw
        case rel => exact ⟨k + 1, vw3, m3, by omega, by go_num, HD3.out, HG3.out⟩
        case measure => simp [intOf]; omega
      · have e : k = 8 := by omega
        subst e
        go_wp2
        go_ret
        exact ⟨rfl, vw', m', HDr.out, HGr.out⟩
  · go_enter Tryz.func38, Tryz.ntmps38
    go_wp2_with fail
    refine Hhas.out.mono ?_
    rintro e w1 ⟨rfl, hb1⟩
    have HM1 := hide (Go1.of_below (O := Ow p q vw m) hb1)
    have HD1 := hide (HD.out.below hb1)
    clear hb1 c0 c1 c2
    obtain ⟨c0, c1, c2⟩ := HK.out w1 HM1.out.mv
    go_wp2
    clear c0 c1 c2
    go_loopw [20] (fun i wr' => ∃ (k : Nat) (vw' : Value) (m' : Option Nat), k ≤ 1 ∧ i = .int .i64 (k : Int) ∧ Dk wr' p q vw' m' (S.adds (8 * pg) zs k) ∧ Go1 (Ow p q vw m) w (Ow p q vw' m') wr') (fun i _ => 1 - (intOf i).toNat)
    case atStart => exact ⟨0, vw, m, Nat.zero_le _, rfl, by rw [DS.adds_zero]; exact HD1.out, HM1.out⟩
    case round =>
      obtain ⟨k, vw', m', hk, rfl, hd, hg⟩ := hrel
      have HDr := hide hd
      have HGr := hide hg
      clear hd hg
      by_cases hlt : k < 1
      · have HS : Hid (∀ W, Row W (some ⟨b, off, none⟩) zs → Calls Tryz.prog 41 #[.slice (some ⟨b, off, none⟩) 128 cap, .int .i64 (k : Int)] W fun e w' => e = .returned (.agg (sv (sec zs k)).toArray) ∧ Below W.heap.size W w') := fun W hr => sectorAt_any b off 128 cap zs k W hr HZ.out hlc hcm (by omega)
        have hnn : ((8 * pg + k : Nat) : Int) = 8 * (pg : Int) + (k : Int) := by omega
        have HAd : Hid (∀ W vx mx, Dk W p q vx mx (S.adds (8 * pg) zs k) → Calls Tryz.prog 40 #[.pointer (some ⟨p, 1, none⟩), .int .i64 (8 * (pg : Int) + (k : Int)), .agg (sv (sec zs k)).toArray] W fun e w' => e = .returned (.tuple #[]) ∧ ∃ vw' m', Dk w' p q vw' m' (S.adds (8 * pg) zs (k + 1)) ∧ Go1 (Ow p q vx mx) W (Ow p q vw' m') w') := fun W vx mx h => by
          rw [← hnn, DS.adds_succ]
          exact add_any p q vx mx (S.adds (8 * pg) zs k) (8 * pg + k) (sec zs k) W h (by have := Hpn.out; show 8 * pg + k < S.ls.length; omega) (sec_len zs k (by rw [HZ.out]; omega)) (sec_byts HBy.out k) (by rw [DS.adds_len]; have := Hf.out; omega)
        clear hnn
        have hx1 : IntKind.i64.wrap ((pg : Int) * 8) = (pg : Int) * 8 := by rw [IntKind.wrap_i64]; omega
        have hx2 : IntKind.i64.wrap ((pg : Int) * 8 + (k : Int)) = 8 * (pg : Int) + (k : Int) := by rw [IntKind.wrap_i64]; omega
        have HGd := hide (Go1.drew HGr.out)
        have HDd := hide (HDr.out.below (Below.refl _ _).drew)
        obtain ⟨c0, c1, c2⟩ := HK.out wr.drew HGd.out.mv
        go_wp2
        go_region_held3 (fun W => W.cell? ⟨k0, 0, none⟩ = some (.pointer (some ⟨p, 0, none⟩)) ∧ W.cell? ⟨k1, 0, none⟩ = some (.int .i64 (pg : Int)) ∧ W.cell? ⟨k2, 0, none⟩ = some (.slice (some ⟨b, off, none⟩) 128 cap)) ((refine ⟨?_, ?_, ?_⟩ <;> assumption)) ((first | (go_at_call 41; refine (HS.out _ (HRw.out _ HGd.out.mv)).mono ?_; intro r' w2 hh; obtain ⟨rfl, hb2⟩ := hh; have HD2 := hide (HDd.out.below hb2); have HG2 := hide (HGd.out.trans (Go1.of_below hb2)); clear hb2 c0 c1 c2; obtain ⟨c0, c1, c2⟩ := HK.out w2 HG2.out.mv) | (go_at_call 40; refine (HAd.out _ _ _ HD2.out).mono ?_; intro r' w3 hh; obtain ⟨rfl, vw3, m3, hd3, hg3⟩ := hh; have HD3 := hide hd3; have HG3 := hide (HG2.out.trans hg3); clear hd3 hg3 c0 c1 c2; obtain ⟨c0, c1, c2⟩ := HK.out w3 HG3.out.mv)))
        go_wp2
        go_roundw
        case rel => exact ⟨k + 1, vw3, m3, by omega, by go_num, HD3.out, HG3.out⟩
        case measure => simp [intOf]; omega
      · have e : k = 1 := by omega
        subst e
        go_wp2
        go_ret
        exact ⟨rfl, vw', m', HDr.out, HGr.out⟩
end Go.Proofs.YtobokocpapfjbaaGreat
