/- A list in memory: its struct, its marks and its two piles; a page is laid where it stands. -/
import Derived.Test.YtlahkeapfcfbbaaDoorLA
import Derived.WalkSmall
import Derived.Deep.RegionWith
namespace Go.Proofs.YtlahkeapfcfbbaaDoor
open Go.RowKit Go.Maps
set_option linter.unusedVariables false
/-- the struct's cells. -/
def lcl (ms : List Nat) (R : Int) (pw pr : Nat) : List Value := ms.map (fun (x : Nat) => Value.int .u64 (x : Int)) ++ [.int .u64 R, .pointer (some ⟨pw, 0, none⟩), .pointer (some ⟨pr, 0, none⟩)]
structure Lm (w : World) (l pw pr : Nat) (vw vr : Value) (ms : List Nat) (R : Int) (A B : List Pg) : Prop where
  blk : w.heap[l]? = some (.cells (lcl ms R pw pr).toArray 78 (0, 0))
  mks : Mk ms
  wt : Pl w pw false vw B
  rd : Pl w pr true vr A
  hw : Heap (key false) B
  hr : Heap (key true) A
  n1 : l ≠ pw
  n2 : l ≠ pr
  n3 : pw ≠ pr
  w1 : vw.ownBlock ≠ some l
  w2 : vw.ownBlock ≠ some pr
  r1 : vr.ownBlock ≠ some l
  r2 : vr.ownBlock ≠ some pw
  wr : ∀ k, vw.ownBlock = some k → vr.ownBlock ≠ some k
/-- the blocks of a list. -/
def OwL (l pw pr : Nat) (vw vr : Value) (k : Nat) : Prop := k = l ∨ OwPl pw vw k ∨ OwPl pr vr k
variable {w w' : World} {l pw pr : Nat} {vw vr vw' vr' : Value} {ms : List Nat} {R : Int} {A B A' B' : List Pg}
theorem Lm.lt (h : Lm w l pw pr vw vr ms R A B) {k : Nat} (hk : OwL l pw pr vw vr k) : k < w.heap.size := by
  rcases hk with rfl | (rfl | hk) | (rfl | hk)
  · exact lt_of_block h.blk
  · exact h.wt.lt
  · exact h.wt.vlt hk
  · exact h.rd.lt
  · exact h.rd.vlt hk
theorem lcl_at {ms : List Nat} (h : Mk ms) (R : Int) (pw pr : Nat) : (∀ i, i < 256 → (lcl ms R pw pr)[i]? = some (.int .u64 (ms.getD i 0 : Nat))) ∧ (lcl ms R pw pr)[256]? = some (.int .u64 R) ∧ (lcl ms R pw pr)[257]? = some (.pointer (some ⟨pw, 0, none⟩)) ∧ (lcl ms R pw pr)[258]? = some (.pointer (some ⟨pr, 0, none⟩)) := by
  have hl := h.1
  unfold lcl
  refine ⟨fun i hi => ?_, ?_, ?_, ?_⟩
  · rw [List.getElem?_append_left (by simp; omega), List.getElem?_map, List.getElem?_eq_getElem (by omega), List.getD_eq_getElem?_getD, List.getElem?_eq_getElem (by omega)]; rfl
  · rw [List.getElem?_append_right (by simp; omega)]; simp [hl]
  · rw [List.getElem?_append_right (by simp; omega)]; simp [hl]
  · rw [List.getElem?_append_right (by simp; omega)]; simp [hl]
theorem Lm.c (h : Lm w l pw pr vw vr ms R A B) : (∀ i, i < 256 → w.cell? ⟨l, i, none⟩ = some (.int .u64 (ms.getD i 0 : Nat))) ∧ w.cell? ⟨l, 256, none⟩ = some (.int .u64 R) ∧ w.cell? ⟨l, 257, none⟩ = some (.pointer (some ⟨pw, 0, none⟩)) ∧ w.cell? ⟨l, 258, none⟩ = some (.pointer (some ⟨pr, 0, none⟩)) := by
  obtain ⟨h1, h2, h3, h4⟩ := lcl_at h.mks R pw pr
  refine ⟨fun i hi => ?_, ?_, ?_, ?_⟩
  · rw [cell_of_row w l i _ _ _ h.blk, List.getElem?_toArray]; exact h1 i hi
  · rw [cell_of_row w l _ _ _ _ h.blk, List.getElem?_toArray]; exact h2
  · rw [cell_of_row w l _ _ _ _ h.blk, List.getElem?_toArray]; exact h3
  · rw [cell_of_row w l _ _ _ _ h.blk, List.getElem?_toArray]; exact h4
theorem Lm.fz (h : Lm w l pw pr vw vr ms R A B) (i : Nat) : w.frozen? ⟨l, i, none⟩ = false := frozen_of_row w l i _ _ h.blk
theorem Lm.stays (h : Lm w l pw pr vw vr ms R A B) (hm : ∀ k, OwL l pw pr vw vr k → w'.heap[k]? = w.heap[k]?) : Lm w' l pw pr vw vr ms R A B :=
  ⟨by rw [hm l (.inl rfl)]; exact h.blk, h.mks, h.wt.of_blocks (hm pw (.inr (.inl (.inl rfl)))) (fun k hk => hm k (.inr (.inl (.inr hk)))), h.rd.of_blocks (hm pr (.inr (.inr (.inl rfl)))) (fun k hk => hm k (.inr (.inr (.inr hk)))), h.hw, h.hr, h.n1, h.n2, h.n3, h.w1, h.w2, h.r1, h.r2, h.wr⟩
theorem Lm.below (h : Lm w l pw pr vw vr ms R A B) (hb : Below w.heap.size w w') : Lm w' l pw pr vw vr ms R A B := h.stays fun k hk => hb.block k (h.lt hk)
theorem Lm.same (h : Lm w l pw pr vw vr ms R A B) (hb : Same w w') : Lm w' l pw pr vw vr ms R A B := h.stays fun k hk => by rw [hb.heap]
/-- the pile of those that wait has turned. -/
theorem Lm.wait (h : Lm w l pw pr vw vr ms R A B) (hp : Pl w' pw false vw' B') (hh : Heap (key false) B') (hg : Go1 (OwPl pw vw) w (OwPl pw vw') w') : Lm w' l pw pr vw' vr ms R A B' ∧ Go1 (OwL l pw pr vw vr) w (OwL l pw pr vw' vr) w' := by
  have ol := h.lt (k := l) (.inl rfl)
  have opr := h.lt (k := pr) (.inr (.inr (.inl rfl)))
  have ovr : ∀ k, vr.ownBlock = some k → k < w.heap.size := fun k hk => h.lt (.inr (.inr (.inr hk)))
  have nv : ∀ k, k < w.heap.size → ¬ OwPl pw vw k → vw'.ownBlock ≠ some k := fun k hk ho e => (hg.own k (.inr e)).elim ho (fun hl => by omega)
  have nl : ¬ OwPl pw vw l := fun e => e.elim (fun e => h.n1 e) (fun e => h.w1 e)
  have npr : ¬ OwPl pw vw pr := fun e => e.elim (fun e => h.n3 e.symm) (fun e => h.w2 e)
  have nvr : ∀ k, vr.ownBlock = some k → ¬ OwPl pw vw k := fun k hk e => e.elim (fun e => h.r2 (by rw [← e]; exact hk)) (fun e => h.wr k e hk)
  refine ⟨⟨by rw [hg.mv.block l ol nl]; exact h.blk, h.mks, hp, h.rd.of_blocks (hg.mv.block pr opr npr) (fun k hk => hg.mv.block k (ovr k hk) (nvr k hk)), hh, h.hr, h.n1, h.n2, h.n3, nv l ol nl, nv pr opr npr, h.r1, h.r2, fun k hk e => nv k (ovr k e) (nvr k e) hk⟩, hg.mv.mono fun k hk => .inr (.inl hk), fun k hk => ?_⟩
  rcases hk with hk | hk | hk
  · exact .inl (.inl hk)
  · exact (hg.own k hk).imp (fun x => .inr (.inl x)) id
  · exact .inl (.inr (.inr hk))
/-- the pile of those that are ready has turned. -/
theorem Lm.ready (h : Lm w l pw pr vw vr ms R A B) (hp : Pl w' pr true vr' A') (hh : Heap (key true) A') (hg : Go1 (OwPl pr vr) w (OwPl pr vr') w') : Lm w' l pw pr vw vr' ms R A' B ∧ Go1 (OwL l pw pr vw vr) w (OwL l pw pr vw vr') w' := by
  have ol := h.lt (k := l) (.inl rfl)
  have opw := h.lt (k := pw) (.inr (.inl (.inl rfl)))
  have ovw : ∀ k, vw.ownBlock = some k → k < w.heap.size := fun k hk => h.lt (.inr (.inl (.inr hk)))
  have nv : ∀ k, k < w.heap.size → ¬ OwPl pr vr k → vr'.ownBlock ≠ some k := fun k hk ho e => (hg.own k (.inr e)).elim ho (fun hl => by omega)
  have nl : ¬ OwPl pr vr l := fun e => e.elim (fun e => h.n2 e) (fun e => h.r1 e)
  have npw : ¬ OwPl pr vr pw := fun e => e.elim (fun e => h.n3 e) (fun e => h.r2 e)
  have nvw : ∀ k, vw.ownBlock = some k → ¬ OwPl pr vr k := fun k hk e => e.elim (fun e => h.w2 (by rw [← e]; exact hk)) (fun e => h.wr k hk e)
  refine ⟨⟨by rw [hg.mv.block l ol nl]; exact h.blk, h.mks, h.wt.of_blocks (hg.mv.block pw opw npw) (fun k hk => hg.mv.block k (ovw k hk) (nvw k hk)), hp, h.hw, hh, h.n1, h.n2, h.n3, h.w1, h.w2, nv l ol nl, nv pw opw npw, fun k hk e => nv k (ovw k hk) (nvw k hk) e⟩, hg.mv.mono fun k hk => .inr (.inr hk), fun k hk => ?_⟩
  rcases hk with hk | hk | hk
  · exact .inl (.inl hk)
  · exact .inl (.inr (.inl hk))
  · exact (hg.own k hk).imp (fun x => .inr (.inr x)) id
/-- a cell of the struct has turned. -/
theorem Lm.struct (h : Lm w l pw pr vw vr ms R A B) (i : Nat) (v : Value) {ms' : List Nat} {R' : Int} (hm : Mk ms') (he : ((lcl ms R pw pr).toArray).setIfInBounds i v = (lcl ms' R' pw pr).toArray) :
    Lm (w.setCell ⟨l, i, none⟩ v) l pw pr vw vr ms' R' A B ∧ Mv (· = l) w (w.setCell ⟨l, i, none⟩ v) := by
  refine ⟨⟨by rw [heap_setCell_same w l i _ _ v h.blk, he], hm, h.wt.of_blocks (set_other _ _ _ _ _ h.n1.symm) (fun k hk => set_other _ _ _ _ _ (fun e => h.w1 (by rw [← e]; exact hk))), h.rd.of_blocks (set_other _ _ _ _ _ h.n2.symm) (fun k hk => set_other _ _ _ _ _ (fun e => h.r1 (by rw [← e]; exact hk))), h.hw, h.hr, h.n1, h.n2, h.n3, h.w1, h.w2, h.r1, h.r2, h.wr⟩, ?_⟩
  exact (Mv.refl (· = l) w).setB rfl i v
theorem lcl_mark {ms : List Nat} (h : Mk ms) (R : Int) (pw pr i x : Nat) (hi : i < 256) : ((lcl ms R pw pr).toArray).setIfInBounds i (.int .u64 (x : Int)) = (lcl (ms.set i x) R pw pr).toArray := by
  unfold lcl
  rw [List.setIfInBounds_toArray, List.set_append_left _ _ (by simp [h.1]; omega), ← List.map_set]
theorem lcl_reach {ms : List Nat} (h : Mk ms) (R : Int) (pw pr : Nat) (x : Int) : ((lcl ms R pw pr).toArray).setIfInBounds 256 (.int .u64 x) = (lcl ms x pw pr).toArray := by
  unfold lcl
  rw [List.setIfInBounds_toArray, List.set_append_right _ _ (by simp [h.1])]
  simp [h.1]
set_option maxHeartbeats 1600000 in
set_option maxRecDepth 1000000 in
/-- a page is laid where it stands by the reach. -/
theorem lay_any (h : Lm w l pw pr vw vr ms R A B) (x : Pg) (hf : A.length + B.length + 1 ≤ 1000000) :
    Calls Tryd.prog 27 #[.pointer (some ⟨l, 0, none⟩), pgv x] w fun e w' => e = .returned (.tuple #[]) ∧ ∃ vw' vr' A' B', Lm w' l pw pr vw' vr' ms R A' B' ∧ A'.Perm (if x.2 ≤ R then x :: A else A) ∧ B'.Perm (if x.2 ≤ R then B else x :: B) ∧ Go1 (OwL l pw pr vw vr) w (OwL l pw pr vw' vr') w' := by
  have HW := hide (fun W (hW : Below w.heap.size w W) => put_any (h.below hW).wt h.hw x (by omega))
  have HR := hide (fun W (hW : Below w.heap.size w W) => put_any (h.below hW).rd h.hr x (by omega))
  obtain ⟨-, c1, c2, c3⟩ := h.c
  have hll := h.lt (k := l) (.inl rfl)
  have HL := hide h
  clear h
  unfold pgv at *
  by_cases hx : x.2 ≤ R
  · rw [if_pos hx, if_pos hx]
    have hd : decide (x.2 ≤ R) = true := decide_eq_true hx
    go_enter Tryd.func27, Tryd.ntmps27
    go_wp2
    go_quiet (fail)
    go_wp2
    go_region_with (go_at_call 63; refine (HR.out _ (below_drewN (below_alloc w _) _).drew).mono ?_; rintro e w1 ⟨rfl, v1, ys, h1, h2, h3, h4⟩; have H1 := hide h1; have H2 := hide h2; have H3 := hide h3; have H4 := hide h4; clear h1 h2 h3 h4)
    all_goals
      go_end0
      obtain ⟨q1, q2⟩ := (HL.out.below (below_drewN (below_alloc w _) _).drew).ready H1.out H3.out H4.out
      exact ⟨rfl, _, _, _, _, q1, H2.out, List.Perm.refl _, (Go1.of_below (below_drewN (below_alloc w _) _).drew).trans q2⟩
  · rw [if_neg hx, if_neg hx]
    have hd : decide (x.2 ≤ R) = false := decide_eq_false hx
    go_enter Tryd.func27, Tryd.ntmps27
    go_wp2
    go_quiet (fail)
    go_wp2
    go_region_with (go_at_call 63; refine (HW.out _ (below_drewN (below_alloc w _) _).drew).mono ?_; rintro e w1 ⟨rfl, v1, ys, h1, h2, h3, h4⟩; have H1 := hide h1; have H2 := hide h2; have H3 := hide h3; have H4 := hide h4; clear h1 h2 h3 h4)
    all_goals
      go_end0
      obtain ⟨q1, q2⟩ := (HL.out.below (below_drewN (below_alloc w _) _).drew).wait H1.out H3.out H4.out
      exact ⟨rfl, _, _, _, _, q1, List.Perm.refl _, H2.out, (Go1.of_below (below_drewN (below_alloc w _) _).drew).trans q2⟩
end Go.Proofs.YtlahkeapfcfbbaaDoor
