/- The document's own set: keys and spans are laid behind a row. -/
import Derived.Test.YtpoanlbjhhlagaaSN
namespace Go.Proofs.Ytpoanlbjhhlagaa
open Go.RowKit Go.Maps
set_option linter.unusedVariables false

/-- the document's buffer at p: all that was said, in order. -/
structure Rb (w : World) (p B : Nat) (v : Value) (ys : List En) : Prop where
  blk : w.heap[p]? = some (.cells #[v] 72 (0, 0))
  ge : B ≤ p
  cl : Cl B w v ys
theorem Rb.below {w w' : World} {p B : Nat} {v : Value} {ys : List En} (h : Rb w p B v ys) (hb : Below w.heap.size w w') : Rb w' p B v ys :=
  ⟨(hb.block _ (lt_of_block h.blk)).trans h.blk, h.ge, h.cl.below hb⟩
theorem infoE2 : (Try.prog.info? 65).map (fun i => (i.zero, i.size, i.bytes)) = some (some (.agg #[.slice none 0 0, .slice none 0 0, .bool false]), 3, 56) := by kernel_rfl
/-- what a call of it leaves: all but it stays. -/
def RbOut (w : World) (p B : Nat) (v : Value) (ys : List En) (e : Ee) (r : Ending) (w' : World) : Prop := r = .returned (.tuple #[]) ∧ ∃ v' y, y.e = e ∧ Rb w' p B v' (ys ++ [y]) ∧ Mv (fun k => k = p ∨ v.ownBlock = some k) w w' ∧ (∀ k, v'.ownBlock = some k → v.ownBlock = some k ∨ w.heap.size ≤ k) ∧ ∀ k, y.has k → w.heap.size ≤ k
theorem Rb.type_ne {w : World} {p B : Nat} {v : Value} {ys : List En} (h : Rb w p B v ys) : v.ownBlock ≠ some p := fun e => by
  obtain ⟨_, _, cur, h1⟩ := h.cl.block e
  rw [h.blk] at h1
  have := congrArg (fun o : Option Obj => match o with | some (.cells _ t _) => t | _ => 0) h1
  simp at this
theorem Rb.type_ne2 {w : World} {p B : Nat} {v : Value} {ys : List En} (h : Rb w p B v ys) {y : En} (hy : y ∈ ys) {k : Nat} (hk : y.has k) : k ≠ p := fun e => by
  subst e
  obtain ⟨cur, h1⟩ := (h.cl.each y hy).u8 hk
  rw [h.blk] at h1
  have := congrArg (fun o : Option Obj => match o with | some (.cells _ t _) => t | _ => 0) h1
  simp at this
/-- one more is said. -/
theorem Rb.snoc {w w1 w2 : World} {p B : Nat} {v v' : Value} {ys : List En} {y : En} (h : Rb w p B v ys) (hB : B ≤ w.heap.size) (hb : Below w.heap.size w w1) (hy : y.Own w.heap.size w1) (hg : w1.grownBy w2 v.ownBlock) (hr : w2.ownsRow B 65 3 v' (ys.length + 1) (rowc ys ++ y.cells)) (hf : ∀ k, v'.ownBlock = some k → v.ownBlock = some k ∨ w1.heap.size ≤ k) :
    RbOut w p B v ys y.e (.returned (.tuple #[])) (w2.setCell ⟨p, 0, none⟩ v') := by
  have hc := h.cl.snoc hB hb hy hg hr
  have hp := lt_of_block h.blk
  have hp1 : w1.heap[p]? = some (.cells #[v] 72 (0, 0)) := (hb.block p hp).trans h.blk
  have hp2 : w2.heap[p]? = some (.cells #[v] 72 (0, 0)) := (hg.block p (lt_of_block hp1) (fun e => h.type_ne e.symm)).trans hp1
  have hstay : ∀ k, k ≠ p → (w2.setCell ⟨p, 0, none⟩ v').heap[k]? = w2.heap[k]? := fun k hk => set_other _ _ _ _ _ hk
  refine ⟨rfl, v', y, rfl, ⟨?_, h.ge, hc.of_block (fun k hk => hstay k ?_) (fun z hz k hk => hstay k ?_)⟩, ?_, fun k hk => ?_, fun k hk => hy.ge hk⟩
  · rw [heap_setCell_same w2 p 0 _ 72 _ hp2]; rfl
  · rintro rfl
    rcases hf k hk with h1 | h1
    · exact h.type_ne h1
    · have := hb.size; omega
  · rintro rfl
    obtain ⟨cur, h1⟩ := (hc.each z hz).u8 hk
    rw [hp2] at h1
    have := congrArg (fun o : Option Obj => match o with | some (.cells _ t _) => t | _ => 0) h1
    simp at this
  · exact ((Mv.of_below hb).grown hg fun k hk => .inl (.inr hk)).setB (.inl rfl) 0 v'
  · exact (hf k hk).imp id fun h1 => by have := hb.size; omega
/-- a copy of bytes, made by an append to none. -/
theorem copy_app {w : World} {a : Option Addr} {n c : Nat} {key : List Int} (h : Inn w a n c key) (hl : n ≤ 40000) : ∃ v w', (Builtin.append_ #[33, 33] 33 #[.slice none 0 0, .slice a n c]).run Try.prog w = .ok v w' ∧ Made w v key w' := by
  obtain ⟨i0, hi, hz0, hz1, hz2⟩ := info_parts Try.info5
  obtain ⟨v, w', h1, h2, h3, h4⟩ := run_append_src (P := Try.prog) w 33 33 33 i0 Try.underlying33 hi hz0 hz1 hz2 (.slice none 0 0) [] (Own.nil w) (.slice a n c) n key (src_row w a n c key h.len h.bare h.row) (by simp; omega)
  exact ⟨v, w', h1, h2, fun k hk => (h4 k hk).elim (fun e => by simp [Value.ownBlock] at e) id, (Below.refl _ w).grown h3 (Nat.le_refl _) fun k hk => by simp [Value.ownBlock] at hk⟩
/-- one span more, behind those of the document's set. -/
theorem rb_app {w W : World} {p B : Nat} {v : Value} {ys : List En} (y : En) (h : Rb w p B v ys) (hB : B ≤ w.heap.size) (hb : Below w.heap.size w W) (hy : y.Own w.heap.size W) (hn : ys.length ≤ 900) :
    ∃ v6 w6, (Builtin.append_ #[23, 23] 23 #[v, .slice (some ⟨W.heap.size, 0, none⟩) 1 1]).run Try.prog (W.alloc (.cells #[.slice y.ka y.e.key.length y.kc, .slice y.va y.e.val.length y.vc, .bool y.e.del] 65)) = .ok v6 w6 ∧ w6.heap[p]? = some (.cells #[v] 72 (0, 0)) ∧ (∃ a c, v6 = .slice a (ys.length + 1) c) ∧ (∀ k, k < W.heap.size → v.ownBlock ≠ some k → w6.heap[k]? = W.heap[k]?) ∧ RbOut w p B v ys y.e (.returned (.tuple #[])) (w6.setCell ⟨p, 0, none⟩ v6) := by
  obtain ⟨i0, hi, hz0, hz1, hz2⟩ := info_parts Try.infoE
  have hB3 : Below W.heap.size W (W.alloc (.cells #[.slice y.ka y.e.key.length y.kc, .slice y.va y.e.val.length y.vc, .bool y.e.del] 65)) := below_alloc _ _
  have hb3 := hb.trans (hB3.mono hb.size)
  obtain ⟨v6, w6, run6, hown6, hg6, -, hloc6⟩ := run_append_own_at (P := Try.prog) (w := W.alloc (.cells #[.slice y.ka y.e.key.length y.kc, .slice y.va y.e.val.length y.vc, .bool y.e.del] 65)) B 23 23 65 i0 _ 3 56 Try.underlying23 hi hz0 hz1 hz2 (by rfl) (by omega) v ys.length (rowc ys) (row_keep h.cl.row hb3) ⟨W.heap.size, 0, none⟩ 1 1 y.cells rfl (box_news W y) (cells_one y) (by unfold maxLen; omega) (by omega) (Nat.le_trans hB hb3.size)
  obtain ⟨a6, c6, e6, -⟩ := row_shape hown6
  have hp1 := (hb3.block p (lt_of_block h.blk)).trans h.blk
  refine ⟨v6, w6, run6, (hg6.block p (lt_of_block hp1) fun e => h.type_ne e.symm).trans hp1, ⟨a6, c6, e6⟩, fun k hk hne => ?_, ?_⟩
  · rw [hg6.block k (by simp; omega) (fun e => hne e.symm), hB3.block k hk]
  exact h.snoc hB hb3 (hy.below hB3) hg6 hown6 fun k hk => by
    rcases hloc6 with e | e
    · left; rw [← e]; exact hk
    · right; rw [e] at hk; cases hk; exact Nat.le_refl _
set_option maxHeartbeats 3200000 in
set_option maxRecDepth 1000000 in
theorem rkey_any {w : World} {p B : Nat} {v : Value} {ys : List En} (h : Rb w p B v ys) (hB : B ≤ w.heap.size) (ka : Option Addr) (kn kc : Nat) (key : List Int) (hk : Inn w ka kn kc key) (hkl : kn ≤ 30000) (hn : ys.length ≤ 900) :
    Calls Try.prog 26 #[.pointer (some ⟨p, 0, none⟩), .slice ka kn kc] w (RbOut w p B v ys ⟨key, key ++ [0], false⟩) := by
  have hlen := hk.len
  subst hlen
  obtain ⟨v1, w1, run1, hm1⟩ := copy_app hk (by omega)
  obtain ⟨v2, w2, run2, hm2⟩ := copy_app (hk.below hm1.2.2) (by omega)
  obtain ⟨a1, c1, rfl, -⟩ := hm1.1.shape
  obtain ⟨a2, c2, rfl, -⟩ := hm2.1.shape
  obtain ⟨v6, w6, run6, hown6, hg6, hl6⟩ := zero_app hm2.1 (by omega)
  obtain ⟨a6, c6, rfl, -⟩ := hown6.shape
  have hb3 := below_alloc w2 (.cells #[.int .u8 0] 5)
  have b1 := hm1.2.2
  have b2 := b1.trans (hm2.2.2.mono b1.size)
  have b3 := b2.trans (hb3.mono b2.size)
  have b6 : Below w.heap.size w w6 := b3.grown hg6 b3.size fun k hk => Nat.le_trans b1.size (hm2.2.1 k hk)
  have hv1 : Own w6 (.slice a1 key.length c1) key := hm1.1.of_block fun k hk => by
    have h1 := hm1.1.lt hk
    have h2 := hm2.2.2.size
    rw [hg6.block k (by simp; omega) (fun e => by have := hm2.2.1 k e.symm; omega), hb3.block k (by omega), hm2.2.2.block k h1]
  have hve : ∀ k, (Value.slice a6 (key ++ [0]).length c6).ownBlock = some k → w1.heap.size ≤ k := fun k hk => (hl6 k hk).elim (fun e => hm2.2.1 k e) fun h => Nat.le_trans hm2.2.2.size h
  have hy : (⟨⟨key, key ++ [0], false⟩, a1, c1, a6, c6⟩ : En).Own w.heap.size w6 := ⟨hv1, hown6, fun k hk => hm1.2.1 k hk, fun k hk => Nat.le_trans b1.size (hve k hk), fun k hk e => by have h1 := hm1.1.lt hk; have h2 := hve k e; omega, hk.byts, hk.byts.append (by intro c hc; simp at hc; omega)⟩
  obtain ⟨v7, w7, run7, hp7, ⟨a7, c7, rfl⟩, -, hout⟩ := rb_app _ h hB b6 hy hn
  simp only [List.length_append, List.length_singleton] at run7 run6
  have hpB := (b6.block p (lt_of_block h.blk)).trans h.blk
  have s0 := cell_of_one hpB
  have f7 := free_of_one hp7
  have t7 := cell_of_one hp7
  obtain ⟨a, c, rfl, -⟩ := row_shape h.cl.row
  have R1 := hide run1
  have R2 := hide run2
  have R6 := hide run6
  have R7 := hide run7
  have HO := hide hout
  clear run1 run2 run6 run7 hm1 hm2 hown6 hg6 hl6 hb3 b1 b2 b3 b6 hv1 hve hy hout hpB hp7 h hk
  go_enter Try.func26, Try.ntmps26
  go_wp2_with (first
    | (at_builtin; refine wpList_run_append (by rfl) (.tmp 6) (.tmp 7) 33 (by rfl) (by rfl) (by rfl) R1.out ?_)
    | (at_builtin; refine wpList_run_append (by rfl) (.tmp 9) (.tmp 10) 33 (by rfl) (by rfl) (by rfl) R2.out ?_)
    | (at_builtin; refine wpList_run_append (by rfl) (.tmp 12) (.tmp 13) 33 (by rfl) (by rfl) (by rfl) R6.out ?_)
    | (at_builtin; refine wpList_run_append (by rfl) (.tmp 19) (.tmp 23) 23 (by rfl) (by rfl) (by rfl) R7.out ?_))
  go_end0
  exact HO.out
end Go.Proofs.Ytpoanlbjhhlagaa
