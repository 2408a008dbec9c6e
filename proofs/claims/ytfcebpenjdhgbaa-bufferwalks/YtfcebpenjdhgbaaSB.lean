/- The two rows of a buffer turned. -/
import Derived.Test.YtfcebpenjdhgbaaSA
namespace Go.Proofs.Ytfcebpenjdhgbaa
open Go.RowKit Go.Maps
set_option linter.unusedVariables false

def ins (xs : List En) (i : Nat) (y : En) : List En := xs.take i ++ y :: xs.drop i
theorem cell_set_ne {w : World} {p q i j : Nat} {v : Value} (h : q ≠ p) : (w.setCell ⟨p, i, none⟩ v).cell? ⟨q, j, none⟩ = w.cell? ⟨q, j, none⟩ := by
  simp only [World.cell?]
  rw [Below.heap_setCell _ _ _ _ h]
theorem two_set0 {W : World} {p t : Nat} {a b u : Value} (h : W.heap[p]? = some (.cells #[a, b] t (0, 0))) : (W.setCell ⟨p, 0, none⟩ u).heap[p]? = some (.cells #[u, b] t (0, 0)) := by
  rw [heap_setCell_same W p 0 _ t _ h]; rfl
theorem two_set1 {W : World} {p t : Nat} {a b u : Value} (h : W.heap[p]? = some (.cells #[a, b] t (0, 0))) : (W.setCell ⟨p, 1, none⟩ u).heap[p]? = some (.cells #[a, u] t (0, 0)) := by
  rw [heap_setCell_same W p 1 _ t _ h]; rfl
section
variable {w w1 w4 : World} {p B : Nat} {sv uv sv' uv' : Value} {xs xs' : List En} {us us' : List Value}
theorem said_turned (hb : Bf w p B sv uv xs us) (h1 : Below w.heap.size w w1) (hg : w1.grownBy w4 sv.ownBlock) (ho : w4.ownsRow B 36 3 sv' xs'.length (rowc xs'))
    (hl : sv'.ownBlock = sv.ownBlock ∨ ∃ k, sv'.ownBlock = some k ∧ w1.heap.size ≤ k) (he : ∀ x ∈ xs', x.Own B w) :
    Bf (w4.setCell ⟨p, 0, none⟩ sv') p B sv' uv xs' us ∧ Go1 (Bo p sv uv) w (Bo p sv' uv) (w4.setCell ⟨p, 0, none⟩ sv') := by
  have hm : Mv (Bo p sv uv) w (w4.setCell ⟨p, 0, none⟩ sv') := ((Mv.of_below h1).grown hg fun k hk => .inl (.inr (.inl hk))).setB (.inl rfl) 0 sv'
  have hb1 := hb.below h1
  have hp4 : w4.heap[p]? = some (.cells #[sv, uv] 59 (0, 0)) := (hg.block p (lt_of_block hb1.blk) (fun e => hb.sne e.symm)).trans hb1.blk
  have hsp : sv'.ownBlock ≠ some p := fun e => by
    obtain ⟨_, _, c, hc⟩ := row_at ho e
    rw [hp4] at hc; have := obj_type hc; simp at this
  refine ⟨⟨two_set0 hp4, row_of_block ho fun k hk => set_other _ _ _ _ _ (fun e => hsp (by rw [← e]; exact hk)), ?_, fun x hx => hb.own_move hm (he x hx), hb.base⟩, hm, ?_⟩
  · refine row_of_block hb1.undo fun k hk => ?_
    rw [set_other _ _ _ _ _ (fun e => hb.une (by rw [← e]; exact hk))]
    exact hg.block k (row_at hb1.undo hk).2.1 (fun e => hb.sune e.symm hk)
  · rintro k (rfl | e | e)
    · exact .inl (.inl rfl)
    · rcases hl with h | ⟨k', h, hk'⟩
      · exact .inl (.inr (.inl (by rw [← h]; exact e)))
      · rw [h] at e; cases e; exact .inr (Nat.le_trans h1.size hk')
    · exact .inl (.inr (.inr e))
theorem undo_turned (hb : Bf w p B sv uv xs us) (h1 : Below w.heap.size w w1) (hg : w1.grownBy w4 uv.ownBlock) (ho : w4.ownsRow B 1 1 uv' us'.length us')
    (hl : uv'.ownBlock = uv.ownBlock ∨ ∃ k, uv'.ownBlock = some k ∧ w1.heap.size ≤ k) :
    Bf (w4.setCell ⟨p, 1, none⟩ uv') p B sv uv' xs us' ∧ Go1 (Bo p sv uv) w (Bo p sv uv') (w4.setCell ⟨p, 1, none⟩ uv') := by
  have hm : Mv (Bo p sv uv) w (w4.setCell ⟨p, 1, none⟩ uv') := ((Mv.of_below h1).grown hg fun k hk => .inl (.inr (.inr hk))).setB (.inl rfl) 1 uv'
  have hb1 := hb.below h1
  have hp4 : w4.heap[p]? = some (.cells #[sv, uv] 59 (0, 0)) := (hg.block p (lt_of_block hb1.blk) (fun e => hb.une e.symm)).trans hb1.blk
  have hup : uv'.ownBlock ≠ some p := fun e => by
    obtain ⟨_, _, c, hc⟩ := row_at ho e
    rw [hp4] at hc; have := obj_type hc; simp at this
  refine ⟨⟨two_set1 hp4, ?_, row_of_block ho fun k hk => set_other _ _ _ _ _ (fun e => hup (by rw [← e]; exact hk)), fun x hx => hb.own_move hm (hb.each x hx), hb.base⟩, hm, ?_⟩
  · refine row_of_block hb1.said fun k hk => ?_
    rw [set_other _ _ _ _ _ (fun e => hb.sne (by rw [← e]; exact hk))]
    exact hg.block k (row_at hb1.said hk).2.1 (fun e => hb.sune hk e.symm)
  · rintro k (rfl | e | e)
    · exact .inl (.inl rfl)
    · exact .inl (.inr (.inl e))
    · rcases hl with h | ⟨k', h, hk'⟩
      · exact .inl (.inr (.inr (by rw [← h]; exact e)))
      · rw [h] at e; cases e; exact .inr (Nat.le_trans h1.size hk')
end
end Go.Proofs.Ytfcebpenjdhgbaa
