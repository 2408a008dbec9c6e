/- An entry of a buffer's list is written over. -/
import Derived.Test.YtfcebpenjdhgbaaSC
namespace Go.Proofs.Ytfcebpenjdhgbaa
open Go.RowKit Go.Maps
set_option linter.unusedVariables false

theorem set3 (L : List Value) (k : Nat) (a b c : Value) (h : k + 3 ≤ L.length) : ((L.set k a).set (k + 1) b).set (k + 2) c = L.take k ++ [a, b, c] ++ L.drop (k + 3) := by
  induction k generalizing L with
  | zero =>
    match L, h with
    | x :: y :: z :: t, _ => simp
  | succ k ih =>
    match L, h with
    | x :: t, h =>
      have := ih t (by simp at h; omega)
      rw [show k + 1 + 1 = (k + 1) + 1 from rfl, show k + 1 + 2 = (k + 2) + 1 from rfl, show k + 1 + 3 = (k + 3) + 1 from rfl]
      simp only [List.set_cons_succ, List.take_succ_cons, List.drop_succ_cons, List.cons_append]
      rw [this]
theorem rowc_take (xs : List En) (k : Nat) : rowc (xs.take k) = (rowc xs).take (k * 3) := by
  by_cases h : k ≤ xs.length
  · conv => rhs; rw [← List.take_append_drop k xs, rowc_app]
    rw [List.take_left' (by rw [rowc_len, List.length_take]; omega)]
  · rw [List.take_of_length_le (by omega), List.take_of_length_le (by rw [rowc_len]; omega)]
theorem rowc_set (xs : List En) (i : Nat) (y : En) (h : i < xs.length) : rowc (xs.set i y) = (rowc xs).take (i * 3) ++ y.cells ++ (rowc xs).drop (i * 3 + 3) := by
  rw [List.set_eq_take_append_cons_drop, if_pos h, rowc_app, rowc_take]
  have e : rowc (y :: xs.drop (i + 1)) = y.cells ++ rowc (xs.drop (i + 1)) := by simp [rowc]
  rw [e, rowc_drop, List.append_assoc, show (i + 1) * 3 = i * 3 + 3 by omega]
/-- the cells of the entry at i, written over. -/
def over3 (w : World) (g i : Nat) (y : En) : World := ((w.setCell ⟨g, i * 3, none⟩ (.slice y.ka y.e.key.length y.kc)).setCell ⟨g, i * 3 + 1, none⟩ (.slice y.va y.e.val.length y.vc)).setCell ⟨g, i * 3 + 2, none⟩ (.bool y.e.del)
theorem over3_other {w : World} {g i k : Nat} {y : En} (h : k ≠ g) : (over3 w g i y).heap[k]? = w.heap[k]? := by
  unfold over3
  rw [Below.heap_setCell _ _ _ _ h, Below.heap_setCell _ _ _ _ h, Below.heap_setCell _ _ _ _ h]
theorem over3_row {w : World} {B g n c i : Nat} {xs : List En} {y : En} (hl : xs.length = n) (h : w.ownsRow B 36 3 (.slice (some ⟨g, 0, none⟩) n c) n (rowc xs)) (hi : i < n) :
    (over3 w g i y).ownsRow B 36 3 (.slice (some ⟨g, 0, none⟩) n c) n (rowc (xs.set i y)) := by
  obtain ⟨h1, h2⟩ := h
  rcases h2 with ⟨e, _⟩ | ⟨g', cap, cur, e, hb, hg, hnc, hcm, hcs, htk⟩
  · cases e
  · simp only [Value.slice.injEq, Option.some.injEq, Addr.mk.injEq, and_true, true_and] at e
    obtain ⟨rfl, rfl⟩ := e
    have e1 := heap_setCell_same w g (i * 3) _ 36 (.slice y.ka y.e.key.length y.kc) hg
    have e2 := heap_setCell_same _ g (i * 3 + 1) _ 36 (.slice y.va y.e.val.length y.vc) e1
    have e3 := heap_setCell_same _ g (i * 3 + 2) _ 36 (.bool y.e.del) e2
    refine ⟨by rw [rowc_len, List.length_set, hl], .inr ⟨g, c, _, rfl, hb, e3, hnc, hcm, by simp [hcs], ?_⟩⟩
    simp only [Array.toList_setIfInBounds]
    rw [set3 _ _ _ _ _ (by rw [Array.length_toList, hcs]; omega), rowc_set _ _ _ (by omega), ← htk]
    have hln : cur.toList.length = c * 3 := by rw [Array.length_toList, hcs]
    rw [List.take_take, Nat.min_eq_left (by omega), List.drop_take, List.append_assoc, List.append_assoc, List.take_append, List.take_of_length_le (by rw [List.length_take]; omega), List.length_take, Nat.min_eq_left (by omega)]
    congr 1
    rw [List.take_append, List.take_of_length_le (by simp; omega)]
    simp only [List.length_cons, List.length_nil]
    rw [show n * 3 - i * 3 - (0 + 1 + 1 + 1) = n * 3 - (i * 3 + 3) by omega]
    rfl
theorem over3_mv {w : World} {p g i n c : Nat} {uv : Value} {y : En} : Mv (Bo p (.slice (some ⟨g, 0, none⟩) n c) uv) w (over3 w g i y) :=
  (((Mv.refl _ w).setB (b := g) (.inr (.inl rfl)) _ _).setB (b := g) (.inr (.inl rfl)) _ _).setB (b := g) (.inr (.inl rfl)) _ _
theorem said_over {w : World} {p B g c i : Nat} {uv : Value} {xs : List En} {us : List Value} {y : En} (hb : Bf w p B (.slice (some ⟨g, 0, none⟩) xs.length c) uv xs us) (hi : i < xs.length) (hy : y.Own B w) :
    Bf (over3 w g i y) p B (.slice (some ⟨g, 0, none⟩) xs.length c) uv (xs.set i y) us ∧ Go1 (Bo p (.slice (some ⟨g, 0, none⟩) xs.length c) uv) w (Bo p (.slice (some ⟨g, 0, none⟩) xs.length c) uv) (over3 w g i y) := by
  have hm : Mv (Bo p (.slice (some ⟨g, 0, none⟩) xs.length c) uv) w (over3 w g i y) := over3_mv
  have hgp : p ≠ g := fun e => hb.sne (by rw [e]; rfl)
  refine ⟨⟨(over3_other hgp).trans hb.blk, by rw [List.length_set]; exact over3_row rfl hb.said hi, row_of_block hb.undo fun k hk => over3_other fun e => hb.sune (k := g) rfl (by rw [← e]; exact hk), fun x hx => ?_, hb.base⟩, hm, fun k hk => .inl hk⟩
  rcases List.mem_or_eq_of_mem_set hx with hx | rfl
  · exact hb.own_move hm (hb.each x hx)
  · exact hb.own_move hm hy
end Go.Proofs.Ytfcebpenjdhgbaa
