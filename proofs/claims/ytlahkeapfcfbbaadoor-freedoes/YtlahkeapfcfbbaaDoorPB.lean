/- A pile: two of its pages change places, one is laid behind the others, the last one is taken off. -/
import Derived.Test.YtlahkeapfcfbbaaDoorPA
namespace Go.Proofs.YtlahkeapfcfbbaaDoor
open Go.RowKit Go.Maps
set_option linter.unusedVariables false
variable {w w' : World} {p : Nat} {b : Bool} {v : Value} {xs : List Pg}
set_option maxHeartbeats 1600000 in
set_option maxRecDepth 1000000 in
theorem plen_any (h : Pl w p b v xs) : Calls Tryd.prog 29 #[.pointer (some ⟨p, 0, none⟩)] w fun e w' => e = .returned (.int .i64 (xs.length : Int)) ∧ w' = w := by
  obtain ⟨a, c, rfl, hc1, hc2, hg⟩ := h.shape
  have c0 := h.c0
  clear hg h
  generalize xs.length = n at *
  go_enter Tryd.func29, Tryd.ntmps29
  go_wp2
  go_ret
  exact ⟨rfl, rfl⟩
theorem pflat_cons (x : Pg) (xs : List Pg) : pflat (x :: xs) = .int .u32 x.1 :: .int .u64 x.2 :: pflat xs := rfl
theorem pflat_set (x : Pg) : ∀ (xs : List Pg) (k : Nat), k < xs.length → pflat (xs.set k x) = ((pflat xs).set (k * 2) (.int .u32 x.1)).set (k * 2 + 1) (.int .u64 x.2)
  | [], _, h => absurd h (by simp)
  | y :: ys, 0, _ => by simp [pflat_cons]
  | y :: ys, k + 1, h => by
    have := pflat_set x ys k (by simpa using h)
    rw [List.set_cons_succ, pflat_cons, pflat_cons, show (k + 1) * 2 = k * 2 + 1 + 1 by omega]
    simp only [List.set_cons_succ]
    rw [this]
/-- a page is written over. -/
theorem Pl.setAt (h : Pl w p b v xs) {g : Nat} (hg : v.ownBlock = some g) (k : Nat) (hk : k < xs.length) (x : Pg) :
    Pl ((w.setCell ⟨g, k * 2, none⟩ (.int .u32 x.1)).setCell ⟨g, k * 2 + 1, none⟩ (.int .u64 x.2)) p b v (xs.set k x) := by
  have hne : p ≠ g := fun e => h.pv (by rw [hg, e])
  refine ⟨?_, ?_, h.pv⟩
  · rw [set_other _ _ _ _ _ hne, set_other _ _ _ _ _ hne]; exact h.blk
  · rcases h.row.2 with ⟨rfl, h0⟩ | ⟨g', cap, cur, rfl, hb, hh, hn, hm, hs, ht⟩
    · simp [Value.ownBlock] at hg
    · obtain rfl : g' = g := by simpa [Value.ownBlock] using hg
      refine ⟨by rw [pflat_len], .inr ⟨g', cap, _, by rw [List.length_set], hb, heap_setCell_same _ g' _ _ _ _ (heap_setCell_same w g' _ cur _ _ hh), by rw [List.length_set]; exact hn, hm, by simpa using hs, ?_⟩⟩
      rw [List.length_set, Array.toList_setIfInBounds, Array.toList_setIfInBounds, List.take_set, List.take_set, ht, pflat_set x xs k hk]
theorem sw_eq (xs : List Pg) (i j : Nat) : sw xs i j = (xs.set i (pat xs j)).set j (pat xs i) := rfl
set_option maxHeartbeats 1600000 in
set_option maxRecDepth 1000000 in
theorem swap_any (h : Pl w p b v xs) (i j : Nat) (hi : i < xs.length) (hj : j < xs.length) :
    Calls Tryd.prog 93 #[.pointer (some ⟨p, 0, none⟩), .int .i64 (i : Int), .int .i64 (j : Int)] w fun e w' => e = .returned (.tuple #[]) ∧ Pl w' p b v (sw xs i j) ∧ w'.heap.size = w.heap.size ∧ Mv (fun k => v.ownBlock = some k) w w' := by
  obtain ⟨a, c, rfl, hc1, hc2, hg⟩ := h.shape
  obtain ⟨g, rfl, ho, hne, hfz, hcell⟩ := hg (by omega)
  have c0 := h.c0
  obtain ⟨e1, e2⟩ := hcell i hi
  obtain ⟨e3, e4⟩ := hcell j hj
  have f1 := hfz (i * 2)
  have f2 := hfz (i * 2 + 1)
  have f3 := hfz (j * 2)
  have f4 := hfz (j * 2 + 1)
  have H1 := hide (h.setAt ho i hi (pat xs j))
  have H2 := hide (H1.out.setAt ho j (by rw [List.length_set]; exact hj) (pat xs i))
  clear hcell hg h hc1 hc2 hfz
  generalize xs.length = n at *
  rw [← sw_eq] at H2
  generalize sw xs i j = S at *
  generalize xs.set i (pat xs j) = S1 at *
  generalize (pat xs i).1 = x1 at *
  generalize (pat xs i).2 = x2 at *
  generalize (pat xs j).1 = y1 at *
  generalize (pat xs j).2 = y2 at *
  have g1 : (w.setCell ⟨g, i * 2, none⟩ (.int .u32 y1)).cell? ⟨g, j * 2, none⟩ = some (.int .u32 y1) := by
    by_cases e : i = j
    · subst e; exact World.cell?_setCell_same _ _ _ e1
    · rw [World.cell?_setCell_other _ _ _ _ (fun x => e (by injection x with _ x; omega))]; exact e3
  have g2 : ((w.setCell ⟨g, i * 2, none⟩ (.int .u32 y1)).setCell ⟨g, i * 2 + 1, none⟩ (.int .u64 y2)).cell? ⟨g, j * 2 + 1, none⟩ = some (.int .u64 y2) := by
    by_cases e : i = j
    · subst e; exact World.cell?_setCell_same _ _ _ (u := .int .u64 x2) (by rw [World.cell?_setCell_other _ _ _ _ (fun x => by injection x with _ x; omega)]; exact e2)
    · rw [World.cell?_setCell_other _ _ _ _ (fun x => e (by injection x with _ x; omega)), World.cell?_setCell_other _ _ _ _ (fun x => by injection x with _ x; omega)]; exact e4
  go_enter Tryd.func93, Tryd.ntmps93
  go_wp2
  go_region
  go_end0
  exact ⟨rfl, H2.out.same (Same.refl _).drew, by simp [World.setCell], ((((Mv.refl _ w).setB ho _ _).setB ho _ _).setB ho _ _ |>.setB ho _ _).drew⟩
end Go.Proofs.YtlahkeapfcfbbaaDoor
