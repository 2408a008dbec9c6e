/- The Go function PageNewest answers true for every two states, and whatever is torn of one of them: of two states that both may count the one with the greater generation counts, whichever page it stands on; with one of them torn the other one does. No condition. -/
import Derived.Test.YtfbkcolcdkglbaaNA
namespace Go.Proofs.Ytfbkcolcdkglbaa.Newest
open Go.ChangeShapes Go.WideShapes Go.ChangeAt Go.RowKit
set_option linter.unusedVariables false

set_option maxHeartbeats 6400000 in
set_option maxRecDepth 1000000 in
theorem walk_no (g r f p k g2 r2 f2 p2 k2 tn : Nat) (at1 : Int) (C : Nat) (w : World) (hg : g < 18446744073709551616) (hg2 : g2 < 18446744073709551616) (htn : tn < 256) (hC : C < 4294967296) (hat : -9223372036854775808 ≤ at1 ∧ at1 ≤ 9223372036854775807) (hno : ¬ (Pg.M.mk (g / 2 * 2) r f p k).May ∨ ¬ (Pg.M.mk (g2 / 2 * 2 + 1) r2 f2 p2 k2).May) :
    Calls Try.prog 7 #[.agg #[.int .u64 (g : Int), .int .u32 (r : Int), .int .u32 (f : Int), .int .u32 (p : Int), .int .u64 (k : Int)], .agg #[.int .u64 (g2 : Int), .int .u32 (r2 : Int), .int .u32 (f2 : Int), .int .u32 (p2 : Int), .int .u64 (k2 : Int)], .int .u8 (tn : Int), .int .i64 at1, .int .u32 (C : Int)] w fun e w' => e = .returned (.bool true) ∧ Below w.heap.size w w' := by
  have HK := hide (fun W => known_any W)
  have HAt := hide hat
  have HPm : Hid (∀ W, Calls Try.prog 20 #[.agg #[.int .u64 ((g : Int) / 2 * 2), .int .u32 (r : Int), .int .u32 (f : Int), .int .u32 (p : Int), .int .u64 (k : Int)]] W fun e w' => ∃ a n c er, e = .returned (.tuple #[.slice a n c, .int .u16 (er : Int)]) ∧ Below W.heap.size W w' ∧ ((Pg.M.mk (g / 2 * 2) r f p k).May → er = 0 ∧ Inn w' a n c (Pg.mt ⟨g / 2 * 2, r, f, p, k⟩) ∧ n = 128) ∧ (¬ (Pg.M.mk (g / 2 * 2) r f p k).May → er = 80)) := hide fun W => by
    have e : ((g : Int) / 2 * 2) = ((g / 2 * 2 : Nat) : Int) := by omega
    rw [e]; exact put_either _ r f p k W
  have HPn : Hid (∀ W, Calls Try.prog 20 #[.agg #[.int .u64 ((g2 : Int) / 2 * 2 + 1), .int .u32 (r2 : Int), .int .u32 (f2 : Int), .int .u32 (p2 : Int), .int .u64 (k2 : Int)]] W fun e w' => ∃ a n c er, e = .returned (.tuple #[.slice a n c, .int .u16 (er : Int)]) ∧ Below W.heap.size W w' ∧ ((Pg.M.mk (g2 / 2 * 2 + 1) r2 f2 p2 k2).May → er = 0 ∧ Inn w' a n c (Pg.mt ⟨g2 / 2 * 2 + 1, r2, f2, p2, k2⟩) ∧ n = 128) ∧ (¬ (Pg.M.mk (g2 / 2 * 2 + 1) r2 f2 p2 k2).May → er = 80)) := hide fun W => by
    have e : ((g2 : Int) / 2 * 2 + 1) = ((g2 / 2 * 2 + 1 : Nat) : Int) := by omega
    rw [e]; exact put_either _ r2 f2 p2 k2 W
  obtain ⟨w0, hw0⟩ : ∃ w0, w0 = (w.alloc (.cells #[.int .u64 (g : Int), .int .u32 (r : Int), .int .u32 (f : Int), .int .u32 (p : Int), .int .u64 (k : Int)] 64)).alloc (.cells #[.int .u64 (g2 : Int), .int .u32 (r2 : Int), .int .u32 (f2 : Int), .int .u32 (p2 : Int), .int .u64 (k2 : Int)] 64) := ⟨_, rfl⟩
  have hB0 : Below w.heap.size w w0 := by rw [hw0]; exact (((Below.refl _ _).alloc (Nat.le_refl _) _).alloc (by simp) _)
  have hs0 : w0.heap.size = w.heap.size + 2 := by rw [hw0]; simp
  have hb0 : w0.heap[w.heap.size]? = some (.cells #[.int .u64 (g : Int), .int .u32 (r : Int), .int .u32 (f : Int), .int .u32 (p : Int), .int .u64 (k : Int)] 64 (0, 0)) := by
    rw [hw0, Below.heap_alloc _ _ _ (by simp)]; exact heap_alloc_new w _
  have hb1 : w0.heap[w.heap.size + 1]? = some (.cells #[.int .u64 (g2 : Int), .int .u32 (r2 : Int), .int .u32 (f2 : Int), .int .u32 (p2 : Int), .int .u64 (k2 : Int)] 64 (0, 0)) := by
    rw [hw0]
    have := heap_alloc_new (w.alloc (.cells #[.int .u64 (g : Int), .int .u32 (r : Int), .int .u32 (f : Int), .int .u32 (p : Int), .int .u64 (k : Int)] 64)) (.cells #[.int .u64 (g2 : Int), .int .u32 (r2 : Int), .int .u32 (f2 : Int), .int .u32 (p2 : Int), .int .u64 (k2 : Int)] 64)
    simpa using this
  have HW0 := hide hw0
  have HB0 := hide hB0
  have HS0 := hide hs0
  have HQ0 := hide hb0
  have HQ1 := hide hb1
  clear hw0 hB0 hs0 hb0 hb1 hat
  go_enter Try.func7, Try.ntmps7
  go_wp2_with fail
  rw [← HW0.out]
  refine (HK.out _).mono ?_
  rintro e w1 ⟨rfl, hb1⟩
  have HB1 := hide (HB0.out.trans (hb1.mono HB0.out.size))
  have hq0 := (hb1.block w.heap.size (by rw [HS0.out]; omega)).trans HQ0.out
  have hq1 := (hb1.block (w.heap.size + 1) (by rw [HS0.out]; omega)).trans HQ1.out
  have hlt : w.heap.size + 1 < w1.heap.size := by have := hb1.size; have := HS0.out; omega
  obtain ⟨y0, y1, y2, y3, y4⟩ := five hq0
  obtain ⟨z0, z1, z2, z3, z4⟩ := five hq1
  have g0 := frozen_blk (j := 0) hq0
  have g1 := frozen_blk (j := 0) hq1
  have HR0 := hide hq0
  have HR1 := hide hq1
  clear hq0 hq1 hb1 HQ0 HQ1 HS0 HW0
  go_wp2_with fail
  have hA0 : ((w1.setCell ⟨w.heap.size, 0, none⟩ (.int .u64 ((g : Int) / 2 * 2))).setCell ⟨w.heap.size + 1, 0, none⟩ (.int .u64 ((g2 : Int) / 2 * 2 + 1))).heap[w.heap.size]? = some (.cells #[.int .u64 ((g : Int) / 2 * 2), .int .u32 (r : Int), .int .u32 (f : Int), .int .u32 (p : Int), .int .u64 (k : Int)] 64 (0, 0)) := by
    rw [Below.heap_setCell _ _ _ _ (show w.heap.size ≠ w.heap.size + 1 by omega), blk_set HR0.out]; rfl
  have hA1 : ((w1.setCell ⟨w.heap.size, 0, none⟩ (.int .u64 ((g : Int) / 2 * 2))).setCell ⟨w.heap.size + 1, 0, none⟩ (.int .u64 ((g2 : Int) / 2 * 2 + 1))).heap[w.heap.size + 1]? = some (.cells #[.int .u64 ((g2 : Int) / 2 * 2 + 1), .int .u32 (r2 : Int), .int .u32 (f2 : Int), .int .u32 (p2 : Int), .int .u64 (k2 : Int)] 64 (0, 0)) := by
    rw [blk_set ((Below.heap_setCell _ _ _ _ (show w.heap.size + 1 ≠ w.heap.size by omega)).trans HR1.out)]; rfl
  have hA2 : Below w.heap.size w ((w1.setCell ⟨w.heap.size, 0, none⟩ (.int .u64 ((g : Int) / 2 * 2))).setCell ⟨w.heap.size + 1, 0, none⟩ (.int .u64 ((g2 : Int) / 2 * 2 + 1))) := (HB1.out.setCell (p := ⟨w.heap.size, 0, none⟩) (Nat.le_refl _) _).setCell (p := ⟨w.heap.size + 1, 0, none⟩) (show w.heap.size ≤ w.heap.size + 1 by omega) _
  have hA3 : ((w1.setCell ⟨w.heap.size, 0, none⟩ (.int .u64 ((g : Int) / 2 * 2))).setCell ⟨w.heap.size + 1, 0, none⟩ (.int .u64 ((g2 : Int) / 2 * 2 + 1))).heap.size = w1.heap.size := by simp [World.setCell]
  clear y0 y1 y2 y3 y4 z0 z1 z2 z3 z4 g0 g1 HR0 HR1 HB1
  generalize (w1.setCell ⟨w.heap.size, 0, none⟩ (.int .u64 ((g : Int) / 2 * 2))).setCell ⟨w.heap.size + 1, 0, none⟩ (.int .u64 ((g2 : Int) / 2 * 2 + 1)) = w2 at *
  have hlt2 : w.heap.size + 1 < w2.heap.size := by rw [hA3]; exact hlt
  have HQ0 := hide hA0
  have HQ1 := hide hA1
  have HB2 := hide hA2
  clear hA0 hA1 hA2 hA3 hlt
  refine (HPm.out w2).mono ?_
  rintro e w3 ⟨a3, n3, c3, er3, rfl, hb3, hy3, hn3⟩
  have hq1 := (hb3.block _ hlt2).trans HQ1.out
  have hq0 := (hb3.block _ (show w.heap.size < w2.heap.size by omega)).trans HQ0.out
  have HB3 := hide (HB2.out.trans (hb3.mono HB2.out.size))
  have hlt3 : w.heap.size + 1 < w3.heap.size := Nat.lt_of_lt_of_le hlt2 hb3.size
  have HY3 := hide hy3
  have HN3 := hide hn3
  have HR0 := hide hq0
  have HR1 := hide hq1
  obtain ⟨z0, z1, z2, z3, z4⟩ := five hq1
  clear hq0 hq1 hy3 hn3 hb3 hlt2 HQ0 HQ1 HB2
  go_wp2_with fail
  refine (HPn.out w3).mono ?_
  rintro e w4 ⟨a4, n4, c4, er4, rfl, hb4, hy4, hn4⟩
  have hq1 := (hb4.block _ hlt3).trans HR1.out
  have hq0 := (hb4.block _ (show w.heap.size < w3.heap.size by omega)).trans HR0.out
  have HB4 := hide (HB3.out.trans (hb4.mono HB3.out.size))
  have HC4 := hide hb4
  have hlt4 : w.heap.size + 1 < w4.heap.size := Nat.lt_of_lt_of_le hlt3 hb4.size
  clear z0 z1 z2 z3 z4 hb4
  have hnz : (((er3 : Int) != 0) = true) ∨ (((er3 : Int) != 0) = false ∧ ((er4 : Int) != 0) = true) := by
    by_cases h3 : (Pg.M.mk (g / 2 * 2) r f p k).May
    · have h4 : ¬ (Pg.M.mk (g2 / 2 * 2 + 1) r2 f2 p2 k2).May := hno.elim (fun h => absurd h3 h) id
      right
      rw [(HY3.out h3).1, hn4 h4]
      exact ⟨rfl, rfl⟩
    · left
      rw [HN3.out h3]; rfl
  clear hq0 hq1 hy4 hn4 hno HY3 HN3
  rcases hnz with h | ⟨h, h'⟩
  all_goals
    go_wp2
    go_ret
    exact ⟨rfl, HB4.out⟩

set_option maxHeartbeats 6400000 in
set_option maxRecDepth 1000000 in
theorem walk_yme (g r f p k g2 r2 f2 p2 k2 tn : Nat) (at1 : Int) (C : Nat) (w : World) (hg : g < 18446744073709551616) (hg2 : g2 < 18446744073709551616) (htn : tn < 256) (hC : C < 4294967296) (hat : -9223372036854775808 ≤ at1 ∧ at1 ≤ 9223372036854775807) (htp : ((tn : Int) % 2 == 0) = true) (hm : (Pg.M.mk (g / 2 * 2) r f p k).May) (hn : (Pg.M.mk (g2 / 2 * 2 + 1) r2 f2 p2 k2).May) (hlt : ¬ g / 2 * 2 < g2 / 2 * 2 + 1) :
    Calls Try.prog 7 #[.agg #[.int .u64 (g : Int), .int .u32 (r : Int), .int .u32 (f : Int), .int .u32 (p : Int), .int .u64 (k : Int)], .agg #[.int .u64 (g2 : Int), .int .u32 (r2 : Int), .int .u32 (f2 : Int), .int .u32 (p2 : Int), .int .u64 (k2 : Int)], .int .u8 (tn : Int), .int .i64 at1, .int .u32 (C : Int)] w fun e w' => e = .returned (.bool true) ∧ Below w.heap.size w w' := by
  have HK := hide (fun W => known_any W)
  have HAt := hide hat
  have HPm : Hid (∀ W, Calls Try.prog 20 #[.agg #[.int .u64 ((g : Int) / 2 * 2), .int .u32 (r : Int), .int .u32 (f : Int), .int .u32 (p : Int), .int .u64 (k : Int)]] W fun e w' => ∃ a n c er, e = .returned (.tuple #[.slice a n c, .int .u16 (er : Int)]) ∧ Below W.heap.size W w' ∧ ((Pg.M.mk (g / 2 * 2) r f p k).May → er = 0 ∧ Inn w' a n c (Pg.mt ⟨g / 2 * 2, r, f, p, k⟩) ∧ n = 128) ∧ (¬ (Pg.M.mk (g / 2 * 2) r f p k).May → er = 80)) := hide fun W => by
    have e : ((g : Int) / 2 * 2) = ((g / 2 * 2 : Nat) : Int) := by omega
    rw [e]; exact put_either _ r f p k W
  have HPn : Hid (∀ W, Calls Try.prog 20 #[.agg #[.int .u64 ((g2 : Int) / 2 * 2 + 1), .int .u32 (r2 : Int), .int .u32 (f2 : Int), .int .u32 (p2 : Int), .int .u64 (k2 : Int)]] W fun e w' => ∃ a n c er, e = .returned (.tuple #[.slice a n c, .int .u16 (er : Int)]) ∧ Below W.heap.size W w' ∧ ((Pg.M.mk (g2 / 2 * 2 + 1) r2 f2 p2 k2).May → er = 0 ∧ Inn w' a n c (Pg.mt ⟨g2 / 2 * 2 + 1, r2, f2, p2, k2⟩) ∧ n = 128) ∧ (¬ (Pg.M.mk (g2 / 2 * 2 + 1) r2 f2 p2 k2).May → er = 80)) := hide fun W => by
    have e : ((g2 : Int) / 2 * 2 + 1) = ((g2 / 2 * 2 + 1 : Nat) : Int) := by omega
    rw [e]; exact put_either _ r2 f2 p2 k2 W
  obtain ⟨w0, hw0⟩ : ∃ w0, w0 = (w.alloc (.cells #[.int .u64 (g : Int), .int .u32 (r : Int), .int .u32 (f : Int), .int .u32 (p : Int), .int .u64 (k : Int)] 64)).alloc (.cells #[.int .u64 (g2 : Int), .int .u32 (r2 : Int), .int .u32 (f2 : Int), .int .u32 (p2 : Int), .int .u64 (k2 : Int)] 64) := ⟨_, rfl⟩
  have hB0 : Below w.heap.size w w0 := by rw [hw0]; exact (((Below.refl _ _).alloc (Nat.le_refl _) _).alloc (by simp) _)
  have hs0 : w0.heap.size = w.heap.size + 2 := by rw [hw0]; simp
  have hb0 : w0.heap[w.heap.size]? = some (.cells #[.int .u64 (g : Int), .int .u32 (r : Int), .int .u32 (f : Int), .int .u32 (p : Int), .int .u64 (k : Int)] 64 (0, 0)) := by
    rw [hw0, Below.heap_alloc _ _ _ (by simp)]; exact heap_alloc_new w _
  have hb1 : w0.heap[w.heap.size + 1]? = some (.cells #[.int .u64 (g2 : Int), .int .u32 (r2 : Int), .int .u32 (f2 : Int), .int .u32 (p2 : Int), .int .u64 (k2 : Int)] 64 (0, 0)) := by
    rw [hw0]
    have := heap_alloc_new (w.alloc (.cells #[.int .u64 (g : Int), .int .u32 (r : Int), .int .u32 (f : Int), .int .u32 (p : Int), .int .u64 (k : Int)] 64)) (.cells #[.int .u64 (g2 : Int), .int .u32 (r2 : Int), .int .u32 (f2 : Int), .int .u32 (p2 : Int), .int .u64 (k2 : Int)] 64)
    simpa using this
  have HW0 := hide hw0
  have HB0 := hide hB0
  have HS0 := hide hs0
  have HQ0 := hide hb0
  have HQ1 := hide hb1
  clear hw0 hB0 hs0 hb0 hb1 hat
  have HB : Hid (∀ W a n c b m d, Inn W a n c (Pg.mt (Pg.M.mk (g / 2 * 2) r f p k)) → Inn W b m d (Pg.mt (Pg.M.mk (g2 / 2 * 2 + 1) r2 f2 p2 k2)) → Calls Try.prog 24 #[.slice a n c, .slice b m d] W fun e w' => e = .returned (.tuple #[.agg #[.int .u64 ((g : Int) / 2 * 2), .int .u32 (r : Int), .int .u32 (f : Int), .int .u32 (p : Int), .int .u64 (k : Int)], .int .u16 0]) ∧ Below W.heap.size W w') := hide fun W a n c b m d ha hb => by
    have := best_inn ha hb
    rw [bst_two hm hn (by simp only; omega) (by simp only; omega)] at this
    simp only [if_neg hlt, mv] at this
    have e : ((g : Int) / 2 * 2) = ((g / 2 * 2 : Nat) : Int) := by omega
    rw [e]
    exact this
  have HM := hide hm
  have HN := hide hn
  have dl : (g2 : Int) / 2 * 2 + 1 ≤ (g : Int) / 2 * 2 := by omega
  clear hlt hm hn
  go_enter Try.func7, Try.ntmps7
  go_wp2_with fail
  rw [← HW0.out]
  refine (HK.out _).mono ?_
  rintro e w1 ⟨rfl, hb1⟩
  have HB1 := hide (HB0.out.trans (hb1.mono HB0.out.size))
  have hq0 := (hb1.block w.heap.size (by rw [HS0.out]; omega)).trans HQ0.out
  have hq1 := (hb1.block (w.heap.size + 1) (by rw [HS0.out]; omega)).trans HQ1.out
  have hlt : w.heap.size + 1 < w1.heap.size := by have := hb1.size; have := HS0.out; omega
  obtain ⟨y0, y1, y2, y3, y4⟩ := five hq0
  obtain ⟨z0, z1, z2, z3, z4⟩ := five hq1
  have g0 := frozen_blk (j := 0) hq0
  have g1 := frozen_blk (j := 0) hq1
  have HR0 := hide hq0
  have HR1 := hide hq1
  clear hq0 hq1 hb1 HQ0 HQ1 HS0 HW0
  go_wp2_with fail
  have hA0 : ((w1.setCell ⟨w.heap.size, 0, none⟩ (.int .u64 ((g : Int) / 2 * 2))).setCell ⟨w.heap.size + 1, 0, none⟩ (.int .u64 ((g2 : Int) / 2 * 2 + 1))).heap[w.heap.size]? = some (.cells #[.int .u64 ((g : Int) / 2 * 2), .int .u32 (r : Int), .int .u32 (f : Int), .int .u32 (p : Int), .int .u64 (k : Int)] 64 (0, 0)) := by
    rw [Below.heap_setCell _ _ _ _ (show w.heap.size ≠ w.heap.size + 1 by omega), blk_set HR0.out]; rfl
  have hA1 : ((w1.setCell ⟨w.heap.size, 0, none⟩ (.int .u64 ((g : Int) / 2 * 2))).setCell ⟨w.heap.size + 1, 0, none⟩ (.int .u64 ((g2 : Int) / 2 * 2 + 1))).heap[w.heap.size + 1]? = some (.cells #[.int .u64 ((g2 : Int) / 2 * 2 + 1), .int .u32 (r2 : Int), .int .u32 (f2 : Int), .int .u32 (p2 : Int), .int .u64 (k2 : Int)] 64 (0, 0)) := by
    rw [blk_set ((Below.heap_setCell _ _ _ _ (show w.heap.size + 1 ≠ w.heap.size by omega)).trans HR1.out)]; rfl
  have hA2 : Below w.heap.size w ((w1.setCell ⟨w.heap.size, 0, none⟩ (.int .u64 ((g : Int) / 2 * 2))).setCell ⟨w.heap.size + 1, 0, none⟩ (.int .u64 ((g2 : Int) / 2 * 2 + 1))) := (HB1.out.setCell (p := ⟨w.heap.size, 0, none⟩) (Nat.le_refl _) _).setCell (p := ⟨w.heap.size + 1, 0, none⟩) (show w.heap.size ≤ w.heap.size + 1 by omega) _
  have hA3 : ((w1.setCell ⟨w.heap.size, 0, none⟩ (.int .u64 ((g : Int) / 2 * 2))).setCell ⟨w.heap.size + 1, 0, none⟩ (.int .u64 ((g2 : Int) / 2 * 2 + 1))).heap.size = w1.heap.size := by simp [World.setCell]
  clear y0 y1 y2 y3 y4 z0 z1 z2 z3 z4 g0 g1 HR0 HR1 HB1
  generalize (w1.setCell ⟨w.heap.size, 0, none⟩ (.int .u64 ((g : Int) / 2 * 2))).setCell ⟨w.heap.size + 1, 0, none⟩ (.int .u64 ((g2 : Int) / 2 * 2 + 1)) = w2 at *
  have hlt2 : w.heap.size + 1 < w2.heap.size := by rw [hA3]; exact hlt
  have HQ0 := hide hA0
  have HQ1 := hide hA1
  have HB2 := hide hA2
  clear hA0 hA1 hA2 hA3 hlt
  refine (HPm.out w2).mono ?_
  rintro e w3 ⟨a3, n3, c3, er3, rfl, hb3, hy3, hn3⟩
  have hq1 := (hb3.block _ hlt2).trans HQ1.out
  have hq0 := (hb3.block _ (show w.heap.size < w2.heap.size by omega)).trans HQ0.out
  have HB3 := hide (HB2.out.trans (hb3.mono HB2.out.size))
  have hlt3 : w.heap.size + 1 < w3.heap.size := Nat.lt_of_lt_of_le hlt2 hb3.size
  have HY3 := hide hy3
  have HN3 := hide hn3
  have HR0 := hide hq0
  have HR1 := hide hq1
  obtain ⟨z0, z1, z2, z3, z4⟩ := five hq1
  clear hq0 hq1 hy3 hn3 hb3 hlt2 HQ0 HQ1 HB2
  go_wp2_with fail
  refine (HPn.out w3).mono ?_
  rintro e w4 ⟨a4, n4, c4, er4, rfl, hb4, hy4, hn4⟩
  have hq1 := (hb4.block _ hlt3).trans HR1.out
  have hq0 := (hb4.block _ (show w.heap.size < w3.heap.size by omega)).trans HR0.out
  have HB4 := hide (HB3.out.trans (hb4.mono HB3.out.size))
  have HC4 := hide hb4
  have hlt4 : w.heap.size + 1 < w4.heap.size := Nat.lt_of_lt_of_le hlt3 hb4.size
  clear z0 z1 z2 z3 z4 hb4
  obtain ⟨rfl, hi3, rfl⟩ := HY3.out HM.out
  obtain ⟨rfl, hi4, rfl⟩ := hy4 HN.out
  have HI3 := hide (hi3.below HC4.out)
  have HI4 := hide hi4
  have HQ0 := hide hq0
  have HQ1 := hide hq1
  clear hi3 hi4 hy4 hn4 HY3 HN3 hq0 hq1 HC4 HB3 HR0 HR1 HPm HPn
  go_wp2_with fail
  refine (HB.out _ _ _ _ _ _ _ HI3.out HI4.out).mono ?_
  rintro e w5 ⟨rfl, hb5⟩
  have hq1 := (hb5.block _ hlt4).trans HQ1.out
  have hq0 := (hb5.block _ (show w.heap.size < w4.heap.size by omega)).trans HQ0.out
  have HB5 := hide (HB4.out.trans (hb5.mono HB4.out.size))
  have HI35 := hide (HI3.out.below hb5)
  have HI45 := hide (HI4.out.below hb5)
  have hlt5 : w.heap.size + 1 < w5.heap.size := Nat.lt_of_lt_of_le hlt4 hb5.size
  have hqA0 := (Below.heap_alloc w5 (.cells #[.int .u64 ((g : Int) / 2 * 2), .int .u32 (r : Int), .int .u32 (f : Int), .int .u32 (p : Int), .int .u64 (k : Int)] 64) w.heap.size (by omega)).trans hq0
  have hqA1 := (Below.heap_alloc w5 (.cells #[.int .u64 ((g : Int) / 2 * 2), .int .u32 (r : Int), .int .u32 (f : Int), .int .u32 (p : Int), .int .u64 (k : Int)] 64) (w.heap.size + 1) (by omega)).trans hq1
  have hqAx := heap_alloc_new w5 (.cells #[.int .u64 ((g : Int) / 2 * 2), .int .u32 (r : Int), .int .u32 (f : Int), .int .u32 (p : Int), .int .u64 (k : Int)] 64)
  have hAs : (w5.alloc (.cells #[.int .u64 ((g : Int) / 2 * 2), .int .u32 (r : Int), .int .u32 (f : Int), .int .u32 (p : Int), .int .u64 (k : Int)] 64)).heap.size = w5.heap.size + 1 := by simp
  obtain ⟨y0, y1, y2, y3, y4⟩ := five hqA0
  obtain ⟨z0, z1, z2, z3, z4⟩ := five hqA1
  have hqB0 := (Below.heap_alloc (w5.alloc (.cells #[.int .u64 ((g : Int) / 2 * 2), .int .u32 (r : Int), .int .u32 (f : Int), .int .u32 (p : Int), .int .u64 (k : Int)] 64)) (.cells #[.int .u64 ((g : Int) / 2 * 2), .int .u32 (r : Int), .int .u32 (f : Int), .int .u32 (p : Int), .int .u64 (k : Int)] 64) w.heap.size (by omega)).trans hqA0
  have hqB1 := (Below.heap_alloc (w5.alloc (.cells #[.int .u64 ((g : Int) / 2 * 2), .int .u32 (r : Int), .int .u32 (f : Int), .int .u32 (p : Int), .int .u64 (k : Int)] 64)) (.cells #[.int .u64 ((g : Int) / 2 * 2), .int .u32 (r : Int), .int .u32 (f : Int), .int .u32 (p : Int), .int .u64 (k : Int)] 64) (w.heap.size + 1) (by omega)).trans hqA1
  have hqBx := (Below.heap_alloc (w5.alloc (.cells #[.int .u64 ((g : Int) / 2 * 2), .int .u32 (r : Int), .int .u32 (f : Int), .int .u32 (p : Int), .int .u64 (k : Int)] 64)) (.cells #[.int .u64 ((g : Int) / 2 * 2), .int .u32 (r : Int), .int .u32 (f : Int), .int .u32 (p : Int), .int .u64 (k : Int)] 64) w5.heap.size (by omega)).trans hqAx
  obtain ⟨u0, u1, u2, u3, u4⟩ := five hqB0
  obtain ⟨v0, v1, v2, v3, v4⟩ := five hqB1
  obtain ⟨x0, x1, x2, x3, x4⟩ := five hqBx
  have hBB := (HB5.out.alloc HB5.out.size (.cells #[.int .u64 ((g : Int) / 2 * 2), .int .u32 (r : Int), .int .u32 (f : Int), .int .u32 (p : Int), .int .u64 (k : Int)] 64)).alloc (by have := HB5.out.size; omega) (.cells #[.int .u64 ((g : Int) / 2 * 2), .int .u32 (r : Int), .int .u32 (f : Int), .int .u32 (p : Int), .int .u64 (k : Int)] 64)
  have HR0 := hide hqB0
  have HR1 := hide hqB1
  have HBB := hide hBB
  clear hqA0 hqA1 hqAx hqB0 hqB1 hqBx hAs hBB
  clear hb5 hq0 hq1 HQ0 HQ1 HI3 HI4 HB4 hlt4
  have HBw : Hid (Below w5.heap.size w5 ((w5.alloc (.cells #[.int .u64 ((g : Int) / 2 * 2), .int .u32 (r : Int), .int .u32 (f : Int), .int .u32 (p : Int), .int .u64 (k : Int)] 64)).alloc (.cells #[.int .u64 ((g : Int) / 2 * 2), .int .u32 (r : Int), .int .u32 (f : Int), .int .u32 (p : Int), .int .u64 (k : Int)] 64))) := hide (((Below.refl _ _).alloc (Nat.le_refl _) _).alloc (by simp) _)
  have hlt6 : w.heap.size + 1 < ((w5.alloc (.cells #[.int .u64 ((g : Int) / 2 * 2), .int .u32 (r : Int), .int .u32 (f : Int), .int .u32 (p : Int), .int .u64 (k : Int)] 64)).alloc (.cells #[.int .u64 ((g : Int) / 2 * 2), .int .u32 (r : Int), .int .u32 (f : Int), .int .u32 (p : Int), .int .u64 (k : Int)] 64)).heap.size := by simp; omega
  go_wp2_with fail
  clear y0 y1 y2 y3 y4 z0 z1 z2 z3 z4 u0 u1 u2 u3 u4 v0 v1 v2 v3 v4 x0 x1 x2 x3 x4
  have HI36 := hide (HI35.out.below HBw.out)
  have HI46 := hide (HI45.out.below HBw.out)
  generalize (w5.alloc (.cells #[.int .u64 ((g : Int) / 2 * 2), .int .u32 (r : Int), .int .u32 (f : Int), .int .u32 (p : Int), .int .u64 (k : Int)] 64)).alloc (.cells #[.int .u64 ((g : Int) / 2 * 2), .int .u32 (r : Int), .int .u32 (f : Int), .int .u32 (p : Int), .int .u64 (k : Int)] 64) = w6 at *
  refine (turned_inn HI36.out (by omega) (by omega) hC HAt.out).mono ?_
  rintro e w7 ⟨ys, v7, T, F, E, rfl, hm7, hyl, hy8, hF, hE, hnum, hT⟩
  obtain ⟨a7, m7, e7, rfl, -⟩ := hm7.1.shape2
  obtain ⟨hi7, -⟩ := hm7.inn hy8
  have HT7 := hide hi7
  have HI37 := hide (HI36.out.below hm7.2.2)
  have HI47 := hide (HI46.out.below hm7.2.2)
  have HB7 := hide (HBB.out.trans (hm7.2.2.mono HBB.out.size))
  have HS0 := hide ((hm7.2.2.block _ (show w.heap.size < w6.heap.size by omega)).trans HR0.out)
  have HS1 := hide ((hm7.2.2.block _ hlt6).trans HR1.out)
  have hlt7 : w.heap.size + 1 < w7.heap.size := Nat.lt_of_lt_of_le hlt6 hm7.2.2.size
  have HGn : Hid (T = true → Pg.get ys = none) := hide fun h => (Pg.get_turned HM.out hy8 hyl hF hE hnum).2 (hT.1 h)
  clear hm7 hi7 hyl hy8 hF hE hnum hT HBw HBB HR0 HR1 HI35 HI45 HI36 HI46 hlt6
  cases T with
  | false =>
    have HBst := hide (best_inn HT7.out HI47.out)
    generalize bst ys (Pg.mt (Pg.M.mk (g2 / 2 * 2 + 1) r2 f2 p2 k2)) = BB at *
    obtain ⟨⟨g9, r9, f9, p9, k9⟩, er9⟩ := BB
    simp only [mv] at HBst
    go_wp2_with fail
    refine HBst.out.mono ?_
    rintro e w8 ⟨rfl, hb8⟩
    have HB8 := hide (HB7.out.trans (hb8.mono HB7.out.size))
    clear hb8
    go_wp2
    go_ret
    exact ⟨rfl, HB8.out.trans ((below_alloc _ _).mono HB8.out.size)⟩
  | true =>
    have hbst := best_inn HT7.out HI47.out
    rw [bst_left HN.out (by simp only; omega) (HGn.out rfl)] at hbst
    simp only [mv] at hbst
    have e9 : ((g2 / 2 * 2 + 1 : Nat) : Int) = (g2 : Int) / 2 * 2 + 1 := by omega
    rw [e9] at hbst
    have HBst := hide hbst
    clear hbst e9
    go_wp2_with fail
    refine HBst.out.mono ?_
    rintro e w8 ⟨rfl, hb8⟩
    have HB8 := hide (HB7.out.trans (hb8.mono HB7.out.size))
    have hq := (hb8.block _ hlt7).trans HS1.out
    have hq2 := (Below.heap_alloc w8 (.cells #[.int .u64 ((g2 : Int) / 2 * 2 + 1), .int .u32 (r2 : Int), .int .u32 (f2 : Int), .int .u32 (p2 : Int), .int .u64 (k2 : Int)] 64) _ (lt_of_block hq)).trans hq
    obtain ⟨y0, y1, y2, y3, y4⟩ := five hq2
    clear hb8 hq hq2
    go_wp2
    go_ret
    exact ⟨rfl, HB8.out.trans ((below_alloc _ _).mono HB8.out.size)⟩

set_option maxHeartbeats 6400000 in
set_option maxRecDepth 1000000 in
theorem walk_ymo (g r f p k g2 r2 f2 p2 k2 tn : Nat) (at1 : Int) (C : Nat) (w : World) (hg : g < 18446744073709551616) (hg2 : g2 < 18446744073709551616) (htn : tn < 256) (hC : C < 4294967296) (hat : -9223372036854775808 ≤ at1 ∧ at1 ≤ 9223372036854775807) (htp : ((tn : Int) % 2 == 0) = false) (hm : (Pg.M.mk (g / 2 * 2) r f p k).May) (hn : (Pg.M.mk (g2 / 2 * 2 + 1) r2 f2 p2 k2).May) (hlt : ¬ g / 2 * 2 < g2 / 2 * 2 + 1) :
    Calls Try.prog 7 #[.agg #[.int .u64 (g : Int), .int .u32 (r : Int), .int .u32 (f : Int), .int .u32 (p : Int), .int .u64 (k : Int)], .agg #[.int .u64 (g2 : Int), .int .u32 (r2 : Int), .int .u32 (f2 : Int), .int .u32 (p2 : Int), .int .u64 (k2 : Int)], .int .u8 (tn : Int), .int .i64 at1, .int .u32 (C : Int)] w fun e w' => e = .returned (.bool true) ∧ Below w.heap.size w w' := by
  have HK := hide (fun W => known_any W)
  have HAt := hide hat
  have HPm : Hid (∀ W, Calls Try.prog 20 #[.agg #[.int .u64 ((g : Int) / 2 * 2), .int .u32 (r : Int), .int .u32 (f : Int), .int .u32 (p : Int), .int .u64 (k : Int)]] W fun e w' => ∃ a n c er, e = .returned (.tuple #[.slice a n c, .int .u16 (er : Int)]) ∧ Below W.heap.size W w' ∧ ((Pg.M.mk (g / 2 * 2) r f p k).May → er = 0 ∧ Inn w' a n c (Pg.mt ⟨g / 2 * 2, r, f, p, k⟩) ∧ n = 128) ∧ (¬ (Pg.M.mk (g / 2 * 2) r f p k).May → er = 80)) := hide fun W => by
    have e : ((g : Int) / 2 * 2) = ((g / 2 * 2 : Nat) : Int) := by omega
    rw [e]; exact put_either _ r f p k W
  have HPn : Hid (∀ W, Calls Try.prog 20 #[.agg #[.int .u64 ((g2 : Int) / 2 * 2 + 1), .int .u32 (r2 : Int), .int .u32 (f2 : Int), .int .u32 (p2 : Int), .int .u64 (k2 : Int)]] W fun e w' => ∃ a n c er, e = .returned (.tuple #[.slice a n c, .int .u16 (er : Int)]) ∧ Below W.heap.size W w' ∧ ((Pg.M.mk (g2 / 2 * 2 + 1) r2 f2 p2 k2).May → er = 0 ∧ Inn w' a n c (Pg.mt ⟨g2 / 2 * 2 + 1, r2, f2, p2, k2⟩) ∧ n = 128) ∧ (¬ (Pg.M.mk (g2 / 2 * 2 + 1) r2 f2 p2 k2).May → er = 80)) := hide fun W => by
    have e : ((g2 : Int) / 2 * 2 + 1) = ((g2 / 2 * 2 + 1 : Nat) : Int) := by omega
    rw [e]; exact put_either _ r2 f2 p2 k2 W
  obtain ⟨w0, hw0⟩ : ∃ w0, w0 = (w.alloc (.cells #[.int .u64 (g : Int), .int .u32 (r : Int), .int .u32 (f : Int), .int .u32 (p : Int), .int .u64 (k : Int)] 64)).alloc (.cells #[.int .u64 (g2 : Int), .int .u32 (r2 : Int), .int .u32 (f2 : Int), .int .u32 (p2 : Int), .int .u64 (k2 : Int)] 64) := ⟨_, rfl⟩
  have hB0 : Below w.heap.size w w0 := by rw [hw0]; exact (((Below.refl _ _).alloc (Nat.le_refl _) _).alloc (by simp) _)
  have hs0 : w0.heap.size = w.heap.size + 2 := by rw [hw0]; simp
  have hb0 : w0.heap[w.heap.size]? = some (.cells #[.int .u64 (g : Int), .int .u32 (r : Int), .int .u32 (f : Int), .int .u32 (p : Int), .int .u64 (k : Int)] 64 (0, 0)) := by
    rw [hw0, Below.heap_alloc _ _ _ (by simp)]; exact heap_alloc_new w _
  have hb1 : w0.heap[w.heap.size + 1]? = some (.cells #[.int .u64 (g2 : Int), .int .u32 (r2 : Int), .int .u32 (f2 : Int), .int .u32 (p2 : Int), .int .u64 (k2 : Int)] 64 (0, 0)) := by
    rw [hw0]
    have := heap_alloc_new (w.alloc (.cells #[.int .u64 (g : Int), .int .u32 (r : Int), .int .u32 (f : Int), .int .u32 (p : Int), .int .u64 (k : Int)] 64)) (.cells #[.int .u64 (g2 : Int), .int .u32 (r2 : Int), .int .u32 (f2 : Int), .int .u32 (p2 : Int), .int .u64 (k2 : Int)] 64)
    simpa using this
  have HW0 := hide hw0
  have HB0 := hide hB0
  have HS0 := hide hs0
  have HQ0 := hide hb0
  have HQ1 := hide hb1
  clear hw0 hB0 hs0 hb0 hb1 hat
  have HB : Hid (∀ W a n c b m d, Inn W a n c (Pg.mt (Pg.M.mk (g / 2 * 2) r f p k)) → Inn W b m d (Pg.mt (Pg.M.mk (g2 / 2 * 2 + 1) r2 f2 p2 k2)) → Calls Try.prog 24 #[.slice a n c, .slice b m d] W fun e w' => e = .returned (.tuple #[.agg #[.int .u64 ((g : Int) / 2 * 2), .int .u32 (r : Int), .int .u32 (f : Int), .int .u32 (p : Int), .int .u64 (k : Int)], .int .u16 0]) ∧ Below W.heap.size W w') := hide fun W a n c b m d ha hb => by
    have := best_inn ha hb
    rw [bst_two hm hn (by simp only; omega) (by simp only; omega)] at this
    simp only [if_neg hlt, mv] at this
    have e : ((g : Int) / 2 * 2) = ((g / 2 * 2 : Nat) : Int) := by omega
    rw [e]
    exact this
  have HM := hide hm
  have HN := hide hn
  have dl : (g2 : Int) / 2 * 2 + 1 ≤ (g : Int) / 2 * 2 := by omega
  clear hlt hm hn
  go_enter Try.func7, Try.ntmps7
  go_wp2_with fail
  rw [← HW0.out]
  refine (HK.out _).mono ?_
  rintro e w1 ⟨rfl, hb1⟩
  have HB1 := hide (HB0.out.trans (hb1.mono HB0.out.size))
  have hq0 := (hb1.block w.heap.size (by rw [HS0.out]; omega)).trans HQ0.out
  have hq1 := (hb1.block (w.heap.size + 1) (by rw [HS0.out]; omega)).trans HQ1.out
  have hlt : w.heap.size + 1 < w1.heap.size := by have := hb1.size; have := HS0.out; omega
  obtain ⟨y0, y1, y2, y3, y4⟩ := five hq0
  obtain ⟨z0, z1, z2, z3, z4⟩ := five hq1
  have g0 := frozen_blk (j := 0) hq0
  have g1 := frozen_blk (j := 0) hq1
  have HR0 := hide hq0
  have HR1 := hide hq1
  clear hq0 hq1 hb1 HQ0 HQ1 HS0 HW0
  go_wp2_with fail
  have hA0 : ((w1.setCell ⟨w.heap.size, 0, none⟩ (.int .u64 ((g : Int) / 2 * 2))).setCell ⟨w.heap.size + 1, 0, none⟩ (.int .u64 ((g2 : Int) / 2 * 2 + 1))).heap[w.heap.size]? = some (.cells #[.int .u64 ((g : Int) / 2 * 2), .int .u32 (r : Int), .int .u32 (f : Int), .int .u32 (p : Int), .int .u64 (k : Int)] 64 (0, 0)) := by
    rw [Below.heap_setCell _ _ _ _ (show w.heap.size ≠ w.heap.size + 1 by omega), blk_set HR0.out]; rfl
  have hA1 : ((w1.setCell ⟨w.heap.size, 0, none⟩ (.int .u64 ((g : Int) / 2 * 2))).setCell ⟨w.heap.size + 1, 0, none⟩ (.int .u64 ((g2 : Int) / 2 * 2 + 1))).heap[w.heap.size + 1]? = some (.cells #[.int .u64 ((g2 : Int) / 2 * 2 + 1), .int .u32 (r2 : Int), .int .u32 (f2 : Int), .int .u32 (p2 : Int), .int .u64 (k2 : Int)] 64 (0, 0)) := by
    rw [blk_set ((Below.heap_setCell _ _ _ _ (show w.heap.size + 1 ≠ w.heap.size by omega)).trans HR1.out)]; rfl
  have hA2 : Below w.heap.size w ((w1.setCell ⟨w.heap.size, 0, none⟩ (.int .u64 ((g : Int) / 2 * 2))).setCell ⟨w.heap.size + 1, 0, none⟩ (.int .u64 ((g2 : Int) / 2 * 2 + 1))) := (HB1.out.setCell (p := ⟨w.heap.size, 0, none⟩) (Nat.le_refl _) _).setCell (p := ⟨w.heap.size + 1, 0, none⟩) (show w.heap.size ≤ w.heap.size + 1 by omega) _
  have hA3 : ((w1.setCell ⟨w.heap.size, 0, none⟩ (.int .u64 ((g : Int) / 2 * 2))).setCell ⟨w.heap.size + 1, 0, none⟩ (.int .u64 ((g2 : Int) / 2 * 2 + 1))).heap.size = w1.heap.size := by simp [World.setCell]
  clear y0 y1 y2 y3 y4 z0 z1 z2 z3 z4 g0 g1 HR0 HR1 HB1
  generalize (w1.setCell ⟨w.heap.size, 0, none⟩ (.int .u64 ((g : Int) / 2 * 2))).setCell ⟨w.heap.size + 1, 0, none⟩ (.int .u64 ((g2 : Int) / 2 * 2 + 1)) = w2 at *
  have hlt2 : w.heap.size + 1 < w2.heap.size := by rw [hA3]; exact hlt
  have HQ0 := hide hA0
  have HQ1 := hide hA1
  have HB2 := hide hA2
  clear hA0 hA1 hA2 hA3 hlt
  refine (HPm.out w2).mono ?_
  rintro e w3 ⟨a3, n3, c3, er3, rfl, hb3, hy3, hn3⟩
  have hq1 := (hb3.block _ hlt2).trans HQ1.out
  have hq0 := (hb3.block _ (show w.heap.size < w2.heap.size by omega)).trans HQ0.out
  have HB3 := hide (HB2.out.trans (hb3.mono HB2.out.size))
  have hlt3 : w.heap.size + 1 < w3.heap.size := Nat.lt_of_lt_of_le hlt2 hb3.size
  have HY3 := hide hy3
  have HN3 := hide hn3
  have HR0 := hide hq0
  have HR1 := hide hq1
  obtain ⟨z0, z1, z2, z3, z4⟩ := five hq1
  clear hq0 hq1 hy3 hn3 hb3 hlt2 HQ0 HQ1 HB2
  go_wp2_with fail
  refine (HPn.out w3).mono ?_
  rintro e w4 ⟨a4, n4, c4, er4, rfl, hb4, hy4, hn4⟩
  have hq1 := (hb4.block _ hlt3).trans HR1.out
  have hq0 := (hb4.block _ (show w.heap.size < w3.heap.size by omega)).trans HR0.out
  have HB4 := hide (HB3.out.trans (hb4.mono HB3.out.size))
  have HC4 := hide hb4
  have hlt4 : w.heap.size + 1 < w4.heap.size := Nat.lt_of_lt_of_le hlt3 hb4.size
  clear z0 z1 z2 z3 z4 hb4
  obtain ⟨rfl, hi3, rfl⟩ := HY3.out HM.out
  obtain ⟨rfl, hi4, rfl⟩ := hy4 HN.out
  have HI3 := hide (hi3.below HC4.out)
  have HI4 := hide hi4
  have HQ0 := hide hq0
  have HQ1 := hide hq1
  clear hi3 hi4 hy4 hn4 HY3 HN3 hq0 hq1 HC4 HB3 HR0 HR1 HPm HPn
  go_wp2_with fail
  refine (HB.out _ _ _ _ _ _ _ HI3.out HI4.out).mono ?_
  rintro e w5 ⟨rfl, hb5⟩
  have hq1 := (hb5.block _ hlt4).trans HQ1.out
  have hq0 := (hb5.block _ (show w.heap.size < w4.heap.size by omega)).trans HQ0.out
  have HB5 := hide (HB4.out.trans (hb5.mono HB4.out.size))
  have HI35 := hide (HI3.out.below hb5)
  have HI45 := hide (HI4.out.below hb5)
  have hlt5 : w.heap.size + 1 < w5.heap.size := Nat.lt_of_lt_of_le hlt4 hb5.size
  have hqA0 := (Below.heap_alloc w5 (.cells #[.int .u64 ((g : Int) / 2 * 2), .int .u32 (r : Int), .int .u32 (f : Int), .int .u32 (p : Int), .int .u64 (k : Int)] 64) w.heap.size (by omega)).trans hq0
  have hqA1 := (Below.heap_alloc w5 (.cells #[.int .u64 ((g : Int) / 2 * 2), .int .u32 (r : Int), .int .u32 (f : Int), .int .u32 (p : Int), .int .u64 (k : Int)] 64) (w.heap.size + 1) (by omega)).trans hq1
  have hqAx := heap_alloc_new w5 (.cells #[.int .u64 ((g : Int) / 2 * 2), .int .u32 (r : Int), .int .u32 (f : Int), .int .u32 (p : Int), .int .u64 (k : Int)] 64)
  have hAs : (w5.alloc (.cells #[.int .u64 ((g : Int) / 2 * 2), .int .u32 (r : Int), .int .u32 (f : Int), .int .u32 (p : Int), .int .u64 (k : Int)] 64)).heap.size = w5.heap.size + 1 := by simp
  obtain ⟨y0, y1, y2, y3, y4⟩ := five hqA0
  obtain ⟨z0, z1, z2, z3, z4⟩ := five hqA1
  have hqB0 := (Below.heap_alloc (w5.alloc (.cells #[.int .u64 ((g : Int) / 2 * 2), .int .u32 (r : Int), .int .u32 (f : Int), .int .u32 (p : Int), .int .u64 (k : Int)] 64)) (.cells #[.int .u64 ((g : Int) / 2 * 2), .int .u32 (r : Int), .int .u32 (f : Int), .int .u32 (p : Int), .int .u64 (k : Int)] 64) w.heap.size (by omega)).trans hqA0
  have hqB1 := (Below.heap_alloc (w5.alloc (.cells #[.int .u64 ((g : Int) / 2 * 2), .int .u32 (r : Int), .int .u32 (f : Int), .int .u32 (p : Int), .int .u64 (k : Int)] 64)) (.cells #[.int .u64 ((g : Int) / 2 * 2), .int .u32 (r : Int), .int .u32 (f : Int), .int .u32 (p : Int), .int .u64 (k : Int)] 64) (w.heap.size + 1) (by omega)).trans hqA1
  have hqBx := (Below.heap_alloc (w5.alloc (.cells #[.int .u64 ((g : Int) / 2 * 2), .int .u32 (r : Int), .int .u32 (f : Int), .int .u32 (p : Int), .int .u64 (k : Int)] 64)) (.cells #[.int .u64 ((g : Int) / 2 * 2), .int .u32 (r : Int), .int .u32 (f : Int), .int .u32 (p : Int), .int .u64 (k : Int)] 64) w5.heap.size (by omega)).trans hqAx
  obtain ⟨u0, u1, u2, u3, u4⟩ := five hqB0
  obtain ⟨v0, v1, v2, v3, v4⟩ := five hqB1
  obtain ⟨x0, x1, x2, x3, x4⟩ := five hqBx
  have hBB := (HB5.out.alloc HB5.out.size (.cells #[.int .u64 ((g : Int) / 2 * 2), .int .u32 (r : Int), .int .u32 (f : Int), .int .u32 (p : Int), .int .u64 (k : Int)] 64)).alloc (by have := HB5.out.size; omega) (.cells #[.int .u64 ((g : Int) / 2 * 2), .int .u32 (r : Int), .int .u32 (f : Int), .int .u32 (p : Int), .int .u64 (k : Int)] 64)
  have HR0 := hide hqB0
  have HR1 := hide hqB1
  have HBB := hide hBB
  clear hqA0 hqA1 hqAx hqB0 hqB1 hqBx hAs hBB
  clear hb5 hq0 hq1 HQ0 HQ1 HI3 HI4 HB4 hlt4
  have HBw : Hid (Below w5.heap.size w5 ((w5.alloc (.cells #[.int .u64 ((g : Int) / 2 * 2), .int .u32 (r : Int), .int .u32 (f : Int), .int .u32 (p : Int), .int .u64 (k : Int)] 64)).alloc (.cells #[.int .u64 ((g : Int) / 2 * 2), .int .u32 (r : Int), .int .u32 (f : Int), .int .u32 (p : Int), .int .u64 (k : Int)] 64))) := hide (((Below.refl _ _).alloc (Nat.le_refl _) _).alloc (by simp) _)
  have hlt6 : w.heap.size + 1 < ((w5.alloc (.cells #[.int .u64 ((g : Int) / 2 * 2), .int .u32 (r : Int), .int .u32 (f : Int), .int .u32 (p : Int), .int .u64 (k : Int)] 64)).alloc (.cells #[.int .u64 ((g : Int) / 2 * 2), .int .u32 (r : Int), .int .u32 (f : Int), .int .u32 (p : Int), .int .u64 (k : Int)] 64)).heap.size := by simp; omega
  go_wp2_with fail
  clear y0 y1 y2 y3 y4 z0 z1 z2 z3 z4 u0 u1 u2 u3 u4 v0 v1 v2 v3 v4 x0 x1 x2 x3 x4
  have HI36 := hide (HI35.out.below HBw.out)
  have HI46 := hide (HI45.out.below HBw.out)
  generalize (w5.alloc (.cells #[.int .u64 ((g : Int) / 2 * 2), .int .u32 (r : Int), .int .u32 (f : Int), .int .u32 (p : Int), .int .u64 (k : Int)] 64)).alloc (.cells #[.int .u64 ((g : Int) / 2 * 2), .int .u32 (r : Int), .int .u32 (f : Int), .int .u32 (p : Int), .int .u64 (k : Int)] 64) = w6 at *
  refine (turned_inn HI46.out (by omega) (by omega) hC HAt.out).mono ?_
  rintro e w7 ⟨ys, v7, T, F, E, rfl, hm7, hyl, hy8, hF, hE, hnum, hT⟩
  obtain ⟨a7, m7, e7, rfl, -⟩ := hm7.1.shape2
  obtain ⟨hi7, -⟩ := hm7.inn hy8
  have HT7 := hide hi7
  have HI37 := hide (HI36.out.below hm7.2.2)
  have HI47 := hide (HI46.out.below hm7.2.2)
  have HB7 := hide (HBB.out.trans (hm7.2.2.mono HBB.out.size))
  have HS0 := hide ((hm7.2.2.block _ (show w.heap.size < w6.heap.size by omega)).trans HR0.out)
  have HS1 := hide ((hm7.2.2.block _ hlt6).trans HR1.out)
  have hlt7 : w.heap.size + 1 < w7.heap.size := Nat.lt_of_lt_of_le hlt6 hm7.2.2.size
  have HGn : Hid (T = true → Pg.get ys = none) := hide fun h => (Pg.get_turned HN.out hy8 hyl hF hE hnum).2 (hT.1 h)
  clear hm7 hi7 hyl hy8 hF hE hnum hT HBw HBB HR0 HR1 HI35 HI45 HI36 HI46 hlt6
  cases T with
  | false =>
    have HBst := hide (best_inn HI37.out HT7.out)
    generalize bst (Pg.mt (Pg.M.mk (g / 2 * 2) r f p k)) ys = BB at *
    obtain ⟨⟨g9, r9, f9, p9, k9⟩, er9⟩ := BB
    simp only [mv] at HBst
    go_wp2_with fail
    refine HBst.out.mono ?_
    rintro e w8 ⟨rfl, hb8⟩
    have HB8 := hide (HB7.out.trans (hb8.mono HB7.out.size))
    clear hb8
    go_wp2
    go_ret
    exact ⟨rfl, HB8.out.trans ((below_alloc _ _).mono HB8.out.size)⟩
  | true =>
    have hbst := best_inn HI37.out HT7.out
    rw [bst_right HM.out (by simp only; omega) (HGn.out rfl)] at hbst
    simp only [mv] at hbst
    have e9 : ((g / 2 * 2 : Nat) : Int) = (g : Int) / 2 * 2 := by omega
    rw [e9] at hbst
    have HBst := hide hbst
    clear hbst e9
    go_wp2_with fail
    refine HBst.out.mono ?_
    rintro e w8 ⟨rfl, hb8⟩
    have HB8 := hide (HB7.out.trans (hb8.mono HB7.out.size))
    have hq := (hb8.block _ (show w.heap.size < w7.heap.size by omega)).trans HS0.out
    have hq2 := (Below.heap_alloc w8 (.cells #[.int .u64 ((g : Int) / 2 * 2), .int .u32 (r : Int), .int .u32 (f : Int), .int .u32 (p : Int), .int .u64 (k : Int)] 64) _ (lt_of_block hq)).trans hq
    obtain ⟨y0, y1, y2, y3, y4⟩ := five hq2
    clear hb8 hq hq2
    go_wp2
    go_ret
    exact ⟨rfl, HB8.out.trans ((below_alloc _ _).mono HB8.out.size)⟩

set_option maxHeartbeats 6400000 in
set_option maxRecDepth 1000000 in
theorem walk_yne (g r f p k g2 r2 f2 p2 k2 tn : Nat) (at1 : Int) (C : Nat) (w : World) (hg : g < 18446744073709551616) (hg2 : g2 < 18446744073709551616) (htn : tn < 256) (hC : C < 4294967296) (hat : -9223372036854775808 ≤ at1 ∧ at1 ≤ 9223372036854775807) (htp : ((tn : Int) % 2 == 0) = true) (hm : (Pg.M.mk (g / 2 * 2) r f p k).May) (hn : (Pg.M.mk (g2 / 2 * 2 + 1) r2 f2 p2 k2).May) (hlt : g / 2 * 2 < g2 / 2 * 2 + 1) :
    Calls Try.prog 7 #[.agg #[.int .u64 (g : Int), .int .u32 (r : Int), .int .u32 (f : Int), .int .u32 (p : Int), .int .u64 (k : Int)], .agg #[.int .u64 (g2 : Int), .int .u32 (r2 : Int), .int .u32 (f2 : Int), .int .u32 (p2 : Int), .int .u64 (k2 : Int)], .int .u8 (tn : Int), .int .i64 at1, .int .u32 (C : Int)] w fun e w' => e = .returned (.bool true) ∧ Below w.heap.size w w' := by
  have HK := hide (fun W => known_any W)
  have HAt := hide hat
  have HPm : Hid (∀ W, Calls Try.prog 20 #[.agg #[.int .u64 ((g : Int) / 2 * 2), .int .u32 (r : Int), .int .u32 (f : Int), .int .u32 (p : Int), .int .u64 (k : Int)]] W fun e w' => ∃ a n c er, e = .returned (.tuple #[.slice a n c, .int .u16 (er : Int)]) ∧ Below W.heap.size W w' ∧ ((Pg.M.mk (g / 2 * 2) r f p k).May → er = 0 ∧ Inn w' a n c (Pg.mt ⟨g / 2 * 2, r, f, p, k⟩) ∧ n = 128) ∧ (¬ (Pg.M.mk (g / 2 * 2) r f p k).May → er = 80)) := hide fun W => by
    have e : ((g : Int) / 2 * 2) = ((g / 2 * 2 : Nat) : Int) := by omega
    rw [e]; exact put_either _ r f p k W
  have HPn : Hid (∀ W, Calls Try.prog 20 #[.agg #[.int .u64 ((g2 : Int) / 2 * 2 + 1), .int .u32 (r2 : Int), .int .u32 (f2 : Int), .int .u32 (p2 : Int), .int .u64 (k2 : Int)]] W fun e w' => ∃ a n c er, e = .returned (.tuple #[.slice a n c, .int .u16 (er : Int)]) ∧ Below W.heap.size W w' ∧ ((Pg.M.mk (g2 / 2 * 2 + 1) r2 f2 p2 k2).May → er = 0 ∧ Inn w' a n c (Pg.mt ⟨g2 / 2 * 2 + 1, r2, f2, p2, k2⟩) ∧ n = 128) ∧ (¬ (Pg.M.mk (g2 / 2 * 2 + 1) r2 f2 p2 k2).May → er = 80)) := hide fun W => by
    have e : ((g2 : Int) / 2 * 2 + 1) = ((g2 / 2 * 2 + 1 : Nat) : Int) := by omega
    rw [e]; exact put_either _ r2 f2 p2 k2 W
  obtain ⟨w0, hw0⟩ : ∃ w0, w0 = (w.alloc (.cells #[.int .u64 (g : Int), .int .u32 (r : Int), .int .u32 (f : Int), .int .u32 (p : Int), .int .u64 (k : Int)] 64)).alloc (.cells #[.int .u64 (g2 : Int), .int .u32 (r2 : Int), .int .u32 (f2 : Int), .int .u32 (p2 : Int), .int .u64 (k2 : Int)] 64) := ⟨_, rfl⟩
  have hB0 : Below w.heap.size w w0 := by rw [hw0]; exact (((Below.refl _ _).alloc (Nat.le_refl _) _).alloc (by simp) _)
  have hs0 : w0.heap.size = w.heap.size + 2 := by rw [hw0]; simp
  have hb0 : w0.heap[w.heap.size]? = some (.cells #[.int .u64 (g : Int), .int .u32 (r : Int), .int .u32 (f : Int), .int .u32 (p : Int), .int .u64 (k : Int)] 64 (0, 0)) := by
    rw [hw0, Below.heap_alloc _ _ _ (by simp)]; exact heap_alloc_new w _
  have hb1 : w0.heap[w.heap.size + 1]? = some (.cells #[.int .u64 (g2 : Int), .int .u32 (r2 : Int), .int .u32 (f2 : Int), .int .u32 (p2 : Int), .int .u64 (k2 : Int)] 64 (0, 0)) := by
    rw [hw0]
    have := heap_alloc_new (w.alloc (.cells #[.int .u64 (g : Int), .int .u32 (r : Int), .int .u32 (f : Int), .int .u32 (p : Int), .int .u64 (k : Int)] 64)) (.cells #[.int .u64 (g2 : Int), .int .u32 (r2 : Int), .int .u32 (f2 : Int), .int .u32 (p2 : Int), .int .u64 (k2 : Int)] 64)
    simpa using this
  have HW0 := hide hw0
  have HB0 := hide hB0
  have HS0 := hide hs0
  have HQ0 := hide hb0
  have HQ1 := hide hb1
  clear hw0 hB0 hs0 hb0 hb1 hat
  have HB : Hid (∀ W a n c b m d, Inn W a n c (Pg.mt (Pg.M.mk (g / 2 * 2) r f p k)) → Inn W b m d (Pg.mt (Pg.M.mk (g2 / 2 * 2 + 1) r2 f2 p2 k2)) → Calls Try.prog 24 #[.slice a n c, .slice b m d] W fun e w' => e = .returned (.tuple #[.agg #[.int .u64 ((g2 : Int) / 2 * 2 + 1), .int .u32 (r2 : Int), .int .u32 (f2 : Int), .int .u32 (p2 : Int), .int .u64 (k2 : Int)], .int .u16 0]) ∧ Below W.heap.size W w') := hide fun W a n c b m d ha hb => by
    have := best_inn ha hb
    rw [bst_two hm hn (by simp only; omega) (by simp only; omega)] at this
    simp only [if_pos hlt, mv] at this
    have e : ((g2 : Int) / 2 * 2 + 1) = ((g2 / 2 * 2 + 1 : Nat) : Int) := by omega
    rw [e]
    exact this
  have HM := hide hm
  have HN := hide hn
  have dl : (g : Int) / 2 * 2 < (g2 : Int) / 2 * 2 + 1 := by omega
  clear hlt hm hn
  go_enter Try.func7, Try.ntmps7
  go_wp2_with fail
  rw [← HW0.out]
  refine (HK.out _).mono ?_
  rintro e w1 ⟨rfl, hb1⟩
  have HB1 := hide (HB0.out.trans (hb1.mono HB0.out.size))
  have hq0 := (hb1.block w.heap.size (by rw [HS0.out]; omega)).trans HQ0.out
  have hq1 := (hb1.block (w.heap.size + 1) (by rw [HS0.out]; omega)).trans HQ1.out
  have hlt : w.heap.size + 1 < w1.heap.size := by have := hb1.size; have := HS0.out; omega
  obtain ⟨y0, y1, y2, y3, y4⟩ := five hq0
  obtain ⟨z0, z1, z2, z3, z4⟩ := five hq1
  have g0 := frozen_blk (j := 0) hq0
  have g1 := frozen_blk (j := 0) hq1
  have HR0 := hide hq0
  have HR1 := hide hq1
  clear hq0 hq1 hb1 HQ0 HQ1 HS0 HW0
  go_wp2_with fail
  have hA0 : ((w1.setCell ⟨w.heap.size, 0, none⟩ (.int .u64 ((g : Int) / 2 * 2))).setCell ⟨w.heap.size + 1, 0, none⟩ (.int .u64 ((g2 : Int) / 2 * 2 + 1))).heap[w.heap.size]? = some (.cells #[.int .u64 ((g : Int) / 2 * 2), .int .u32 (r : Int), .int .u32 (f : Int), .int .u32 (p : Int), .int .u64 (k : Int)] 64 (0, 0)) := by
    rw [Below.heap_setCell _ _ _ _ (show w.heap.size ≠ w.heap.size + 1 by omega), blk_set HR0.out]; rfl
  have hA1 : ((w1.setCell ⟨w.heap.size, 0, none⟩ (.int .u64 ((g : Int) / 2 * 2))).setCell ⟨w.heap.size + 1, 0, none⟩ (.int .u64 ((g2 : Int) / 2 * 2 + 1))).heap[w.heap.size + 1]? = some (.cells #[.int .u64 ((g2 : Int) / 2 * 2 + 1), .int .u32 (r2 : Int), .int .u32 (f2 : Int), .int .u32 (p2 : Int), .int .u64 (k2 : Int)] 64 (0, 0)) := by
    rw [blk_set ((Below.heap_setCell _ _ _ _ (show w.heap.size + 1 ≠ w.heap.size by omega)).trans HR1.out)]; rfl
  have hA2 : Below w.heap.size w ((w1.setCell ⟨w.heap.size, 0, none⟩ (.int .u64 ((g : Int) / 2 * 2))).setCell ⟨w.heap.size + 1, 0, none⟩ (.int .u64 ((g2 : Int) / 2 * 2 + 1))) := (HB1.out.setCell (p := ⟨w.heap.size, 0, none⟩) (Nat.le_refl _) _).setCell (p := ⟨w.heap.size + 1, 0, none⟩) (show w.heap.size ≤ w.heap.size + 1 by omega) _
  have hA3 : ((w1.setCell ⟨w.heap.size, 0, none⟩ (.int .u64 ((g : Int) / 2 * 2))).setCell ⟨w.heap.size + 1, 0, none⟩ (.int .u64 ((g2 : Int) / 2 * 2 + 1))).heap.size = w1.heap.size := by simp [World.setCell]
  clear y0 y1 y2 y3 y4 z0 z1 z2 z3 z4 g0 g1 HR0 HR1 HB1
  generalize (w1.setCell ⟨w.heap.size, 0, none⟩ (.int .u64 ((g : Int) / 2 * 2))).setCell ⟨w.heap.size + 1, 0, none⟩ (.int .u64 ((g2 : Int) / 2 * 2 + 1)) = w2 at *
  have hlt2 : w.heap.size + 1 < w2.heap.size := by rw [hA3]; exact hlt
  have HQ0 := hide hA0
  have HQ1 := hide hA1
  have HB2 := hide hA2
  clear hA0 hA1 hA2 hA3 hlt
  refine (HPm.out w2).mono ?_
  rintro e w3 ⟨a3, n3, c3, er3, rfl, hb3, hy3, hn3⟩
  have hq1 := (hb3.block _ hlt2).trans HQ1.out
  have hq0 := (hb3.block _ (show w.heap.size < w2.heap.size by omega)).trans HQ0.out
  have HB3 := hide (HB2.out.trans (hb3.mono HB2.out.size))
  have hlt3 : w.heap.size + 1 < w3.heap.size := Nat.lt_of_lt_of_le hlt2 hb3.size
  have HY3 := hide hy3
  have HN3 := hide hn3
  have HR0 := hide hq0
  have HR1 := hide hq1
  obtain ⟨z0, z1, z2, z3, z4⟩ := five hq1
  clear hq0 hq1 hy3 hn3 hb3 hlt2 HQ0 HQ1 HB2
  go_wp2_with fail
  refine (HPn.out w3).mono ?_
  rintro e w4 ⟨a4, n4, c4, er4, rfl, hb4, hy4, hn4⟩
  have hq1 := (hb4.block _ hlt3).trans HR1.out
  have hq0 := (hb4.block _ (show w.heap.size < w3.heap.size by omega)).trans HR0.out
  have HB4 := hide (HB3.out.trans (hb4.mono HB3.out.size))
  have HC4 := hide hb4
  have hlt4 : w.heap.size + 1 < w4.heap.size := Nat.lt_of_lt_of_le hlt3 hb4.size
  clear z0 z1 z2 z3 z4 hb4
  obtain ⟨rfl, hi3, rfl⟩ := HY3.out HM.out
  obtain ⟨rfl, hi4, rfl⟩ := hy4 HN.out
  have HI3 := hide (hi3.below HC4.out)
  have HI4 := hide hi4
  have HQ0 := hide hq0
  have HQ1 := hide hq1
  clear hi3 hi4 hy4 hn4 HY3 HN3 hq0 hq1 HC4 HB3 HR0 HR1 HPm HPn
  go_wp2_with fail
  refine (HB.out _ _ _ _ _ _ _ HI3.out HI4.out).mono ?_
  rintro e w5 ⟨rfl, hb5⟩
  have hq1 := (hb5.block _ hlt4).trans HQ1.out
  have hq0 := (hb5.block _ (show w.heap.size < w4.heap.size by omega)).trans HQ0.out
  have HB5 := hide (HB4.out.trans (hb5.mono HB4.out.size))
  have HI35 := hide (HI3.out.below hb5)
  have HI45 := hide (HI4.out.below hb5)
  have hlt5 : w.heap.size + 1 < w5.heap.size := Nat.lt_of_lt_of_le hlt4 hb5.size
  have hqA0 := (Below.heap_alloc w5 (.cells #[.int .u64 ((g2 : Int) / 2 * 2 + 1), .int .u32 (r2 : Int), .int .u32 (f2 : Int), .int .u32 (p2 : Int), .int .u64 (k2 : Int)] 64) w.heap.size (by omega)).trans hq0
  have hqA1 := (Below.heap_alloc w5 (.cells #[.int .u64 ((g2 : Int) / 2 * 2 + 1), .int .u32 (r2 : Int), .int .u32 (f2 : Int), .int .u32 (p2 : Int), .int .u64 (k2 : Int)] 64) (w.heap.size + 1) (by omega)).trans hq1
  have hqAx := heap_alloc_new w5 (.cells #[.int .u64 ((g2 : Int) / 2 * 2 + 1), .int .u32 (r2 : Int), .int .u32 (f2 : Int), .int .u32 (p2 : Int), .int .u64 (k2 : Int)] 64)
  have hAs : (w5.alloc (.cells #[.int .u64 ((g2 : Int) / 2 * 2 + 1), .int .u32 (r2 : Int), .int .u32 (f2 : Int), .int .u32 (p2 : Int), .int .u64 (k2 : Int)] 64)).heap.size = w5.heap.size + 1 := by simp
  obtain ⟨y0, y1, y2, y3, y4⟩ := five hqA0
  obtain ⟨z0, z1, z2, z3, z4⟩ := five hqA1
  have hqB0 := (Below.heap_alloc (w5.alloc (.cells #[.int .u64 ((g2 : Int) / 2 * 2 + 1), .int .u32 (r2 : Int), .int .u32 (f2 : Int), .int .u32 (p2 : Int), .int .u64 (k2 : Int)] 64)) (.cells #[.int .u64 ((g : Int) / 2 * 2), .int .u32 (r : Int), .int .u32 (f : Int), .int .u32 (p : Int), .int .u64 (k : Int)] 64) w.heap.size (by omega)).trans hqA0
  have hqB1 := (Below.heap_alloc (w5.alloc (.cells #[.int .u64 ((g2 : Int) / 2 * 2 + 1), .int .u32 (r2 : Int), .int .u32 (f2 : Int), .int .u32 (p2 : Int), .int .u64 (k2 : Int)] 64)) (.cells #[.int .u64 ((g : Int) / 2 * 2), .int .u32 (r : Int), .int .u32 (f : Int), .int .u32 (p : Int), .int .u64 (k : Int)] 64) (w.heap.size + 1) (by omega)).trans hqA1
  have hqBx := (Below.heap_alloc (w5.alloc (.cells #[.int .u64 ((g2 : Int) / 2 * 2 + 1), .int .u32 (r2 : Int), .int .u32 (f2 : Int), .int .u32 (p2 : Int), .int .u64 (k2 : Int)] 64)) (.cells #[.int .u64 ((g : Int) / 2 * 2), .int .u32 (r : Int), .int .u32 (f : Int), .int .u32 (p : Int), .int .u64 (k : Int)] 64) w5.heap.size (by omega)).trans hqAx
  obtain ⟨u0, u1, u2, u3, u4⟩ := five hqB0
  obtain ⟨v0, v1, v2, v3, v4⟩ := five hqB1
  obtain ⟨x0, x1, x2, x3, x4⟩ := five hqBx
  clear hqB0 hqB1 hqBx
  have hqB0 := (Below.heap_alloc (w5.alloc (.cells #[.int .u64 ((g2 : Int) / 2 * 2 + 1), .int .u32 (r2 : Int), .int .u32 (f2 : Int), .int .u32 (p2 : Int), .int .u64 (k2 : Int)] 64)) (.cells #[.int .u64 ((g2 : Int) / 2 * 2 + 1), .int .u32 (r2 : Int), .int .u32 (f2 : Int), .int .u32 (p2 : Int), .int .u64 (k2 : Int)] 64) w.heap.size (by omega)).trans hqA0
  have hqB1 := (Below.heap_alloc (w5.alloc (.cells #[.int .u64 ((g2 : Int) / 2 * 2 + 1), .int .u32 (r2 : Int), .int .u32 (f2 : Int), .int .u32 (p2 : Int), .int .u64 (k2 : Int)] 64)) (.cells #[.int .u64 ((g2 : Int) / 2 * 2 + 1), .int .u32 (r2 : Int), .int .u32 (f2 : Int), .int .u32 (p2 : Int), .int .u64 (k2 : Int)] 64) (w.heap.size + 1) (by omega)).trans hqA1
  have hqBx := (Below.heap_alloc (w5.alloc (.cells #[.int .u64 ((g2 : Int) / 2 * 2 + 1), .int .u32 (r2 : Int), .int .u32 (f2 : Int), .int .u32 (p2 : Int), .int .u64 (k2 : Int)] 64)) (.cells #[.int .u64 ((g2 : Int) / 2 * 2 + 1), .int .u32 (r2 : Int), .int .u32 (f2 : Int), .int .u32 (p2 : Int), .int .u64 (k2 : Int)] 64) w5.heap.size (by omega)).trans hqAx
  obtain ⟨u0', u1', u2', u3', u4'⟩ := five hqB0
  obtain ⟨v0', v1', v2', v3', v4'⟩ := five hqB1
  obtain ⟨x0', x1', x2', x3', x4'⟩ := five hqBx
  have hBB := (HB5.out.alloc HB5.out.size (.cells #[.int .u64 ((g2 : Int) / 2 * 2 + 1), .int .u32 (r2 : Int), .int .u32 (f2 : Int), .int .u32 (p2 : Int), .int .u64 (k2 : Int)] 64)).alloc (by have := HB5.out.size; omega) (.cells #[.int .u64 ((g2 : Int) / 2 * 2 + 1), .int .u32 (r2 : Int), .int .u32 (f2 : Int), .int .u32 (p2 : Int), .int .u64 (k2 : Int)] 64)
  have HR0 := hide hqB0
  have HR1 := hide hqB1
  have HBB := hide hBB
  clear hqA0 hqA1 hqAx hqB0 hqB1 hqBx hAs hBB
  clear hb5 hq0 hq1 HQ0 HQ1 HI3 HI4 HB4 hlt4
  have HBw : Hid (Below w5.heap.size w5 ((w5.alloc (.cells #[.int .u64 ((g2 : Int) / 2 * 2 + 1), .int .u32 (r2 : Int), .int .u32 (f2 : Int), .int .u32 (p2 : Int), .int .u64 (k2 : Int)] 64)).alloc (.cells #[.int .u64 ((g2 : Int) / 2 * 2 + 1), .int .u32 (r2 : Int), .int .u32 (f2 : Int), .int .u32 (p2 : Int), .int .u64 (k2 : Int)] 64))) := hide (((Below.refl _ _).alloc (Nat.le_refl _) _).alloc (by simp) _)
  have hlt6 : w.heap.size + 1 < ((w5.alloc (.cells #[.int .u64 ((g2 : Int) / 2 * 2 + 1), .int .u32 (r2 : Int), .int .u32 (f2 : Int), .int .u32 (p2 : Int), .int .u64 (k2 : Int)] 64)).alloc (.cells #[.int .u64 ((g2 : Int) / 2 * 2 + 1), .int .u32 (r2 : Int), .int .u32 (f2 : Int), .int .u32 (p2 : Int), .int .u64 (k2 : Int)] 64)).heap.size := by simp; omega
  go_wp2_with fail
  clear y0 y1 y2 y3 y4 z0 z1 z2 z3 z4 u0 u1 u2 u3 u4 v0 v1 v2 v3 v4 x0 x1 x2 x3 x4
  have HI36 := hide (HI35.out.below HBw.out)
  have HI46 := hide (HI45.out.below HBw.out)
  clear u0' u1' u2' u3' u4' v0' v1' v2' v3' v4' x0' x1' x2' x3' x4'
  generalize (w5.alloc (.cells #[.int .u64 ((g2 : Int) / 2 * 2 + 1), .int .u32 (r2 : Int), .int .u32 (f2 : Int), .int .u32 (p2 : Int), .int .u64 (k2 : Int)] 64)).alloc (.cells #[.int .u64 ((g2 : Int) / 2 * 2 + 1), .int .u32 (r2 : Int), .int .u32 (f2 : Int), .int .u32 (p2 : Int), .int .u64 (k2 : Int)] 64) = w6 at *
  refine (turned_inn HI36.out (by omega) (by omega) hC HAt.out).mono ?_
  rintro e w7 ⟨ys, v7, T, F, E, rfl, hm7, hyl, hy8, hF, hE, hnum, hT⟩
  obtain ⟨a7, m7, e7, rfl, -⟩ := hm7.1.shape2
  obtain ⟨hi7, -⟩ := hm7.inn hy8
  have HT7 := hide hi7
  have HI37 := hide (HI36.out.below hm7.2.2)
  have HI47 := hide (HI46.out.below hm7.2.2)
  have HB7 := hide (HBB.out.trans (hm7.2.2.mono HBB.out.size))
  have HS0 := hide ((hm7.2.2.block _ (show w.heap.size < w6.heap.size by omega)).trans HR0.out)
  have HS1 := hide ((hm7.2.2.block _ hlt6).trans HR1.out)
  have hlt7 : w.heap.size + 1 < w7.heap.size := Nat.lt_of_lt_of_le hlt6 hm7.2.2.size
  have HGn : Hid (T = true → Pg.get ys = none) := hide fun h => (Pg.get_turned HM.out hy8 hyl hF hE hnum).2 (hT.1 h)
  clear hm7 hi7 hyl hy8 hF hE hnum hT HBw HBB HR0 HR1 HI35 HI45 HI36 HI46 hlt6
  cases T with
  | false =>
    have HBst := hide (best_inn HT7.out HI47.out)
    generalize bst ys (Pg.mt (Pg.M.mk (g2 / 2 * 2 + 1) r2 f2 p2 k2)) = BB at *
    obtain ⟨⟨g9, r9, f9, p9, k9⟩, er9⟩ := BB
    simp only [mv] at HBst
    go_wp2_with fail
    refine HBst.out.mono ?_
    rintro e w8 ⟨rfl, hb8⟩
    have HB8 := hide (HB7.out.trans (hb8.mono HB7.out.size))
    clear hb8
    go_wp2
    go_ret
    exact ⟨rfl, HB8.out.trans ((below_alloc _ _).mono HB8.out.size)⟩
  | true =>
    have hbst := best_inn HT7.out HI47.out
    rw [bst_left HN.out (by simp only; omega) (HGn.out rfl)] at hbst
    simp only [mv] at hbst
    have e9 : ((g2 / 2 * 2 + 1 : Nat) : Int) = (g2 : Int) / 2 * 2 + 1 := by omega
    rw [e9] at hbst
    have HBst := hide hbst
    clear hbst e9
    go_wp2_with fail
    refine HBst.out.mono ?_
    rintro e w8 ⟨rfl, hb8⟩
    have HB8 := hide (HB7.out.trans (hb8.mono HB7.out.size))
    have hq := (hb8.block _ hlt7).trans HS1.out
    have hq2 := (Below.heap_alloc w8 (.cells #[.int .u64 ((g2 : Int) / 2 * 2 + 1), .int .u32 (r2 : Int), .int .u32 (f2 : Int), .int .u32 (p2 : Int), .int .u64 (k2 : Int)] 64) _ (lt_of_block hq)).trans hq
    obtain ⟨y0, y1, y2, y3, y4⟩ := five hq2
    clear hb8 hq hq2
    go_wp2
    go_ret
    exact ⟨rfl, HB8.out.trans ((below_alloc _ _).mono HB8.out.size)⟩

set_option maxHeartbeats 6400000 in
set_option maxRecDepth 1000000 in
theorem walk_yno (g r f p k g2 r2 f2 p2 k2 tn : Nat) (at1 : Int) (C : Nat) (w : World) (hg : g < 18446744073709551616) (hg2 : g2 < 18446744073709551616) (htn : tn < 256) (hC : C < 4294967296) (hat : -9223372036854775808 ≤ at1 ∧ at1 ≤ 9223372036854775807) (htp : ((tn : Int) % 2 == 0) = false) (hm : (Pg.M.mk (g / 2 * 2) r f p k).May) (hn : (Pg.M.mk (g2 / 2 * 2 + 1) r2 f2 p2 k2).May) (hlt : g / 2 * 2 < g2 / 2 * 2 + 1) :
    Calls Try.prog 7 #[.agg #[.int .u64 (g : Int), .int .u32 (r : Int), .int .u32 (f : Int), .int .u32 (p : Int), .int .u64 (k : Int)], .agg #[.int .u64 (g2 : Int), .int .u32 (r2 : Int), .int .u32 (f2 : Int), .int .u32 (p2 : Int), .int .u64 (k2 : Int)], .int .u8 (tn : Int), .int .i64 at1, .int .u32 (C : Int)] w fun e w' => e = .returned (.bool true) ∧ Below w.heap.size w w' := by
  have HK := hide (fun W => known_any W)
  have HAt := hide hat
  have HPm : Hid (∀ W, Calls Try.prog 20 #[.agg #[.int .u64 ((g : Int) / 2 * 2), .int .u32 (r : Int), .int .u32 (f : Int), .int .u32 (p : Int), .int .u64 (k : Int)]] W fun e w' => ∃ a n c er, e = .returned (.tuple #[.slice a n c, .int .u16 (er : Int)]) ∧ Below W.heap.size W w' ∧ ((Pg.M.mk (g / 2 * 2) r f p k).May → er = 0 ∧ Inn w' a n c (Pg.mt ⟨g / 2 * 2, r, f, p, k⟩) ∧ n = 128) ∧ (¬ (Pg.M.mk (g / 2 * 2) r f p k).May → er = 80)) := hide fun W => by
    have e : ((g : Int) / 2 * 2) = ((g / 2 * 2 : Nat) : Int) := by omega
    rw [e]; exact put_either _ r f p k W
  have HPn : Hid (∀ W, Calls Try.prog 20 #[.agg #[.int .u64 ((g2 : Int) / 2 * 2 + 1), .int .u32 (r2 : Int), .int .u32 (f2 : Int), .int .u32 (p2 : Int), .int .u64 (k2 : Int)]] W fun e w' => ∃ a n c er, e = .returned (.tuple #[.slice a n c, .int .u16 (er : Int)]) ∧ Below W.heap.size W w' ∧ ((Pg.M.mk (g2 / 2 * 2 + 1) r2 f2 p2 k2).May → er = 0 ∧ Inn w' a n c (Pg.mt ⟨g2 / 2 * 2 + 1, r2, f2, p2, k2⟩) ∧ n = 128) ∧ (¬ (Pg.M.mk (g2 / 2 * 2 + 1) r2 f2 p2 k2).May → er = 80)) := hide fun W => by
    have e : ((g2 : Int) / 2 * 2 + 1) = ((g2 / 2 * 2 + 1 : Nat) : Int) := by omega
    rw [e]; exact put_either _ r2 f2 p2 k2 W
  obtain ⟨w0, hw0⟩ : ∃ w0, w0 = (w.alloc (.cells #[.int .u64 (g : Int), .int .u32 (r : Int), .int .u32 (f : Int), .int .u32 (p : Int), .int .u64 (k : Int)] 64)).alloc (.cells #[.int .u64 (g2 : Int), .int .u32 (r2 : Int), .int .u32 (f2 : Int), .int .u32 (p2 : Int), .int .u64 (k2 : Int)] 64) := ⟨_, rfl⟩
  have hB0 : Below w.heap.size w w0 := by rw [hw0]; exact (((Below.refl _ _).alloc (Nat.le_refl _) _).alloc (by simp) _)
  have hs0 : w0.heap.size = w.heap.size + 2 := by rw [hw0]; simp
  have hb0 : w0.heap[w.heap.size]? = some (.cells #[.int .u64 (g : Int), .int .u32 (r : Int), .int .u32 (f : Int), .int .u32 (p : Int), .int .u64 (k : Int)] 64 (0, 0)) := by
    rw [hw0, Below.heap_alloc _ _ _ (by simp)]; exact heap_alloc_new w _
  have hb1 : w0.heap[w.heap.size + 1]? = some (.cells #[.int .u64 (g2 : Int), .int .u32 (r2 : Int), .int .u32 (f2 : Int), .int .u32 (p2 : Int), .int .u64 (k2 : Int)] 64 (0, 0)) := by
    rw [hw0]
    have := heap_alloc_new (w.alloc (.cells #[.int .u64 (g : Int), .int .u32 (r : Int), .int .u32 (f : Int), .int .u32 (p : Int), .int .u64 (k : Int)] 64)) (.cells #[.int .u64 (g2 : Int), .int .u32 (r2 : Int), .int .u32 (f2 : Int), .int .u32 (p2 : Int), .int .u64 (k2 : Int)] 64)
    simpa using this
  have HW0 := hide hw0
  have HB0 := hide hB0
  have HS0 := hide hs0
  have HQ0 := hide hb0
  have HQ1 := hide hb1
  clear hw0 hB0 hs0 hb0 hb1 hat
  have HB : Hid (∀ W a n c b m d, Inn W a n c (Pg.mt (Pg.M.mk (g / 2 * 2) r f p k)) → Inn W b m d (Pg.mt (Pg.M.mk (g2 / 2 * 2 + 1) r2 f2 p2 k2)) → Calls Try.prog 24 #[.slice a n c, .slice b m d] W fun e w' => e = .returned (.tuple #[.agg #[.int .u64 ((g2 : Int) / 2 * 2 + 1), .int .u32 (r2 : Int), .int .u32 (f2 : Int), .int .u32 (p2 : Int), .int .u64 (k2 : Int)], .int .u16 0]) ∧ Below W.heap.size W w') := hide fun W a n c b m d ha hb => by
    have := best_inn ha hb
    rw [bst_two hm hn (by simp only; omega) (by simp only; omega)] at this
    simp only [if_pos hlt, mv] at this
    have e : ((g2 : Int) / 2 * 2 + 1) = ((g2 / 2 * 2 + 1 : Nat) : Int) := by omega
    rw [e]
    exact this
  have HM := hide hm
  have HN := hide hn
  have dl : (g : Int) / 2 * 2 < (g2 : Int) / 2 * 2 + 1 := by omega
  clear hlt hm hn
  go_enter Try.func7, Try.ntmps7
  go_wp2_with fail
  rw [← HW0.out]
  refine (HK.out _).mono ?_
  rintro e w1 ⟨rfl, hb1⟩
  have HB1 := hide (HB0.out.trans (hb1.mono HB0.out.size))
  have hq0 := (hb1.block w.heap.size (by rw [HS0.out]; omega)).trans HQ0.out
  have hq1 := (hb1.block (w.heap.size + 1) (by rw [HS0.out]; omega)).trans HQ1.out
  have hlt : w.heap.size + 1 < w1.heap.size := by have := hb1.size; have := HS0.out; omega
  obtain ⟨y0, y1, y2, y3, y4⟩ := five hq0
  obtain ⟨z0, z1, z2, z3, z4⟩ := five hq1
  have g0 := frozen_blk (j := 0) hq0
  have g1 := frozen_blk (j := 0) hq1
  have HR0 := hide hq0
  have HR1 := hide hq1
  clear hq0 hq1 hb1 HQ0 HQ1 HS0 HW0
  go_wp2_with fail
  have hA0 : ((w1.setCell ⟨w.heap.size, 0, none⟩ (.int .u64 ((g : Int) / 2 * 2))).setCell ⟨w.heap.size + 1, 0, none⟩ (.int .u64 ((g2 : Int) / 2 * 2 + 1))).heap[w.heap.size]? = some (.cells #[.int .u64 ((g : Int) / 2 * 2), .int .u32 (r : Int), .int .u32 (f : Int), .int .u32 (p : Int), .int .u64 (k : Int)] 64 (0, 0)) := by
    rw [Below.heap_setCell _ _ _ _ (show w.heap.size ≠ w.heap.size + 1 by omega), blk_set HR0.out]; rfl
  have hA1 : ((w1.setCell ⟨w.heap.size, 0, none⟩ (.int .u64 ((g : Int) / 2 * 2))).setCell ⟨w.heap.size + 1, 0, none⟩ (.int .u64 ((g2 : Int) / 2 * 2 + 1))).heap[w.heap.size + 1]? = some (.cells #[.int .u64 ((g2 : Int) / 2 * 2 + 1), .int .u32 (r2 : Int), .int .u32 (f2 : Int), .int .u32 (p2 : Int), .int .u64 (k2 : Int)] 64 (0, 0)) := by
    rw [blk_set ((Below.heap_setCell _ _ _ _ (show w.heap.size + 1 ≠ w.heap.size by omega)).trans HR1.out)]; rfl
  have hA2 : Below w.heap.size w ((w1.setCell ⟨w.heap.size, 0, none⟩ (.int .u64 ((g : Int) / 2 * 2))).setCell ⟨w.heap.size + 1, 0, none⟩ (.int .u64 ((g2 : Int) / 2 * 2 + 1))) := (HB1.out.setCell (p := ⟨w.heap.size, 0, none⟩) (Nat.le_refl _) _).setCell (p := ⟨w.heap.size + 1, 0, none⟩) (show w.heap.size ≤ w.heap.size + 1 by omega) _
  have hA3 : ((w1.setCell ⟨w.heap.size, 0, none⟩ (.int .u64 ((g : Int) / 2 * 2))).setCell ⟨w.heap.size + 1, 0, none⟩ (.int .u64 ((g2 : Int) / 2 * 2 + 1))).heap.size = w1.heap.size := by simp [World.setCell]
  clear y0 y1 y2 y3 y4 z0 z1 z2 z3 z4 g0 g1 HR0 HR1 HB1
  generalize (w1.setCell ⟨w.heap.size, 0, none⟩ (.int .u64 ((g : Int) / 2 * 2))).setCell ⟨w.heap.size + 1, 0, none⟩ (.int .u64 ((g2 : Int) / 2 * 2 + 1)) = w2 at *
  have hlt2 : w.heap.size + 1 < w2.heap.size := by rw [hA3]; exact hlt
  have HQ0 := hide hA0
  have HQ1 := hide hA1
  have HB2 := hide hA2
  clear hA0 hA1 hA2 hA3 hlt
  refine (HPm.out w2).mono ?_
  rintro e w3 ⟨a3, n3, c3, er3, rfl, hb3, hy3, hn3⟩
  have hq1 := (hb3.block _ hlt2).trans HQ1.out
  have hq0 := (hb3.block _ (show w.heap.size < w2.heap.size by omega)).trans HQ0.out
  have HB3 := hide (HB2.out.trans (hb3.mono HB2.out.size))
  have hlt3 : w.heap.size + 1 < w3.heap.size := Nat.lt_of_lt_of_le hlt2 hb3.size
  have HY3 := hide hy3
  have HN3 := hide hn3
  have HR0 := hide hq0
  have HR1 := hide hq1
  obtain ⟨z0, z1, z2, z3, z4⟩ := five hq1
  clear hq0 hq1 hy3 hn3 hb3 hlt2 HQ0 HQ1 HB2
  go_wp2_with fail
  refine (HPn.out w3).mono ?_
  rintro e w4 ⟨a4, n4, c4, er4, rfl, hb4, hy4, hn4⟩
  have hq1 := (hb4.block _ hlt3).trans HR1.out
  have hq0 := (hb4.block _ (show w.heap.size < w3.heap.size by omega)).trans HR0.out
  have HB4 := hide (HB3.out.trans (hb4.mono HB3.out.size))
  have HC4 := hide hb4
  have hlt4 : w.heap.size + 1 < w4.heap.size := Nat.lt_of_lt_of_le hlt3 hb4.size
  clear z0 z1 z2 z3 z4 hb4
  obtain ⟨rfl, hi3, rfl⟩ := HY3.out HM.out
  obtain ⟨rfl, hi4, rfl⟩ := hy4 HN.out
  have HI3 := hide (hi3.below HC4.out)
  have HI4 := hide hi4
  have HQ0 := hide hq0
  have HQ1 := hide hq1
  clear hi3 hi4 hy4 hn4 HY3 HN3 hq0 hq1 HC4 HB3 HR0 HR1 HPm HPn
  go_wp2_with fail
  refine (HB.out _ _ _ _ _ _ _ HI3.out HI4.out).mono ?_
  rintro e w5 ⟨rfl, hb5⟩
  have hq1 := (hb5.block _ hlt4).trans HQ1.out
  have hq0 := (hb5.block _ (show w.heap.size < w4.heap.size by omega)).trans HQ0.out
  have HB5 := hide (HB4.out.trans (hb5.mono HB4.out.size))
  have HI35 := hide (HI3.out.below hb5)
  have HI45 := hide (HI4.out.below hb5)
  have hlt5 : w.heap.size + 1 < w5.heap.size := Nat.lt_of_lt_of_le hlt4 hb5.size
  have hqA0 := (Below.heap_alloc w5 (.cells #[.int .u64 ((g2 : Int) / 2 * 2 + 1), .int .u32 (r2 : Int), .int .u32 (f2 : Int), .int .u32 (p2 : Int), .int .u64 (k2 : Int)] 64) w.heap.size (by omega)).trans hq0
  have hqA1 := (Below.heap_alloc w5 (.cells #[.int .u64 ((g2 : Int) / 2 * 2 + 1), .int .u32 (r2 : Int), .int .u32 (f2 : Int), .int .u32 (p2 : Int), .int .u64 (k2 : Int)] 64) (w.heap.size + 1) (by omega)).trans hq1
  have hqAx := heap_alloc_new w5 (.cells #[.int .u64 ((g2 : Int) / 2 * 2 + 1), .int .u32 (r2 : Int), .int .u32 (f2 : Int), .int .u32 (p2 : Int), .int .u64 (k2 : Int)] 64)
  have hAs : (w5.alloc (.cells #[.int .u64 ((g2 : Int) / 2 * 2 + 1), .int .u32 (r2 : Int), .int .u32 (f2 : Int), .int .u32 (p2 : Int), .int .u64 (k2 : Int)] 64)).heap.size = w5.heap.size + 1 := by simp
  obtain ⟨y0, y1, y2, y3, y4⟩ := five hqA0
  obtain ⟨z0, z1, z2, z3, z4⟩ := five hqA1
  have hqB0 := (Below.heap_alloc (w5.alloc (.cells #[.int .u64 ((g2 : Int) / 2 * 2 + 1), .int .u32 (r2 : Int), .int .u32 (f2 : Int), .int .u32 (p2 : Int), .int .u64 (k2 : Int)] 64)) (.cells #[.int .u64 ((g : Int) / 2 * 2), .int .u32 (r : Int), .int .u32 (f : Int), .int .u32 (p : Int), .int .u64 (k : Int)] 64) w.heap.size (by omega)).trans hqA0
  have hqB1 := (Below.heap_alloc (w5.alloc (.cells #[.int .u64 ((g2 : Int) / 2 * 2 + 1), .int .u32 (r2 : Int), .int .u32 (f2 : Int), .int .u32 (p2 : Int), .int .u64 (k2 : Int)] 64)) (.cells #[.int .u64 ((g : Int) / 2 * 2), .int .u32 (r : Int), .int .u32 (f : Int), .int .u32 (p : Int), .int .u64 (k : Int)] 64) (w.heap.size + 1) (by omega)).trans hqA1
  have hqBx := (Below.heap_alloc (w5.alloc (.cells #[.int .u64 ((g2 : Int) / 2 * 2 + 1), .int .u32 (r2 : Int), .int .u32 (f2 : Int), .int .u32 (p2 : Int), .int .u64 (k2 : Int)] 64)) (.cells #[.int .u64 ((g : Int) / 2 * 2), .int .u32 (r : Int), .int .u32 (f : Int), .int .u32 (p : Int), .int .u64 (k : Int)] 64) w5.heap.size (by omega)).trans hqAx
  obtain ⟨u0, u1, u2, u3, u4⟩ := five hqB0
  obtain ⟨v0, v1, v2, v3, v4⟩ := five hqB1
  obtain ⟨x0, x1, x2, x3, x4⟩ := five hqBx
  clear hqB0 hqB1 hqBx
  have hqB0 := (Below.heap_alloc (w5.alloc (.cells #[.int .u64 ((g2 : Int) / 2 * 2 + 1), .int .u32 (r2 : Int), .int .u32 (f2 : Int), .int .u32 (p2 : Int), .int .u64 (k2 : Int)] 64)) (.cells #[.int .u64 ((g2 : Int) / 2 * 2 + 1), .int .u32 (r2 : Int), .int .u32 (f2 : Int), .int .u32 (p2 : Int), .int .u64 (k2 : Int)] 64) w.heap.size (by omega)).trans hqA0
  have hqB1 := (Below.heap_alloc (w5.alloc (.cells #[.int .u64 ((g2 : Int) / 2 * 2 + 1), .int .u32 (r2 : Int), .int .u32 (f2 : Int), .int .u32 (p2 : Int), .int .u64 (k2 : Int)] 64)) (.cells #[.int .u64 ((g2 : Int) / 2 * 2 + 1), .int .u32 (r2 : Int), .int .u32 (f2 : Int), .int .u32 (p2 : Int), .int .u64 (k2 : Int)] 64) (w.heap.size + 1) (by omega)).trans hqA1
  have hqBx := (Below.heap_alloc (w5.alloc (.cells #[.int .u64 ((g2 : Int) / 2 * 2 + 1), .int .u32 (r2 : Int), .int .u32 (f2 : Int), .int .u32 (p2 : Int), .int .u64 (k2 : Int)] 64)) (.cells #[.int .u64 ((g2 : Int) / 2 * 2 + 1), .int .u32 (r2 : Int), .int .u32 (f2 : Int), .int .u32 (p2 : Int), .int .u64 (k2 : Int)] 64) w5.heap.size (by omega)).trans hqAx
  obtain ⟨u0', u1', u2', u3', u4'⟩ := five hqB0
  obtain ⟨v0', v1', v2', v3', v4'⟩ := five hqB1
  obtain ⟨x0', x1', x2', x3', x4'⟩ := five hqBx
  have hBB := (HB5.out.alloc HB5.out.size (.cells #[.int .u64 ((g2 : Int) / 2 * 2 + 1), .int .u32 (r2 : Int), .int .u32 (f2 : Int), .int .u32 (p2 : Int), .int .u64 (k2 : Int)] 64)).alloc (by have := HB5.out.size; omega) (.cells #[.int .u64 ((g2 : Int) / 2 * 2 + 1), .int .u32 (r2 : Int), .int .u32 (f2 : Int), .int .u32 (p2 : Int), .int .u64 (k2 : Int)] 64)
  have HR0 := hide hqB0
  have HR1 := hide hqB1
  have HBB := hide hBB
  clear hqA0 hqA1 hqAx hqB0 hqB1 hqBx hAs hBB
  clear hb5 hq0 hq1 HQ0 HQ1 HI3 HI4 HB4 hlt4
  have HBw : Hid (Below w5.heap.size w5 ((w5.alloc (.cells #[.int .u64 ((g2 : Int) / 2 * 2 + 1), .int .u32 (r2 : Int), .int .u32 (f2 : Int), .int .u32 (p2 : Int), .int .u64 (k2 : Int)] 64)).alloc (.cells #[.int .u64 ((g2 : Int) / 2 * 2 + 1), .int .u32 (r2 : Int), .int .u32 (f2 : Int), .int .u32 (p2 : Int), .int .u64 (k2 : Int)] 64))) := hide (((Below.refl _ _).alloc (Nat.le_refl _) _).alloc (by simp) _)
  have hlt6 : w.heap.size + 1 < ((w5.alloc (.cells #[.int .u64 ((g2 : Int) / 2 * 2 + 1), .int .u32 (r2 : Int), .int .u32 (f2 : Int), .int .u32 (p2 : Int), .int .u64 (k2 : Int)] 64)).alloc (.cells #[.int .u64 ((g2 : Int) / 2 * 2 + 1), .int .u32 (r2 : Int), .int .u32 (f2 : Int), .int .u32 (p2 : Int), .int .u64 (k2 : Int)] 64)).heap.size := by simp; omega
  go_wp2_with fail
  clear y0 y1 y2 y3 y4 z0 z1 z2 z3 z4 u0 u1 u2 u3 u4 v0 v1 v2 v3 v4 x0 x1 x2 x3 x4
  have HI36 := hide (HI35.out.below HBw.out)
  have HI46 := hide (HI45.out.below HBw.out)
  clear u0' u1' u2' u3' u4' v0' v1' v2' v3' v4' x0' x1' x2' x3' x4'
  generalize (w5.alloc (.cells #[.int .u64 ((g2 : Int) / 2 * 2 + 1), .int .u32 (r2 : Int), .int .u32 (f2 : Int), .int .u32 (p2 : Int), .int .u64 (k2 : Int)] 64)).alloc (.cells #[.int .u64 ((g2 : Int) / 2 * 2 + 1), .int .u32 (r2 : Int), .int .u32 (f2 : Int), .int .u32 (p2 : Int), .int .u64 (k2 : Int)] 64) = w6 at *
  refine (turned_inn HI46.out (by omega) (by omega) hC HAt.out).mono ?_
  rintro e w7 ⟨ys, v7, T, F, E, rfl, hm7, hyl, hy8, hF, hE, hnum, hT⟩
  obtain ⟨a7, m7, e7, rfl, -⟩ := hm7.1.shape2
  obtain ⟨hi7, -⟩ := hm7.inn hy8
  have HT7 := hide hi7
  have HI37 := hide (HI36.out.below hm7.2.2)
  have HI47 := hide (HI46.out.below hm7.2.2)
  have HB7 := hide (HBB.out.trans (hm7.2.2.mono HBB.out.size))
  have HS0 := hide ((hm7.2.2.block _ (show w.heap.size < w6.heap.size by omega)).trans HR0.out)
  have HS1 := hide ((hm7.2.2.block _ hlt6).trans HR1.out)
  have hlt7 : w.heap.size + 1 < w7.heap.size := Nat.lt_of_lt_of_le hlt6 hm7.2.2.size
  have HGn : Hid (T = true → Pg.get ys = none) := hide fun h => (Pg.get_turned HN.out hy8 hyl hF hE hnum).2 (hT.1 h)
  clear hm7 hi7 hyl hy8 hF hE hnum hT HBw HBB HR0 HR1 HI35 HI45 HI36 HI46 hlt6
  cases T with
  | false =>
    have HBst := hide (best_inn HI37.out HT7.out)
    generalize bst (Pg.mt (Pg.M.mk (g / 2 * 2) r f p k)) ys = BB at *
    obtain ⟨⟨g9, r9, f9, p9, k9⟩, er9⟩ := BB
    simp only [mv] at HBst
    go_wp2_with fail
    refine HBst.out.mono ?_
    rintro e w8 ⟨rfl, hb8⟩
    have HB8 := hide (HB7.out.trans (hb8.mono HB7.out.size))
    clear hb8
    go_wp2
    go_ret
    exact ⟨rfl, HB8.out.trans ((below_alloc _ _).mono HB8.out.size)⟩
  | true =>
    have hbst := best_inn HI37.out HT7.out
    rw [bst_right HM.out (by simp only; omega) (HGn.out rfl)] at hbst
    simp only [mv] at hbst
    have e9 : ((g / 2 * 2 : Nat) : Int) = (g : Int) / 2 * 2 := by omega
    rw [e9] at hbst
    have HBst := hide hbst
    clear hbst e9
    go_wp2_with fail
    refine HBst.out.mono ?_
    rintro e w8 ⟨rfl, hb8⟩
    have HB8 := hide (HB7.out.trans (hb8.mono HB7.out.size))
    have hq := (hb8.block _ (show w.heap.size < w7.heap.size by omega)).trans HS0.out
    have hq2 := (Below.heap_alloc w8 (.cells #[.int .u64 ((g : Int) / 2 * 2), .int .u32 (r : Int), .int .u32 (f : Int), .int .u32 (p : Int), .int .u64 (k : Int)] 64) _ (lt_of_block hq)).trans hq
    obtain ⟨y0, y1, y2, y3, y4⟩ := five hq2
    clear hb8 hq hq2
    go_wp2
    go_ret
    exact ⟨rfl, HB8.out.trans ((below_alloc _ _).mono HB8.out.size)⟩

theorem walk (m0 m1 : Pg.M) (a2 a3 a4 : Int) (w : World) (w0 : m0.Fit) (w1 : m1.Fit) (w2 : (Lit.int .u8 a2).wf = true) (w3 : (Lit.int .i64 a3).wf = true) (w4 : (Lit.int .u32 a4).wf = true) :
    Calls Try.prog 7 #[mv m0, mv m1, .int .u8 a2, .int .i64 a3, .int .u32 a4] w fun e w' => e = .returned (.bool true) ∧ Below w.heap.size w w' := by
  have b2 := bounds_u8 w2
  have b3 := bounds_i64 w3
  have b4 := bounds_u32 w4
  obtain ⟨tn, rfl⟩ := Int.eq_ofNat_of_zero_le b2.1
  obtain ⟨C, rfl⟩ := Int.eq_ofNat_of_zero_le b4.1
  obtain ⟨g, r, f, p, k⟩ := m0
  obtain ⟨g2, r2, f2, p2, k2⟩ := m1
  have hg := w0.1
  have hg2 := w1.1
  simp only at hg hg2
  by_cases hm : (Pg.M.mk (g / 2 * 2) r f p k).May
  · by_cases hn : (Pg.M.mk (g2 / 2 * 2 + 1) r2 f2 p2 k2).May
    · by_cases hl : g / 2 * 2 < g2 / 2 * 2 + 1 <;> by_cases ht : tn % 2 = 0
      · exact walk_yne g r f p k g2 r2 f2 p2 k2 tn a3 C w hg hg2 (by omega) (by omega) (by omega) (by simp; omega) hm hn hl
      · exact walk_yno g r f p k g2 r2 f2 p2 k2 tn a3 C w hg hg2 (by omega) (by omega) (by omega) (by simp; omega) hm hn hl
      · exact walk_yme g r f p k g2 r2 f2 p2 k2 tn a3 C w hg hg2 (by omega) (by omega) (by omega) (by simp; omega) hm hn hl
      · exact walk_ymo g r f p k g2 r2 f2 p2 k2 tn a3 C w hg hg2 (by omega) (by omega) (by omega) (by simp; omega) hm hn hl
    · exact walk_no g r f p k g2 r2 f2 p2 k2 tn a3 C w hg hg2 (by omega) (by omega) (by omega) (.inr hn)
  · exact walk_no g r f p k g2 r2 f2 p2 k2 tn a3 C w hg hg2 (by omega) (by omega) (by omega) (.inl hm)

set_option maxHeartbeats 1600000 in
set_option maxRecDepth 100000 in
theorem lifted (os : Os) (started : os.Started) (H : Type) (enc : TypeId × Value → H) :
    ReturnsInHanded {} Try.checked os 7 .any (Rows.pageNewestSpec.pre6 enc Try.prog Try.f7 Rows.pageNewestRow.domain false) (Rows.pageNewestSpec.post enc Try.prog Try.f7 false true false false) := by
  refine returnsInHanded_of_change (C := Try.checked) own started (by kernel_rfl) Try.func7
    (ChangeSpec.witness6 (enc := enc) (C := Try.checked) false ⟨#[], #[.agg #[.int .u64 0, .int .u32 0, .int .u32 0, .int .u32 0, .int .u64 0], .agg #[.int .u64 0, .int .u32 0, .int .u32 0, .int .u32 0, .int .u64 0], .int .u8 0, .int .i64 0, .int .u32 0], []⟩ 8 (by kernel_rfl) (by kernel_rfl) (by kernel_rfl) (by kernel_rfl)) ?_
  intro W base args ds gs before hval0 hW hcnd _
  have hval : ∀ (j : Nat) t v, Try.f7.params[j]? = some t → args[j]? = some v → Value.okWide Try.prog W .any base t v := hval0
  have hW' := hW
  obtain ⟨p, q, hA0, hV, rfl, hfz, hnd⟩ := hW
  have hA : DataW.TrodAll enc Try.prog W 0 (fun _ => true) true Try.f7.params.toList args.toList ds p := hA0
  rw [Try.params7] at hA hval
  obtain ⟨v0, vs0, d0, ds0, p0, q0, hargs, rfl, rfl, h0, r0⟩ := trodAll_cons hA
  obtain ⟨v1, vs1, d1, ds1, p1, q1, rfl, rfl, rfl, h1, r1⟩ := trodAll_cons r0
  obtain ⟨v2, vs2, d2, ds2, p2, q2, rfl, rfl, rfl, h2, r2⟩ := trodAll_cons r1
  obtain ⟨v3, vs3, d3, ds3, p3, q3, rfl, rfl, rfl, h3, r3⟩ := trodAll_cons r2
  obtain ⟨v4, vs4, d4, ds4, p4, q4, rfl, rfl, rfl, h4, r4⟩ := trodAll_cons r3
  obtain ⟨rfl, rfl, rfl⟩ := trodAll_nil r4
  obtain rfl : args = #[v0, v1, v2, v3, v4] := by cases args; simp_all
  obtain ⟨rfl, rfl⟩ := trodVars_none hV
  have k0 := h0
  have lt0 : ∀ x ∈ p0, x.block < W.heap.size := by obtain ⟨m, hm⟩ := k0; exact DataW.trod_lt m _ _ _ hm
  obtain ⟨m0, rfl, w0⟩ := open_meta (hval 0 64 v0 rfl rfl) h0
  have k1 := h1
  have lt1 : ∀ x ∈ p1, x.block < W.heap.size := by obtain ⟨m, hm⟩ := k1; exact DataW.trod_lt m _ _ _ hm
  obtain ⟨m1, rfl, w1⟩ := open_meta (hval 1 64 v1 rfl rfl) h1
  obtain ⟨a2, rfl, rfl, rfl, w2⟩ := open_int Try.underlying5 (hval 2 5 v2 rfl rfl) h2
  obtain ⟨a3, rfl, rfl, rfl, w3⟩ := open_int Try.underlying3 (hval 3 3 v3 rfl rfl) h3
  obtain ⟨a4, rfl, rfl, rfl, w4⟩ := open_int Try.underlying22 (hval 4 22 v4 rfl rfl) h4
  clear hA0 hval0
  have hwk := walk m0 m1 a2 a3 a4 W w0 w1 w2 w3 w4
  refine hwk.mono fun e W' ⟨he, bel⟩ => ?_
  subst he
  exact ⟨_, rfl, _, _, _, [], _, [], hW', trodAll_mk1 (shut_bool Try.underlying4 _), (trodAll_cons_mk (Below.trod laidOut (by kernel_rfl) (of_decide_eq_true (by kernel_rfl)) k0 bel lt0) (trodAll_cons_mk (Below.trod laidOut (by kernel_rfl) (of_decide_eq_true (by kernel_rfl)) k1 bel lt1) (trodAll_cons_mk (shut_int Try.underlying5 w2) (trodAll_cons_mk (shut_int Try.underlying3 w3) (trodAll_cons_mk (shut_int Try.underlying22 w4) trodAll_mk0))))), rfl, bel.frame _, fun h => by cases h⟩

theorem over : Rows.pageNewestRow.holds Try.pinned (OpenSpec.ofChange Rows.pageNewestSpec) :=
  OpenClaim.holds_of_wide 7 Try.f7 rfl rfl rfl rfl rfl rfl rfl ⟨rfl, rfl, rfl, rfl, rfl⟩ rfl rfl rfl rfl rfl (by kernel_rfl) Try.func7 (by kernel_rfl)
    (of_decide_eq_true (by kernel_rfl)) (by unfold Func.isWrapper; first | (rw [if_pos (by decide +kernel)]; kernel_rfl) | (rw [if_neg (by decide +kernel)]; exact ⟨rfl, rfl⟩))
    (fun os started H enc _ => lifted os started H enc)

end Go.Proofs.Ytfbkcolcdkglbaa.Newest
namespace Go.Proofs.Ytfbkcolcdkglbaa
theorem pageNewest_holds : Rows.PageNewestSaid := Newest.over
#print axioms pageNewest_holds
end Go.Proofs.Ytfbkcolcdkglbaa
