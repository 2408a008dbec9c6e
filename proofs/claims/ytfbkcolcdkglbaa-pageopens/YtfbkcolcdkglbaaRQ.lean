/- Best. -/
import Derived.Test.YtfbkcolcdkglbaaRO
namespace Go.Proofs.Ytfbkcolcdkglbaa
open Go.RowKit
set_option linter.unusedVariables false

set_option maxHeartbeats 6400000 in
set_option maxRecDepth 1000000 in
theorem best_bmz (a b : Option Addr) (n c m d : Nat) (xs ys : List Int) (w : World) (hx : Inn w a n c xs) (hy : Inn w b m d ys) (hbx : bg xs = false) (hby : bg ys = true) (hm : nwr (stm (Pg.get xs) 0) (stm (Pg.get ys) 1) = mz) :
    Calls Try.prog 24 #[.slice a n c, .slice b m d] w fun e w' => e = .returned (.tuple #[mv (bst xs ys).1, .int .u16 ((bst xs ys).2 : Int)]) ∧ Below w.heap.size w w' := by
  have HBx := hide (begins_inn hx false hbx)
  have HBy := hide (begins_inn hy true hby)
  have hnn : ¬ (bg xs = false ∧ bg ys = false) := by rw [hby]; simp
  have HSx := hide (standing_inn hx 0 0 rfl (by omega))
  have HSy := hide (standing_inn hy 1 1 rfl (by omega))
  have HE : Hid (bst xs ys = (mz, 151)) := by rw [Hid, bst, if_neg hnn, if_pos hm]
  have HNw := hide (newer_any (stm (Pg.get xs) 0) (stm (Pg.get ys) 1))
  rw [hm] at HNw
  generalize stm (Pg.get xs) 0 = mx at *
  generalize stm (Pg.get ys) 1 = my at *
  obtain ⟨g1, r1, f1, p1, k1⟩ := mx
  obtain ⟨g2, r2, f2, p2, k2⟩ := my
  simp only [mv, mz] at HSx HSy HNw
  generalize bst xs ys = BB at *
  have HB0 := hide (below_alloc w (.cells #[.int .u64 0, .int .u32 0, .int .u32 0, .int .u32 0, .int .u64 0] 64))
  clear hx hy hbx hby hm hnn
  go_enter Try.func24, Try.ntmps24
  go_wp2_with fail
  refine (HBx.out _ HB0.out).mono ?_
  rintro e v1 ⟨rfl, hb⟩
  have HC1 := hide (HB0.out.trans (hb.mono HB0.out.size))
  have HD1 := hide (hb)
  clear hb
  go_wp2_with fail
  refine (HBy.out _ HC1.out).mono ?_
  rintro e v2 ⟨rfl, hb⟩
  have HC2 := hide (HC1.out.trans (hb.mono HC1.out.size))
  have HD2 := hide ((HD1.out.trans (hb.mono HD1.out.size)))
  clear hb
  go_wp2_with fail
  refine (HSx.out _ HC2.out).mono ?_
  rintro e w2 ⟨rfl, hb⟩
  have HB2 := hide (HC2.out.trans (hb.mono HC2.out.size))
  have HB2' := hide (HD2.out.trans (hb.mono HD2.out.size))
  clear hb
  go_wp2_with fail
  refine (HSy.out _ HB2.out).mono ?_
  rintro e w3 ⟨rfl, hb⟩
  have HB3 := hide (HB2.out.trans (hb.mono HB2.out.size))
  have HB3' := hide (HB2'.out.trans (hb.mono HB2'.out.size))
  clear hb
  go_wp2_with fail
  refine (HNw.out w3).mono ?_
  rintro e w4 ⟨rfl, hb⟩
  have HB4 := hide (HB3.out.trans (hb.mono HB3.out.size))
  have HB4' := hide (HB3'.out.trans (hb.mono HB3'.out.size))
  clear hb HSx HSy HNw HB3 HB3' HB2 HB2'
  have hq : w4.heap[w.heap.size]? = some (.cells #[.int .u64 0, .int .u32 0, .int .u32 0, .int .u32 0, .int .u64 0] 64 (0, 0)) := (HB4'.out.block _ (by simp)).trans (heap_alloc_new w _)
  have hlt : w.heap.size < w4.heap.size := by have := HB4'.out.size; simp at this; omega
  obtain ⟨p0, p1, p2, p3, p4⟩ := five hq
  have h0 := frozen_blk (j := 0) hq
  have h1 := frozen_blk (j := 1) hq
  have h2 := frozen_blk (j := 2) hq
  have h3 := frozen_blk (j := 3) hq
  have h4 := frozen_blk (j := 4) hq
  have HP := hide (five_put (.int .u64 0) (.int .u32 0) (.int .u32 0) (.int .u32 0) (.int .u64 0) (.cells #[.int .u64 0, .int .u32 0, .int .u32 0, .int .u32 0, .int .u64 0] 64) hq HB4.out (Nat.le_refl _))
  clear hq HB4' HB0
  go_wp2
  obtain ⟨hE, hB⟩ := HP.out
  clear HP p0 p1 p2 p3 p4 h0 h1 h2 h3 h4 hlt HB4
  generalize ((((((w4.setCell ⟨w.heap.size, 0, none⟩ (.int .u64 0)).setCell ⟨w.heap.size, 1, none⟩ (.int .u32 0)).setCell ⟨w.heap.size, 2, none⟩ (.int .u32 0)).setCell ⟨w.heap.size, 3, none⟩ (.int .u32 0)).setCell ⟨w.heap.size, 4, none⟩ (.int .u64 0)).alloc (.cells #[.int .u64 0, .int .u32 0, .int .u32 0, .int .u32 0, .int .u64 0] 64)) = w9 at *
  obtain ⟨y0, y1, y2, y3, y4⟩ := five hE
  refine bodyPost_ret (v := .tuple #[.agg #[.int .u64 0, .int .u32 0, .int .u32 0, .int .u32 0, .int .u64 0], .int .u16 151]) (by simp [results, Try.results24, go_sem, y0, y1, y2, y3, y4]) rfl ⟨by rw [HE.out]; rfl, hB⟩

set_option maxHeartbeats 6400000 in
set_option maxRecDepth 1000000 in
theorem best_bsome (a b : Option Addr) (n c m d : Nat) (xs ys : List Int) (w : World) (hx : Inn w a n c xs) (hy : Inn w b m d ys) (hbx : bg xs = false) (hby : bg ys = true) (hm : nwr (stm (Pg.get xs) 0) (stm (Pg.get ys) 1) ≠ mz) :
    Calls Try.prog 24 #[.slice a n c, .slice b m d] w fun e w' => e = .returned (.tuple #[mv (bst xs ys).1, .int .u16 ((bst xs ys).2 : Int)]) ∧ Below w.heap.size w w' := by
  have HBx := hide (begins_inn hx false hbx)
  have HBy := hide (begins_inn hy true hby)
  have hnn : ¬ (bg xs = false ∧ bg ys = false) := by rw [hby]; simp
  have HSx := hide (standing_inn hx 0 0 rfl (by omega))
  have HSy := hide (standing_inn hy 1 1 rfl (by omega))
  have HE : Hid (bst xs ys = (nwr (stm (Pg.get xs) 0) (stm (Pg.get ys) 1), 0)) := by rw [Hid, bst, if_neg hnn, if_neg hm]
  have HNw := hide (newer_any (stm (Pg.get xs) 0) (stm (Pg.get ys) 1))
  generalize nwr (stm (Pg.get xs) 0) (stm (Pg.get ys) 1) = mn at *
  obtain ⟨g, r, f, p, k⟩ := mn
  have hqq := eq_mz g r f p k
  rw [decide_eq_false hm] at hqq
  generalize stm (Pg.get xs) 0 = mx at *
  generalize stm (Pg.get ys) 1 = my at *
  obtain ⟨g1, r1, f1, p1, k1⟩ := mx
  obtain ⟨g2, r2, f2, p2, k2⟩ := my
  simp only [mv] at HSx HSy HNw
  generalize bst xs ys = BB at *
  have HB0 := hide (below_alloc w (.cells #[.int .u64 0, .int .u32 0, .int .u32 0, .int .u32 0, .int .u64 0] 64))
  clear hx hy hbx hby hm hnn
  go_enter Try.func24, Try.ntmps24
  go_wp2_with fail
  refine (HBx.out _ HB0.out).mono ?_
  rintro e v1 ⟨rfl, hb⟩
  have HC1 := hide (HB0.out.trans (hb.mono HB0.out.size))
  have HD1 := hide (hb)
  clear hb
  go_wp2_with fail
  refine (HBy.out _ HC1.out).mono ?_
  rintro e v2 ⟨rfl, hb⟩
  have HC2 := hide (HC1.out.trans (hb.mono HC1.out.size))
  have HD2 := hide ((HD1.out.trans (hb.mono HD1.out.size)))
  clear hb
  go_wp2_with fail
  refine (HSx.out _ HC2.out).mono ?_
  rintro e w2 ⟨rfl, hb⟩
  have HB2 := hide (HC2.out.trans (hb.mono HC2.out.size))
  have HB2' := hide (HD2.out.trans (hb.mono HD2.out.size))
  clear hb
  go_wp2_with fail
  refine (HSy.out _ HB2.out).mono ?_
  rintro e w3 ⟨rfl, hb⟩
  have HB3 := hide (HB2.out.trans (hb.mono HB2.out.size))
  have HB3' := hide (HB2'.out.trans (hb.mono HB2'.out.size))
  clear hb
  go_wp2_with fail
  refine (HNw.out w3).mono ?_
  rintro e w4 ⟨rfl, hb⟩
  have HB4 := hide (HB3.out.trans (hb.mono HB3.out.size))
  have HB4' := hide (HB3'.out.trans (hb.mono HB3'.out.size))
  clear hb HSx HSy HNw HB3 HB3' HB2 HB2'
  have hq : w4.heap[w.heap.size]? = some (.cells #[.int .u64 0, .int .u32 0, .int .u32 0, .int .u32 0, .int .u64 0] 64 (0, 0)) := (HB4'.out.block _ (by simp)).trans (heap_alloc_new w _)
  have hlt : w.heap.size < w4.heap.size := by have := HB4'.out.size; simp at this; omega
  obtain ⟨p0, p1, p2, p3, p4⟩ := five hq
  have h0 := frozen_blk (j := 0) hq
  have h1 := frozen_blk (j := 1) hq
  have h2 := frozen_blk (j := 2) hq
  have h3 := frozen_blk (j := 3) hq
  have h4 := frozen_blk (j := 4) hq
  have HP := hide (five_put (.int .u64 (g : Int)) (.int .u32 (r : Int)) (.int .u32 (f : Int)) (.int .u32 (p : Int)) (.int .u64 (k : Int)) (.cells #[.int .u64 (g : Int), .int .u32 (r : Int), .int .u32 (f : Int), .int .u32 (p : Int), .int .u64 (k : Int)] 64) hq HB4.out (Nat.le_refl _))
  clear hq HB4' HB0
  go_wp2
  obtain ⟨hE, hB⟩ := HP.out
  clear HP p0 p1 p2 p3 p4 h0 h1 h2 h3 h4 hlt HB4
  generalize ((((((w4.setCell ⟨w.heap.size, 0, none⟩ (.int .u64 (g : Int))).setCell ⟨w.heap.size, 1, none⟩ (.int .u32 (r : Int))).setCell ⟨w.heap.size, 2, none⟩ (.int .u32 (f : Int))).setCell ⟨w.heap.size, 3, none⟩ (.int .u32 (p : Int))).setCell ⟨w.heap.size, 4, none⟩ (.int .u64 (k : Int))).alloc (.cells #[.int .u64 (g : Int), .int .u32 (r : Int), .int .u32 (f : Int), .int .u32 (p : Int), .int .u64 (k : Int)] 64)) = w9 at *
  obtain ⟨y0, y1, y2, y3, y4⟩ := five hE
  refine bodyPost_ret (v := .tuple #[.agg #[.int .u64 (g : Int), .int .u32 (r : Int), .int .u32 (f : Int), .int .u32 (p : Int), .int .u64 (k : Int)], .int .u16 0]) (by simp [results, Try.results24, go_sem, y0, y1, y2, y3, y4]) rfl ⟨by rw [HE.out]; rfl, hB⟩

end Go.Proofs.Ytfbkcolcdkglbaa
