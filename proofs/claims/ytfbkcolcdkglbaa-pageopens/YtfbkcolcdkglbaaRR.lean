/- Best. -/
import Derived.Test.YtfbkcolcdkglbaaRP
import Derived.Test.YtfbkcolcdkglbaaRQ
namespace Go.Proofs.Ytfbkcolcdkglbaa
open Go.RowKit
set_option linter.unusedVariables false

set_option maxHeartbeats 6400000 in
set_option maxRecDepth 1000000 in
theorem best_c (a b : Option Addr) (n c m d : Nat) (xs ys : List Int) (w : World) (hx : Inn w a n c xs) (hy : Inn w b m d ys) (hbx : bg xs = false) (hby : bg ys = false) :
    Calls Try.prog 24 #[.slice a n c, .slice b m d] w fun e w' => e = .returned (.tuple #[mv (bst xs ys).1, .int .u16 ((bst xs ys).2 : Int)]) ∧ Below w.heap.size w w' := by
  have HBx := hide (begins_inn hx false hbx)
  have HBy := hide (begins_inn hy false hby)
  have HE : Hid (bst xs ys = (mz, 150)) := by rw [Hid, bst, if_pos ⟨hbx, hby⟩]
  generalize bst xs ys = BB at *
  have HB0 := hide (below_alloc w (.cells #[.int .u64 0, .int .u32 0, .int .u32 0, .int .u32 0, .int .u64 0] 64))
  clear hx hy hbx hby
  go_enter Try.func24, Try.ntmps24
  go_wp2_with fail
  refine (HBx.out _ HB0.out).mono ?_
  rintro e v1 ⟨rfl, hb⟩
  have HC1 := hide (HB0.out.trans (hb.mono HB0.out.size))
  have HD1 := hide (hb)
  clear hb
  go_wp2_with fail
  refine (HBy.out _ HC1.out).mono ?_
  rintro e v2 ⟨rfl, hb⟩
  have HC2 := hide (HC1.out.trans (hb.mono HC1.out.size))
  have HD2 := hide ((HD1.out.trans (hb.mono HD1.out.size)))
  clear hb
  have hq : v2.heap[w.heap.size]? = some (.cells #[.int .u64 0, .int .u32 0, .int .u32 0, .int .u32 0, .int .u64 0] 64 (0, 0)) := (HD2.out.block _ (by simp)).trans (heap_alloc_new w _)
  obtain ⟨p0, p1, p2, p3, p4⟩ := five hq
  have h0 := frozen_blk (j := 0) hq
  have h1 := frozen_blk (j := 1) hq
  have h2 := frozen_blk (j := 2) hq
  have h3 := frozen_blk (j := 3) hq
  have h4 := frozen_blk (j := 4) hq
  have HP := hide (five_set (G := 0) (Q := 0) (F := 0) (P := 0) (K := 0) hq HC2.out (Nat.le_refl _))
  simp only [Int.cast_ofNat_Int] at HP
  clear hq
  go_wp2
  obtain ⟨hE, hB⟩ := HP.out
  clear HP p0 p1 p2 p3 p4 h0 h1 h2 h3 h4
  generalize (((((v2.setCell ⟨w.heap.size, 0, none⟩ (.int .u64 0)).setCell ⟨w.heap.size, 1, none⟩ (.int .u32 0)).setCell ⟨w.heap.size, 2, none⟩ (.int .u32 0)).setCell ⟨w.heap.size, 3, none⟩ (.int .u32 0)).setCell ⟨w.heap.size, 4, none⟩ (.int .u64 0)) = w9 at *
  obtain ⟨y0, y1, y2, y3, y4⟩ := five hE
  refine bodyPost_ret (v := .tuple #[.agg #[.int .u64 0, .int .u32 0, .int .u32 0, .int .u32 0, .int .u64 0], .int .u16 150]) (by simp [results, Try.results24, go_sem, y0, y1, y2, y3, y4]) rfl ⟨by rw [HE.out]; rfl, hB⟩

theorem best_any (a b : Option Addr) (n c m d : Nat) (xs ys : List Int) (w : World) (hx : Inn w a n c xs) (hy : Inn w b m d ys) :
    Calls Try.prog 24 #[.slice a n c, .slice b m d] w fun e w' => e = .returned (.tuple #[mv (bst xs ys).1, .int .u16 ((bst xs ys).2 : Int)]) ∧ Below w.heap.size w w' := by
  cases hbx : bg xs with
  | true =>
    by_cases hm : nwr (stm (Pg.get xs) 0) (stm (Pg.get ys) 1) = mz
    · exact best_amz a b n c m d xs ys w hx hy hbx hm
    · exact best_asome a b n c m d xs ys w hx hy hbx hm
  | false =>
    cases hby : bg ys with
    | true =>
      by_cases hm : nwr (stm (Pg.get xs) 0) (stm (Pg.get ys) 1) = mz
      · exact best_bmz a b n c m d xs ys w hx hy hbx hby hm
      · exact best_bsome a b n c m d xs ys w hx hy hbx hby hm
    | false => exact best_c a b n c m d xs ys w hx hy hbx hby
end Go.Proofs.Ytfbkcolcdkglbaa
