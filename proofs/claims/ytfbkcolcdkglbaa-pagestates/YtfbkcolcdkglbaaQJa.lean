/- The document's own Best: neither stands. -/
import Derived.Test.YtfbkcolcdkglbaaQE
namespace Go.Proofs.Ytfbkcolcdkglbaa
open Go.RowKit
set_option linter.unusedVariables false

set_option maxHeartbeats 6400000 in
set_option maxRecDepth 1000000 in
theorem rbest_z3a (a b : Option Addr) (n c m d : Nat) (xs ys : List Int) (w : World) (hx : Inn w a n c xs) (hy : Inn w b m d ys) (g r f p k ex g2 r2 f2 p2 k2 ey : Nat)
    (HX : ∀ W, Below w.heap.size w W → Calls Try.prog 23 #[.slice a n c] W fun e w' => e = .returned (.tuple #[.agg #[.int .u64 (g : Int), .int .u32 (r : Int), .int .u32 (f : Int), .int .u32 (p : Int), .int .u64 (k : Int)], .int .u16 (ex : Int)]) ∧ Below W.heap.size W w')
    (HY : ∀ W, Below w.heap.size w W → Calls Try.prog 23 #[.slice b m d] W fun e w' => e = .returned (.tuple #[.agg #[.int .u64 (g2 : Int), .int .u32 (r2 : Int), .int .u32 (f2 : Int), .int .u32 (p2 : Int), .int .u64 (k2 : Int)], .int .u16 (ey : Int)]) ∧ Below W.heap.size W w')
    (hg : g < 18446744073709551616) (hg2 : g2 < 18446744073709551616) (hone : ((ex : Int) == 0) = false ∨ (((ex : Int) == 0) = true ∧ ((g : Int) % 2 == 0) = false)) (htwo : ((ey : Int) == 0) = false ∨ (((ey : Int) == 0) = true ∧ ((g2 : Int) % 2 == 1) = false)) (l1 : ((n : Nat) : Int) < 4) (l3 : ((m : Nat) : Int) < 4) :
    Calls Try.prog 25 #[.slice a n c, .slice b m d] w fun e w' => e = .returned (.tuple #[.agg #[.int .u64 0, .int .u32 0, .int .u32 0, .int .u32 0, .int .u64 0], .int .u16 150]) ∧ Below w.heap.size w w' := by
  have HX := hide HX
  have HY := hide HY
  have HIx := hide hx
  have HIy := hide hy
  have hcap := hx.cap
  have hmax := hx.max
  have hcap2 := hy.cap
  have hmax2 := hy.max
  have HB0 := hide (below_alloc w (.cells #[.int .u64 0, .int .u32 0, .int .u32 0, .int .u32 0, .int .u64 0] 64))
  have HQ0 := hide (heap_alloc_new w (.cells #[.int .u64 0, .int .u32 0, .int .u32 0, .int .u32 0, .int .u64 0] 64))
  have HS0 : Hid ((w.alloc (.cells #[.int .u64 0, .int .u32 0, .int .u32 0, .int .u32 0, .int .u64 0] 64)).heap.size = w.heap.size + 1) := by rw [Hid]; simp
  clear hx hy
  go_enter Try.func25, Try.ntmps25
  go_wp2_with fail
  refine (HX.out _ HB0.out).mono ?_
  rintro e u1 ⟨rfl, hb⟩
  have HB1 := hide (HB0.out.trans (hb.mono HB0.out.size))
  have HD1 := hide hb
  have ha1 := below_alloc u1 (.cells #[.int .u64 (g : Int), .int .u32 (r : Int), .int .u32 (f : Int), .int .u32 (p : Int), .int .u64 (k : Int)] 64)
  have HB1a := hide (HB1.out.trans (ha1.mono HB1.out.size))
  have HD1a := hide (HD1.out.trans (ha1.mono HD1.out.size))
  have HE1 := hide (heap_alloc_new u1 (.cells #[.int .u64 (g : Int), .int .u32 (r : Int), .int .u32 (f : Int), .int .u32 (p : Int), .int .u64 (k : Int)] 64))
  have HF1 : Hid ((u1.alloc (.cells #[.int .u64 (g : Int), .int .u32 (r : Int), .int .u32 (f : Int), .int .u32 (p : Int), .int .u64 (k : Int)] 64)).heap.size = u1.heap.size + 1) := by rw [Hid]; simp
  clear hb ha1
  go_wp2_with fail
  refine (HY.out _ HB1a.out).mono ?_
  rintro e u2 ⟨rfl, hb⟩
  have HB2 := hide (HB1a.out.trans (hb.mono HB1a.out.size))
  have hq := (hb.block w.heap.size (by have := HD1a.out.size; have := HS0.out; omega)).trans ((HD1a.out.block _ (by rw [HS0.out]; omega)).trans HQ0.out)
  have hqx := (hb.block u1.heap.size (by rw [HF1.out]; omega)).trans HE1.out
  have hlt : w.heap.size < u1.heap.size := by have := HD1.out.size; have := HS0.out; omega
  have hlt2 : u1.heap.size < u2.heap.size := by have := hb.size; have := HF1.out; omega
  have ha2 := below_alloc u2 (.cells #[.int .u64 (g2 : Int), .int .u32 (r2 : Int), .int .u32 (f2 : Int), .int .u32 (p2 : Int), .int .u64 (k2 : Int)] 64)
  have hqA := (Below.heap_alloc u2 (.cells #[.int .u64 (g2 : Int), .int .u32 (r2 : Int), .int .u32 (f2 : Int), .int .u32 (p2 : Int), .int .u64 (k2 : Int)] 64) _ (show w.heap.size < u2.heap.size by omega)).trans hq
  have hqxA := (Below.heap_alloc u2 (.cells #[.int .u64 (g2 : Int), .int .u32 (r2 : Int), .int .u32 (f2 : Int), .int .u32 (p2 : Int), .int .u64 (k2 : Int)] 64) _ hlt2).trans hqx
  have hqyA := heap_alloc_new u2 (.cells #[.int .u64 (g2 : Int), .int .u32 (r2 : Int), .int .u32 (f2 : Int), .int .u32 (p2 : Int), .int .u64 (k2 : Int)] 64)
  have HB2a := hide (HB2.out.trans (ha2.mono HB2.out.size))
  obtain ⟨x0, x1, x2, x3, x4⟩ := five hqxA
  obtain ⟨y0, y1, y2, y3, y4⟩ := five hqyA
  have HQA := hide hqA
  have HQX := hide hqxA
  have HQY := hide hqyA
  clear hb ha2 hq hqx hqA hqxA hqyA HQ0 HE1 HD1 HD1a HB1 HB1a HX HY
  obtain ⟨p0, p1, p2', p3, p4⟩ := five HQA.out
  have j0 := frozen_blk (j := 0) HQA.out
  have j1 := frozen_blk (j := 1) HQA.out
  have j2 := frozen_blk (j := 2) HQA.out
  have j3 := frozen_blk (j := 3) HQA.out
  have j4 := frozen_blk (j := 4) HQA.out
  have HB2q := HB2a
  have q1 : 4 ≤ n → (convert 23 9 (.slice a 4 c)).run Try.prog (u2.alloc (.cells #[.int .u64 (g2 : Int), .int .u32 (r2 : Int), .int .u32 (f2 : Int), .int .u32 (p2 : Int), .int .u64 (k2 : Int)] 64)) = .ok (.string (bk (xs.take 4))) (u2.alloc (.cells #[.int .u64 (g2 : Int), .int .u32 (r2 : Int), .int .u32 (f2 : Int), .int .u32 (p2 : Int), .int .u64 (k2 : Int)] 64)) := fun h4 => run_text (u2.alloc (.cells #[.int .u64 (g2 : Int), .int .u32 (r2 : Int), .int .u32 (f2 : Int), .int .u32 (p2 : Int), .int .u64 (k2 : Int)] 64)) a 4 c (xs.take 4) (by rw [List.length_take, HIx.out.len]; omega) (by intro h; have := HIx.out.bare h; omega) ((HIx.out.row.below HB2a.out).take 4) (HIx.out.byts.take 4)
  have q2 : 4 ≤ m → (convert 23 9 (.slice b 4 d)).run Try.prog (u2.alloc (.cells #[.int .u64 (g2 : Int), .int .u32 (r2 : Int), .int .u32 (f2 : Int), .int .u32 (p2 : Int), .int .u64 (k2 : Int)] 64)) = .ok (.string (bk (ys.take 4))) (u2.alloc (.cells #[.int .u64 (g2 : Int), .int .u32 (r2 : Int), .int .u32 (f2 : Int), .int .u32 (p2 : Int), .int .u64 (k2 : Int)] 64)) := fun h4 => run_text (u2.alloc (.cells #[.int .u64 (g2 : Int), .int .u32 (r2 : Int), .int .u32 (f2 : Int), .int .u32 (p2 : Int), .int .u64 (k2 : Int)] 64)) b 4 d (ys.take 4) (by rw [List.length_take, HIy.out.len]; omega) (by intro h; have := HIy.out.bare h; omega) ((HIy.out.row.below HB2a.out).take 4) (HIy.out.byts.take 4)
  clear q1 q2
  rcases hone with o1 | ⟨o1, o2⟩ <;> rcases htwo with t1 | ⟨t1, t2⟩
  all_goals
    go_wp2
    have b0 := blk_set (j := 0) (v := .int .u64 0) HQA.out
    have b1 := blk_set (j := 1) (v := .int .u32 0) b0
    have b2 := blk_set (j := 2) (v := .int .u32 0) b1
    have b3 := blk_set (j := 3) (v := .int .u32 0) b2
    have b4 := blk_set (j := 4) (v := .int .u64 0) b3
    have hB := (((((HB2a.out.setCell (p := ⟨w.heap.size, 0, none⟩) (Nat.le_refl _) (.int .u64 0)).setCell (p := ⟨w.heap.size, 1, none⟩) (Nat.le_refl _) (.int .u32 0)).setCell (p := ⟨w.heap.size, 2, none⟩) (Nat.le_refl _) (.int .u32 0)).setCell (p := ⟨w.heap.size, 3, none⟩) (Nat.le_refl _) (.int .u32 0)).setCell (p := ⟨w.heap.size, 4, none⟩) (Nat.le_refl _) (.int .u64 0))
    generalize ((((((u2.alloc (.cells #[.int .u64 (g2 : Int), .int .u32 (r2 : Int), .int .u32 (f2 : Int), .int .u32 (p2 : Int), .int .u64 (k2 : Int)] 64)).setCell ⟨w.heap.size, 0, none⟩ (.int .u64 0)).setCell ⟨w.heap.size, 1, none⟩ (.int .u32 0)).setCell ⟨w.heap.size, 2, none⟩ (.int .u32 0)).setCell ⟨w.heap.size, 3, none⟩ (.int .u32 0)).setCell ⟨w.heap.size, 4, none⟩ (.int .u64 0)) = w9 at *
    have b5 : w9.heap[w.heap.size]? = some (.cells #[.int .u64 0, .int .u32 0, .int .u32 0, .int .u32 0, .int .u64 0] 64 (0, 0)) := b4
    obtain ⟨z0, z1, z2, z3, z4⟩ := five b5
    refine bodyPost_ret (v := .tuple #[.agg #[.int .u64 0, .int .u32 0, .int .u32 0, .int .u32 0, .int .u64 0], .int .u16 150]) (by simp [results, Try.results25, go_sem, z0, z1, z2, z3, z4]) rfl ?_
    exact ⟨rfl, hB⟩

end Go.Proofs.Ytfbkcolcdkglbaa
