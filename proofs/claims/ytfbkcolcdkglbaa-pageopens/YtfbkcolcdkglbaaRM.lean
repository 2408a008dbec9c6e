/- GetMeta of any bytes. -/
import Derived.Test.YtfbkcolcdkglbaaRL
namespace Go.Proofs.Ytfbkcolcdkglbaa
open Go.RowKit
set_option linter.unusedVariables false

/-- five numbers stored into a block of five cells. -/
theorem five_set {w W : World} {q G Q F P K : Nat} {v0 v1 v2 v3 v4 : Value} (hq : W.heap[q]? = some (.cells #[v0, v1, v2, v3, v4] 64 (0, 0))) (hw : Below w.heap.size w W) (hn : w.heap.size ≤ q) :
    (((((W.setCell ⟨q, 0, none⟩ (.int .u64 (G : Int))).setCell ⟨q, 1, none⟩ (.int .u32 (Q : Int))).setCell ⟨q, 2, none⟩ (.int .u32 (F : Int))).setCell ⟨q, 3, none⟩ (.int .u32 (P : Int))).setCell ⟨q, 4, none⟩ (.int .u64 (K : Int))).heap[q]? = some (.cells #[.int .u64 (G : Int), .int .u32 (Q : Int), .int .u32 (F : Int), .int .u32 (P : Int), .int .u64 (K : Int)] 64 (0, 0)) ∧
    Below w.heap.size w (((((W.setCell ⟨q, 0, none⟩ (.int .u64 (G : Int))).setCell ⟨q, 1, none⟩ (.int .u32 (Q : Int))).setCell ⟨q, 2, none⟩ (.int .u32 (F : Int))).setCell ⟨q, 3, none⟩ (.int .u32 (P : Int))).setCell ⟨q, 4, none⟩ (.int .u64 (K : Int))) := by
  have b0 := blk_set (j := 0) (v := .int .u64 (G : Int)) hq
  have b1 := blk_set (j := 1) (v := .int .u32 (Q : Int)) b0
  have b2 := blk_set (j := 2) (v := .int .u32 (F : Int)) b1
  have b3 := blk_set (j := 3) (v := .int .u32 (P : Int)) b2
  have b4 := blk_set (j := 4) (v := .int .u64 (K : Int)) b3
  refine ⟨b4, (((((hw.setCell (p := ⟨q, 0, none⟩) hn _).setCell (p := ⟨q, 1, none⟩) hn _).setCell (p := ⟨q, 2, none⟩) hn _).setCell (p := ⟨q, 3, none⟩) hn _).setCell (p := ⟨q, 4, none⟩) hn _)⟩

set_option maxHeartbeats 1600000 in
set_option maxRecDepth 1000000 in
theorem get_any (a : Option Addr) (n c : Nat) (zs : List Int) (w : World)
    (hl : zs.length = n) (hc : n ≤ c) (hm : c ≤ 9223372036854775807) (hb : a = none → n = 0 ∧ c = 0) (hr : Row w a zs) (h8 : Byts zs) :
    Calls Try.prog 22 #[.slice a n c] w fun e w' => GetOut (Pg.get zs) w e w' := by
  have hmf : ∀ (fn : Fn) (first cap : Array Value) (w : World), (Instr.makeFunc fn first cap).run Try.prog w = .ok (.func fn first cap) w := fun _ _ _ _ => rfl
  have HB0 := hide (below_alloc w (.cells #[.int .u64 0, .int .u32 0, .int .u32 0, .int .u32 0, .int .u64 0] 64))
  have HQ := hide (heap_alloc_new w (.cells #[.int .u64 0, .int .u32 0, .int .u32 0, .int .u32 0, .int .u64 0] 64))
  have hrt : Row (w.alloc (.cells #[.int .u64 0, .int .u32 0, .int .u32 0, .int .u32 0, .int .u64 0] 64)) a (zs.take 128) := by
    have h1 := hr.below HB0.out
    rcases h1 with h | ⟨b, off, h1, h2, h3⟩
    · exact .inl (by rw [h]; rfl)
    · exact .inr ⟨b, off, h1, h2, fun i hi => by
        have hi2 : i < zs.length := by rw [List.length_take] at hi; omega
        have hi3 : i < 128 := by rw [List.length_take] at hi; omega
        rw [h3 i hi2]; simp [hi3]⟩
  have HS : Hid ((w.alloc (.cells #[.int .u64 0, .int .u32 0, .int .u32 0, .int .u32 0, .int .u64 0] 64)).heap.size = w.heap.size + 1) := by rw [Hid]; simp
  by_cases hn : n ≤ 128
  · have HC := hide (read_meta a n c zs _ (by rw [List.length_take]; omega) hc hm hb hrt h8)
    have hle := (show (n : Int) ≤ 128 by omega)
    clear hl hb hr h8 hrt
    generalize Pg.get zs = O at *
    go_enter Try.func22, Try.ntmps22
    go_wp2_with fail
    refine HC.out.mono ?_
    rintro e w1 ⟨hy, hno, hb1⟩
    have HB1 := hide (HB0.out.trans (hb1.mono HB0.out.size))
    have hq : w1.heap[w.heap.size]? = some (.cells #[.int .u64 0, .int .u32 0, .int .u32 0, .int .u32 0, .int .u64 0] 64 (0, 0)) := (hb1.block _ (by rw [HS.out]; omega)).trans HQ.out
    clear hb1
    have key : ∃ G Q F P K E : Nat, e = .returned (.tuple #[mv ⟨G, Q, F, P, K⟩, .int .u16 (E : Int)]) ∧ ((∀ m, O = some m → Value.tuple #[mv ⟨G, Q, F, P, K⟩, .int .u16 (E : Int)] = .tuple #[mv m, .int .u16 0]) ∧ (O = none → Value.tuple #[mv ⟨G, Q, F, P, K⟩, .int .u16 (E : Int)] = .tuple #[mv mz, .int .u16 80])) := by
      cases O with
      | none => exact ⟨0, 0, 0, 0, 0, 80, hno rfl, fun m h => (by cases h), fun _ => rfl⟩
      | some m => exact ⟨m.g, m.r, m.f, m.p, m.k, 0, hy m rfl, fun m' h => (by cases h; rfl), fun h => (by cases h)⟩
    obtain ⟨G, Q, F, P, K, E, rfl, hk⟩ := key
    have HK := hide hk
    clear hk hy hno
    simp only [mv]
    obtain ⟨q0, q1, q3, q4, q5⟩ := five hq
    have g0 := frozen_blk (j := 0) hq
    have g1 := frozen_blk (j := 1) hq
    have g2 := frozen_blk (j := 2) hq
    have g3 := frozen_blk (j := 3) hq
    have g4 := frozen_blk (j := 4) hq
    have HQ1 := hide hq
    clear hq
    go_wp2
    obtain ⟨hE, hB⟩ := five_set (G := G) (Q := Q) (F := F) (P := P) (K := K) HQ1.out HB1.out (Nat.le_refl _)
    generalize (((((w1.setCell ⟨w.heap.size, 0, none⟩ (.int .u64 (G : Int))).setCell ⟨w.heap.size, 1, none⟩ (.int .u32 (Q : Int))).setCell ⟨w.heap.size, 2, none⟩ (.int .u32 (F : Int))).setCell ⟨w.heap.size, 3, none⟩ (.int .u32 (P : Int))).setCell ⟨w.heap.size, 4, none⟩ (.int .u64 (K : Int))) = w5 at *
    clear q0 q1 q3 q4 q5 g0 g1 g2 g3 g4
    obtain ⟨q0, q1, q3, q4, q5⟩ := five hE
    refine bodyPost_ret (v := .tuple #[mv ⟨G, Q, F, P, K⟩, .int .u16 (E : Int)]) (by simp [results, Try.results22, go_sem, q0, q1, q3, q4, q5, mv]) rfl ?_
    exact ⟨fun m h => by rw [HK.out.1 m h], fun h => by rw [HK.out.2 h], hB⟩
  · have HC := hide (read_meta a 128 c zs _ (by rw [List.length_take]; omega) (by omega) hm (by intro h; have := hb h; omega) hrt h8)
    have hgt := (show (128 : Int) < (n : Int) by omega)
    have hcc : 128 ≤ c := by omega
    clear hl hb hr h8 hrt
    generalize Pg.get zs = O at *
    go_enter Try.func22, Try.ntmps22
    go_wp2_with fail
    refine HC.out.mono ?_
    rintro e w1 ⟨hy, hno, hb1⟩
    have HB1 := hide (HB0.out.trans (hb1.mono HB0.out.size))
    have hq : w1.heap[w.heap.size]? = some (.cells #[.int .u64 0, .int .u32 0, .int .u32 0, .int .u32 0, .int .u64 0] 64 (0, 0)) := (hb1.block _ (by rw [HS.out]; omega)).trans HQ.out
    clear hb1
    have key : ∃ G Q F P K E : Nat, e = .returned (.tuple #[mv ⟨G, Q, F, P, K⟩, .int .u16 (E : Int)]) ∧ ((∀ m, O = some m → Value.tuple #[mv ⟨G, Q, F, P, K⟩, .int .u16 (E : Int)] = .tuple #[mv m, .int .u16 0]) ∧ (O = none → Value.tuple #[mv ⟨G, Q, F, P, K⟩, .int .u16 (E : Int)] = .tuple #[mv mz, .int .u16 80])) := by
      cases O with
      | none => exact ⟨0, 0, 0, 0, 0, 80, hno rfl, fun m h => (by cases h), fun _ => rfl⟩
      | some m => exact ⟨m.g, m.r, m.f, m.p, m.k, 0, hy m rfl, fun m' h => (by cases h; rfl), fun h => (by cases h)⟩
    obtain ⟨G, Q, F, P, K, E, rfl, hk⟩ := key
    have HK := hide hk
    clear hk hy hno
    simp only [mv]
    obtain ⟨q0, q1, q3, q4, q5⟩ := five hq
    have g0 := frozen_blk (j := 0) hq
    have g1 := frozen_blk (j := 1) hq
    have g2 := frozen_blk (j := 2) hq
    have g3 := frozen_blk (j := 3) hq
    have g4 := frozen_blk (j := 4) hq
    have HQ1 := hide hq
    clear hq
    go_wp2
    obtain ⟨hE, hB⟩ := five_set (G := G) (Q := Q) (F := F) (P := P) (K := K) HQ1.out HB1.out (Nat.le_refl _)
    generalize (((((w1.setCell ⟨w.heap.size, 0, none⟩ (.int .u64 (G : Int))).setCell ⟨w.heap.size, 1, none⟩ (.int .u32 (Q : Int))).setCell ⟨w.heap.size, 2, none⟩ (.int .u32 (F : Int))).setCell ⟨w.heap.size, 3, none⟩ (.int .u32 (P : Int))).setCell ⟨w.heap.size, 4, none⟩ (.int .u64 (K : Int))) = w5 at *
    clear q0 q1 q3 q4 q5 g0 g1 g2 g3 g4
    obtain ⟨q0, q1, q3, q4, q5⟩ := five hE
    refine bodyPost_ret (v := .tuple #[mv ⟨G, Q, F, P, K⟩, .int .u16 (E : Int)]) (by simp [results, Try.results22, go_sem, q0, q1, q3, q4, q5, mv]) rfl ?_
    exact ⟨fun m h => by rw [HK.out.1 m h], fun h => by rw [HK.out.2 h], hB⟩
end Go.Proofs.Ytfbkcolcdkglbaa
