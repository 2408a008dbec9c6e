/- Best: how a page begins, which state stands on it, which of two is the newer one. -/
import Derived.Test.YtfbkcolcdkglbaaRM
namespace Go.Proofs.Ytfbkcolcdkglbaa
open Go.RowKit
set_option linter.unusedVariables false

set_option maxHeartbeats 800000 in
set_option maxRecDepth 1000000 in
theorem equal_any (a b : Option Addr) (n c m d : Nat) (xs ys : List Int) (w : World) (hl : xs.length = n) (hn : a = none → n = 0 ∧ c = 0) (hr : Row w a xs) (h8 : Byts xs) (hl2 : ys.length = m) (hn2 : b = none → m = 0 ∧ d = 0) (hr2 : Row w b ys) (h82 : Byts ys) :
    Calls Try.prog 85 #[.slice a n c, .slice b m d] w fun e w' => e = .returned (.bool (decide (xs = ys))) ∧ Below w.heap.size w w' := by
  have q1 := run_text w a n c xs hl hn hr h8
  have q2 := run_text w b m d ys hl2 hn2 hr2 h82
  have HE : Hid (((bk xs).toList == (bk ys).toList) = decide (xs = ys)) := by
    by_cases h : xs = ys
    · subst h; rw [Hid, ba_leq]; simp
    · rw [Hid, bk_ne xs ys h8 h82 h]; simp [h]
  clear hl hn hr h8 hl2 hn2 hr2 h82
  generalize decide (xs = ys) = B at *
  generalize bk xs = S at *
  generalize bk ys = T at *
  go_enter Try.func85, Try.ntmps85
  go_wp2
  go_ret
  exact ⟨ret_bool HE.out, Below.refl _ _⟩

theorem Row.take {w : World} {a : Option Addr} {zs : List Int} (h : Row w a zs) (k : Nat) : Row w a (zs.take k) := by
  rcases h with h | ⟨b, off, h1, h2, h3⟩
  · exact .inl (by rw [h]; simp)
  · exact .inr ⟨b, off, h1, h2, fun i hi => by
      have hi2 : i < zs.length := by rw [List.length_take] at hi; omega
      have hi3 : i < k := by rw [List.length_take] at hi; omega
      rw [h3 i hi2]; simp [hi3]⟩

set_option maxHeartbeats 800000 in
set_option maxRecDepth 1000000 in
theorem prefix_any (a b : Option Addr) (n c m d : Nat) (xs ys : List Int) (w : World) (hl : xs.length = n) (hcap : n ≤ c) (hc : c ≤ 9223372036854775807) (hn : a = none → n = 0 ∧ c = 0) (hr : Row w a xs) (h8 : Byts xs) (hl2 : ys.length = m) (hn2 : b = none → m = 0 ∧ d = 0) (hr2 : Row w b ys) (h82 : Byts ys) (hm : m ≤ 100) :
    Calls Try.prog 82 #[.slice a n c, .slice b m d] w fun e w' => e = .returned (.bool (decide (xs.take m = ys))) ∧ Below w.heap.size w w' := by
  by_cases h : m ≤ n
  · have HE := hide (equal_any a b m c m d (xs.take m) ys w (by rw [List.length_take]; omega) (by intro h; have := hn h; omega) (hr.take m) (h8.take m) hl2 hn2 hr2 h82)
    have d1 : (m : Int) ≤ (n : Int) := by omega
    have hmc : m ≤ c := by omega
    clear hl hn hr h8 hl2 hn2 hr2 h82
    generalize decide (xs.take m = ys) = B at *
    go_enter Try.func82, Try.ntmps82
    go_wp2_with fail
    refine HE.out.mono ?_
    rintro e w1 ⟨rfl, hb1⟩
    go_wp2
    go_ret
    exact ⟨rfl, hb1⟩
  · have HE : Hid (false = decide (xs.take m = ys)) := by
      rw [Hid, eq_comm, decide_eq_false_iff_not]
      intro e
      have := congrArg List.length e
      rw [List.length_take] at this
      omega
    have d1 : (n : Int) < (m : Int) := by omega
    clear hl hn hr h8 hl2 hn2 hr2 h82
    generalize decide (xs.take m = ys) = B at *
    go_enter Try.func82, Try.ntmps82
    go_wp2
    go_ret
    exact ⟨ret_bool HE.out, Below.refl _ _⟩

set_option maxHeartbeats 800000 in
set_option maxRecDepth 1000000 in
theorem begins_any (a : Option Addr) (n c : Nat) (zs : List Int) (w : World) (hl : zs.length = n) (hcap : n ≤ c) (hc : c ≤ 9223372036854775807) (hn : a = none → n = 0 ∧ c = 0) (hr : Row w a zs) (h8 : Byts zs) :
    Calls Try.prog 66 #[.slice a n c] w fun e w' => e = .returned (.bool (decide (zs.take 4 = [67, 77, 69, 84]))) ∧ Below w.heap.size w w' := by
  have kc := fun (w : World) (C : Array Value) (n c : Nat) => Lib.run_convert_bytes_const (P := Try.prog) w 23 5 C n c Try.underlying23 Try.underlying5
  have HP : Hid (∀ W v, Below w.heap.size w W → Row W (some v) [67, 77, 69, 84] → Calls Try.prog 82 #[.slice a n c, .slice (some v) 4 4] W fun e w' => e = .returned (.bool (decide (zs.take 4 = [67, 77, 69, 84]))) ∧ Below W.heap.size W w') :=
    hide fun W v hb hrow => prefix_any a (some v) n c 4 4 zs [67, 77, 69, 84] W hl hcap hc hn (hr.below hb) h8 rfl (by intro h; cases h) hrow (by unfold Byts; decide) (by omega)
  clear hl hcap hc hn hr h8
  generalize decide (zs.take 4 = [67, 77, 69, 84]) = B at *
  go_enter Try.func66, Try.ntmps66
  go_wp2_with fail
  refine (HP.out _ _ (below_alloc _ _) (row_new _ _ _ _ rfl)).mono ?_
  rintro e w1 ⟨rfl, hb1⟩
  have HB := hide ((below_alloc w _).trans (hb1.mono (below_alloc w _).size))
  clear hb1
  go_wp2
  go_ret
  exact ⟨rfl, HB.out⟩

/-- the state that stands on a page of that parity, or none. -/
def stm (O : Option Pg.M) (par : Nat) : Pg.M := match O with
  | some m => if m.g % 2 = par then m else mz
  | none => mz
/-- the newer one. -/
def nwr (a b : Pg.M) : Pg.M := if b.g < a.g then a else b

set_option maxHeartbeats 800000 in
set_option maxRecDepth 1000000 in
theorem newer_any (a b : Pg.M) (w : World) : Calls Try.prog 67 #[mv a, mv b] w fun e w' => e = .returned (mv (nwr a b)) ∧ Below w.heap.size w w' := by
  obtain ⟨g, r, f, p, k⟩ := a
  obtain ⟨g2, r2, f2, p2, k2⟩ := b
  by_cases h : g2 < g
  · have HE : Hid (nwr ⟨g, r, f, p, k⟩ ⟨g2, r2, f2, p2, k2⟩ = ⟨g, r, f, p, k⟩) := if_pos h
    have d1 : (g2 : Int) < (g : Int) := by omega
    rw [HE.out]
    clear HE h
    simp only [mv]
    go_enter Try.func67, Try.ntmps67
    go_wp2
    refine bodyPost_ret (v := .agg #[.int .u64 (g : Int), .int .u32 (r : Int), .int .u32 (f : Int), .int .u32 (p : Int), .int .u64 (k : Int)]) (by simp [results, Try.results67, go_sem]) rfl ⟨rfl, ?_⟩
    exact ((((Below.refl _ _).alloc (Nat.le_refl _) _).alloc (by simp) _).alloc (by simp; omega) _)
  · have HE : Hid (nwr ⟨g, r, f, p, k⟩ ⟨g2, r2, f2, p2, k2⟩ = ⟨g2, r2, f2, p2, k2⟩) := if_neg h
    have d1 : (g : Int) ≤ (g2 : Int) := by omega
    rw [HE.out]
    clear HE h
    simp only [mv]
    go_enter Try.func67, Try.ntmps67
    go_wp2
    refine bodyPost_ret (v := .agg #[.int .u64 (g2 : Int), .int .u32 (r2 : Int), .int .u32 (f2 : Int), .int .u32 (p2 : Int), .int .u64 (k2 : Int)]) (by simp [results, Try.results67, go_sem]) rfl ⟨rfl, ?_⟩
    exact ((((Below.refl _ _).alloc (Nat.le_refl _) _).alloc (by simp) _).alloc (by simp; omega) _)

/-- five values stored into a block of five cells, and something new behind it. -/
theorem five_put {w W : World} {q : Nat} {v0 v1 v2 v3 v4 : Value} (x0 x1 x2 x3 x4 : Value) (o : Obj) (hq : W.heap[q]? = some (.cells #[v0, v1, v2, v3, v4] 64 (0, 0))) (hw : Below w.heap.size w W) (hn : w.heap.size ≤ q) :
    ((((((W.setCell ⟨q, 0, none⟩ x0).setCell ⟨q, 1, none⟩ x1).setCell ⟨q, 2, none⟩ x2).setCell ⟨q, 3, none⟩ x3).setCell ⟨q, 4, none⟩ x4).alloc o).heap[q]? = some (.cells #[x0, x1, x2, x3, x4] 64 (0, 0)) ∧
    Below w.heap.size w ((((((W.setCell ⟨q, 0, none⟩ x0).setCell ⟨q, 1, none⟩ x1).setCell ⟨q, 2, none⟩ x2).setCell ⟨q, 3, none⟩ x3).setCell ⟨q, 4, none⟩ x4).alloc o) := by
  have b0 := blk_set (j := 0) (v := x0) hq
  have b1 := blk_set (j := 1) (v := x1) b0
  have b2 := blk_set (j := 2) (v := x2) b1
  have b3 := blk_set (j := 3) (v := x3) b2
  have b4 := blk_set (j := 4) (v := x4) b3
  have hb := (((((hw.setCell (p := ⟨q, 0, none⟩) hn x0).setCell (p := ⟨q, 1, none⟩) hn x1).setCell (p := ⟨q, 2, none⟩) hn x2).setCell (p := ⟨q, 3, none⟩) hn x3).setCell (p := ⟨q, 4, none⟩) hn x4)
  exact ⟨(Below.heap_alloc _ o q (lt_of_block b4)).trans b4, hb.alloc hb.size o⟩

set_option maxHeartbeats 6400000 in
set_option maxRecDepth 1000000 in
theorem standing_any (a : Option Addr) (n c : Nat) (zs : List Int) (par : Nat) (w : World) (hl : zs.length = n) (hcap : n ≤ c) (hc : c ≤ 9223372036854775807) (hn : a = none → n = 0 ∧ c = 0) (hr : Row w a zs) (h8 : Byts zs) (hp : par < 2) :
    Calls Try.prog 68 #[.slice a n c, .int .u64 (par : Int)] w fun e w' => e = .returned (mv (stm (Pg.get zs) par)) ∧ Below w.heap.size w w' := by
  have HG : Hid (∀ W, Below w.heap.size w W → Calls Try.prog 22 #[.slice a n c] W fun e w' => GetOut (Pg.get zs) W e w') := hide fun W hb => get_any a n c zs W hl hcap hc hn (hr.below hb) h8
  clear hl hcap hc hn hr h8
  have hfit : ∀ m, Pg.get zs = some m → m.g < 18446744073709551616 := fun m h => (Pg.get_some h).1.fit.1
  generalize Pg.get zs = O at *
  have HF := hide hfit
  clear hfit
  go_enter Try.func68, Try.ntmps68
  go_wp2_with fail
  refine (HG.out _ (below_alloc _ _)).mono ?_
  rintro e w1 ⟨hy, hno, hb1⟩
  have HB0 := hide (below_alloc w (.cells #[.int .u64 0, .int .u32 0, .int .u32 0, .int .u32 0, .int .u64 0] 64))
  have HB1 := hide (HB0.out.trans (hb1.mono HB0.out.size))
  have hq : w1.heap[w.heap.size]? = some (.cells #[.int .u64 0, .int .u32 0, .int .u32 0, .int .u32 0, .int .u64 0] 64 (0, 0)) := (hb1.block _ (by simp)).trans (heap_alloc_new w (.cells #[.int .u64 0, .int .u32 0, .int .u32 0, .int .u32 0, .int .u64 0] 64))
  have hlt : w.heap.size < w1.heap.size := by have := hb1.size; simp at this; omega
  clear hb1
  cases O with
  | none =>
    obtain rfl := hno rfl
    clear hy hno
    have e0 : mv mz = .agg #[.int .u64 0, .int .u32 0, .int .u32 0, .int .u32 0, .int .u64 0] := rfl
    rw [e0]
    clear e0
    obtain ⟨p0, p1, p2, p3, p4⟩ := five hq
    have h0 := frozen_blk (j := 0) hq
    have h1 := frozen_blk (j := 1) hq
    have h2 := frozen_blk (j := 2) hq
    have h3 := frozen_blk (j := 3) hq
    have h4 := frozen_blk (j := 4) hq
    have HP := hide (five_put (.int .u64 0) (.int .u32 0) (.int .u32 0) (.int .u32 0) (.int .u64 0) (.cells #[.int .u64 0, .int .u32 0, .int .u32 0, .int .u32 0, .int .u64 0] 64) hq HB1.out (Nat.le_refl _))
    clear hq HG HB0
    go_wp2
    obtain ⟨hE, hB⟩ := HP.out
    clear HP p0 p1 p2 p3 p4 h0 h1 h2 h3 h4 hlt HB1
    generalize ((((((w1.setCell ⟨w.heap.size, 0, none⟩ (.int .u64 0)).setCell ⟨w.heap.size, 1, none⟩ (.int .u32 0)).setCell ⟨w.heap.size, 2, none⟩ (.int .u32 0)).setCell ⟨w.heap.size, 3, none⟩ (.int .u32 0)).setCell ⟨w.heap.size, 4, none⟩ (.int .u64 0)).alloc (.cells #[.int .u64 0, .int .u32 0, .int .u32 0, .int .u32 0, .int .u64 0] 64)) = w9 at *
    obtain ⟨r0, r1, r2, r3, r4⟩ := five hE
    refine bodyPost_ret (v := .agg #[.int .u64 0, .int .u32 0, .int .u32 0, .int .u32 0, .int .u64 0]) (by simp [results, Try.results68, go_sem, r0, r1, r2, r3, r4]) rfl ⟨rfl, hB⟩
  | some m =>
    obtain ⟨G, Q, F, P, K⟩ := m
    obtain rfl := hy _ rfl
    have hG := HF.out _ rfl
    simp only at hG
    clear hy hno HF
    by_cases hpar : G % 2 = par
    · have hd : ((G : Int) % 2 != (par : Int)) = false := by simp; omega
      have HE : Hid (stm (some ⟨G, Q, F, P, K⟩) par = ⟨G, Q, F, P, K⟩) := if_pos hpar
      clear hpar
      simp only [mv]
      obtain ⟨p0, p1, p2, p3, p4⟩ := five hq
      have h0 := frozen_blk (j := 0) hq
      have h1 := frozen_blk (j := 1) hq
      have h2 := frozen_blk (j := 2) hq
      have h3 := frozen_blk (j := 3) hq
      have h4 := frozen_blk (j := 4) hq
      have HP := hide (five_put (.int .u64 (G : Int)) (.int .u32 (Q : Int)) (.int .u32 (F : Int)) (.int .u32 (P : Int)) (.int .u64 (K : Int)) (.cells #[.int .u64 (G : Int), .int .u32 (Q : Int), .int .u32 (F : Int), .int .u32 (P : Int), .int .u64 (K : Int)] 64) hq HB1.out (Nat.le_refl _))
      clear hq HG HB0
      go_wp2
      obtain ⟨hE, hB⟩ := HP.out
      clear HP p0 p1 p2 p3 p4 h0 h1 h2 h3 h4 hlt HB1
      generalize ((((((w1.setCell ⟨w.heap.size, 0, none⟩ (.int .u64 (G : Int))).setCell ⟨w.heap.size, 1, none⟩ (.int .u32 (Q : Int))).setCell ⟨w.heap.size, 2, none⟩ (.int .u32 (F : Int))).setCell ⟨w.heap.size, 3, none⟩ (.int .u32 (P : Int))).setCell ⟨w.heap.size, 4, none⟩ (.int .u64 (K : Int))).alloc (.cells #[.int .u64 (G : Int), .int .u32 (Q : Int), .int .u32 (F : Int), .int .u32 (P : Int), .int .u64 (K : Int)] 64)) = w9 at *
      obtain ⟨r0, r1, r2, r3, r4⟩ := five hE
      refine bodyPost_ret (v := .agg #[.int .u64 (G : Int), .int .u32 (Q : Int), .int .u32 (F : Int), .int .u32 (P : Int), .int .u64 (K : Int)]) (by simp [results, Try.results68, go_sem, r0, r1, r2, r3, r4]) rfl ⟨by rw [HE.out]; rfl, hB⟩
    · have hd : ((G : Int) % 2 != (par : Int)) = true := by simp; omega
      have HE : Hid (stm (some ⟨G, Q, F, P, K⟩) par = mz) := if_neg hpar
      clear hpar
      simp only [mv]
      obtain ⟨p0, p1, p2, p3, p4⟩ := five hq
      have h0 := frozen_blk (j := 0) hq
      have h1 := frozen_blk (j := 1) hq
      have h2 := frozen_blk (j := 2) hq
      have h3 := frozen_blk (j := 3) hq
      have h4 := frozen_blk (j := 4) hq
      have HP := hide (five_put (.int .u64 0) (.int .u32 0) (.int .u32 0) (.int .u32 0) (.int .u64 0) (.cells #[.int .u64 (G : Int), .int .u32 (Q : Int), .int .u32 (F : Int), .int .u32 (P : Int), .int .u64 (K : Int)] 64) hq HB1.out (Nat.le_refl _))
      clear hq HG HB0
      go_wp2
      obtain ⟨hE, hB⟩ := HP.out
      clear HP p0 p1 p2 p3 p4 h0 h1 h2 h3 h4 hlt HB1
      generalize ((((((w1.setCell ⟨w.heap.size, 0, none⟩ (.int .u64 0)).setCell ⟨w.heap.size, 1, none⟩ (.int .u32 0)).setCell ⟨w.heap.size, 2, none⟩ (.int .u32 0)).setCell ⟨w.heap.size, 3, none⟩ (.int .u32 0)).setCell ⟨w.heap.size, 4, none⟩ (.int .u64 0)).alloc (.cells #[.int .u64 (G : Int), .int .u32 (Q : Int), .int .u32 (F : Int), .int .u32 (P : Int), .int .u64 (K : Int)] 64)) = w9 at *
      obtain ⟨r0, r1, r2, r3, r4⟩ := five hE
      refine bodyPost_ret (v := .agg #[.int .u64 0, .int .u32 0, .int .u32 0, .int .u32 0, .int .u64 0]) (by simp [results, Try.results68, go_sem, r0, r1, r2, r3, r4]) rfl ⟨by rw [HE.out]; rfl, hB⟩
end Go.Proofs.Ytfbkcolcdkglbaa
