/- The document's own GetMeta. -/
import Derived.Test.YtfbkcolcdkglbaaQD
namespace Go.Proofs.Ytfbkcolcdkglbaa
open Go.RowKit
set_option linter.unusedVariables false

set_option maxHeartbeats 3200000 in
set_option maxRecDepth 1000000 in
theorem rgetm_short (a : Option Addr) (n c : Nat) (zs : List Int) (w : World) (h : Inn w a n c zs) (hl : n < 128) :
    Calls Try.prog 23 #[.slice a n c] w fun e w' => GetOut (Pg.get zs) w e w' := by
  have HO : Hid (Pg.get zs = none) := by rw [Hid, Pg.get, if_neg (by rw [h.len]; omega)]
  have d1 : (n : Int) < 128 := by omega
  clear h hl
  generalize Pg.get zs = O at *
  go_enter Try.func23, Try.ntmps23
  go_wp2
  refine bodyPost_ret (v := .tuple #[.agg #[.int .u64 0, .int .u32 0, .int .u32 0, .int .u32 0, .int .u64 0], .int .u16 80]) (by simp [results, Try.results23, go_sem]) rfl ?_
  exact ⟨fun m h => (by rw [HO.out] at h; cases h), fun _ => rfl, below_alloc _ _⟩

set_option maxHeartbeats 6400000 in
set_option maxRecDepth 1000000 in
theorem rgetm_no (a : Option Addr) (n c : Nat) (zs : List Int) (w : World) (h : Inn w a n c zs) (hl : 128 ≤ n) (hm : ¬ (Pg.fld zs).May) :
    Calls Try.prog 23 #[.slice a n c] w fun e w' => GetOut (Pg.get zs) w e w' := by
  have d1 : (128 : Int) ≤ (n : Int) := by omega
  have hcap := h.cap
  have hmax := h.max
  have HI := hide h
  have HO : Hid (Pg.get zs = none) := by rw [Hid, Pg.get, if_neg (fun h' => hm h'.2.1)]
  have hv : ∀ i k, k ≤ 8 → i + k ≤ n → Crc.leV ((zs.drop i).take k) < 256 ^ k := fun i k hk hi => by
    have := Crc.leV_lt ((zs.drop i).take k) ((h.byts.drop i).take k)
    rwa [List.length_take, List.length_drop, h.len, Nat.min_eq_left (by omega)] at this
  have v1 := hv 4 8 (by omega) (by omega)
  have v2 := hv 12 4 (by omega) (by omega)
  have v3 := hv 16 4 (by omega) (by omega)
  have v4 := hv 20 4 (by omega) (by omega)
  have v5 := hv 24 8 (by omega) (by omega)
  rw [Pg.p8] at v1 v5
  rw [Pg.p4] at v2 v3 v4
  have HG : Hid (∀ (W : World) (i k : Nat) (ii ki : Int), ii = (i : Int) → ki = (k : Int) → k ≤ 8 → i + k ≤ n → Below w.heap.size w W → Calls Try.prog 61 #[.slice a n c, .int .i64 ii, .int .i64 ki] W fun e w' => e = .returned (.int .u64 ((Crc.leV ((zs.drop i).take k) : Nat) : Int)) ∧ Below W.heap.size W w') := hide fun W i k ii ki h1 h2 h3 h4 hb => rget_any a n c zs i k ii ki h1 h2 W (h.below hb) h3 h4
  have HPut : Hid (∀ W, Calls Try.prog 21 #[mv (Pg.fld zs)] W fun e w' => e = .returned (.tuple #[.slice none 0 0, .int .u16 80]) ∧ Below W.heap.size W w') := hide fun W => rputm_no _ W hm
  unfold Pg.fld mv at HPut
  have HB0 := hide (below_alloc w (.cells #[.int .u64 0, .int .u32 0, .int .u32 0, .int .u32 0, .int .u64 0] 64))
  have HQ0 := hide (heap_alloc_new w (.cells #[.int .u64 0, .int .u32 0, .int .u32 0, .int .u32 0, .int .u64 0] 64))
  have HS0 : Hid ((w.alloc (.cells #[.int .u64 0, .int .u32 0, .int .u32 0, .int .u32 0, .int .u64 0] 64)).heap.size = w.heap.size + 1) := by rw [Hid]; simp
  clear h hm hv  
  generalize Pg.get zs = O at *
  have G1 := hide (fun W h => HG.out W 4 8 4 8 rfl rfl (by omega) (by omega) h)
  have G2 := hide (fun W h => HG.out W 12 4 12 4 rfl rfl (by omega) (by omega) h)
  have G3 := hide (fun W h => HG.out W 16 4 16 4 rfl rfl (by omega) (by omega) h)
  have G4 := hide (fun W h => HG.out W 20 4 20 4 rfl rfl (by omega) (by omega) h)
  have G5 := hide (fun W h => HG.out W 24 8 24 8 rfl rfl (by omega) (by omega) h)
  clear HG
  simp only at HPut
  generalize Crc.leV ((zs.drop 4).take 8) = G at *
  generalize Crc.leV ((zs.drop 12).take 4) = Q at *
  generalize Crc.leV ((zs.drop 16).take 4) = F at *
  generalize Crc.leV ((zs.drop 20).take 4) = P at *
  generalize Crc.leV ((zs.drop 24).take 8) = K at *
  go_enter Try.func23, Try.ntmps23
  go_wp2_with fail
  refine (G1.out _ HB0.out).mono ?_
  rintro e u1 ⟨rfl, hb⟩
  have HB1 := hide (HB0.out.trans (hb.mono HB0.out.size))
  have HD1 := hide (hb)
  clear hb G1
  go_wp2_with fail
  refine (G2.out _ HB1.out).mono ?_
  rintro e u2 ⟨rfl, hb⟩
  have HB2 := hide (HB1.out.trans (hb.mono HB1.out.size))
  have HD2 := hide (HD1.out.trans (hb.mono HD1.out.size))
  clear hb G2
  go_wp2_with fail
  refine (G3.out _ HB2.out).mono ?_
  rintro e u3 ⟨rfl, hb⟩
  have HB3 := hide (HB2.out.trans (hb.mono HB2.out.size))
  have HD3 := hide (HD2.out.trans (hb.mono HD2.out.size))
  clear hb G3
  go_wp2_with fail
  refine (G4.out _ HB3.out).mono ?_
  rintro e u4 ⟨rfl, hb⟩
  have HB4 := hide (HB3.out.trans (hb.mono HB3.out.size))
  have HD4 := hide (HD3.out.trans (hb.mono HD3.out.size))
  clear hb G4
  go_wp2_with fail
  refine (G5.out _ HB4.out).mono ?_
  rintro e u5 ⟨rfl, hb⟩
  have HB5 := hide (HB4.out.trans (hb.mono HB4.out.size))
  have HD5 := hide (HD4.out.trans (hb.mono HD4.out.size))
  clear hb G5
  go_wp2_with fail
  have hb6a := below_alloc u5 (.cells #[.int .u64 (G : Int), .int .u32 (Q : Int), .int .u32 (F : Int), .int .u32 (P : Int), .int .u64 (K : Int)] 64)
  refine (HPut.out _).mono ?_
  rintro e u6 ⟨rfl, hb⟩
  have HB6 := hide ((HB5.out.trans (hb6a.mono HB5.out.size)).trans (hb.mono (HB5.out.trans (hb6a.mono HB5.out.size)).size))
  have hq : u6.heap[w.heap.size]? = some (.cells #[.int .u64 0, .int .u32 0, .int .u32 0, .int .u32 0, .int .u64 0] 64 (0, 0)) := (hb.block _ (by have := HD5.out.size; have := HS0.out; simp; omega)).trans ((hb6a.block _ (by have := HD5.out.size; have := HS0.out; omega)).trans ((HD5.out.block _ (by rw [HS0.out]; omega)).trans HQ0.out))
  clear hb hb6a
  obtain ⟨p0, p1, p2, p3, p4⟩ := five hq
  have h0 := frozen_blk (j := 0) hq
  have h1 := frozen_blk (j := 1) hq
  have h2 := frozen_blk (j := 2) hq
  have h3 := frozen_blk (j := 3) hq
  have h4 := frozen_blk (j := 4) hq
  have HQ := hide hq
  clear hq
  go_wp2
  go_quiet (fail)
  have HQ := HQ
  have HB6 : Hid (Below w.heap.size w (u6.drewN nq)) := hide (below_drewN HB6.out _)
  have hq : (u6.drewN nq).heap[w.heap.size]? = some (.cells #[.int .u64 0, .int .u32 0, .int .u32 0, .int .u32 0, .int .u64 0] 64 (0, 0)) := HQ.out
  clear p0 p1 p2 p3 p4 h0 h1 h2 h3 h4
  generalize u6.drewN nq = u7 at *
  obtain ⟨p0, p1, p2, p3, p4⟩ := five hq
  have h0 := frozen_blk (j := 0) hq
  have h1 := frozen_blk (j := 1) hq
  have h2 := frozen_blk (j := 2) hq
  have h3 := frozen_blk (j := 3) hq
  have h4 := frozen_blk (j := 4) hq
  have HQ := hide hq
  clear hq
  go_wp2
  have b0 := blk_set (j := 0) (v := .int .u64 0) HQ.out
  have b1 := blk_set (j := 1) (v := .int .u32 0) b0
  have b2 := blk_set (j := 2) (v := .int .u32 0) b1
  have b3 := blk_set (j := 3) (v := .int .u32 0) b2
  have b4 := blk_set (j := 4) (v := .int .u64 0) b3
  have hB := (((((HB6.out.setCell (p := ⟨w.heap.size, 0, none⟩) (Nat.le_refl _) (.int .u64 0)).setCell (p := ⟨w.heap.size, 1, none⟩) (Nat.le_refl _) (.int .u32 0)).setCell (p := ⟨w.heap.size, 2, none⟩) (Nat.le_refl _) (.int .u32 0)).setCell (p := ⟨w.heap.size, 3, none⟩) (Nat.le_refl _) (.int .u32 0)).setCell (p := ⟨w.heap.size, 4, none⟩) (Nat.le_refl _) (.int .u64 0))
  generalize (((((u7.setCell ⟨w.heap.size, 0, none⟩ (.int .u64 0)).setCell ⟨w.heap.size, 1, none⟩ (.int .u32 0)).setCell ⟨w.heap.size, 2, none⟩ (.int .u32 0)).setCell ⟨w.heap.size, 3, none⟩ (.int .u32 0)).setCell ⟨w.heap.size, 4, none⟩ (.int .u64 0)) = w9 at *
  have b5 : w9.heap[w.heap.size]? = some (.cells #[.int .u64 0, .int .u32 0, .int .u32 0, .int .u32 0, .int .u64 0] 64 (0, 0)) := b4
  obtain ⟨y0, y1, y2, y3, y4⟩ := five b5
  refine bodyPost_ret (v := .tuple #[.agg #[.int .u64 0, .int .u32 0, .int .u32 0, .int .u32 0, .int .u64 0], .int .u16 80]) (by simp [results, Try.results23, go_sem, y0, y1, y2, y3, y4]) rfl ?_
  exact ⟨fun m h => (by rw [HO.out] at h; cases h), fun _ => rfl, hB⟩

set_option maxHeartbeats 6400000 in
set_option maxRecDepth 1000000 in
theorem rgetm_ne (a : Option Addr) (n c : Nat) (zs : List Int) (w : World) (h : Inn w a n c zs) (hl : 128 ≤ n) (hm : (Pg.fld zs).May) (he : zs.take 128 ≠ Pg.mt (Pg.fld zs)) :
    Calls Try.prog 23 #[.slice a n c] w fun e w' => GetOut (Pg.get zs) w e w' := by
  have d1 : (128 : Int) ≤ (n : Int) := by omega
  have hcap := h.cap
  have hmax := h.max
  have HI := hide h
  have HO : Hid (Pg.get zs = none) := by rw [Hid, Pg.get, if_neg (fun h' => he h'.2.2)]
  have hv : ∀ i k, k ≤ 8 → i + k ≤ n → Crc.leV ((zs.drop i).take k) < 256 ^ k := fun i k hk hi => by
    have := Crc.leV_lt ((zs.drop i).take k) ((h.byts.drop i).take k)
    rwa [List.length_take, List.length_drop, h.len, Nat.min_eq_left (by omega)] at this
  have v1 := hv 4 8 (by omega) (by omega)
  have v2 := hv 12 4 (by omega) (by omega)
  have v3 := hv 16 4 (by omega) (by omega)
  have v4 := hv 20 4 (by omega) (by omega)
  have v5 := hv 24 8 (by omega) (by omega)
  rw [Pg.p8] at v1 v5
  rw [Pg.p4] at v2 v3 v4
  have HG : Hid (∀ (W : World) (i k : Nat) (ii ki : Int), ii = (i : Int) → ki = (k : Int) → k ≤ 8 → i + k ≤ n → Below w.heap.size w W → Calls Try.prog 61 #[.slice a n c, .int .i64 ii, .int .i64 ki] W fun e w' => e = .returned (.int .u64 ((Crc.leV ((zs.drop i).take k) : Nat) : Int)) ∧ Below W.heap.size W w') := hide fun W i k ii ki h1 h2 h3 h4 hb => rget_any a n c zs i k ii ki h1 h2 W (h.below hb) h3 h4
  obtain ⟨MM, hMM⟩ : ∃ MM, MM = Pg.mt (Pg.fld zs) := ⟨_, rfl⟩
  have HPut : Hid (∀ W, Calls Try.prog 21 #[mv (Pg.fld zs)] W fun e w' => ∃ v, e = .returned (.tuple #[v, .int .u16 0]) ∧ Made W v MM w') := hide fun W => by rw [hMM]; exact rputm_ok _ W hm
  have HM8 : Hid (Byts MM) := hide (by rw [hMM]; exact Pg.mt_b8 _)
  have hne : ((bk MM).toList == (bk (zs.take 128)).toList) = false := bk_ne _ _ HM8.out (h.byts.take 128) (fun e => he (by rw [← hMM]; exact e.symm))
  unfold Pg.fld mv at HPut
  have HB0 := hide (below_alloc w (.cells #[.int .u64 0, .int .u32 0, .int .u32 0, .int .u32 0, .int .u64 0] 64))
  have HQ0 := hide (heap_alloc_new w (.cells #[.int .u64 0, .int .u32 0, .int .u32 0, .int .u32 0, .int .u64 0] 64))
  have HS0 : Hid ((w.alloc (.cells #[.int .u64 0, .int .u32 0, .int .u32 0, .int .u32 0, .int .u64 0] 64)).heap.size = w.heap.size + 1) := by rw [Hid]; simp
  clear h hm hv he 
  generalize Pg.get zs = O at *
  clear hMM
  have G1 := hide (fun W h => HG.out W 4 8 4 8 rfl rfl (by omega) (by omega) h)
  have G2 := hide (fun W h => HG.out W 12 4 12 4 rfl rfl (by omega) (by omega) h)
  have G3 := hide (fun W h => HG.out W 16 4 16 4 rfl rfl (by omega) (by omega) h)
  have G4 := hide (fun W h => HG.out W 20 4 20 4 rfl rfl (by omega) (by omega) h)
  have G5 := hide (fun W h => HG.out W 24 8 24 8 rfl rfl (by omega) (by omega) h)
  clear HG
  simp only at HPut
  generalize Crc.leV ((zs.drop 4).take 8) = G at *
  generalize Crc.leV ((zs.drop 12).take 4) = Q at *
  generalize Crc.leV ((zs.drop 16).take 4) = F at *
  generalize Crc.leV ((zs.drop 20).take 4) = P at *
  generalize Crc.leV ((zs.drop 24).take 8) = K at *
  go_enter Try.func23, Try.ntmps23
  go_wp2_with fail
  refine (G1.out _ HB0.out).mono ?_
  rintro e u1 ⟨rfl, hb⟩
  have HB1 := hide (HB0.out.trans (hb.mono HB0.out.size))
  have HD1 := hide (hb)
  clear hb G1
  go_wp2_with fail
  refine (G2.out _ HB1.out).mono ?_
  rintro e u2 ⟨rfl, hb⟩
  have HB2 := hide (HB1.out.trans (hb.mono HB1.out.size))
  have HD2 := hide (HD1.out.trans (hb.mono HD1.out.size))
  clear hb G2
  go_wp2_with fail
  refine (G3.out _ HB2.out).mono ?_
  rintro e u3 ⟨rfl, hb⟩
  have HB3 := hide (HB2.out.trans (hb.mono HB2.out.size))
  have HD3 := hide (HD2.out.trans (hb.mono HD2.out.size))
  clear hb G3
  go_wp2_with fail
  refine (G4.out _ HB3.out).mono ?_
  rintro e u4 ⟨rfl, hb⟩
  have HB4 := hide (HB3.out.trans (hb.mono HB3.out.size))
  have HD4 := hide (HD3.out.trans (hb.mono HD3.out.size))
  clear hb G4
  go_wp2_with fail
  refine (G5.out _ HB4.out).mono ?_
  rintro e u5 ⟨rfl, hb⟩
  have HB5 := hide (HB4.out.trans (hb.mono HB4.out.size))
  have HD5 := hide (HD4.out.trans (hb.mono HD4.out.size))
  clear hb G5
  go_wp2_with fail
  have hb6a := below_alloc u5 (.cells #[.int .u64 (G : Int), .int .u32 (Q : Int), .int .u32 (F : Int), .int .u32 (P : Int), .int .u64 (K : Int)] 64)
  refine (HPut.out _).mono ?_
  rintro e u6 ⟨v6, rfl, hm6⟩
  obtain ⟨a6, n6, c6, rfl, -⟩ := hm6.1.shape2
  obtain ⟨hi6, -⟩ := hm6.inn HM8.out
  have hb := hm6.2.2
  have HB6 := hide ((HB5.out.trans (hb6a.mono HB5.out.size)).trans (hb.mono (HB5.out.trans (hb6a.mono HB5.out.size)).size))
  have hq : u6.heap[w.heap.size]? = some (.cells #[.int .u64 0, .int .u32 0, .int .u32 0, .int .u32 0, .int .u64 0] 64 (0, 0)) := (hb.block _ (by have := HD5.out.size; have := HS0.out; simp; omega)).trans ((hb6a.block _ (by have := HD5.out.size; have := HS0.out; omega)).trans ((HD5.out.block _ (by rw [HS0.out]; omega)).trans HQ0.out))
  have hmq : u6.heap[u5.heap.size]? = some (.cells #[.int .u64 (G : Int), .int .u32 (Q : Int), .int .u32 (F : Int), .int .u32 (P : Int), .int .u64 (K : Int)] 64 (0, 0)) := (hb.block _ (by simp)).trans (heap_alloc_new u5 _)
  have HMQ := hide hmq
  have hi0 := HI.out.below HB6.out
  have t1 := fun k => text_inn (hi6.below (below_drewN (Below.refl _ _) k))
  have t2 := fun k => run_text (u6.drewN k) a 128 c (zs.take 128) (by rw [List.length_take, hi0.len]; omega) (by intro h; have := hi0.bare h; omega) ((hi0.row.below (below_drewN (Below.refl _ _) k)).take 128) (hi0.byts.take 128)
  clear hb hb6a hm6 hi6 hi0 hmq
  generalize bk MM = S1 at *
  generalize bk (zs.take 128) = S2 at *
  obtain ⟨p0, p1, p2, p3, p4⟩ := five hq
  have h0 := frozen_blk (j := 0) hq
  have h1 := frozen_blk (j := 1) hq
  have h2 := frozen_blk (j := 2) hq
  have h3 := frozen_blk (j := 3) hq
  have h4 := frozen_blk (j := 4) hq
  have HQ := hide hq
  clear hq
  go_wp2
  go_quiet (fail)
  have HQ := HQ
  have HB6 : Hid (Below w.heap.size w (u6.drewN nq)) := hide (below_drewN HB6.out _)
  have hq : (u6.drewN nq).heap[w.heap.size]? = some (.cells #[.int .u64 0, .int .u32 0, .int .u32 0, .int .u32 0, .int .u64 0] 64 (0, 0)) := HQ.out
  have hmq : (u6.drewN nq).heap[u5.heap.size]? = some (.cells #[.int .u64 (G : Int), .int .u32 (Q : Int), .int .u32 (F : Int), .int .u32 (P : Int), .int .u64 (K : Int)] 64 (0, 0)) := HMQ.out
  obtain ⟨m0, m1, m2, m3, m4⟩ := five hmq
  clear t1 t2 hmq
  clear p0 p1 p2 p3 p4 h0 h1 h2 h3 h4
  generalize u6.drewN nq = u7 at *
  obtain ⟨p0, p1, p2, p3, p4⟩ := five hq
  have h0 := frozen_blk (j := 0) hq
  have h1 := frozen_blk (j := 1) hq
  have h2 := frozen_blk (j := 2) hq
  have h3 := frozen_blk (j := 3) hq
  have h4 := frozen_blk (j := 4) hq
  have HQ := hide hq
  clear hq
  go_wp2
  have b0 := blk_set (j := 0) (v := .int .u64 0) HQ.out
  have b1 := blk_set (j := 1) (v := .int .u32 0) b0
  have b2 := blk_set (j := 2) (v := .int .u32 0) b1
  have b3 := blk_set (j := 3) (v := .int .u32 0) b2
  have b4 := blk_set (j := 4) (v := .int .u64 0) b3
  have hB := (((((HB6.out.setCell (p := ⟨w.heap.size, 0, none⟩) (Nat.le_refl _) (.int .u64 0)).setCell (p := ⟨w.heap.size, 1, none⟩) (Nat.le_refl _) (.int .u32 0)).setCell (p := ⟨w.heap.size, 2, none⟩) (Nat.le_refl _) (.int .u32 0)).setCell (p := ⟨w.heap.size, 3, none⟩) (Nat.le_refl _) (.int .u32 0)).setCell (p := ⟨w.heap.size, 4, none⟩) (Nat.le_refl _) (.int .u64 0))
  generalize (((((u7.setCell ⟨w.heap.size, 0, none⟩ (.int .u64 0)).setCell ⟨w.heap.size, 1, none⟩ (.int .u32 0)).setCell ⟨w.heap.size, 2, none⟩ (.int .u32 0)).setCell ⟨w.heap.size, 3, none⟩ (.int .u32 0)).setCell ⟨w.heap.size, 4, none⟩ (.int .u64 0)) = w9 at *
  have b5 : w9.heap[w.heap.size]? = some (.cells #[.int .u64 0, .int .u32 0, .int .u32 0, .int .u32 0, .int .u64 0] 64 (0, 0)) := b4
  obtain ⟨y0, y1, y2, y3, y4⟩ := five b5
  refine bodyPost_ret (v := .tuple #[.agg #[.int .u64 0, .int .u32 0, .int .u32 0, .int .u32 0, .int .u64 0], .int .u16 80]) (by simp [results, Try.results23, go_sem, y0, y1, y2, y3, y4]) rfl ?_
  exact ⟨fun m h => (by rw [HO.out] at h; cases h), fun _ => rfl, hB⟩

set_option maxHeartbeats 6400000 in
set_option maxRecDepth 1000000 in
theorem rgetm_ok (a : Option Addr) (n c : Nat) (zs : List Int) (w : World) (h : Inn w a n c zs) (hl : 128 ≤ n) (hm : (Pg.fld zs).May) (he : zs.take 128 = Pg.mt (Pg.fld zs)) :
    Calls Try.prog 23 #[.slice a n c] w fun e w' => GetOut (Pg.get zs) w e w' := by
  have d1 : (128 : Int) ≤ (n : Int) := by omega
  have hcap := h.cap
  have hmax := h.max
  have HI := hide h
  have HO : Hid (Pg.get zs = some (Pg.fld zs)) := by rw [Hid, Pg.get, if_pos ⟨by rw [h.len]; omega, hm, he⟩]
  have hv : ∀ i k, k ≤ 8 → i + k ≤ n → Crc.leV ((zs.drop i).take k) < 256 ^ k := fun i k hk hi => by
    have := Crc.leV_lt ((zs.drop i).take k) ((h.byts.drop i).take k)
    rwa [List.length_take, List.length_drop, h.len, Nat.min_eq_left (by omega)] at this
  have v1 := hv 4 8 (by omega) (by omega)
  have v2 := hv 12 4 (by omega) (by omega)
  have v3 := hv 16 4 (by omega) (by omega)
  have v4 := hv 20 4 (by omega) (by omega)
  have v5 := hv 24 8 (by omega) (by omega)
  rw [Pg.p8] at v1 v5
  rw [Pg.p4] at v2 v3 v4
  have HG : Hid (∀ (W : World) (i k : Nat) (ii ki : Int), ii = (i : Int) → ki = (k : Int) → k ≤ 8 → i + k ≤ n → Below w.heap.size w W → Calls Try.prog 61 #[.slice a n c, .int .i64 ii, .int .i64 ki] W fun e w' => e = .returned (.int .u64 ((Crc.leV ((zs.drop i).take k) : Nat) : Int)) ∧ Below W.heap.size W w') := hide fun W i k ii ki h1 h2 h3 h4 hb => rget_any a n c zs i k ii ki h1 h2 W (h.below hb) h3 h4
  obtain ⟨MM, hMM⟩ : ∃ MM, MM = Pg.mt (Pg.fld zs) := ⟨_, rfl⟩
  have HPut : Hid (∀ W, Calls Try.prog 21 #[mv (Pg.fld zs)] W fun e w' => ∃ v, e = .returned (.tuple #[v, .int .u16 0]) ∧ Made W v MM w') := hide fun W => by rw [hMM]; exact rputm_ok _ W hm
  have HM8 : Hid (Byts MM) := hide (by rw [hMM]; exact Pg.mt_b8 _)
  have hne : ((bk MM).toList == (bk (zs.take 128)).toList) = true := by rw [he, ← hMM]; exact ba_leq _
  unfold Pg.fld mv at HPut
  have HO' := HO
  unfold Pg.fld at HO
  have HB0 := hide (below_alloc w (.cells #[.int .u64 0, .int .u32 0, .int .u32 0, .int .u32 0, .int .u64 0] 64))
  have HQ0 := hide (heap_alloc_new w (.cells #[.int .u64 0, .int .u32 0, .int .u32 0, .int .u32 0, .int .u64 0] 64))
  have HS0 : Hid ((w.alloc (.cells #[.int .u64 0, .int .u32 0, .int .u32 0, .int .u32 0, .int .u64 0] 64)).heap.size = w.heap.size + 1) := by rw [Hid]; simp
  clear h hm hv he HO'
  generalize Pg.get zs = O at *
  clear hMM
  have G1 := hide (fun W h => HG.out W 4 8 4 8 rfl rfl (by omega) (by omega) h)
  have G2 := hide (fun W h => HG.out W 12 4 12 4 rfl rfl (by omega) (by omega) h)
  have G3 := hide (fun W h => HG.out W 16 4 16 4 rfl rfl (by omega) (by omega) h)
  have G4 := hide (fun W h => HG.out W 20 4 20 4 rfl rfl (by omega) (by omega) h)
  have G5 := hide (fun W h => HG.out W 24 8 24 8 rfl rfl (by omega) (by omega) h)
  clear HG
  simp only at HPut
  generalize Crc.leV ((zs.drop 4).take 8) = G at *
  generalize Crc.leV ((zs.drop 12).take 4) = Q at *
  generalize Crc.leV ((zs.drop 16).take 4) = F at *
  generalize Crc.leV ((zs.drop 20).take 4) = P at *
  generalize Crc.leV ((zs.drop 24).take 8) = K at *
  go_enter Try.func23, Try.ntmps23
  go_wp2_with fail
  refine (G1.out _ HB0.out).mono ?_
  rintro e u1 ⟨rfl, hb⟩
  have HB1 := hide (HB0.out.trans (hb.mono HB0.out.size))
  have HD1 := hide (hb)
  clear hb G1
  go_wp2_with fail
  refine (G2.out _ HB1.out).mono ?_
  rintro e u2 ⟨rfl, hb⟩
  have HB2 := hide (HB1.out.trans (hb.mono HB1.out.size))
  have HD2 := hide (HD1.out.trans (hb.mono HD1.out.size))
  clear hb G2
  go_wp2_with fail
  refine (G3.out _ HB2.out).mono ?_
  rintro e u3 ⟨rfl, hb⟩
  have HB3 := hide (HB2.out.trans (hb.mono HB2.out.size))
  have HD3 := hide (HD2.out.trans (hb.mono HD2.out.size))
  clear hb G3
  go_wp2_with fail
  refine (G4.out _ HB3.out).mono ?_
  rintro e u4 ⟨rfl, hb⟩
  have HB4 := hide (HB3.out.trans (hb.mono HB3.out.size))
  have HD4 := hide (HD3.out.trans (hb.mono HD3.out.size))
  clear hb G4
  go_wp2_with fail
  refine (G5.out _ HB4.out).mono ?_
  rintro e u5 ⟨rfl, hb⟩
  have HB5 := hide (HB4.out.trans (hb.mono HB4.out.size))
  have HD5 := hide (HD4.out.trans (hb.mono HD4.out.size))
  clear hb G5
  go_wp2_with fail
  have hb6a := below_alloc u5 (.cells #[.int .u64 (G : Int), .int .u32 (Q : Int), .int .u32 (F : Int), .int .u32 (P : Int), .int .u64 (K : Int)] 64)
  refine (HPut.out _).mono ?_
  rintro e u6 ⟨v6, rfl, hm6⟩
  obtain ⟨a6, n6, c6, rfl, -⟩ := hm6.1.shape2
  obtain ⟨hi6, -⟩ := hm6.inn HM8.out
  have hb := hm6.2.2
  have HB6 := hide ((HB5.out.trans (hb6a.mono HB5.out.size)).trans (hb.mono (HB5.out.trans (hb6a.mono HB5.out.size)).size))
  have hq : u6.heap[w.heap.size]? = some (.cells #[.int .u64 0, .int .u32 0, .int .u32 0, .int .u32 0, .int .u64 0] 64 (0, 0)) := (hb.block _ (by have := HD5.out.size; have := HS0.out; simp; omega)).trans ((hb6a.block _ (by have := HD5.out.size; have := HS0.out; omega)).trans ((HD5.out.block _ (by rw [HS0.out]; omega)).trans HQ0.out))
  have hmq : u6.heap[u5.heap.size]? = some (.cells #[.int .u64 (G : Int), .int .u32 (Q : Int), .int .u32 (F : Int), .int .u32 (P : Int), .int .u64 (K : Int)] 64 (0, 0)) := (hb.block _ (by simp)).trans (heap_alloc_new u5 _)
  have HMQ := hide hmq
  have hi0 := HI.out.below HB6.out
  have t1 := fun k => text_inn (hi6.below (below_drewN (Below.refl _ _) k))
  have t2 := fun k => run_text (u6.drewN k) a 128 c (zs.take 128) (by rw [List.length_take, hi0.len]; omega) (by intro h; have := hi0.bare h; omega) ((hi0.row.below (below_drewN (Below.refl _ _) k)).take 128) (hi0.byts.take 128)
  clear hb hb6a hm6 hi6 hi0 hmq
  generalize bk MM = S1 at *
  generalize bk (zs.take 128) = S2 at *
  obtain ⟨p0, p1, p2, p3, p4⟩ := five hq
  have h0 := frozen_blk (j := 0) hq
  have h1 := frozen_blk (j := 1) hq
  have h2 := frozen_blk (j := 2) hq
  have h3 := frozen_blk (j := 3) hq
  have h4 := frozen_blk (j := 4) hq
  have HQ := hide hq
  clear hq
  go_wp2
  go_quiet (fail)
  have HQ := HQ
  have HB6 : Hid (Below w.heap.size w (u6.drewN nq)) := hide (below_drewN HB6.out _)
  have hq : (u6.drewN nq).heap[w.heap.size]? = some (.cells #[.int .u64 0, .int .u32 0, .int .u32 0, .int .u32 0, .int .u64 0] 64 (0, 0)) := HQ.out
  have hmq : (u6.drewN nq).heap[u5.heap.size]? = some (.cells #[.int .u64 (G : Int), .int .u32 (Q : Int), .int .u32 (F : Int), .int .u32 (P : Int), .int .u64 (K : Int)] 64 (0, 0)) := HMQ.out
  obtain ⟨m0, m1, m2, m3, m4⟩ := five hmq
  clear t1 t2 hmq
  clear p0 p1 p2 p3 p4 h0 h1 h2 h3 h4
  generalize u6.drewN nq = u7 at *
  obtain ⟨p0, p1, p2, p3, p4⟩ := five hq
  have h0 := frozen_blk (j := 0) hq
  have h1 := frozen_blk (j := 1) hq
  have h2 := frozen_blk (j := 2) hq
  have h3 := frozen_blk (j := 3) hq
  have h4 := frozen_blk (j := 4) hq
  have HQ := hide hq
  clear hq
  go_wp2
  have b0 := blk_set (j := 0) (v := .int .u64 (G : Int)) HQ.out
  have b1 := blk_set (j := 1) (v := .int .u32 (Q : Int)) b0
  have b2 := blk_set (j := 2) (v := .int .u32 (F : Int)) b1
  have b3 := blk_set (j := 3) (v := .int .u32 (P : Int)) b2
  have b4 := blk_set (j := 4) (v := .int .u64 (K : Int)) b3
  have hB := (((((HB6.out.setCell (p := ⟨w.heap.size, 0, none⟩) (Nat.le_refl _) (.int .u64 (G : Int))).setCell (p := ⟨w.heap.size, 1, none⟩) (Nat.le_refl _) (.int .u32 (Q : Int))).setCell (p := ⟨w.heap.size, 2, none⟩) (Nat.le_refl _) (.int .u32 (F : Int))).setCell (p := ⟨w.heap.size, 3, none⟩) (Nat.le_refl _) (.int .u32 (P : Int))).setCell (p := ⟨w.heap.size, 4, none⟩) (Nat.le_refl _) (.int .u64 (K : Int)))
  generalize (((((u7.setCell ⟨w.heap.size, 0, none⟩ (.int .u64 (G : Int))).setCell ⟨w.heap.size, 1, none⟩ (.int .u32 (Q : Int))).setCell ⟨w.heap.size, 2, none⟩ (.int .u32 (F : Int))).setCell ⟨w.heap.size, 3, none⟩ (.int .u32 (P : Int))).setCell ⟨w.heap.size, 4, none⟩ (.int .u64 (K : Int))) = w9 at *
  have b5 : w9.heap[w.heap.size]? = some (.cells #[.int .u64 (G : Int), .int .u32 (Q : Int), .int .u32 (F : Int), .int .u32 (P : Int), .int .u64 (K : Int)] 64 (0, 0)) := b4
  obtain ⟨y0, y1, y2, y3, y4⟩ := five b5
  refine bodyPost_ret (v := .tuple #[.agg #[.int .u64 (G : Int), .int .u32 (Q : Int), .int .u32 (F : Int), .int .u32 (P : Int), .int .u64 (K : Int)], .int .u16 0]) (by simp [results, Try.results23, go_sem, y0, y1, y2, y3, y4]) rfl ?_
  exact ⟨fun m h => (by rw [HO.out] at h; cases h; rfl), fun h => (by rw [HO.out] at h; cases h), hB⟩

theorem rgetm_any {a : Option Addr} {n c : Nat} {zs : List Int} {w : World} (h : Inn w a n c zs) : Calls Try.prog 23 #[.slice a n c] w fun e w' => GetOut (Pg.get zs) w e w' := by
  by_cases hl : 128 ≤ n
  · by_cases hm : (Pg.fld zs).May
    · by_cases he : zs.take 128 = Pg.mt (Pg.fld zs)
      · exact rgetm_ok a n c zs w h hl hm he
      · exact rgetm_ne a n c zs w h hl hm he
    · exact rgetm_no a n c zs w h hl hm
  · exact rgetm_short a n c zs w h (by omega)
end Go.Proofs.Ytfbkcolcdkglbaa
