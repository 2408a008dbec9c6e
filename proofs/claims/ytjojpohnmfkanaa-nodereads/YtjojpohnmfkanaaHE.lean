/- Halves. -/
import Derived.Test.YtjojpohnmfkanaaHD
namespace Go.Proofs.Ytjojpohnmfkanaa
open Go.RowKit
set_option linter.unusedVariables false

theorem three_boxes (w : World) (a b c d e f : Value) : ∃ w1, w1 = ((w.alloc (.cells #[a, b] 25)).alloc (.cells #[c, d] 25)).alloc (.cells #[e, f] 25) ∧ Below w.heap.size w w1 ∧ w1.heap[w.heap.size]? = some (.cells #[a, b] 25 (0, 0)) ∧ w1.heap[w.heap.size + 1]? = some (.cells #[c, d] 25 (0, 0)) ∧ w1.heap[w.heap.size + 1 + 1]? = some (.cells #[e, f] 25 (0, 0)) ∧ w1.heap.size = w.heap.size + 3 := by
  obtain ⟨h1, h2, h3, h4⟩ := pair_boxes w a b c d
  refine ⟨_, rfl, h1.alloc h1.size _, (Below.heap_alloc _ _ _ (by rw [h4]; omega)).trans h2, (Below.heap_alloc _ _ _ (by rw [h4]; omega)).trans h3, ?_, by simp⟩
  have := heap_alloc_new ((w.alloc (.cells #[a, b] 25)).alloc (.cells #[c, d] 25)) (.cells #[e, f] 25)
  rwa [h4] at this
theorem box_new {w2 w3 : World} {t u : Value} {ys : List En} {v : Value} (hb : Below w2.drew.heap.size w2.drew w3) (hc : Cl w2.drew.heap.size w3 v ys) :
    (w3.alloc (.cells #[t, u] 25)).heap[w3.heap.size]? = some (.cells #[t, u] 25 (0, 0)) ∧ w2.heap.size ≤ w3.heap.size ∧ Cl w2.heap.size (w3.alloc (.cells #[t, u] 25)) v ys ∧ Below w2.heap.size w2 (w3.alloc (.cells #[t, u] 25)) :=
  ⟨heap_alloc_new _ _, hb.size, hc.below (below_alloc _ _), ((Below.refl w2.heap.size w2).drew.trans hb).alloc hb.size _⟩
theorem Cl.noNode {B : Nat} {w : World} {v : Value} {ys : List En} (h : Cl B w v ys) {q : Nat} {c : Array Value} (hq : w.heap[q]? = some (.cells c 25 (0, 0))) : v.ownBlock ≠ some q ∧ ∀ y ∈ ys, ¬ y.has q := by
  refine ⟨fun e => ?_, fun y hy hk => ?_⟩
  · obtain ⟨_, _, cur, h1⟩ := h.block e
    rw [hq] at h1
    have := congrArg (fun o : Option Obj => match o with | some (.cells _ t _) => t | _ => 0) h1
    simp at this
  · obtain ⟨cur, h1⟩ := (h.each y hy).u8 hk
    rw [hq] at h1
    have := congrArg (fun o : Option Obj => match o with | some (.cells _ t _) => t | _ => 0) h1
    simp at this
theorem Cl.offNode {B : Nat} {w w' : World} {v : Value} {ys : List En} (h : Cl B w v ys) {q : Nat} {c : Array Value} (hq : w.heap[q]? = some (.cells c 25 (0, 0))) (hs : ∀ k, k ≠ q → w'.heap[k]? = w.heap[k]?) : Cl B w' v ys :=
  h.of_block (fun k hk => hs k (fun e => (h.noNode hq).1 (by rw [hk, e]))) (fun y hy k hk => hs k (fun e => (h.noNode hq).2 y hy (by rw [← e]; exact hk)))
theorem box_old {w2 w3 : World} {t u a b : Value} {ys : List En} {v : Value} (hb : Below (w2.drew.alloc (.cells #[a, b] 25)).heap.size (w2.drew.alloc (.cells #[a, b] 25)) w3) (hc : Cl (w2.drew.alloc (.cells #[a, b] 25)).heap.size w3 v ys) (hx : w3.heap[w2.heap.size]? = some (.cells #[a, b] 25 (0, 0))) :
    ((w3.setCell ⟨w2.heap.size, 0, none⟩ t).setCell ⟨w2.heap.size, 1, none⟩ u).heap[w2.heap.size]? = some (.cells #[t, u] 25 (0, 0)) ∧ w2.heap.size ≤ w2.heap.size ∧ Cl w2.heap.size ((w3.setCell ⟨w2.heap.size, 0, none⟩ t).setCell ⟨w2.heap.size, 1, none⟩ u) v ys ∧ Below w2.heap.size w2 ((w3.setCell ⟨w2.heap.size, 0, none⟩ t).setCell ⟨w2.heap.size, 1, none⟩ u) := by
  have h1 : Below w2.heap.size w2 (w2.drew.alloc (.cells #[a, b] 25)) := ((Below.refl _ _).drew).alloc (Nat.le_refl _) _
  exact ⟨two_set hx, Nat.le_refl _, (hc.mono (by simp)).offNode hx (fun k hk => two_other hk), (((h1.trans (hb.mono h1.size)).setCell (p := ⟨w2.heap.size, 0, none⟩) (Nat.le_refl _) _).setCell (p := ⟨w2.heap.size, 1, none⟩) (Nat.le_refl _) _)⟩
theorem wts_take (xs : List En) (m : Nat) : wts (ers (xs.take m)) ≤ wts (ers xs) := by
  have e : ers xs = ers (xs.take m) ++ ers (xs.drop m) := by rw [← ers_app, List.take_append_drop]
  rw [e, wts_app]; omega
theorem wts_drop (xs : List En) (m : Nat) : wts (ers (xs.drop m)) ≤ wts (ers xs) := by
  have e : ers xs = ers (xs.take m) ++ ers (xs.drop m) := by rw [← ers_app, List.take_append_drop]
  rw [e, wts_app]; omega
set_option maxHeartbeats 6400000 in
set_option maxRecDepth 1000000 in
theorem halves_leaf (a : Option Addr) (n c : Nat) (xs : List En) (w : World) (h : Ens w a n c xs) (hn : n ≤ 1000000) (hw : wts (ers xs) ≤ 1000000) (h2 : 2 ≤ n) :
    Calls Try.prog 24 #[.agg #[.bool true, .slice a n c]] w fun e w' => ∃ (m : Nat) (va vb vk : Value) (ys zs : List En) (key : List Int), e = .returned (.tuple #[.agg #[.bool true, va], .agg #[.bool true, vb], vk]) ∧ Mid true (ers xs) m ∧ ers ys = (ers xs).take m ∧ ers zs = (ers xs).drop m ∧ (∃ x, xs[m]? = some x ∧ key = x.e.key) ∧ Cl w.heap.size w' va ys ∧ Cl w.heap.size w' vb zs ∧ Own w' vk key ∧ Below w.heap.size w w' := by
  obtain ⟨w1, hw1, hB, hb0, hb1, hb2, hs1⟩ := three_boxes w (.bool true) (.slice a n c) (.bool false) (.slice none 0 0) (.bool false) (.slice none 0 0)
  obtain ⟨B0, O0, rfl, hB0⟩ : ∃ b o, a = some ⟨b, o, none⟩ ∧ b < w.heap.size := by
    rcases h.row with h0 | ⟨b, o, e, hlt, _⟩
    · have := h.len; rw [h0] at this; simp at this; omega
    · exact ⟨b, o, e, hlt⟩
  have HM := hide (middle_any true _ n c xs w1 (h.below hB) hn hw h2)
  have HE := hide (h.below hB)
  have HW := hide hw
  have HB := hide hB
  have HB0 := hide hb0
  have HB1 := hide hb1
  have HB2 := hide hb2
  have HS1 := hide hs1
  have hcap := h.cap
  have hmax := h.max
  obtain ⟨c0, c1, -⟩ := cells_two hb0
  have d2 : ¬ (n : Int) < 2 := by omega
  clear h hw hB hb0 hb1 hb2 hs1
  rw [hw1] at c0 c1
  go_enter Try.func24, Try.ntmps24
  go_wp2_with fail
  rw [← hw1] at *
  clear hw1
  refine HM.out.mono ?_
  rintro e w2 ⟨m, rfl, hmid, hb⟩
  have HMid := hide hmid
  have hm1 : 1 ≤ m := hmid.one
  have hm2 : m + 1 ≤ n := by have := hmid.some; rwa [ers_len, HE.out.len] at this
  have HX := hide hb
  have HB02 := hide ((hb.block _ (lt_of_block HB0.out)).trans HB0.out)
  obtain ⟨e0, e1, -⟩ := cells_two HB02.out
  have HE2 := hide (HE.out.below hb)
  clear hmid hb c0 c1
  have HCa := hide (fun W (hW : Below w2.heap.size w2 W) => centries_any _ m c (xs.take m) W ((HE2.out.below hW).take m (by omega)) (by omega) (Nat.le_trans (wts_take xs m) HW.out))
  have HCb := hide (fun W (hW : Below w2.heap.size w2 W) => centries_any _ (n - m) (c - m) (xs.drop m) W ((HE2.out.below hW).drop m (by omega)) (by omega) (Nat.le_trans (wts_drop xs m) HW.out))
  have HSt : Hid (∀ W, Below w2.heap.size w2 W → W.cell? ⟨w.heap.size, 0, none⟩ = some (.bool true) ∧ W.cell? ⟨w.heap.size, 1, none⟩ = some (.slice (some ⟨B0, O0, none⟩) n c)) := hide fun W hW => by
    obtain ⟨u, v, _⟩ := cells_two ((hW.block _ (lt_of_block HB02.out)).trans HB02.out)
    exact ⟨u, v⟩
  have hI0 : (0 : Int) ≤ (m : Int) := by omega
  have hI1 : (m : Int) ≤ (c : Int) := by omega
  have hI2 : (m : Int) ≤ (n : Int) := by omega
  have nn0 := World.new_ne w2 _ e0
  have nn1 := World.new_ne w2 _ e1
  go_wp2
  go_region_held3 (fun W => W.cell? ⟨w.heap.size, 0, none⟩ = some (.bool true) ∧ W.cell? ⟨w.heap.size, 1, none⟩ = some (.slice (some ⟨B0, O0, none⟩) n c)) (go_keep) ((first | (go_at_call 63; refine (HCa.out _ (by first | exact (Below.refl _ _).drew | exact ((Below.refl _ _).drew).alloc (Nat.le_refl _) _)).mono ?_; intro r' w3 hh; obtain ⟨va, ys, rfl, her, hcl, hso, hb3⟩ := hh; obtain ⟨a3, c3, rfl, -⟩ := hcl.ens; clear e0 e1; obtain ⟨e0, e1⟩ := HSt.out w3 (by first | exact ((Below.refl _ _).drew).trans hb3 | exact (((Below.refl _ _).drew).alloc (Nat.le_refl _) _).trans (hb3.mono (by simp))); have HEr := hide her; have HCl := hide hcl; have HB3 := hide hb3; (first | (have hbx : w3.heap[w2.heap.size]? = some (.cells #[.bool false, .slice none 0 0] 25 (0, 0)) := (hb3.block w2.heap.size (by simp)).trans (heap_alloc_new w2.drew _); have x0 := (cells_two hbx).1; have x1 := (cells_two hbx).2.1; have x2 := frozen_blk (j := 0) hbx; have x3 := frozen_blk (j := 1) hbx; have HBx := hide hbx; clear hbx) | skip); clear her hcl hso hb3)))
  · obtain ⟨hq, hqg, hcq, hbq⟩ := box_new (t := .bool true) (u := .slice a3 ys.length c3) HB3.out HCl.out
    obtain ⟨q, hqe⟩ : ∃ q, q = w3.heap.size := ⟨_, rfl⟩
    rw [← hqe] at hq hqg ⊢
    clear e0 e1
    generalize w3.alloc (.cells #[.bool true, .slice a3 ys.length c3] 25) = W3 at *
    clear HB3 HCl hqe
    have HQ := hide hq
    have HCq := hide hcq
    have HBq := hide hbq
    have HQg := hide hqg
    obtain ⟨e0, e1⟩ := HSt.out W3 hbq
    have HSt3 : Hid (∀ W, Below W3.heap.size W3 W → W.cell? ⟨w.heap.size, 0, none⟩ = some (.bool true) ∧ W.cell? ⟨w.heap.size, 1, none⟩ = some (.slice (some ⟨B0, O0, none⟩) n c)) := hide fun W hW => HSt.out W (HBq.out.trans (hW.mono HBq.out.size))
    have HCb3 := hide (fun W (hW : Below W3.heap.size W3 W) => HCb.out W (HBq.out.trans (hW.mono HBq.out.size)))
    have hI3 : ¬ c = m := by omega
    have mm0 := World.new_ne W3 _ e0
    have mm1 := World.new_ne W3 _ e1
    clear hq hcq hbq hqg nn0 nn1
    go_wp2
    go_region_held3 (fun W => W.cell? ⟨w.heap.size, 0, none⟩ = some (.bool true) ∧ W.cell? ⟨w.heap.size, 1, none⟩ = some (.slice (some ⟨B0, O0, none⟩) n c)) (go_keep) ((first | (go_at_call 63; refine (HCb3.out _ (by first | exact (Below.refl _ _).drew | exact ((Below.refl _ _).drew).alloc (Nat.le_refl _) _)).mono ?_; intro r' w4 hh; obtain ⟨vb, zs, rfl, hfr, hdl, hso, hb4⟩ := hh; obtain ⟨a4, c4, rfl, -⟩ := hdl.ens; clear e0 e1; obtain ⟨e0, e1⟩ := HSt3.out w4 (by first | exact ((Below.refl _ _).drew).trans hb4 | exact (((Below.refl _ _).drew).alloc (Nat.le_refl _) _).trans (hb4.mono (by simp))); have HFr := hide hfr; have HDl := hide hdl; have HB4 := hide hb4; (first | (have hbx : w4.heap[W3.heap.size]? = some (.cells #[.bool false, .slice none 0 0] 25 (0, 0)) := (hb4.block W3.heap.size (by simp)).trans (heap_alloc_new W3.drew _); have x0 := (cells_two hbx).1; have x1 := (cells_two hbx).2.1; have x2 := frozen_blk (j := 0) hbx; have x3 := frozen_blk (j := 1) hbx; have HBx := hide hbx; clear hbx) | skip); clear hfr hdl hso hb4)))
    · obtain ⟨hr, hrg, hcr, hbr⟩ := box_new (t := .bool true) (u := .slice a4 zs.length c4) HB4.out HDl.out
      obtain ⟨r, hre⟩ : ∃ r, r = w4.heap.size := ⟨_, rfl⟩
      rw [← hre] at hr hrg ⊢
      clear e0 e1
      generalize w4.alloc (.cells #[.bool true, .slice a4 zs.length c4] 25) = W4 at *
      clear HB4 HDl hre
      have HR := hide hr
      have HCr := hide hcr
      have HBr := hide hbr
      have HRg := hide hrg
      obtain ⟨e0, e1⟩ := HSt3.out W4 hbr
      obtain ⟨g0, g1, -⟩ := cells_two hr
      have HQ4 := hide ((hbr.block _ (lt_of_block HQ.out)).trans HQ.out)
      obtain ⟨f0, f1, -⟩ := cells_two HQ4.out
      have hbw := HBq.out.trans (hbr.mono HBq.out.size)
      obtain ⟨x, hx, hok⟩ := (HE2.out.below hbw).at (show m < n by omega)
      obtain ⟨bx, ox, hbo, hbs, k0, k1, k2, k3⟩ := (HE2.out.below hbw).cells hx
      cases hbo
      have hkl := mem_wts hx
      have hw2s : w.heap.size + 3 ≤ w2.heap.size := by have := HX.out.size; have := HS1.out; omega
      have s1 : q ≠ w.heap.size + 1 := by have := HQg.out; omega
      have s2 : q ≠ w.heap.size + 1 + 1 := by have := HQg.out; omega
      have hW3 : w2.heap.size ≤ W3.heap.size := HBq.out.size
      have s3 : r ≠ w.heap.size + 1 := by have := HRg.out; omega
      have s4 : r ≠ w.heap.size + 1 + 1 := by have := HRg.out; omega
      have s5 : B0 ≠ w.heap.size + 1 := by omega
      have s6 : B0 ≠ w.heap.size + 1 + 1 := by omega
      have s1' := Ne.symm s1
      have s2' := Ne.symm s2
      have s3' := Ne.symm s3
      have s4' := Ne.symm s4
      have s5' := Ne.symm s5
      have s6' := Ne.symm s6
      have s7 : w.heap.size + 1 + 1 ≠ w.heap.size := by omega
      have s8 : w.heap.size + 1 ≠ w.heap.size := by omega
      have HW2s := hide hw2s
      have HBall := hide (HX.out.trans (hbw.mono HX.out.size))
      have HSk : Hid (∀ W, Below W4.heap.size W4 W → W.cell? ⟨q, 0, none⟩ = some (.bool true) ∧ W.cell? ⟨q, 1, none⟩ = some (.slice a3 ys.length c3) ∧ W.cell? ⟨r, 0, none⟩ = some (.bool true) ∧ W.cell? ⟨r, 1, none⟩ = some (.slice a4 zs.length c4) ∧ W.cell? ⟨w.heap.size, 1, none⟩ = some (.slice (some ⟨B0, O0, none⟩) n c) ∧ W.cell? ⟨B0, O0 + m * 4, none⟩ = some (.slice x.ka x.e.key.length x.kc) ∧ W.heap[w.heap.size + 1]? = some (.cells #[.bool false, .slice none 0 0] 25 (0, 0)) ∧ W.heap[w.heap.size + 1 + 1]? = some (.cells #[.bool false, .slice none 0 0] 25 (0, 0))) := hide fun W hW =>
        ⟨(cells_two ((hW.block _ (lt_of_block HQ4.out)).trans HQ4.out)).1, (cells_two ((hW.block _ (lt_of_block HQ4.out)).trans HQ4.out)).2.1, (cells_two ((hW.block _ (lt_of_block HR.out)).trans HR.out)).1, (cells_two ((hW.block _ (lt_of_block HR.out)).trans HR.out)).2.1, (hW.cell (p := ⟨w.heap.size, 1, none⟩) (World.block_lt_of_cell? W4 _ e1)).trans e1, (hW.cell (p := ⟨B0, O0 + m * 4, none⟩) (World.block_lt_of_cell? W4 _ k0)).trans k0, (hW.block _ (by have := hbw.size; omega)).trans ((HBall.out.block _ (lt_of_block HB1.out)).trans HB1.out), (hW.block _ (by have := hbw.size; omega)).trans ((HBall.out.block _ (lt_of_block HB2.out)).trans HB2.out)⟩
      have HCk := hide (clone_any x.ka x.e.key.length x.kc x.e.key W4.drew (hok.key.below (Below.refl _ _).drew) (by have := HW.out; omega))
      have HXm := hide hx
      have HK8 := hide hok.key.byts
      have HBw := hide hbw
      have hin : (m : Int) < (n : Int) := by omega
      clear hr hcr hbr hrg hbw hx hok hkl hW3 hw2s k1 k2 k3 mm0 mm1
      go_wp2
      go_region_held3 (fun W => W.cell? ⟨q, 0, none⟩ = some (.bool true) ∧ W.cell? ⟨q, 1, none⟩ = some (.slice a3 ys.length c3) ∧ W.cell? ⟨r, 0, none⟩ = some (.bool true) ∧ W.cell? ⟨r, 1, none⟩ = some (.slice a4 zs.length c4) ∧ W.cell? ⟨w.heap.size, 1, none⟩ = some (.slice (some ⟨B0, O0, none⟩) n c) ∧ W.cell? ⟨B0, O0 + m * 4, none⟩ = some (.slice x.ka x.e.key.length x.kc)) (go_keep) ((first | (go_at_call 64; refine HCk.out.mono ?_; intro r' w5 hh; obtain ⟨vk, rfl, hmk⟩ := hh; obtain ⟨ak, nk, ck, rfl, -⟩ := hmk.1.shape2; clear e0 e1 g0 g1 f0 f1 k0; obtain ⟨f0, f1, g0, g1, e1, k0, z1, z2⟩ := HSk.out w5 ((Below.refl _ _).drew.trans hmk.2.2); have z3 := (cells_two z1).1; have z4 := (cells_two z1).2.1; have z5 := frozen_blk (j := 0) z1; have z6 := frozen_blk (j := 1) z1; have z7 := (cells_two z2).1; have z8 := (cells_two z2).2.1; have z9 := frozen_blk (j := 0) z2; have z10 := frozen_blk (j := 1) z2; have HZ1 := hide z1; have HZ2 := hide z2; have HMk := hide hmk; clear z1 z2 hmk)))
      go_wp2
      have hA := two_set (u := .bool true) (v := .slice a3 ys.length c3) HZ1.out
      have hA2 : ((w5.setCell ⟨w.heap.size + 1, 0, none⟩ (.bool true)).setCell ⟨w.heap.size + 1, 1, none⟩ (.slice a3 ys.length c3)).heap[w.heap.size + 1 + 1]? = some (.cells #[.bool false, .slice none 0 0] 25 (0, 0)) := (two_other (by omega)).trans HZ2.out
      have hC := two_set (u := .bool true) (v := .slice a4 zs.length c4) hA2
      have hAf := (two_other (u := .bool true) (v := .slice a4 zs.length c4) (i := 0) (j := 1) (show w.heap.size + 1 ≠ w.heap.size + 1 + 1 by omega)).trans hA
      obtain ⟨y0, y1, -⟩ := cells_two hAf
      obtain ⟨y2, y3, -⟩ := cells_two hC
      have HFin : Hid (∀ k, w.heap.size + 3 ≤ k → ((((w5.setCell ⟨w.heap.size + 1, 0, none⟩ (.bool true)).setCell ⟨w.heap.size + 1, 1, none⟩ (.slice a3 ys.length c3)).setCell ⟨w.heap.size + 1 + 1, 0, none⟩ (.bool true)).setCell ⟨w.heap.size + 1 + 1, 1, none⟩ (.slice a4 zs.length c4)).heap[k]? = w5.heap[k]?) := hide fun k hk => (two_other (by omega)).trans (two_other (by omega))
      have hb45 : Below W4.heap.size W4 w5 := (Below.refl _ _).drew.trans HMk.out.2.2
      have HB5 : Hid (Below w.heap.size w w5) := hide ((HB.out.trans (HBall.out.mono HB.out.size)).trans (hb45.mono (by have := HBall.out.size; have := HB.out.size; omega)))
      have HBf : Hid (Below w.heap.size w ((((w5.setCell ⟨w.heap.size + 1, 0, none⟩ (.bool true)).setCell ⟨w.heap.size + 1, 1, none⟩ (.slice a3 ys.length c3)).setCell ⟨w.heap.size + 1 + 1, 0, none⟩ (.bool true)).setCell ⟨w.heap.size + 1 + 1, 1, none⟩ (.slice a4 zs.length c4))) := hide ((((HB5.out.setCell (p := ⟨w.heap.size + 1, 0, none⟩) (show w.heap.size ≤ w.heap.size + 1 by omega) _).setCell (p := ⟨w.heap.size + 1, 1, none⟩) (show w.heap.size ≤ w.heap.size + 1 by omega) _).setCell (p := ⟨w.heap.size + 1 + 1, 0, none⟩) (show w.heap.size ≤ w.heap.size + 1 + 1 by omega) _).setCell (p := ⟨w.heap.size + 1 + 1, 1, none⟩) (show w.heap.size ≤ w.heap.size + 1 + 1 by omega) _)
      generalize (((w5.setCell ⟨w.heap.size + 1, 0, none⟩ (.bool true)).setCell ⟨w.heap.size + 1, 1, none⟩ (.slice a3 ys.length c3)).setCell ⟨w.heap.size + 1 + 1, 0, none⟩ (.bool true)).setCell ⟨w.heap.size + 1 + 1, 1, none⟩ (.slice a4 zs.length c4) = WF at *
      refine bodyPost_ret (v := .tuple #[.agg #[.bool true, .slice a3 ys.length c3], .agg #[.bool true, .slice a4 zs.length c4], .slice ak nk ck]) ?_ rfl ?_
      · simp [results, Try.results24, go_sem, y0, y1, y2, y3]
      · have hw4 : w2.heap.size ≤ W4.heap.size := HBw.out.size
        refine ⟨m, _, _, _, ys, zs, x.e.key, rfl, HMid.out, by rw [HEr.out, ers_take], by rw [HFr.out, ers_drop], ⟨x, HXm.out, rfl⟩, ?_, ?_, ?_, HBf.out⟩
        · exact (((HCq.out.below HBr.out).below hb45).other (fun k hk => HFin.out k (by have := HW2s.out; omega))).mono (by have := HW2s.out; omega)
        · exact ((HCr.out.below hb45).other (fun k hk => HFin.out k (by have := HW2s.out; have := HBq.out.size; omega))).mono (by have := HW2s.out; have := HBq.out.size; omega)
        · exact HMk.out.1.of_block fun k hk => HFin.out k (by have h1 := HMk.out.2.1 k hk; have := HW2s.out; simp at h1; omega)
    · obtain ⟨hr, hrg, hcr, hbr⟩ := box_old (t := .bool true) (u := .slice a4 zs.length c4) HB4.out HDl.out HBx.out
      clear x0 x1 x2 x3 e0 e1
      generalize (w4.setCell ⟨W3.heap.size, 0, none⟩ (.bool true)).setCell ⟨W3.heap.size, 1, none⟩ (.slice a4 zs.length c4) = W4 at *
      obtain ⟨r, hre⟩ : ∃ r, r = W3.heap.size := ⟨_, rfl⟩
      rw [← hre]
      rw [← hre] at hr
      have hrg : W3.heap.size ≤ r := by omega
      clear HB4 HDl hre HBx
      have HR := hide hr
      have HCr := hide hcr
      have HBr := hide hbr
      have HRg := hide hrg
      obtain ⟨e0, e1⟩ := HSt3.out W4 hbr
      obtain ⟨g0, g1, -⟩ := cells_two hr
      have HQ4 := hide ((hbr.block _ (lt_of_block HQ.out)).trans HQ.out)
      obtain ⟨f0, f1, -⟩ := cells_two HQ4.out
      have hbw := HBq.out.trans (hbr.mono HBq.out.size)
      obtain ⟨x, hx, hok⟩ := (HE2.out.below hbw).at (show m < n by omega)
      obtain ⟨bx, ox, hbo, hbs, k0, k1, k2, k3⟩ := (HE2.out.below hbw).cells hx
      cases hbo
      have hkl := mem_wts hx
      have hw2s : w.heap.size + 3 ≤ w2.heap.size := by have := HX.out.size; have := HS1.out; omega
      have s1 : q ≠ w.heap.size + 1 := by have := HQg.out; omega
      have s2 : q ≠ w.heap.size + 1 + 1 := by have := HQg.out; omega
      have hW3 : w2.heap.size ≤ W3.heap.size := HBq.out.size
      have s3 : r ≠ w.heap.size + 1 := by have := HRg.out; omega
      have s4 : r ≠ w.heap.size + 1 + 1 := by have := HRg.out; omega
      have s5 : B0 ≠ w.heap.size + 1 := by omega
      have s6 : B0 ≠ w.heap.size + 1 + 1 := by omega
      have s1' := Ne.symm s1
      have s2' := Ne.symm s2
      have s3' := Ne.symm s3
      have s4' := Ne.symm s4
      have s5' := Ne.symm s5
      have s6' := Ne.symm s6
      have s7 : w.heap.size + 1 + 1 ≠ w.heap.size := by omega
      have s8 : w.heap.size + 1 ≠ w.heap.size := by omega
      have HW2s := hide hw2s
      have HBall := hide (HX.out.trans (hbw.mono HX.out.size))
      have HSk : Hid (∀ W, Below W4.heap.size W4 W → W.cell? ⟨q, 0, none⟩ = some (.bool true) ∧ W.cell? ⟨q, 1, none⟩ = some (.slice a3 ys.length c3) ∧ W.cell? ⟨r, 0, none⟩ = some (.bool true) ∧ W.cell? ⟨r, 1, none⟩ = some (.slice a4 zs.length c4) ∧ W.cell? ⟨w.heap.size, 1, none⟩ = some (.slice (some ⟨B0, O0, none⟩) n c) ∧ W.cell? ⟨B0, O0 + m * 4, none⟩ = some (.slice x.ka x.e.key.length x.kc) ∧ W.heap[w.heap.size + 1]? = some (.cells #[.bool false, .slice none 0 0] 25 (0, 0)) ∧ W.heap[w.heap.size + 1 + 1]? = some (.cells #[.bool false, .slice none 0 0] 25 (0, 0))) := hide fun W hW =>
        ⟨(cells_two ((hW.block _ (lt_of_block HQ4.out)).trans HQ4.out)).1, (cells_two ((hW.block _ (lt_of_block HQ4.out)).trans HQ4.out)).2.1, (cells_two ((hW.block _ (lt_of_block HR.out)).trans HR.out)).1, (cells_two ((hW.block _ (lt_of_block HR.out)).trans HR.out)).2.1, (hW.cell (p := ⟨w.heap.size, 1, none⟩) (World.block_lt_of_cell? W4 _ e1)).trans e1, (hW.cell (p := ⟨B0, O0 + m * 4, none⟩) (World.block_lt_of_cell? W4 _ k0)).trans k0, (hW.block _ (by have := hbw.size; omega)).trans ((HBall.out.block _ (lt_of_block HB1.out)).trans HB1.out), (hW.block _ (by have := hbw.size; omega)).trans ((HBall.out.block _ (lt_of_block HB2.out)).trans HB2.out)⟩
      have HCk := hide (clone_any x.ka x.e.key.length x.kc x.e.key W4.drew (hok.key.below (Below.refl _ _).drew) (by have := HW.out; omega))
      have HXm := hide hx
      have HK8 := hide hok.key.byts
      have HBw := hide hbw
      have hin : (m : Int) < (n : Int) := by omega
      clear hr hcr hbr hrg hbw hx hok hkl hW3 hw2s k1 k2 k3 mm0 mm1
      go_wp2
      go_region_held3 (fun W => W.cell? ⟨q, 0, none⟩ = some (.bool true) ∧ W.cell? ⟨q, 1, none⟩ = some (.slice a3 ys.length c3) ∧ W.cell? ⟨r, 0, none⟩ = some (.bool true) ∧ W.cell? ⟨r, 1, none⟩ = some (.slice a4 zs.length c4) ∧ W.cell? ⟨w.heap.size, 1, none⟩ = some (.slice (some ⟨B0, O0, none⟩) n c) ∧ W.cell? ⟨B0, O0 + m * 4, none⟩ = some (.slice x.ka x.e.key.length x.kc)) (go_keep) ((first | (go_at_call 64; refine HCk.out.mono ?_; intro r' w5 hh; obtain ⟨vk, rfl, hmk⟩ := hh; obtain ⟨ak, nk, ck, rfl, -⟩ := hmk.1.shape2; clear e0 e1 g0 g1 f0 f1 k0; obtain ⟨f0, f1, g0, g1, e1, k0, z1, z2⟩ := HSk.out w5 ((Below.refl _ _).drew.trans hmk.2.2); have z3 := (cells_two z1).1; have z4 := (cells_two z1).2.1; have z5 := frozen_blk (j := 0) z1; have z6 := frozen_blk (j := 1) z1; have z7 := (cells_two z2).1; have z8 := (cells_two z2).2.1; have z9 := frozen_blk (j := 0) z2; have z10 := frozen_blk (j := 1) z2; have HZ1 := hide z1; have HZ2 := hide z2; have HMk := hide hmk; clear z1 z2 hmk)))
      go_wp2
      have hA := two_set (u := .bool true) (v := .slice a3 ys.length c3) HZ1.out
      have hA2 : ((w5.setCell ⟨w.heap.size + 1, 0, none⟩ (.bool true)).setCell ⟨w.heap.size + 1, 1, none⟩ (.slice a3 ys.length c3)).heap[w.heap.size + 1 + 1]? = some (.cells #[.bool false, .slice none 0 0] 25 (0, 0)) := (two_other (by omega)).trans HZ2.out
      have hC := two_set (u := .bool true) (v := .slice a4 zs.length c4) hA2
      have hAf := (two_other (u := .bool true) (v := .slice a4 zs.length c4) (i := 0) (j := 1) (show w.heap.size + 1 ≠ w.heap.size + 1 + 1 by omega)).trans hA
      obtain ⟨y0, y1, -⟩ := cells_two hAf
      obtain ⟨y2, y3, -⟩ := cells_two hC
      have HFin : Hid (∀ k, w.heap.size + 3 ≤ k → ((((w5.setCell ⟨w.heap.size + 1, 0, none⟩ (.bool true)).setCell ⟨w.heap.size + 1, 1, none⟩ (.slice a3 ys.length c3)).setCell ⟨w.heap.size + 1 + 1, 0, none⟩ (.bool true)).setCell ⟨w.heap.size + 1 + 1, 1, none⟩ (.slice a4 zs.length c4)).heap[k]? = w5.heap[k]?) := hide fun k hk => (two_other (by omega)).trans (two_other (by omega))
      have hb45 : Below W4.heap.size W4 w5 := (Below.refl _ _).drew.trans HMk.out.2.2
      have HB5 : Hid (Below w.heap.size w w5) := hide ((HB.out.trans (HBall.out.mono HB.out.size)).trans (hb45.mono (by have := HBall.out.size; have := HB.out.size; omega)))
      have HBf : Hid (Below w.heap.size w ((((w5.setCell ⟨w.heap.size + 1, 0, none⟩ (.bool true)).setCell ⟨w.heap.size + 1, 1, none⟩ (.slice a3 ys.length c3)).setCell ⟨w.heap.size + 1 + 1, 0, none⟩ (.bool true)).setCell ⟨w.heap.size + 1 + 1, 1, none⟩ (.slice a4 zs.length c4))) := hide ((((HB5.out.setCell (p := ⟨w.heap.size + 1, 0, none⟩) (show w.heap.size ≤ w.heap.size + 1 by omega) _).setCell (p := ⟨w.heap.size + 1, 1, none⟩) (show w.heap.size ≤ w.heap.size + 1 by omega) _).setCell (p := ⟨w.heap.size + 1 + 1, 0, none⟩) (show w.heap.size ≤ w.heap.size + 1 + 1 by omega) _).setCell (p := ⟨w.heap.size + 1 + 1, 1, none⟩) (show w.heap.size ≤ w.heap.size + 1 + 1 by omega) _)
      generalize (((w5.setCell ⟨w.heap.size + 1, 0, none⟩ (.bool true)).setCell ⟨w.heap.size + 1, 1, none⟩ (.slice a3 ys.length c3)).setCell ⟨w.heap.size + 1 + 1, 0, none⟩ (.bool true)).setCell ⟨w.heap.size + 1 + 1, 1, none⟩ (.slice a4 zs.length c4) = WF at *
      refine bodyPost_ret (v := .tuple #[.agg #[.bool true, .slice a3 ys.length c3], .agg #[.bool true, .slice a4 zs.length c4], .slice ak nk ck]) ?_ rfl ?_
      · simp [results, Try.results24, go_sem, y0, y1, y2, y3]
      · have hw4 : w2.heap.size ≤ W4.heap.size := HBw.out.size
        refine ⟨m, _, _, _, ys, zs, x.e.key, rfl, HMid.out, by rw [HEr.out, ers_take], by rw [HFr.out, ers_drop], ⟨x, HXm.out, rfl⟩, ?_, ?_, ?_, HBf.out⟩
        · exact (((HCq.out.below HBr.out).below hb45).other (fun k hk => HFin.out k (by have := HW2s.out; omega))).mono (by have := HW2s.out; omega)
        · exact ((HCr.out.below hb45).other (fun k hk => HFin.out k (by have := HW2s.out; have := HBq.out.size; omega))).mono (by have := HW2s.out; have := HBq.out.size; omega)
        · exact HMk.out.1.of_block fun k hk => HFin.out k (by have h1 := HMk.out.2.1 k hk; have := HW2s.out; simp at h1; omega)
  · obtain ⟨hq, hqg, hcq, hbq⟩ := box_old (t := .bool true) (u := .slice a3 ys.length c3) HB3.out HCl.out HBx.out
    clear x0 x1 x2 x3 e0 e1
    generalize (w3.setCell ⟨w2.heap.size, 0, none⟩ (.bool true)).setCell ⟨w2.heap.size, 1, none⟩ (.slice a3 ys.length c3) = W3 at *
    obtain ⟨q, hqe⟩ : ∃ q, q = w2.heap.size := ⟨_, rfl⟩
    rw [← hqe]
    rw [← hqe] at hq
    have hqg : w2.heap.size ≤ q := by omega
    clear HB3 HCl hqe HBx
    have HQ := hide hq
    have HCq := hide hcq
    have HBq := hide hbq
    have HQg := hide hqg
    obtain ⟨e0, e1⟩ := HSt.out W3 hbq
    have HSt3 : Hid (∀ W, Below W3.heap.size W3 W → W.cell? ⟨w.heap.size, 0, none⟩ = some (.bool true) ∧ W.cell? ⟨w.heap.size, 1, none⟩ = some (.slice (some ⟨B0, O0, none⟩) n c)) := hide fun W hW => HSt.out W (HBq.out.trans (hW.mono HBq.out.size))
    have HCb3 := hide (fun W (hW : Below W3.heap.size W3 W) => HCb.out W (HBq.out.trans (hW.mono HBq.out.size)))
    have hI3 : ¬ c = m := by omega
    have mm0 := World.new_ne W3 _ e0
    have mm1 := World.new_ne W3 _ e1
    clear hq hcq hbq hqg nn0 nn1
    go_wp2
    go_region_held3 (fun W => W.cell? ⟨w.heap.size, 0, none⟩ = some (.bool true) ∧ W.cell? ⟨w.heap.size, 1, none⟩ = some (.slice (some ⟨B0, O0, none⟩) n c)) (go_keep) ((first | (go_at_call 63; refine (HCb3.out _ (by first | exact (Below.refl _ _).drew | exact ((Below.refl _ _).drew).alloc (Nat.le_refl _) _)).mono ?_; intro r' w4 hh; obtain ⟨vb, zs, rfl, hfr, hdl, hso, hb4⟩ := hh; obtain ⟨a4, c4, rfl, -⟩ := hdl.ens; clear e0 e1; obtain ⟨e0, e1⟩ := HSt3.out w4 (by first | exact ((Below.refl _ _).drew).trans hb4 | exact (((Below.refl _ _).drew).alloc (Nat.le_refl _) _).trans (hb4.mono (by simp))); have HFr := hide hfr; have HDl := hide hdl; have HB4 := hide hb4; (first | (have hbx : w4.heap[W3.heap.size]? = some (.cells #[.bool false, .slice none 0 0] 25 (0, 0)) := (hb4.block W3.heap.size (by simp)).trans (heap_alloc_new W3.drew _); have x0 := (cells_two hbx).1; have x1 := (cells_two hbx).2.1; have x2 := frozen_blk (j := 0) hbx; have x3 := frozen_blk (j := 1) hbx; have HBx := hide hbx; clear hbx) | skip); clear hfr hdl hso hb4)))
    · obtain ⟨hr, hrg, hcr, hbr⟩ := box_new (t := .bool true) (u := .slice a4 zs.length c4) HB4.out HDl.out
      obtain ⟨r, hre⟩ : ∃ r, r = w4.heap.size := ⟨_, rfl⟩
      rw [← hre] at hr hrg ⊢
      clear e0 e1
      generalize w4.alloc (.cells #[.bool true, .slice a4 zs.length c4] 25) = W4 at *
      clear HB4 HDl hre
      have HR := hide hr
      have HCr := hide hcr
      have HBr := hide hbr
      have HRg := hide hrg
      obtain ⟨e0, e1⟩ := HSt3.out W4 hbr
      obtain ⟨g0, g1, -⟩ := cells_two hr
      have HQ4 := hide ((hbr.block _ (lt_of_block HQ.out)).trans HQ.out)
      obtain ⟨f0, f1, -⟩ := cells_two HQ4.out
      have hbw := HBq.out.trans (hbr.mono HBq.out.size)
      obtain ⟨x, hx, hok⟩ := (HE2.out.below hbw).at (show m < n by omega)
      obtain ⟨bx, ox, hbo, hbs, k0, k1, k2, k3⟩ := (HE2.out.below hbw).cells hx
      cases hbo
      have hkl := mem_wts hx
      have hw2s : w.heap.size + 3 ≤ w2.heap.size := by have := HX.out.size; have := HS1.out; omega
      have s1 : q ≠ w.heap.size + 1 := by have := HQg.out; omega
      have s2 : q ≠ w.heap.size + 1 + 1 := by have := HQg.out; omega
      have hW3 : w2.heap.size ≤ W3.heap.size := HBq.out.size
      have s3 : r ≠ w.heap.size + 1 := by have := HRg.out; omega
      have s4 : r ≠ w.heap.size + 1 + 1 := by have := HRg.out; omega
      have s5 : B0 ≠ w.heap.size + 1 := by omega
      have s6 : B0 ≠ w.heap.size + 1 + 1 := by omega
      have s1' := Ne.symm s1
      have s2' := Ne.symm s2
      have s3' := Ne.symm s3
      have s4' := Ne.symm s4
      have s5' := Ne.symm s5
      have s6' := Ne.symm s6
      have s7 : w.heap.size + 1 + 1 ≠ w.heap.size := by omega
      have s8 : w.heap.size + 1 ≠ w.heap.size := by omega
      have HW2s := hide hw2s
      have HBall := hide (HX.out.trans (hbw.mono HX.out.size))
      have HSk : Hid (∀ W, Below W4.heap.size W4 W → W.cell? ⟨q, 0, none⟩ = some (.bool true) ∧ W.cell? ⟨q, 1, none⟩ = some (.slice a3 ys.length c3) ∧ W.cell? ⟨r, 0, none⟩ = some (.bool true) ∧ W.cell? ⟨r, 1, none⟩ = some (.slice a4 zs.length c4) ∧ W.cell? ⟨w.heap.size, 1, none⟩ = some (.slice (some ⟨B0, O0, none⟩) n c) ∧ W.cell? ⟨B0, O0 + m * 4, none⟩ = some (.slice x.ka x.e.key.length x.kc) ∧ W.heap[w.heap.size + 1]? = some (.cells #[.bool false, .slice none 0 0] 25 (0, 0)) ∧ W.heap[w.heap.size + 1 + 1]? = some (.cells #[.bool false, .slice none 0 0] 25 (0, 0))) := hide fun W hW =>
        ⟨(cells_two ((hW.block _ (lt_of_block HQ4.out)).trans HQ4.out)).1, (cells_two ((hW.block _ (lt_of_block HQ4.out)).trans HQ4.out)).2.1, (cells_two ((hW.block _ (lt_of_block HR.out)).trans HR.out)).1, (cells_two ((hW.block _ (lt_of_block HR.out)).trans HR.out)).2.1, (hW.cell (p := ⟨w.heap.size, 1, none⟩) (World.block_lt_of_cell? W4 _ e1)).trans e1, (hW.cell (p := ⟨B0, O0 + m * 4, none⟩) (World.block_lt_of_cell? W4 _ k0)).trans k0, (hW.block _ (by have := hbw.size; omega)).trans ((HBall.out.block _ (lt_of_block HB1.out)).trans HB1.out), (hW.block _ (by have := hbw.size; omega)).trans ((HBall.out.block _ (lt_of_block HB2.out)).trans HB2.out)⟩
      have HCk := hide (clone_any x.ka x.e.key.length x.kc x.e.key W4.drew (hok.key.below (Below.refl _ _).drew) (by have := HW.out; omega))
      have HXm := hide hx
      have HK8 := hide hok.key.byts
      have HBw := hide hbw
      have hin : (m : Int) < (n : Int) := by omega
      clear hr hcr hbr hrg hbw hx hok hkl hW3 hw2s k1 k2 k3 mm0 mm1
      go_wp2
      go_region_held3 (fun W => W.cell? ⟨q, 0, none⟩ = some (.bool true) ∧ W.cell? ⟨q, 1, none⟩ = some (.slice a3 ys.length c3) ∧ W.cell? ⟨r, 0, none⟩ = some (.bool true) ∧ W.cell? ⟨r, 1, none⟩ = some (.slice a4 zs.length c4) ∧ W.cell? ⟨w.heap.size, 1, none⟩ = some (.slice (some ⟨B0, O0, none⟩) n c) ∧ W.cell? ⟨B0, O0 + m * 4, none⟩ = some (.slice x.ka x.e.key.length x.kc)) (go_keep) ((first | (go_at_call 64; refine HCk.out.mono ?_; intro r' w5 hh; obtain ⟨vk, rfl, hmk⟩ := hh; obtain ⟨ak, nk, ck, rfl, -⟩ := hmk.1.shape2; clear e0 e1 g0 g1 f0 f1 k0; obtain ⟨f0, f1, g0, g1, e1, k0, z1, z2⟩ := HSk.out w5 ((Below.refl _ _).drew.trans hmk.2.2); have z3 := (cells_two z1).1; have z4 := (cells_two z1).2.1; have z5 := frozen_blk (j := 0) z1; have z6 := frozen_blk (j := 1) z1; have z7 := (cells_two z2).1; have z8 := (cells_two z2).2.1; have z9 := frozen_blk (j := 0) z2; have z10 := frozen_blk (j := 1) z2; have HZ1 := hide z1; have HZ2 := hide z2; have HMk := hide hmk; clear z1 z2 hmk)))
      go_wp2
      have hA := two_set (u := .bool true) (v := .slice a3 ys.length c3) HZ1.out
      have hA2 : ((w5.setCell ⟨w.heap.size + 1, 0, none⟩ (.bool true)).setCell ⟨w.heap.size + 1, 1, none⟩ (.slice a3 ys.length c3)).heap[w.heap.size + 1 + 1]? = some (.cells #[.bool false, .slice none 0 0] 25 (0, 0)) := (two_other (by omega)).trans HZ2.out
      have hC := two_set (u := .bool true) (v := .slice a4 zs.length c4) hA2
      have hAf := (two_other (u := .bool true) (v := .slice a4 zs.length c4) (i := 0) (j := 1) (show w.heap.size + 1 ≠ w.heap.size + 1 + 1 by omega)).trans hA
      obtain ⟨y0, y1, -⟩ := cells_two hAf
      obtain ⟨y2, y3, -⟩ := cells_two hC
      have HFin : Hid (∀ k, w.heap.size + 3 ≤ k → ((((w5.setCell ⟨w.heap.size + 1, 0, none⟩ (.bool true)).setCell ⟨w.heap.size + 1, 1, none⟩ (.slice a3 ys.length c3)).setCell ⟨w.heap.size + 1 + 1, 0, none⟩ (.bool true)).setCell ⟨w.heap.size + 1 + 1, 1, none⟩ (.slice a4 zs.length c4)).heap[k]? = w5.heap[k]?) := hide fun k hk => (two_other (by omega)).trans (two_other (by omega))
      have hb45 : Below W4.heap.size W4 w5 := (Below.refl _ _).drew.trans HMk.out.2.2
      have HB5 : Hid (Below w.heap.size w w5) := hide ((HB.out.trans (HBall.out.mono HB.out.size)).trans (hb45.mono (by have := HBall.out.size; have := HB.out.size; omega)))
      have HBf : Hid (Below w.heap.size w ((((w5.setCell ⟨w.heap.size + 1, 0, none⟩ (.bool true)).setCell ⟨w.heap.size + 1, 1, none⟩ (.slice a3 ys.length c3)).setCell ⟨w.heap.size + 1 + 1, 0, none⟩ (.bool true)).setCell ⟨w.heap.size + 1 + 1, 1, none⟩ (.slice a4 zs.length c4))) := hide ((((HB5.out.setCell (p := ⟨w.heap.size + 1, 0, none⟩) (show w.heap.size ≤ w.heap.size + 1 by omega) _).setCell (p := ⟨w.heap.size + 1, 1, none⟩) (show w.heap.size ≤ w.heap.size + 1 by omega) _).setCell (p := ⟨w.heap.size + 1 + 1, 0, none⟩) (show w.heap.size ≤ w.heap.size + 1 + 1 by omega) _).setCell (p := ⟨w.heap.size + 1 + 1, 1, none⟩) (show w.heap.size ≤ w.heap.size + 1 + 1 by omega) _)
      generalize (((w5.setCell ⟨w.heap.size + 1, 0, none⟩ (.bool true)).setCell ⟨w.heap.size + 1, 1, none⟩ (.slice a3 ys.length c3)).setCell ⟨w.heap.size + 1 + 1, 0, none⟩ (.bool true)).setCell ⟨w.heap.size + 1 + 1, 1, none⟩ (.slice a4 zs.length c4) = WF at *
      refine bodyPost_ret (v := .tuple #[.agg #[.bool true, .slice a3 ys.length c3], .agg #[.bool true, .slice a4 zs.length c4], .slice ak nk ck]) ?_ rfl ?_
      · simp [results, Try.results24, go_sem, y0, y1, y2, y3]
      · have hw4 : w2.heap.size ≤ W4.heap.size := HBw.out.size
        refine ⟨m, _, _, _, ys, zs, x.e.key, rfl, HMid.out, by rw [HEr.out, ers_take], by rw [HFr.out, ers_drop], ⟨x, HXm.out, rfl⟩, ?_, ?_, ?_, HBf.out⟩
        · exact (((HCq.out.below HBr.out).below hb45).other (fun k hk => HFin.out k (by have := HW2s.out; omega))).mono (by have := HW2s.out; omega)
        · exact ((HCr.out.below hb45).other (fun k hk => HFin.out k (by have := HW2s.out; have := HBq.out.size; omega))).mono (by have := HW2s.out; have := HBq.out.size; omega)
        · exact HMk.out.1.of_block fun k hk => HFin.out k (by have h1 := HMk.out.2.1 k hk; have := HW2s.out; simp at h1; omega)
    · obtain ⟨hr, hrg, hcr, hbr⟩ := box_old (t := .bool true) (u := .slice a4 zs.length c4) HB4.out HDl.out HBx.out
      clear x0 x1 x2 x3 e0 e1
      generalize (w4.setCell ⟨W3.heap.size, 0, none⟩ (.bool true)).setCell ⟨W3.heap.size, 1, none⟩ (.slice a4 zs.length c4) = W4 at *
      obtain ⟨r, hre⟩ : ∃ r, r = W3.heap.size := ⟨_, rfl⟩
      rw [← hre]
      rw [← hre] at hr
      have hrg : W3.heap.size ≤ r := by omega
      clear HB4 HDl hre HBx
      have HR := hide hr
      have HCr := hide hcr
      have HBr := hide hbr
      have HRg := hide hrg
      obtain ⟨e0, e1⟩ := HSt3.out W4 hbr
      obtain ⟨g0, g1, -⟩ := cells_two hr
      have HQ4 := hide ((hbr.block _ (lt_of_block HQ.out)).trans HQ.out)
      obtain ⟨f0, f1, -⟩ := cells_two HQ4.out
      have hbw := HBq.out.trans (hbr.mono HBq.out.size)
      obtain ⟨x, hx, hok⟩ := (HE2.out.below hbw).at (show m < n by omega)
      obtain ⟨bx, ox, hbo, hbs, k0, k1, k2, k3⟩ := (HE2.out.below hbw).cells hx
      cases hbo
      have hkl := mem_wts hx
      have hw2s : w.heap.size + 3 ≤ w2.heap.size := by have := HX.out.size; have := HS1.out; omega
      have s1 : q ≠ w.heap.size + 1 := by have := HQg.out; omega
      have s2 : q ≠ w.heap.size + 1 + 1 := by have := HQg.out; omega
      have hW3 : w2.heap.size ≤ W3.heap.size := HBq.out.size
      have s3 : r ≠ w.heap.size + 1 := by have := HRg.out; omega
      have s4 : r ≠ w.heap.size + 1 + 1 := by have := HRg.out; omega
      have s5 : B0 ≠ w.heap.size + 1 := by omega
      have s6 : B0 ≠ w.heap.size + 1 + 1 := by omega
      have s1' := Ne.symm s1
      have s2' := Ne.symm s2
      have s3' := Ne.symm s3
      have s4' := Ne.symm s4
      have s5' := Ne.symm s5
      have s6' := Ne.symm s6
      have s7 : w.heap.size + 1 + 1 ≠ w.heap.size := by omega
      have s8 : w.heap.size + 1 ≠ w.heap.size := by omega
      have HW2s := hide hw2s
      have HBall := hide (HX.out.trans (hbw.mono HX.out.size))
      have HSk : Hid (∀ W, Below W4.heap.size W4 W → W.cell? ⟨q, 0, none⟩ = some (.bool true) ∧ W.cell? ⟨q, 1, none⟩ = some (.slice a3 ys.length c3) ∧ W.cell? ⟨r, 0, none⟩ = some (.bool true) ∧ W.cell? ⟨r, 1, none⟩ = some (.slice a4 zs.length c4) ∧ W.cell? ⟨w.heap.size, 1, none⟩ = some (.slice (some ⟨B0, O0, none⟩) n c) ∧ W.cell? ⟨B0, O0 + m * 4, none⟩ = some (.slice x.ka x.e.key.length x.kc) ∧ W.heap[w.heap.size + 1]? = some (.cells #[.bool false, .slice none 0 0] 25 (0, 0)) ∧ W.heap[w.heap.size + 1 + 1]? = some (.cells #[.bool false, .slice none 0 0] 25 (0, 0))) := hide fun W hW =>
        ⟨(cells_two ((hW.block _ (lt_of_block HQ4.out)).trans HQ4.out)).1, (cells_two ((hW.block _ (lt_of_block HQ4.out)).trans HQ4.out)).2.1, (cells_two ((hW.block _ (lt_of_block HR.out)).trans HR.out)).1, (cells_two ((hW.block _ (lt_of_block HR.out)).trans HR.out)).2.1, (hW.cell (p := ⟨w.heap.size, 1, none⟩) (World.block_lt_of_cell? W4 _ e1)).trans e1, (hW.cell (p := ⟨B0, O0 + m * 4, none⟩) (World.block_lt_of_cell? W4 _ k0)).trans k0, (hW.block _ (by have := hbw.size; omega)).trans ((HBall.out.block _ (lt_of_block HB1.out)).trans HB1.out), (hW.block _ (by have := hbw.size; omega)).trans ((HBall.out.block _ (lt_of_block HB2.out)).trans HB2.out)⟩
      have HCk := hide (clone_any x.ka x.e.key.length x.kc x.e.key W4.drew (hok.key.below (Below.refl _ _).drew) (by have := HW.out; omega))
      have HXm := hide hx
      have HK8 := hide hok.key.byts
      have HBw := hide hbw
      have hin : (m : Int) < (n : Int) := by omega
      clear hr hcr hbr hrg hbw hx hok hkl hW3 hw2s k1 k2 k3 mm0 mm1
      go_wp2
      go_region_held3 (fun W => W.cell? ⟨q, 0, none⟩ = some (.bool true) ∧ W.cell? ⟨q, 1, none⟩ = some (.slice a3 ys.length c3) ∧ W.cell? ⟨r, 0, none⟩ = some (.bool true) ∧ W.cell? ⟨r, 1, none⟩ = some (.slice a4 zs.length c4) ∧ W.cell? ⟨w.heap.size, 1, none⟩ = some (.slice (some ⟨B0, O0, none⟩) n c) ∧ W.cell? ⟨B0, O0 + m * 4, none⟩ = some (.slice x.ka x.e.key.length x.kc)) (go_keep) ((first | (go_at_call 64; refine HCk.out.mono ?_; intro r' w5 hh; obtain ⟨vk, rfl, hmk⟩ := hh; obtain ⟨ak, nk, ck, rfl, -⟩ := hmk.1.shape2; clear e0 e1 g0 g1 f0 f1 k0; obtain ⟨f0, f1, g0, g1, e1, k0, z1, z2⟩ := HSk.out w5 ((Below.refl _ _).drew.trans hmk.2.2); have z3 := (cells_two z1).1; have z4 := (cells_two z1).2.1; have z5 := frozen_blk (j := 0) z1; have z6 := frozen_blk (j := 1) z1; have z7 := (cells_two z2).1; have z8 := (cells_two z2).2.1; have z9 := frozen_blk (j := 0) z2; have z10 := frozen_blk (j := 1) z2; have HZ1 := hide z1; have HZ2 := hide z2; have HMk := hide hmk; clear z1 z2 hmk)))
      go_wp2
      have hA := two_set (u := .bool true) (v := .slice a3 ys.length c3) HZ1.out
      have hA2 : ((w5.setCell ⟨w.heap.size + 1, 0, none⟩ (.bool true)).setCell ⟨w.heap.size + 1, 1, none⟩ (.slice a3 ys.length c3)).heap[w.heap.size + 1 + 1]? = some (.cells #[.bool false, .slice none 0 0] 25 (0, 0)) := (two_other (by omega)).trans HZ2.out
      have hC := two_set (u := .bool true) (v := .slice a4 zs.length c4) hA2
      have hAf := (two_other (u := .bool true) (v := .slice a4 zs.length c4) (i := 0) (j := 1) (show w.heap.size + 1 ≠ w.heap.size + 1 + 1 by omega)).trans hA
      obtain ⟨y0, y1, -⟩ := cells_two hAf
      obtain ⟨y2, y3, -⟩ := cells_two hC
      have HFin : Hid (∀ k, w.heap.size + 3 ≤ k → ((((w5.setCell ⟨w.heap.size + 1, 0, none⟩ (.bool true)).setCell ⟨w.heap.size + 1, 1, none⟩ (.slice a3 ys.length c3)).setCell ⟨w.heap.size + 1 + 1, 0, none⟩ (.bool true)).setCell ⟨w.heap.size + 1 + 1, 1, none⟩ (.slice a4 zs.length c4)).heap[k]? = w5.heap[k]?) := hide fun k hk => (two_other (by omega)).trans (two_other (by omega))
      have hb45 : Below W4.heap.size W4 w5 := (Below.refl _ _).drew.trans HMk.out.2.2
      have HB5 : Hid (Below w.heap.size w w5) := hide ((HB.out.trans (HBall.out.mono HB.out.size)).trans (hb45.mono (by have := HBall.out.size; have := HB.out.size; omega)))
      have HBf : Hid (Below w.heap.size w ((((w5.setCell ⟨w.heap.size + 1, 0, none⟩ (.bool true)).setCell ⟨w.heap.size + 1, 1, none⟩ (.slice a3 ys.length c3)).setCell ⟨w.heap.size + 1 + 1, 0, none⟩ (.bool true)).setCell ⟨w.heap.size + 1 + 1, 1, none⟩ (.slice a4 zs.length c4))) := hide ((((HB5.out.setCell (p := ⟨w.heap.size + 1, 0, none⟩) (show w.heap.size ≤ w.heap.size + 1 by omega) _).setCell (p := ⟨w.heap.size + 1, 1, none⟩) (show w.heap.size ≤ w.heap.size + 1 by omega) _).setCell (p := ⟨w.heap.size + 1 + 1, 0, none⟩) (show w.heap.size ≤ w.heap.size + 1 + 1 by omega) _).setCell (p := ⟨w.heap.size + 1 + 1, 1, none⟩) (show w.heap.size ≤ w.heap.size + 1 + 1 by omega) _)
      generalize (((w5.setCell ⟨w.heap.size + 1, 0, none⟩ (.bool true)).setCell ⟨w.heap.size + 1, 1, none⟩ (.slice a3 ys.length c3)).setCell ⟨w.heap.size + 1 + 1, 0, none⟩ (.bool true)).setCell ⟨w.heap.size + 1 + 1, 1, none⟩ (.slice a4 zs.length c4) = WF at *
      refine bodyPost_ret (v := .tuple #[.agg #[.bool true, .slice a3 ys.length c3], .agg #[.bool true, .slice a4 zs.length c4], .slice ak nk ck]) ?_ rfl ?_
      · simp [results, Try.results24, go_sem, y0, y1, y2, y3]
      · have hw4 : w2.heap.size ≤ W4.heap.size := HBw.out.size
        refine ⟨m, _, _, _, ys, zs, x.e.key, rfl, HMid.out, by rw [HEr.out, ers_take], by rw [HFr.out, ers_drop], ⟨x, HXm.out, rfl⟩, ?_, ?_, ?_, HBf.out⟩
        · exact (((HCq.out.below HBr.out).below hb45).other (fun k hk => HFin.out k (by have := HW2s.out; omega))).mono (by have := HW2s.out; omega)
        · exact ((HCr.out.below hb45).other (fun k hk => HFin.out k (by have := HW2s.out; have := HBq.out.size; omega))).mono (by have := HW2s.out; have := HBq.out.size; omega)
        · exact HMk.out.1.of_block fun k hk => HFin.out k (by have h1 := HMk.out.2.1 k hk; have := HW2s.out; simp at h1; omega)
end Go.Proofs.Ytjojpohnmfkanaa
