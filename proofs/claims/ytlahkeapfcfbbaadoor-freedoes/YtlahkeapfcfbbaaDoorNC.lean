/- Encode: a list as the payloads of its pages. -/
import Derived.Test.YtlahkeapfcfbbaaDoorNB
namespace Go.Proofs.YtlahkeapfcfbbaaDoor
open Go.RowKit Go.Maps
set_option linter.unusedVariables false
variable {w w' : World}
/-- the payload of the page at j. -/
def pay (zs ys : List Nat) (j : Nat) : List Int := le4 (if j + 1 < ys.length then ys.getD (j + 1) 0 else 0) ++ ((zs.drop (251 * j)).take 251).flatMap le4
/-- a row of rows of bytes, each in a block of its own. -/
structure Ro (w : World) (g B : Nat) (vs : List Value) (k : Nat) (L : Nat → List Int) : Prop where
  blk : w.heap[g]? = some (.cells vs.toArray 81 (0, 0))
  own : ∀ j, j < k → Own w (vs.getD j (.slice none 0 0)) (L j)
  low : ∀ j b, j < k → (vs.getD j (.slice none 0 0)).ownBlock = some b → B ≤ b ∧ b ≠ g
  apart : ∀ i j b, i < k → j < k → i ≠ j → (vs.getD i (.slice none 0 0)).ownBlock = some b → (vs.getD j (.slice none 0 0)).ownBlock ≠ some b
theorem infoBy : (Tryd.prog.info? 81).map (fun i => (i.zero, i.size, i.bytes)) = some (some (.slice none 0 0), 1, 24) := by kernel_rfl
theorem Rw.cut {a : Option Addr} {zs : List Nat} (h : Rw w a zs) (q c : Nat) (hc : zs.length ≤ c) : Rw w (if c = q then a else a.map (fun x => x.add q)) (zs.drop q) := by
  by_cases hq : q < zs.length
  · rw [if_neg (by omega)]
    rcases h with rfl | ⟨b, off, rfl, hlt, hh⟩
    · exact .inl (by simp)
    · refine .inr ⟨b, off + q, by rw [Option.map_some, Addr.add_lit], hlt, fun i hi => ?_⟩
      rw [List.length_drop] at hi
      rw [Nat.add_assoc, hh (q + i) (by omega)]
      simp [List.getD_eq_getElem?_getD]
  · exact .inl (List.drop_of_length_le (by omega))
/-- so many rows of nothing. -/
def nils (n : Nat) : Array Value := madeCells #[Value.slice none 0 0] n
theorem nils_list (n : Nat) : nils n = (nils n).toList.toArray := by simp
theorem nils_len (n : Nat) : (nils n).toList.length = n := by simp [nils, size_madeCells]
theorem makeRows (n : Nat) (hn : n ≤ 1000000) (W : World) : (Instr.makeSlice 31 (.int .i64 (n : Int)) (.int .i64 (n : Int))).run Tryd.prog W = .ok (.slice (some ⟨W.heap.size, 0, none⟩) n n) (W.alloc (.cells (nils n) 81)) := by
  obtain ⟨i0, hi, hz0, hz1, hz2⟩ := info_parts infoBy
  have := run_make (P := Tryd.prog) W 31 81 i0 _ Tryd.underlying31 hi hz0 .i64 .i64 (n : Int) (n : Int) (by omega) (by omega) (by rw [hz2]; omega) (by omega)
  rw [hz1] at this
  simp only [Int.toNat_natCast, Value.cells, Nat.mul_one] at this
  exact this
theorem Ro.grow {g B : Nat} {vs : List Value} {k : Nat} {L : Nat → List Int} (h : Ro w g B vs k L) (hB : B ≤ w.heap.size) (hk : k < vs.length) (hb : Below w.heap.size w w') (v : Value) (hv : Own w' v (L k)) (hn : ∀ b, v.ownBlock = some b → w.heap.size ≤ b) : Ro (w'.setCell ⟨g, k, none⟩ v) g B (vs.set k v) (k + 1) L := by
  have hg : g < w.heap.size := lt_of_block h.blk
  have e1 : ∀ j, j < k → (vs.set k v).getD j (.slice none 0 0) = vs.getD j (.slice none 0 0) := fun j hj => by
    simp only [List.getD_eq_getElem?_getD]; rw [List.getElem?_set_ne (by omega)]
  have e2 : (vs.set k v).getD k (.slice none 0 0) = v := by simp [List.getD_eq_getElem?_getD, hk]
  have lo : ∀ j b, j < k → (vs.getD j (.slice none 0 0)).ownBlock = some b → b < w.heap.size := fun j b hj hb' => Own.lt (h.own j hj) hb'
  have hk' : ∀ j, j < k + 1 → j < k ∨ j = k := fun j hj => by omega
  refine ⟨?_, fun j hj => ?_, fun j b hj hb' => ?_, fun i j b hi hj hij hb' => ?_⟩
  · rw [heap_setCell_same w' g k _ _ v ((hb.block g hg).trans h.blk), List.setIfInBounds_toArray]
  · rcases hk' j hj with hj | rfl
    · rw [e1 j hj]
      refine Own.of_block (h.own j hj) fun b hb' => ?_
      rw [set_other _ _ _ _ _ (h.low j b hj hb').2, hb.block b (lo j b hj hb')]
    · rw [e2]
      refine Own.of_block hv fun b hb' => ?_
      have := hn b hb'
      rw [set_other _ _ _ _ _ (by omega)]
  · rcases hk' j hj with hj | rfl
    · rw [e1 j hj] at hb'; exact h.low j b hj hb'
    · rw [e2] at hb'
      have := hn b hb'
      exact ⟨by omega, by omega⟩
  · rcases hk' i hi with hi | rfl <;> rcases hk' j hj with hj | rfl
    · rw [e1 i hi] at hb'; rw [e1 j hj]; exact h.apart i j b hi hj hij hb'
    · rw [e1 i hi] at hb'; rw [e2]
      intro e
      have := hn b e
      have := lo i b hi hb'
      omega
    · rw [e2] at hb'; rw [e1 j hj]
      intro e
      have := hn b hb'
      have := lo j b hj e
      omega
    · exact absurd rfl hij
set_option maxHeartbeats 3200000 in
set_option maxRecDepth 1000000 in
theorem encode_ok (w : World) (a a' : Option Addr) (n c n' c' : Nat) (zs ys : List Nat) (hl : zs.length = n) (hn : n ≤ 300000) (hc : n ≤ c) (hr : Rw w a zs) (hz : W32 zs) (hl' : ys.length = n') (hn' : n' ≤ 300000) (hr' : Rw w a' ys) (hz' : W32 ys)
    (h1 : (rise zs && zs.all okp) = true) (h2 : ys.all okp = true) (h3 : n' = (n + 250) / 251 ∨ n' = (n + 250) / 251 + 1) :
    Calls Tryd.prog 22 #[.slice a n c, .slice a' n' c'] w fun e w' => ∃ g vs, e = .returned (.tuple #[.slice (some ⟨g, 0, none⟩) n' n', .int .u16 0]) ∧ vs.length = n' ∧ w.heap.size ≤ g ∧ Ro w' g w.heap.size vs n' (pay zs ys) ∧ Below w.heap.size w w' := by
  have HL := hide hl
  have HR := hide hr
  have HZ := hide hz
  have HL' := hide hl'
  have HR' := hide hr'
  have HZ' := hide hz'
  have HI := hide (isList_any w a n c zs hl (by omega) hr hz)
  have HA := hide (fun W (hW : Same w W) => allMay_any W a' n' c' ys hl' (by omega) (hr'.below hW.below) hz')
  have hmk := makeRows n' (by omega)
  obtain ⟨d, hd⟩ : ∃ d, d = (n + 250) / 251 := ⟨_, rfl⟩
  have hdb : d ≤ 300000 := by omega
  have HNd := hide (need_any w n (by omega))
  rw [← hd] at HNd h3
  have HD := hide hd
  clear hd
  rw [h1] at HI
  rw [h2] at HA
  clear hl hr hz hl' hr' hz' h1 h2
  rcases h3 with h3 | h3
  · have q1 : ((n' : Int) != (d : Int)) = false := by rw [bne_eq_false_iff_eq]; omega
    have H3 := hide h3
    clear h3
    go_enter Tryd.func22, Tryd.ntmps22
    go_wp2_with (first
      | (go_at_call 23; refine HNd.out.mono ?_; rintro e w1 ⟨rfl, hw1⟩; rw [hw1]; clear hw1)
      | (go_at_call 60; refine HI.out.mono ?_; rintro e w2 ⟨rfl, hs2⟩; have HS2 := hide hs2; clear hs2)
      | (go_at_call 61; refine (HA.out _ HS2.out).mono ?_; rintro e w3 ⟨rfl, hs3⟩; have HS3 := hide (HS2.out.trans hs3); clear hs3))
    have hs3 : w3.heap.size = w.heap.size := by rw [HS3.out.heap]
    have hnew := heap_alloc_new w3 (.cells (nils n') 81)
    have hb4 : Below w.heap.size w (w3.alloc (.cells (nils n') 81)) := HS3.out.below.trans ((below_alloc w3 _).mono (by omega))
    rw [hs3] at hnew
    rw [hs3]
    clear hmk
    generalize w3.alloc (.cells (nils n') 81) = w4 at *
    have HN4 := hide hnew
    have HB4 := hide hb4
    have hsz4 : w.heap.size < w4.heap.size := lt_of_block hnew
    clear hnew hb4
    go_loopw [40, 0] (fun i u wr => ∃ (k : Nat) (a1 : Option Addr) (c1 : Nat) (vs : List Value), k ≤ n' ∧ i = .int .i64 k ∧ u = .slice a1 (n - 251 * k) c1 ∧ n - 251 * k ≤ c1 ∧ Rw w a1 (zs.drop (251 * k)) ∧ vs.length = n' ∧ Ro wr w.heap.size w.heap.size vs k (pay zs ys) ∧ Below w.heap.size w wr) (fun i _ _ => n' - (intOf i).toNat)
    case atStart => exact ⟨0, a, c, (nils n').toList, Nat.zero_le _, rfl, rfl, hc, HR.out, nils_len n', ⟨by rw [← nils_list]; exact HN4.out, fun j hj => by omega, fun j b hj => by omega, fun i j b hi => by omega⟩, HB4.out⟩
    case round =>
      obtain ⟨k, a1, c1, vs, hk, rfl, rfl, hc1, hrw, hvl, hro, hbel⟩ := hrel
      have HRw := hide hrw
      have HRo := hide hro
      have HBe := hide hbel
      have hg : w.heap.size < wr.heap.size := lt_of_block hro.blk
      have hz : ((zs.drop (251 * k)).take 251).length = min 251 (n - 251 * k) := by rw [List.length_take, List.length_drop, HL.out]
      have HW : Hid (W32 ((zs.drop (251 * k)).take 251)) := fun z hz => HZ.out z (List.mem_of_mem_drop (List.mem_of_mem_take hz))
      have HZL := hide hz
      clear hz hrw hro hbel
      by_cases hlt : k < n'
      · obtain ⟨m, hm⟩ : ∃ m, m = n - 251 * k := ⟨_, rfl⟩
        rw [← hm] at hc1 HZL ⊢
        have hmb : m ≤ 300000 := by omega
        have HMm := hide hm
        clear hm
        by_cases hnx : k + 1 < n'
        · by_cases hbig : 251 ≤ m
          · have hlk : k + 1 < ys.length := by have := HL'.out; omega
            have HX : Hid (pay zs ys k = le4 (ys.getD (k + 1) 0) ++ ((zs.drop (251 * k)).take 251).flatMap le4) := by rw [Hid, pay, if_pos hlk]
            have hy := HZ'.out.at (k + 1)
            rcases HR'.out.below HBe.out with h0 | ⟨b, o, rfl, _, hcc⟩
            · subst h0; simp at hlk
            have g1 := hcc (k + 1) hlk
            clear hcc hlk
            generalize ys.getD (k + 1) 0 = y at g1 HX hy
            have hnx' : (k : Int) + 1 < (n' : Int) := by omega
            have HP := hide (payloadOf_any wr y (by omega) a1 251 c1 ((zs.drop (251 * k)).take 251) (by rw [HZL.out]; omega) (by omega) ((HRw.out.take 251).below HBe.out) HW.out)
            have HCut := hide (HRw.out.cut 251 c1 (by rw [List.length_drop, HL.out]; have := HMm.out; omega))
            have hm1 : (251 : Int) ≤ (m : Int) := by omega
            have HSt : Hid (∀ W, Below wr.heap.size wr W → W.cell? ⟨w.heap.size, k, none⟩ = some (vs.getD k (.slice none 0 0)) ∧ W.frozen? ⟨w.heap.size, k, none⟩ = false) := fun W hW => by
              have hb := (hW.block _ hg).trans HRo.out.blk
              exact ⟨by rw [cell_of_row W _ k _ _ _ hb, List.getElem?_toArray, List.getD_eq_getElem?_getD, List.getElem?_eq_getElem (by omega)]; rfl, frozen_of_row W _ k _ _ hb⟩
            go_wp2_with (go_at_call 62; refine HP.out.mono ?_; rintro e w5 ⟨v5, rfl, h5, l5, b5⟩; obtain ⟨s1, s2⟩ := HSt.out w5 b5; obtain ⟨x5, n5, c5, rfl, -⟩ := h5.shape2; have H5 := hide h5; have L5 := hide l5; have B5 := hide b5; clear h5 l5 b5)
            have hdr : zs.drop (251 * (k + 1)) = (zs.drop (251 * k)).drop 251 := by
              rw [List.drop_drop]; congr 1
            have hnm : n - 251 * (k + 1) = m - 251 := by have := HMm.out; omega
            go_roundw
            case rel =>
              refine ⟨k + 1, _, _, vs.set k (.slice x5 n5 c5), by omega, by go_num, by rw [hnm], by rw [hnm]; omega, ?_, by rw [List.length_set]; exact hvl, HRo.out.grow (by omega) (by omega) B5.out _ (by rw [HX.out]; exact H5.out) L5.out, ?_⟩
              · rw [hdr]; have h := HCut.out; first | exact h | (simpa [Addr.add] using h)
              · exact (HBe.out.trans (B5.out.mono HBe.out.size)).setCell (p := ⟨w.heap.size, k, none⟩) (Nat.le_refl _) _
            case measure => simp [intOf]; omega
          · have hlk : k + 1 < ys.length := by have := HL'.out; omega
            have HX : Hid (pay zs ys k = le4 (ys.getD (k + 1) 0) ++ ((zs.drop (251 * k)).take 251).flatMap le4) := by rw [Hid, pay, if_pos hlk]
            have hy := HZ'.out.at (k + 1)
            rcases HR'.out.below HBe.out with h0 | ⟨b, o, rfl, _, hcc⟩
            · subst h0; simp at hlk
            have g1 := hcc (k + 1) hlk
            clear hcc hlk
            generalize ys.getD (k + 1) 0 = y at g1 HX hy
            have hnx' : (k : Int) + 1 < (n' : Int) := by omega
            have HP := hide (payloadOf_any wr y (by omega) a1 m c1 ((zs.drop (251 * k)).take 251) (by rw [HZL.out]; omega) (by omega) ((HRw.out.take 251).below HBe.out) HW.out)
            have HCut := hide (HRw.out.cut m c1 (by rw [List.length_drop, HL.out]; have := HMm.out; omega))
            have hm1 : ¬ (251 : Int) ≤ (m : Int) := by omega
            have hm2 : (m : Int) < 251 := by omega
            have HSt : Hid (∀ W, Below wr.heap.size wr W → W.cell? ⟨w.heap.size, k, none⟩ = some (vs.getD k (.slice none 0 0)) ∧ W.frozen? ⟨w.heap.size, k, none⟩ = false) := fun W hW => by
              have hb := (hW.block _ hg).trans HRo.out.blk
              exact ⟨by rw [cell_of_row W _ k _ _ _ hb, List.getElem?_toArray, List.getD_eq_getElem?_getD, List.getElem?_eq_getElem (by omega)]; rfl, frozen_of_row W _ k _ _ hb⟩
            go_wp2_with (go_at_call 62; refine HP.out.mono ?_; rintro e w5 ⟨v5, rfl, h5, l5, b5⟩; obtain ⟨s1, s2⟩ := HSt.out w5 b5; obtain ⟨x5, n5, c5, rfl, -⟩ := h5.shape2; have H5 := hide h5; have L5 := hide l5; have B5 := hide b5; clear h5 l5 b5)
            have hdr : zs.drop (251 * (k + 1)) = (zs.drop (251 * k)).drop m := by
              rw [List.drop_of_length_le (by have := HL.out; have := HMm.out; omega), List.drop_of_length_le (by rw [List.length_drop]; have := HL.out; have := HMm.out; omega)]
            have hnm : n - 251 * (k + 1) = 0 := by have := HMm.out; omega
            go_roundw
            case rel =>
              refine ⟨k + 1, _, _, vs.set k (.slice x5 n5 c5), by omega, by go_num, by rw [hnm], by rw [hnm]; omega, ?_, by rw [List.length_set]; exact hvl, HRo.out.grow (by omega) (by omega) B5.out _ (by rw [HX.out]; exact H5.out) L5.out, ?_⟩
              · rw [hdr]; have h := HCut.out; first | exact h | (simpa [Addr.add] using h)
              · exact (HBe.out.trans (B5.out.mono HBe.out.size)).setCell (p := ⟨w.heap.size, k, none⟩) (Nat.le_refl _) _
            case measure => simp [intOf]; omega
        · by_cases hbig : 251 ≤ m
          · have HX : Hid (pay zs ys k = le4 0 ++ ((zs.drop (251 * k)).take 251).flatMap le4) := by rw [Hid, pay, if_neg (by have := HL'.out; omega)]
            have hnx' : ¬ (k : Int) + 1 < (n' : Int) := by omega
            have HP := hide (payloadOf_any wr 0 (by omega) a1 251 c1 ((zs.drop (251 * k)).take 251) (by rw [HZL.out]; omega) (by omega) ((HRw.out.take 251).below HBe.out) HW.out)
            have HCut := hide (HRw.out.cut 251 c1 (by rw [List.length_drop, HL.out]; have := HMm.out; omega))
            have hm1 : (251 : Int) ≤ (m : Int) := by omega
            have HSt : Hid (∀ W, Below wr.heap.size wr W → W.cell? ⟨w.heap.size, k, none⟩ = some (vs.getD k (.slice none 0 0)) ∧ W.frozen? ⟨w.heap.size, k, none⟩ = false) := fun W hW => by
              have hb := (hW.block _ hg).trans HRo.out.blk
              exact ⟨by rw [cell_of_row W _ k _ _ _ hb, List.getElem?_toArray, List.getD_eq_getElem?_getD, List.getElem?_eq_getElem (by omega)]; rfl, frozen_of_row W _ k _ _ hb⟩
            go_wp2_with (go_at_call 62; refine HP.out.mono ?_; rintro e w5 ⟨v5, rfl, h5, l5, b5⟩; obtain ⟨s1, s2⟩ := HSt.out w5 b5; obtain ⟨x5, n5, c5, rfl, -⟩ := h5.shape2; have H5 := hide h5; have L5 := hide l5; have B5 := hide b5; clear h5 l5 b5)
            have hdr : zs.drop (251 * (k + 1)) = (zs.drop (251 * k)).drop 251 := by
              rw [List.drop_drop]; congr 1
            have hnm : n - 251 * (k + 1) = m - 251 := by have := HMm.out; omega
            go_roundw
            case rel =>
              refine ⟨k + 1, _, _, vs.set k (.slice x5 n5 c5), by omega, by go_num, by rw [hnm], by rw [hnm]; omega, ?_, by rw [List.length_set]; exact hvl, HRo.out.grow (by omega) (by omega) B5.out _ (by rw [HX.out]; exact H5.out) L5.out, ?_⟩
              · rw [hdr]; have h := HCut.out; first | exact h | (simpa [Addr.add] using h)
              · exact (HBe.out.trans (B5.out.mono HBe.out.size)).setCell (p := ⟨w.heap.size, k, none⟩) (Nat.le_refl _) _
            case measure => simp [intOf]; omega
          · have HX : Hid (pay zs ys k = le4 0 ++ ((zs.drop (251 * k)).take 251).flatMap le4) := by rw [Hid, pay, if_neg (by have := HL'.out; omega)]
            have hnx' : ¬ (k : Int) + 1 < (n' : Int) := by omega
            have HP := hide (payloadOf_any wr 0 (by omega) a1 m c1 ((zs.drop (251 * k)).take 251) (by rw [HZL.out]; omega) (by omega) ((HRw.out.take 251).below HBe.out) HW.out)
            have HCut := hide (HRw.out.cut m c1 (by rw [List.length_drop, HL.out]; have := HMm.out; omega))
            have hm1 : ¬ (251 : Int) ≤ (m : Int) := by omega
            have hm2 : (m : Int) < 251 := by omega
            have HSt : Hid (∀ W, Below wr.heap.size wr W → W.cell? ⟨w.heap.size, k, none⟩ = some (vs.getD k (.slice none 0 0)) ∧ W.frozen? ⟨w.heap.size, k, none⟩ = false) := fun W hW => by
              have hb := (hW.block _ hg).trans HRo.out.blk
              exact ⟨by rw [cell_of_row W _ k _ _ _ hb, List.getElem?_toArray, List.getD_eq_getElem?_getD, List.getElem?_eq_getElem (by omega)]; rfl, frozen_of_row W _ k _ _ hb⟩
            go_wp2_with (go_at_call 62; refine HP.out.mono ?_; rintro e w5 ⟨v5, rfl, h5, l5, b5⟩; obtain ⟨s1, s2⟩ := HSt.out w5 b5; obtain ⟨x5, n5, c5, rfl, -⟩ := h5.shape2; have H5 := hide h5; have L5 := hide l5; have B5 := hide b5; clear h5 l5 b5)
            have hdr : zs.drop (251 * (k + 1)) = (zs.drop (251 * k)).drop m := by
              rw [List.drop_of_length_le (by have := HL.out; have := HMm.out; omega), List.drop_of_length_le (by rw [List.length_drop]; have := HL.out; have := HMm.out; omega)]
            have hnm : n - 251 * (k + 1) = 0 := by have := HMm.out; omega
            go_roundw
            case rel =>
              refine ⟨k + 1, _, _, vs.set k (.slice x5 n5 c5), by omega, by go_num, by rw [hnm], by rw [hnm]; omega, ?_, by rw [List.length_set]; exact hvl, HRo.out.grow (by omega) (by omega) B5.out _ (by rw [HX.out]; exact H5.out) L5.out, ?_⟩
              · rw [hdr]; have h := HCut.out; first | exact h | (simpa [Addr.add] using h)
              · exact (HBe.out.trans (B5.out.mono HBe.out.size)).setCell (p := ⟨w.heap.size, k, none⟩) (Nat.le_refl _) _
            case measure => simp [intOf]; omega
      · obtain rfl : k = n' := by omega
        go_wp2
        go_ret2
        exact ⟨w.heap.size, vs, rfl, hvl, Nat.le_refl _, HRo.out, HBe.out⟩
  · have q1 : ((n' : Int) != (d : Int)) = true := by rw [bne_iff_ne]; omega
    have q2 : ((n' : Int) != (d : Int) + 1) = false := by rw [bne_eq_false_iff_eq]; omega
    have H3 := hide h3
    clear h3
    go_enter Tryd.func22, Tryd.ntmps22
    go_wp2_with (first
      | (go_at_call 23; refine HNd.out.mono ?_; rintro e w1 ⟨rfl, hw1⟩; rw [hw1]; clear hw1)
      | (go_at_call 60; refine HI.out.mono ?_; rintro e w2 ⟨rfl, hs2⟩; have HS2 := hide hs2; clear hs2)
      | (go_at_call 61; refine (HA.out _ HS2.out).mono ?_; rintro e w3 ⟨rfl, hs3⟩; have HS3 := hide (HS2.out.trans hs3); clear hs3))
    have hs3 : w3.heap.size = w.heap.size := by rw [HS3.out.heap]
    have hnew := heap_alloc_new w3 (.cells (nils n') 81)
    have hb4 : Below w.heap.size w (w3.alloc (.cells (nils n') 81)) := HS3.out.below.trans ((below_alloc w3 _).mono (by omega))
    rw [hs3] at hnew
    rw [hs3]
    clear hmk
    generalize w3.alloc (.cells (nils n') 81) = w4 at *
    have HN4 := hide hnew
    have HB4 := hide hb4
    have hsz4 : w.heap.size < w4.heap.size := lt_of_block hnew
    clear hnew hb4
    go_loopw [40, 0] (fun i u wr => ∃ (k : Nat) (a1 : Option Addr) (c1 : Nat) (vs : List Value), k ≤ n' ∧ i = .int .i64 k ∧ u = .slice a1 (n - 251 * k) c1 ∧ n - 251 * k ≤ c1 ∧ Rw w a1 (zs.drop (251 * k)) ∧ vs.length = n' ∧ Ro wr w.heap.size w.heap.size vs k (pay zs ys) ∧ Below w.heap.size w wr) (fun i _ _ => n' - (intOf i).toNat)
    case atStart => exact ⟨0, a, c, (nils n').toList, Nat.zero_le _, rfl, rfl, hc, HR.out, nils_len n', ⟨by rw [← nils_list]; exact HN4.out, fun j hj => by omega, fun j b hj => by omega, fun i j b hi => by omega⟩, HB4.out⟩
    case round =>
      obtain ⟨k, a1, c1, vs, hk, rfl, rfl, hc1, hrw, hvl, hro, hbel⟩ := hrel
      have HRw := hide hrw
      have HRo := hide hro
      have HBe := hide hbel
      have hg : w.heap.size < wr.heap.size := lt_of_block hro.blk
      have hz : ((zs.drop (251 * k)).take 251).length = min 251 (n - 251 * k) := by rw [List.length_take, List.length_drop, HL.out]
      have HW : Hid (W32 ((zs.drop (251 * k)).take 251)) := fun z hz => HZ.out z (List.mem_of_mem_drop (List.mem_of_mem_take hz))
      have HZL := hide hz
      clear hz hrw hro hbel
      by_cases hlt : k < n'
      · obtain ⟨m, hm⟩ : ∃ m, m = n - 251 * k := ⟨_, rfl⟩
        rw [← hm] at hc1 HZL ⊢
        have hmb : m ≤ 300000 := by omega
        have HMm := hide hm
        clear hm
        by_cases hnx : k + 1 < n'
        · by_cases hbig : 251 ≤ m
          · have hlk : k + 1 < ys.length := by have := HL'.out; omega
            have HX : Hid (pay zs ys k = le4 (ys.getD (k + 1) 0) ++ ((zs.drop (251 * k)).take 251).flatMap le4) := by rw [Hid, pay, if_pos hlk]
            have hy := HZ'.out.at (k + 1)
            rcases HR'.out.below HBe.out with h0 | ⟨b, o, rfl, _, hcc⟩
            · subst h0; simp at hlk
            have g1 := hcc (k + 1) hlk
            clear hcc hlk
            generalize ys.getD (k + 1) 0 = y at g1 HX hy
            have hnx' : (k : Int) + 1 < (n' : Int) := by omega
            have HP := hide (payloadOf_any wr y (by omega) a1 251 c1 ((zs.drop (251 * k)).take 251) (by rw [HZL.out]; omega) (by omega) ((HRw.out.take 251).below HBe.out) HW.out)
            have HCut := hide (HRw.out.cut 251 c1 (by rw [List.length_drop, HL.out]; have := HMm.out; omega))
            have hm1 : (251 : Int) ≤ (m : Int) := by omega
            have HSt : Hid (∀ W, Below wr.heap.size wr W → W.cell? ⟨w.heap.size, k, none⟩ = some (vs.getD k (.slice none 0 0)) ∧ W.frozen? ⟨w.heap.size, k, none⟩ = false) := fun W hW => by
              have hb := (hW.block _ hg).trans HRo.out.blk
              exact ⟨by rw [cell_of_row W _ k _ _ _ hb, List.getElem?_toArray, List.getD_eq_getElem?_getD, List.getElem?_eq_getElem (by omega)]; rfl, frozen_of_row W _ k _ _ hb⟩
            go_wp2_with (go_at_call 62; refine HP.out.mono ?_; rintro e w5 ⟨v5, rfl, h5, l5, b5⟩; obtain ⟨s1, s2⟩ := HSt.out w5 b5; obtain ⟨x5, n5, c5, rfl, -⟩ := h5.shape2; have H5 := hide h5; have L5 := hide l5; have B5 := hide b5; clear h5 l5 b5)
            have hdr : zs.drop (251 * (k + 1)) = (zs.drop (251 * k)).drop 251 := by
              rw [List.drop_drop]; congr 1
            have hnm : n - 251 * (k + 1) = m - 251 := by have := HMm.out; omega
            go_roundw
            case rel =>
              refine ⟨k + 1, _, _, vs.set k (.slice x5 n5 c5), by omega, by go_num, by rw [hnm], by rw [hnm]; omega, ?_, by rw [List.length_set]; exact hvl, HRo.out.grow (by omega) (by omega) B5.out _ (by rw [HX.out]; exact H5.out) L5.out, ?_⟩
              · rw [hdr]; have h := HCut.out; first | exact h | (simpa [Addr.add] using h)
              · exact (HBe.out.trans (B5.out.mono HBe.out.size)).setCell (p := ⟨w.heap.size, k, none⟩) (Nat.le_refl _) _
            case measure => simp [intOf]; omega
          · have hlk : k + 1 < ys.length := by have := HL'.out; omega
            have HX : Hid (pay zs ys k = le4 (ys.getD (k + 1) 0) ++ ((zs.drop (251 * k)).take 251).flatMap le4) := by rw [Hid, pay, if_pos hlk]
            have hy := HZ'.out.at (k + 1)
            rcases HR'.out.below HBe.out with h0 | ⟨b, o, rfl, _, hcc⟩
            · subst h0; simp at hlk
            have g1 := hcc (k + 1) hlk
            clear hcc hlk
            generalize ys.getD (k + 1) 0 = y at g1 HX hy
            have hnx' : (k : Int) + 1 < (n' : Int) := by omega
            have HP := hide (payloadOf_any wr y (by omega) a1 m c1 ((zs.drop (251 * k)).take 251) (by rw [HZL.out]; omega) (by omega) ((HRw.out.take 251).below HBe.out) HW.out)
            have HCut := hide (HRw.out.cut m c1 (by rw [List.length_drop, HL.out]; have := HMm.out; omega))
            have hm1 : ¬ (251 : Int) ≤ (m : Int) := by omega
            have hm2 : (m : Int) < 251 := by omega
            have HSt : Hid (∀ W, Below wr.heap.size wr W → W.cell? ⟨w.heap.size, k, none⟩ = some (vs.getD k (.slice none 0 0)) ∧ W.frozen? ⟨w.heap.size, k, none⟩ = false) := fun W hW => by
              have hb := (hW.block _ hg).trans HRo.out.blk
              exact ⟨by rw [cell_of_row W _ k _ _ _ hb, List.getElem?_toArray, List.getD_eq_getElem?_getD, List.getElem?_eq_getElem (by omega)]; rfl, frozen_of_row W _ k _ _ hb⟩
            go_wp2_with (go_at_call 62; refine HP.out.mono ?_; rintro e w5 ⟨v5, rfl, h5, l5, b5⟩; obtain ⟨s1, s2⟩ := HSt.out w5 b5; obtain ⟨x5, n5, c5, rfl, -⟩ := h5.shape2; have H5 := hide h5; have L5 := hide l5; have B5 := hide b5; clear h5 l5 b5)
            have hdr : zs.drop (251 * (k + 1)) = (zs.drop (251 * k)).drop m := by
              rw [List.drop_of_length_le (by have := HL.out; have := HMm.out; omega), List.drop_of_length_le (by rw [List.length_drop]; have := HL.out; have := HMm.out; omega)]
            have hnm : n - 251 * (k + 1) = 0 := by have := HMm.out; omega
            go_roundw
            case rel =>
              refine ⟨k + 1, _, _, vs.set k (.slice x5 n5 c5), by omega, by go_num, by rw [hnm], by rw [hnm]; omega, ?_, by rw [List.length_set]; exact hvl, HRo.out.grow (by omega) (by omega) B5.out _ (by rw [HX.out]; exact H5.out) L5.out, ?_⟩
              · rw [hdr]; have h := HCut.out; first | exact h | (simpa [Addr.add] using h)
              · exact (HBe.out.trans (B5.out.mono HBe.out.size)).setCell (p := ⟨w.heap.size, k, none⟩) (Nat.le_refl _) _
            case measure => simp [intOf]; omega
        · by_cases hbig : 251 ≤ m
          · have HX : Hid (pay zs ys k = le4 0 ++ ((zs.drop (251 * k)).take 251).flatMap le4) := by rw [Hid, pay, if_neg (by have := HL'.out; omega)]
            have hnx' : ¬ (k : Int) + 1 < (n' : Int) := by omega
            have HP := hide (payloadOf_any wr 0 (by omega) a1 251 c1 ((zs.drop (251 * k)).take 251) (by rw [HZL.out]; omega) (by omega) ((HRw.out.take 251).below HBe.out) HW.out)
            have HCut := hide (HRw.out.cut 251 c1 (by rw [List.length_drop, HL.out]; have := HMm.out; omega))
            have hm1 : (251 : Int) ≤ (m : Int) := by omega
            have HSt : Hid (∀ W, Below wr.heap.size wr W → W.cell? ⟨w.heap.size, k, none⟩ = some (vs.getD k (.slice none 0 0)) ∧ W.frozen? ⟨w.heap.size, k, none⟩ = false) := fun W hW => by
              have hb := (hW.block _ hg).trans HRo.out.blk
              exact ⟨by rw [cell_of_row W _ k _ _ _ hb, List.getElem?_toArray, List.getD_eq_getElem?_getD, List.getElem?_eq_getElem (by omega)]; rfl, frozen_of_row W _ k _ _ hb⟩
            go_wp2_with (go_at_call 62; refine HP.out.mono ?_; rintro e w5 ⟨v5, rfl, h5, l5, b5⟩; obtain ⟨s1, s2⟩ := HSt.out w5 b5; obtain ⟨x5, n5, c5, rfl, -⟩ := h5.shape2; have H5 := hide h5; have L5 := hide l5; have B5 := hide b5; clear h5 l5 b5)
            have hdr : zs.drop (251 * (k + 1)) = (zs.drop (251 * k)).drop 251 := by
              rw [List.drop_drop]; congr 1
            have hnm : n - 251 * (k + 1) = m - 251 := by have := HMm.out; omega
            go_roundw
            case rel =>
              refine ⟨k + 1, _, _, vs.set k (.slice x5 n5 c5), by omega, by go_num, by rw [hnm], by rw [hnm]; omega, ?_, by rw [List.length_set]; exact hvl, HRo.out.grow (by omega) (by omega) B5.out _ (by rw [HX.out]; exact H5.out) L5.out, ?_⟩
              · rw [hdr]; have h := HCut.out; first | exact h | (simpa [Addr.add] using h)
              · exact (HBe.out.trans (B5.out.mono HBe.out.size)).setCell (p := ⟨w.heap.size, k, none⟩) (Nat.le_refl _) _
            case measure => simp [intOf]; omega
          · have HX : Hid (pay zs ys k = le4 0 ++ ((zs.drop (251 * k)).take 251).flatMap le4) := by rw [Hid, pay, if_neg (by have := HL'.out; omega)]
            have hnx' : ¬ (k : Int) + 1 < (n' : Int) := by omega
            have HP := hide (payloadOf_any wr 0 (by omega) a1 m c1 ((zs.drop (251 * k)).take 251) (by rw [HZL.out]; omega) (by omega) ((HRw.out.take 251).below HBe.out) HW.out)
            have HCut := hide (HRw.out.cut m c1 (by rw [List.length_drop, HL.out]; have := HMm.out; omega))
            have hm1 : ¬ (251 : Int) ≤ (m : Int) := by omega
            have hm2 : (m : Int) < 251 := by omega
            have HSt : Hid (∀ W, Below wr.heap.size wr W → W.cell? ⟨w.heap.size, k, none⟩ = some (vs.getD k (.slice none 0 0)) ∧ W.frozen? ⟨w.heap.size, k, none⟩ = false) := fun W hW => by
              have hb := (hW.block _ hg).trans HRo.out.blk
              exact ⟨by rw [cell_of_row W _ k _ _ _ hb, List.getElem?_toArray, List.getD_eq_getElem?_getD, List.getElem?_eq_getElem (by omega)]; rfl, frozen_of_row W _ k _ _ hb⟩
            go_wp2_with (go_at_call 62; refine HP.out.mono ?_; rintro e w5 ⟨v5, rfl, h5, l5, b5⟩; obtain ⟨s1, s2⟩ := HSt.out w5 b5; obtain ⟨x5, n5, c5, rfl, -⟩ := h5.shape2; have H5 := hide h5; have L5 := hide l5; have B5 := hide b5; clear h5 l5 b5)
            have hdr : zs.drop (251 * (k + 1)) = (zs.drop (251 * k)).drop m := by
              rw [List.drop_of_length_le (by have := HL.out; have := HMm.out; omega), List.drop_of_length_le (by rw [List.length_drop]; have := HL.out; have := HMm.out; omega)]
            have hnm : n - 251 * (k + 1) = 0 := by have := HMm.out; omega
            go_roundw
            case rel =>
              refine ⟨k + 1, _, _, vs.set k (.slice x5 n5 c5), by omega, by go_num, by rw [hnm], by rw [hnm]; omega, ?_, by rw [List.length_set]; exact hvl, HRo.out.grow (by omega) (by omega) B5.out _ (by rw [HX.out]; exact H5.out) L5.out, ?_⟩
              · rw [hdr]; have h := HCut.out; first | exact h | (simpa [Addr.add] using h)
              · exact (HBe.out.trans (B5.out.mono HBe.out.size)).setCell (p := ⟨w.heap.size, k, none⟩) (Nat.le_refl _) _
            case measure => simp [intOf]; omega
      · obtain rfl : k = n' := by omega
        go_wp2
        go_ret2
        exact ⟨w.heap.size, vs, rfl, hvl, Nat.le_refl _, HRo.out, HBe.out⟩
end Go.Proofs.YtlahkeapfcfbbaaDoor
