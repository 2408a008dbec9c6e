/- The state of a sector: reading it. -/
import Derived.Test.YtfbkcolcdkglbaaRJ
namespace Go.Proofs.Ytfbkcolcdkglbaa
open Go.RowKit
set_option linter.unusedVariables false

/-- what reading a state comes to. -/
def MetaOut (O : Option Pg.M) (p : Nat) (w : World) (e : Ending) (w' : World) : Prop :=
  (∀ m, O = some m → e = .returned (mv m)) ∧ (O = none → e = .panicked flt) ∧ w.grownBy w' (some p)
theorem MetaOut.no {O : Option Pg.M} {p : Nat} {w w' : World} (h : O = none) (hg : w.grownBy w' (some p)) : MetaOut O p w (.panicked flt) w' :=
  ⟨fun m e => by rw [h] at e; contradiction, fun _ => rfl, hg⟩
theorem five {w : World} {b t : Nat} {v0 v1 v2 v3 v4 : Value} (h : w.heap[b]? = some (.cells #[v0, v1, v2, v3, v4] t (0, 0))) :
    w.cell? ⟨b, 0, none⟩ = some v0 ∧ w.cell? ⟨b, 1, none⟩ = some v1 ∧ w.cell? ⟨b, 2, none⟩ = some v2 ∧ w.cell? ⟨b, 3, none⟩ = some v3 ∧ w.cell? ⟨b, 4, none⟩ = some v4 := by
  refine ⟨?_, ?_, ?_, ?_, ?_⟩ <;> simp [World.cell?, h]
theorem grown_set {w w' : World} {b j : Nat} {r : Option Nat} (hg : w.grownBy w' r) (hb : w.heap.size ≤ b) (v : Value) : w.grownBy (w'.setCell ⟨b, j, none⟩ v) r := by
  refine ⟨hg.os, hg.tape, hg.output, by have := hg.size; simpa [World.setCell] using this, fun k hk hne => ?_⟩
  rw [Below.heap_setCell _ _ _ _ (show k ≠ b by omega)]
  exact hg.block k hk hne
/-- no cell of these is a byte. -/
def noB (cs : Array Value) : Bool := cs.all fun v => match v with | .int .u8 _ => false | _ => true
theorem Rdr.setOther {w : World} {p b j : Nat} {zs : List Int} {v : Value} {cs : Array Value} (h : Rdr w p zs) (hb : b ≠ p) (hbk : w.heap[b]? = some (.cells cs 64 (0, 0))) (hno : noB cs = true) : Rdr (w.setCell ⟨b, j, none⟩ v) p zs := by
  obtain ⟨a, n, c, h⟩ := h
  refine ⟨a, n, c, ⟨(Below.heap_setCell _ _ _ _ (Ne.symm hb)).trans h.blk, h.len, h.cap, h.max, h.bare, ?_, h.byts⟩⟩
  rcases h.row with h0 | ⟨b', off, h1, h2, h3, h4⟩
  · exact .inl h0
  · refine .inr ⟨b', off, h1, by simpa [World.setCell] using h2, h3, fun i hi => ?_⟩
    by_cases e : b' = b
    · exfalso
      have hc := h4 i hi
      rw [e] at hc
      simp [World.cell?, hbk] at hc
      obtain ⟨hlt, hc⟩ := Array.getElem?_eq_some_iff.1 hc
      have := (Array.all_eq_true.1 hno) (off + i) hlt
      rw [hc] at this
      simp at this
    · exact (World.cell?_of_block (w := w) (Below.heap_setCell _ _ _ _ e)).trans (h4 i hi)
theorem blk_set {w : World} {b j : Nat} {cs : Array Value} {v : Value} (h : w.heap[b]? = some (.cells cs 64 (0, 0))) : (w.setCell ⟨b, j, none⟩ v).heap[b]? = some (.cells (cs.setIfInBounds j v) 64 (0, 0)) := heap_setCell_same w b j _ 64 _ h

set_option maxHeartbeats 3200000 in
set_option maxRecDepth 1000000 in
theorem meta_any (p : Nat) (zs : List Int) (w : World) (h : Rdr w p (zs.take 128)) (h8 : Byts zs) :
    Calls Try.prog 65 #[.pointer (some ⟨p, 0, none⟩)] w fun e w' => MetaOut (Pg.get zs) p w e w' := by
  have hpw := h.lt
  have HA : Hid (w.grownBy (w.alloc (.cells #[.int .u64 0, .int .u32 0, .int .u32 0, .int .u32 0, .int .u64 0] 64)) (some p)) := hide (grown_below (below_alloc _ _))
  have HQ : Hid ((w.alloc (.cells #[.int .u64 0, .int .u32 0, .int .u32 0, .int .u32 0, .int .u64 0] 64)).heap[w.heap.size]? = some (.cells #[.int .u64 0, .int .u32 0, .int .u32 0, .int .u32 0, .int .u64 0] 64 (0, 0))) := hide (heap_alloc_new w _)
  have HS : Hid ((w.alloc (.cells #[.int .u64 0, .int .u32 0, .int .u32 0, .int .u32 0, .int .u64 0] 64)).heap.size = w.heap.size + 1) := by rw [Hid]; simp
  have HU := hide (unseal_gen p 128 (zs.take 128) _ (h.below (below_alloc w (.cells #[.int .u64 0, .int .u32 0, .int .u32 0, .int .u32 0, .int .u64 0] 64))) (by omega) (by omega))
  by_cases hrt : Pg.Rt 128 (zs.take 128)
  · obtain ⟨x1, x2, x3, x4, x5, x6, R, hcut, l1, l2, l3, l4, l5, l6, lR⟩ := Pg.cutm ((zs.take 128).take 124) (by rw [List.length_take, hrt.1]; rfl)
    have hb := (h8.take 128).take 124
    rw [hcut] at hb
    have bx : ∀ l : List Int, (∀ c ∈ l, c ∈ x1 ++ (x2 ++ (x3 ++ (x4 ++ (x5 ++ (x6 ++ R)))))) → Byts l := fun l hl c hc => hb c (hl c hc)
    have b1 := bx x1 (fun c hc => by simp [hc])
    have b2 := bx x2 (fun c hc => by simp [hc])
    have b3 := bx x3 (fun c hc => by simp [hc])
    have b4 := bx x4 (fun c hc => by simp [hc])
    have b5 := bx x5 (fun c hc => by simp [hc])
    have b6 := bx x6 (fun c hc => by simp [hc])
    have bR := bx R (fun c hc => by simp [hc])
    obtain ⟨HY, HN⟩ := Pg.get_cut h8 hrt hcut l1 l2 l3 l4 l5 l6 lR
    have v2 := small8 b2 l2
    have v3 := small8 b3 l3
    have v4 := small8 b4 l4
    have v5 := small8 b5 l5
    have v6 := small8 b6 l6
    rw [Pg.p8] at v2 v6
    rw [Pg.p4] at v3 v4 v5
    rw [show (128 : Nat) - 4 = 124 from rfl, hcut] at HU
    have HRt := hide hrt
    generalize hO : Pg.get zs = O at *
    have HY := hide HY
    have HN := hide HN
    have M1 : Hid (∀ W, Rdr W p (x1 ++ (x2 ++ (x3 ++ (x4 ++ (x5 ++ (x6 ++ R)))))) → _) := hide fun W h => mark_gen p [67, 77, 69, 84] x1 _ W h l1 (by simp) (by unfold Byts; decide) b1
    have N2 : Hid (∀ W, Rdr W p (x2 ++ (x3 ++ (x4 ++ (x5 ++ (x6 ++ R))))) → _) := hide fun W h => num_ok p 8 x2 _ W l2 (by omega) h b2
    have N3 : Hid (∀ W, Rdr W p (x3 ++ (x4 ++ (x5 ++ (x6 ++ R)))) → _) := hide fun W h => num_ok p 4 x3 _ W l3 (by omega) h b3
    have N4 : Hid (∀ W, Rdr W p (x4 ++ (x5 ++ (x6 ++ R))) → _) := hide fun W h => num_ok p 4 x4 _ W l4 (by omega) h b4
    have N5 : Hid (∀ W, Rdr W p (x5 ++ (x6 ++ R)) → _) := hide fun W h => num_ok p 4 x5 _ W l5 (by omega) h b5
    have N6 : Hid (∀ W, Rdr W p (x6 ++ R) → _) := hide fun W h => num_ok p 8 x6 _ W l6 (by omega) h b6
    have ZR : Hid (∀ W, Rdr W p R → _) := hide fun W (h : Rdr W p R) => nil_gen p 92 R [] W (by rw [List.append_nil]; exact h) lR (by omega) bR
    have LR := hide lR
    clear hO h8 h hrt hcut l1 l2 l3 l4 l5 l6 lR hb bx b1 b2 b3 b4 b5 b6 bR
    generalize Crc.leV x2 = G at *
    generalize Crc.leV x3 = Q at *
    generalize Crc.leV x4 = F at *
    generalize Crc.leV x5 = P at *
    generalize Crc.leV x6 = K at *
    go_enter Try.func65, Try.ntmps65
    go_wp2_with fail
    refine HU.out.mono ?_
    rintro e w1 ⟨⟨hy, -⟩, hg1⟩
    obtain ⟨rfl, hr1⟩ := hy HRt.out
    have HG1 := hide hg1
    have HR1 := hide hr1
    clear hg1 hr1 hy HU
    go_wp2_with fail
    refine (M1.out _ HR1.out).mono ?_
    rintro e w2 ⟨⟨hy, hno⟩, hr2, hg2⟩
    have HG2 := hide (grown_trans HG1.out hg2)
    have HR2 := hide hr2
    clear hg2 hr2
    by_cases c1 : x1 = [67, 77, 69, 84]
    rotate_left
    · have HO := hide (HN.out fun h => c1 h.1)
      obtain rfl := hno c1
      exact ⟨rfl, MetaOut.no HO.out (grown_trans HA.out HG2.out)⟩
    obtain rfl := hy c1
    have C1 := hide c1
    clear c1 hy hno M1
    have HS2 : Hid (w.heap.size + 1 ≤ w2.heap.size) := by have := HG2.out.size; rwa [HS.out] at this
    have HR3 := hide (HR2.out.below (below_alloc w2 (.cells #[.int .u64 0, .int .u32 0, .int .u32 0, .int .u32 0, .int .u64 0] 64)))
    have HG3 : Hid (w.grownBy (w2.alloc (.cells #[.int .u64 0, .int .u32 0, .int .u32 0, .int .u32 0, .int .u64 0] 64)) (some p)) := hide (grown_trans (grown_trans HA.out HG2.out) (grown_below (below_alloc _ _)))
    have HQ3 : Hid ((w2.alloc (.cells #[.int .u64 0, .int .u32 0, .int .u32 0, .int .u32 0, .int .u64 0] 64)).heap[w.heap.size]? = some (.cells #[.int .u64 0, .int .u32 0, .int .u32 0, .int .u32 0, .int .u64 0] 64 (0, 0))) := hide ((Below.heap_alloc w2 _ _ (by have := HS2.out; omega)).trans ((HG2.out.block w.heap.size (by rw [HS.out]; omega) (by simp; omega)).trans HQ.out))
    have HM3 : Hid ((w2.alloc (.cells #[.int .u64 0, .int .u32 0, .int .u32 0, .int .u32 0, .int .u64 0] 64)).heap[w2.heap.size]? = some (.cells #[.int .u64 0, .int .u32 0, .int .u32 0, .int .u32 0, .int .u64 0] 64 (0, 0))) := hide (heap_alloc_new w2 _)
    have HL3 : Hid (w2.heap.size < (w2.alloc (.cells #[.int .u64 0, .int .u32 0, .int .u32 0, .int .u32 0, .int .u64 0] 64)).heap.size) := by rw [Hid]; simp
    go_wp2_with fail
    refine (N2.out _ HR3.out).mono ?_
    rintro e u4 ⟨rfl, hr, hg⟩
    have hm : u4.heap[w2.heap.size]? = some (.cells #[.int .u64 0, .int .u32 0, .int .u32 0, .int .u32 0, .int .u64 0] 64 (0, 0)) := (hg.block _ HL3.out (by simp; have := HS2.out; omega)).trans HM3.out
    have hq : u4.heap[w.heap.size]? = some (.cells #[.int .u64 0, .int .u32 0, .int .u32 0, .int .u32 0, .int .u64 0] 64 (0, 0)) := (hg.block _ (by have := HS2.out; have := HL3.out; omega) (by simp; omega)).trans HQ3.out
    have HL4 : Hid (w2.heap.size < (u4.setCell ⟨w2.heap.size, 0, none⟩ (.int .u64 (G : Int))).heap.size) := by have h1 := HL3.out; have h2 := hg.size; rw [Hid]; simp [World.setCell]; omega
    have HR4 : Hid (Rdr (u4.setCell ⟨w2.heap.size, 0, none⟩ (.int .u64 (G : Int))) p (x3 ++ (x4 ++ (x5 ++ (x6 ++ R))))) := hide (hr.setOther (by have := HS2.out; omega) hm (by simp [noB]))
    have HG4 : Hid (w.grownBy (u4.setCell ⟨w2.heap.size, 0, none⟩ (.int .u64 (G : Int))) (some p)) := hide (grown_set (grown_trans HG3.out hg) (by have := HS2.out; omega) _)
    have HM4 : Hid ((u4.setCell ⟨w2.heap.size, 0, none⟩ (.int .u64 (G : Int))).heap[w2.heap.size]? = some (.cells #[.int .u64 (G : Int), .int .u32 0, .int .u32 0, .int .u32 0, .int .u64 0] 64 (0, 0))) := hide (blk_set hm)
    have HQ4 : Hid ((u4.setCell ⟨w2.heap.size, 0, none⟩ (.int .u64 (G : Int))).heap[w.heap.size]? = some (.cells #[.int .u64 0, .int .u32 0, .int .u32 0, .int .u32 0, .int .u64 0] 64 (0, 0))) := hide ((Below.heap_setCell _ _ _ _ (show w.heap.size ≠ w2.heap.size by have := HS2.out; omega)).trans hq)
    obtain ⟨y0, y1, y2, y3, y4⟩ := five hm
    have yf := frozen_blk (j := 0) hm
    clear hr hg hm hq HR3 HG3 HM3 HQ3 HL3 N2
    go_wp2_with fail
    refine (N3.out _ HR4.out).mono ?_
    rintro e u5 ⟨rfl, hr, hg⟩
    have hm : u5.heap[w2.heap.size]? = some (.cells #[.int .u64 (G : Int), .int .u32 0, .int .u32 0, .int .u32 0, .int .u64 0] 64 (0, 0)) := (hg.block _ HL4.out (by simp; have := HS2.out; omega)).trans HM4.out
    have hq : u5.heap[w.heap.size]? = some (.cells #[.int .u64 0, .int .u32 0, .int .u32 0, .int .u32 0, .int .u64 0] 64 (0, 0)) := (hg.block _ (by have := HS2.out; have := HL4.out; omega) (by simp; omega)).trans HQ4.out
    have HL5 : Hid (w2.heap.size < (u5.setCell ⟨w2.heap.size, 1, none⟩ (.int .u32 (Q : Int))).heap.size) := by have h1 := HL4.out; have h2 := hg.size; rw [Hid]; simp [World.setCell]; omega
    have HR5 : Hid (Rdr (u5.setCell ⟨w2.heap.size, 1, none⟩ (.int .u32 (Q : Int))) p (x4 ++ (x5 ++ (x6 ++ R)))) := hide (hr.setOther (by have := HS2.out; omega) hm (by simp [noB]))
    have HG5 : Hid (w.grownBy (u5.setCell ⟨w2.heap.size, 1, none⟩ (.int .u32 (Q : Int))) (some p)) := hide (grown_set (grown_trans HG4.out hg) (by have := HS2.out; omega) _)
    have HM5 : Hid ((u5.setCell ⟨w2.heap.size, 1, none⟩ (.int .u32 (Q : Int))).heap[w2.heap.size]? = some (.cells #[.int .u64 (G : Int), .int .u32 (Q : Int), .int .u32 0, .int .u32 0, .int .u64 0] 64 (0, 0))) := hide (blk_set hm)
    have HQ5 : Hid ((u5.setCell ⟨w2.heap.size, 1, none⟩ (.int .u32 (Q : Int))).heap[w.heap.size]? = some (.cells #[.int .u64 0, .int .u32 0, .int .u32 0, .int .u32 0, .int .u64 0] 64 (0, 0))) := hide ((Below.heap_setCell _ _ _ _ (show w.heap.size ≠ w2.heap.size by have := HS2.out; omega)).trans hq)
    obtain ⟨y0, y1, y2, y3, y4⟩ := five hm
    have yf := frozen_blk (j := 1) hm
    clear hr hg hm hq HR4 HG4 HM4 HQ4 HL4 N3
    go_wp2_with fail
    refine (N4.out _ HR5.out).mono ?_
    rintro e u6 ⟨rfl, hr, hg⟩
    have hm : u6.heap[w2.heap.size]? = some (.cells #[.int .u64 (G : Int), .int .u32 (Q : Int), .int .u32 0, .int .u32 0, .int .u64 0] 64 (0, 0)) := (hg.block _ HL5.out (by simp; have := HS2.out; omega)).trans HM5.out
    have hq : u6.heap[w.heap.size]? = some (.cells #[.int .u64 0, .int .u32 0, .int .u32 0, .int .u32 0, .int .u64 0] 64 (0, 0)) := (hg.block _ (by have := HS2.out; have := HL5.out; omega) (by simp; omega)).trans HQ5.out
    have HL6 : Hid (w2.heap.size < (u6.setCell ⟨w2.heap.size, 2, none⟩ (.int .u32 (F : Int))).heap.size) := by have h1 := HL5.out; have h2 := hg.size; rw [Hid]; simp [World.setCell]; omega
    have HR6 : Hid (Rdr (u6.setCell ⟨w2.heap.size, 2, none⟩ (.int .u32 (F : Int))) p (x5 ++ (x6 ++ R))) := hide (hr.setOther (by have := HS2.out; omega) hm (by simp [noB]))
    have HG6 : Hid (w.grownBy (u6.setCell ⟨w2.heap.size, 2, none⟩ (.int .u32 (F : Int))) (some p)) := hide (grown_set (grown_trans HG5.out hg) (by have := HS2.out; omega) _)
    have HM6 : Hid ((u6.setCell ⟨w2.heap.size, 2, none⟩ (.int .u32 (F : Int))).heap[w2.heap.size]? = some (.cells #[.int .u64 (G : Int), .int .u32 (Q : Int), .int .u32 (F : Int), .int .u32 0, .int .u64 0] 64 (0, 0))) := hide (blk_set hm)
    have HQ6 : Hid ((u6.setCell ⟨w2.heap.size, 2, none⟩ (.int .u32 (F : Int))).heap[w.heap.size]? = some (.cells #[.int .u64 0, .int .u32 0, .int .u32 0, .int .u32 0, .int .u64 0] 64 (0, 0))) := hide ((Below.heap_setCell _ _ _ _ (show w.heap.size ≠ w2.heap.size by have := HS2.out; omega)).trans hq)
    obtain ⟨y0, y1, y2, y3, y4⟩ := five hm
    have yf := frozen_blk (j := 2) hm
    clear hr hg hm hq HR5 HG5 HM5 HQ5 HL5 N4
    go_wp2_with fail
    refine (N5.out _ HR6.out).mono ?_
    rintro e u7 ⟨rfl, hr, hg⟩
    have hm : u7.heap[w2.heap.size]? = some (.cells #[.int .u64 (G : Int), .int .u32 (Q : Int), .int .u32 (F : Int), .int .u32 0, .int .u64 0] 64 (0, 0)) := (hg.block _ HL6.out (by simp; have := HS2.out; omega)).trans HM6.out
    have hq : u7.heap[w.heap.size]? = some (.cells #[.int .u64 0, .int .u32 0, .int .u32 0, .int .u32 0, .int .u64 0] 64 (0, 0)) := (hg.block _ (by have := HS2.out; have := HL6.out; omega) (by simp; omega)).trans HQ6.out
    have HL7 : Hid (w2.heap.size < (u7.setCell ⟨w2.heap.size, 3, none⟩ (.int .u32 (P : Int))).heap.size) := by have h1 := HL6.out; have h2 := hg.size; rw [Hid]; simp [World.setCell]; omega
    have HR7 : Hid (Rdr (u7.setCell ⟨w2.heap.size, 3, none⟩ (.int .u32 (P : Int))) p (x6 ++ R)) := hide (hr.setOther (by have := HS2.out; omega) hm (by simp [noB]))
    have HG7 : Hid (w.grownBy (u7.setCell ⟨w2.heap.size, 3, none⟩ (.int .u32 (P : Int))) (some p)) := hide (grown_set (grown_trans HG6.out hg) (by have := HS2.out; omega) _)
    have HM7 : Hid ((u7.setCell ⟨w2.heap.size, 3, none⟩ (.int .u32 (P : Int))).heap[w2.heap.size]? = some (.cells #[.int .u64 (G : Int), .int .u32 (Q : Int), .int .u32 (F : Int), .int .u32 (P : Int), .int .u64 0] 64 (0, 0))) := hide (blk_set hm)
    have HQ7 : Hid ((u7.setCell ⟨w2.heap.size, 3, none⟩ (.int .u32 (P : Int))).heap[w.heap.size]? = some (.cells #[.int .u64 0, .int .u32 0, .int .u32 0, .int .u32 0, .int .u64 0] 64 (0, 0))) := hide ((Below.heap_setCell _ _ _ _ (show w.heap.size ≠ w2.heap.size by have := HS2.out; omega)).trans hq)
    obtain ⟨y0, y1, y2, y3, y4⟩ := five hm
    have yf := frozen_blk (j := 3) hm
    clear hr hg hm hq HR6 HG6 HM6 HQ6 HL6 N5
    go_wp2_with fail
    refine (N6.out _ HR7.out).mono ?_
    rintro e u8 ⟨rfl, hr, hg⟩
    have hm : u8.heap[w2.heap.size]? = some (.cells #[.int .u64 (G : Int), .int .u32 (Q : Int), .int .u32 (F : Int), .int .u32 (P : Int), .int .u64 0] 64 (0, 0)) := (hg.block _ HL7.out (by simp; have := HS2.out; omega)).trans HM7.out
    have hq : u8.heap[w.heap.size]? = some (.cells #[.int .u64 0, .int .u32 0, .int .u32 0, .int .u32 0, .int .u64 0] 64 (0, 0)) := (hg.block _ (by have := HS2.out; have := HL7.out; omega) (by simp; omega)).trans HQ7.out
    have HL8 : Hid (w2.heap.size < (u8.setCell ⟨w2.heap.size, 4, none⟩ (.int .u64 (K : Int))).heap.size) := by have h1 := HL7.out; have h2 := hg.size; rw [Hid]; simp [World.setCell]; omega
    have HR8 : Hid (Rdr (u8.setCell ⟨w2.heap.size, 4, none⟩ (.int .u64 (K : Int))) p R) := hide (hr.setOther (by have := HS2.out; omega) hm (by simp [noB]))
    have HG8 : Hid (w.grownBy (u8.setCell ⟨w2.heap.size, 4, none⟩ (.int .u64 (K : Int))) (some p)) := hide (grown_set (grown_trans HG7.out hg) (by have := HS2.out; omega) _)
    have HM8 : Hid ((u8.setCell ⟨w2.heap.size, 4, none⟩ (.int .u64 (K : Int))).heap[w2.heap.size]? = some (.cells #[.int .u64 (G : Int), .int .u32 (Q : Int), .int .u32 (F : Int), .int .u32 (P : Int), .int .u64 (K : Int)] 64 (0, 0))) := hide (blk_set hm)
    have HQ8 : Hid ((u8.setCell ⟨w2.heap.size, 4, none⟩ (.int .u64 (K : Int))).heap[w.heap.size]? = some (.cells #[.int .u64 0, .int .u32 0, .int .u32 0, .int .u32 0, .int .u64 0] 64 (0, 0))) := hide ((Below.heap_setCell _ _ _ _ (show w.heap.size ≠ w2.heap.size by have := HS2.out; omega)).trans hq)
    obtain ⟨y0, y1, y2, y3, y4⟩ := five hm
    have yf := frozen_blk (j := 4) hm
    clear hr hg hm hq HR7 HG7 HM7 HQ7 HL7 N6
    obtain ⟨q9, d9, k9, f9⟩ := HR8.out.cells
    rw [LR.out] at k9
    go_wp2_with fail
    refine (ZR.out _ HR8.out).mono ?_
    rintro e u9 ⟨⟨hy, hno⟩, -, hg9⟩
    have HG9 := hide (grown_trans HG8.out hg9)
    have hm : u9.heap[w2.heap.size]? = some (.cells #[.int .u64 (G : Int), .int .u32 (Q : Int), .int .u32 (F : Int), .int .u32 (P : Int), .int .u64 (K : Int)] 64 (0, 0)) := (hg9.block _ HL8.out (by simp; have := HS2.out; omega)).trans HM8.out
    have hq : u9.heap[w.heap.size]? = some (.cells #[.int .u64 0, .int .u32 0, .int .u32 0, .int .u32 0, .int .u64 0] 64 (0, 0)) := (hg9.block _ (by have := HS2.out; have := HL8.out; omega) (by simp; omega)).trans HQ8.out
    have HL9 : Hid (w2.heap.size < u9.heap.size) := by have h1 := HL8.out; have h2 := hg9.size; rw [Hid]; omega
    have HM9 := hide hm
    have HQ9 := hide hq
    clear hg9 hm hq y0 y1 y2 y3 y4 yf k9 f9
    by_cases c7 : R = List.replicate 92 0
    rotate_left
    · have HO := hide (HN.out fun h => c7 h.2.1)
      obtain rfl := hno c7
      exact ⟨rfl, MetaOut.no HO.out HG9.out⟩
    obtain rfl := hy c7
    have C7 := hide c7
    clear c7 hy hno ZR HR8 HG8 HM8 HQ8 HL8
    obtain ⟨y0, y1, y2, y3, y4⟩ := five HM9.out
    by_cases c8 : (Pg.M.mk G Q F P K).May
    rotate_left
    · have HO := hide (HN.out fun h => c8 h.2.2)
      have HMay := hide (may_no ⟨G, Q, F, P, K⟩ u9 c8)
      simp only [mv] at HMay
      clear c8
      go_wp2_with fail
      refine HMay.out.mono ?_
      rintro e u10 ⟨rfl, hb10⟩
      go_wp2_with fail
      refine (must_no _ _ rfl _).mono ?_
      rintro e w' ⟨rfl, rfl⟩
      exact ⟨rfl, MetaOut.no HO.out (grown_trans HG9.out (grown_below hb10))⟩
    have HO := hide (HY.out C1.out C7.out c8)
    have HMay := hide (may_yes ⟨G, Q, F, P, K⟩ u9 c8)
    simp only [mv] at HMay
    clear c8
    go_wp2_with fail
    refine HMay.out.mono ?_
    rintro e u10 ⟨rfl, hb10⟩
    have hm : u10.heap[w2.heap.size]? = some (.cells #[.int .u64 (G : Int), .int .u32 (Q : Int), .int .u32 (F : Int), .int .u32 (P : Int), .int .u64 (K : Int)] 64 (0, 0)) := (hb10.block _ HL9.out).trans HM9.out
    have hq : u10.heap[w.heap.size]? = some (.cells #[.int .u64 0, .int .u32 0, .int .u32 0, .int .u32 0, .int .u64 0] 64 (0, 0)) := (hb10.block _ (by have := HS2.out; have := HL9.out; omega)).trans HQ9.out
    have HG10 := hide (grown_trans HG9.out (grown_below hb10))
    clear hb10 y0 y1 y2 y3 y4 HMay
    go_wp2_with fail
    refine (must_yes _ _ rfl _).mono ?_
    rintro e u11 ⟨rfl, rfl⟩
    obtain ⟨y0, y1, y2, y3, y4⟩ := five hm
    obtain ⟨q0, q1, q2, q3, q4⟩ := five hq
    have g0 := frozen_blk (j := 0) hq
    have g1 := frozen_blk (j := 1) hq
    have g2 := frozen_blk (j := 2) hq
    have g3 := frozen_blk (j := 3) hq
    have g4 := frozen_blk (j := 4) hq
    have HQ11 := hide hq
    clear hm hq
    go_wp2
    have b0 := blk_set (j := 0) (v := .int .u64 (G : Int)) HQ11.out
    have b1 := blk_set (j := 1) (v := .int .u32 (Q : Int)) b0
    have b2 := blk_set (j := 2) (v := .int .u32 (F : Int)) b1
    have b3 := blk_set (j := 3) (v := .int .u32 (P : Int)) b2
    have b4 := blk_set (j := 4) (v := .int .u64 (K : Int)) b3
    have hg := grown_set (b := w.heap.size) (j := 4) (grown_set (b := w.heap.size) (j := 3) (grown_set (b := w.heap.size) (j := 2) (grown_set (b := w.heap.size) (j := 1) (grown_set (b := w.heap.size) (j := 0) HG10.out (Nat.le_refl _) (.int .u64 (G : Int))) (Nat.le_refl _) (.int .u32 (Q : Int))) (Nat.le_refl _) (.int .u32 (F : Int))) (Nat.le_refl _) (.int .u32 (P : Int))) (Nat.le_refl _) (.int .u64 (K : Int))
    generalize (((((u11.setCell ⟨w.heap.size, 0, none⟩ (.int .u64 (G : Int))).setCell ⟨w.heap.size, 1, none⟩ (.int .u32 (Q : Int))).setCell ⟨w.heap.size, 2, none⟩ (.int .u32 (F : Int))).setCell ⟨w.heap.size, 3, none⟩ (.int .u32 (P : Int))).setCell ⟨w.heap.size, 4, none⟩ (.int .u64 (K : Int))) = u12 at *
    have b5 : u12.heap[w.heap.size]? = some (.cells #[.int .u64 (G : Int), .int .u32 (Q : Int), .int .u32 (F : Int), .int .u32 (P : Int), .int .u64 (K : Int)] 64 (0, 0)) := b4
    obtain ⟨r0, r1, r2, r3, r4⟩ := five b5
    refine bodyPost_ret (v := .agg #[.int .u64 (G : Int), .int .u32 (Q : Int), .int .u32 (F : Int), .int .u32 (P : Int), .int .u64 (K : Int)]) (by simp [results, Try.results65, go_sem, r0, r1, r2, r3, r4]) rfl ?_
    refine ⟨fun m h => ?_, fun h => ?_, hg⟩
    · rw [HO.out] at h
      cases h
      rfl
    · rw [HO.out] at h
      cases h
  · have HO := hide (Pg.get_wrong hrt)
    have HRt := hide hrt
    clear h8 hrt h
    generalize Pg.get zs = O at *
    go_enter Try.func65, Try.ntmps65
    go_wp2_with fail
    refine HU.out.mono ?_
    rintro e w1 ⟨⟨-, hno⟩, hg1⟩
    obtain rfl := hno HRt.out
    exact ⟨rfl, MetaOut.no HO.out (grown_trans HA.out hg1)⟩
end Go.Proofs.Ytfbkcolcdkglbaa
