/- The reader of documents: the next slot, with a name. -/
import Derived.Test.YtehapglbenaikaaKN
namespace Go.Proofs.Ytehapglbenaikaa
open Go.RowKit
set_option linter.unusedVariables false

set_option maxHeartbeats 1600000 in
set_option maxRecDepth 1000000 in
theorem next_name (q p bs' o sl sc n i e bf on : Nat) (pv : Addr) (a : Option Addr) (bs : List Int) (w : World) (hd : Dr w q p (some ⟨bs', o, none⟩) (sl + 1) sc n) (hr : Rd w p a bs i e) (hqp : q ≠ p) (hra : ∀ ad, a = some ad → ad.block ≠ q) (hsl : sl + 1 ≤ sc) (hbig : sl ≤ 1000000)
    (c0 : w.cell? ⟨bs', o + sl * 2, none⟩ = some (.pointer (some ⟨bf, on, none⟩))) (c1 : w.cell? ⟨bs', o + sl * 2 + 1, none⟩ = some (.pointer (some pv)))
    (hf0 : ∃ x, w.cell? ⟨bf, on, none⟩ = some (.string x)) (hff : w.frozen? ⟨bf, on, none⟩ = false) (hfq : bf ≠ q) (hfp : bf ≠ p) (hfa : ∀ ad, a = some ad → ad.block ≠ bf) (hfl : bf < w.heap.size) :
    Calls Try.prog 27 #[.pointer (some ⟨q, 0, none⟩)] w fun r w' => r = .returned (.pointer (some pv)) ∧ Dr w' q p (some ⟨bs', o, none⟩) sl sc n ∧ Rd w' p a bs (rt bs i e).2.1 (rt bs i e).2.2 ∧ Kp (fun k => k = q ∨ k = p ∨ k = bf) w w' ∧ w'.cell? ⟨bf, on, none⟩ = some (.string (bk (rt bs i e).1)) ∧ (∀ j, j ≠ on → w'.cell? ⟨bf, j, none⟩ = w.cell? ⟨bf, j, none⟩) ∧ (∀ j, w'.frozen? ⟨bf, j, none⟩ = w.frozen? ⟨bf, j, none⟩) := by
  obtain ⟨k0, k1, k2⟩ := hd.cells
  have f1 := hd.free 1
  have HD := hide hd
  have HR := hide hr
  have HRa := hide hra
  have HX := hide (below_alloc w (.cells #[.pointer (some ⟨bf, on, none⟩), .pointer (some pv)] 70))
  have HD1 : Hid (Dr (w.alloc (.cells #[.pointer (some ⟨bf, on, none⟩), .pointer (some pv)] 70)) q p (some ⟨bs', o, none⟩) (sl + 1) sc n) := (HX.out.block q hd.lt).trans hd
  obtain ⟨x0, x1, x2⟩ := HD1.out.cells
  have fx := HD1.out.free 1
  have hne : q ≠ w.heap.size := by have := hd.lt; omega
  have hne' : w.heap.size ≠ q := fun e => hne e.symm
  have hcap : (sl : Int) ≤ (sc : Int) := by omega
  have hlast : IntKind.i64.wrap (((sl + 1 : Nat) : Int) - 1) = (sl : Int) := by simp only [IntKind.wrap, IntKind.bits, IntKind.signed]; simp; omega
  have HFa := hide hfa
  have hpl := hr.lt
  have HF0 := hide hf0
  have HFf := hide hff
  clear hd hr hra hfa hf0 hff
  go_enter Try.func27, Try.ntmps27
  go_wp2
  have HDV : Hid (Dr ((w.alloc (.cells #[.pointer (some ⟨bf, on, none⟩), .pointer (some pv)] 70)).setCell ⟨q, 1, none⟩ (.slice (some ⟨bs', o, none⟩) sl sc)) q p (some ⟨bs', o, none⟩) sl sc n) := HD1.out.setS _ _ _
  have HRV : Hid (Rd ((w.alloc (.cells #[.pointer (some ⟨bf, on, none⟩), .pointer (some pv)] 70)).setCell ⟨q, 1, none⟩ (.slice (some ⟨bs', o, none⟩) sl sc)) p a bs i e) := (HR.out.below HX.out).other (grown_setCell _ _ _ _) hqp HRa.out
  have HKV : Hid (Kp (fun k => k = q ∨ k = p ∨ k = bf) w ((w.alloc (.cells #[.pointer (some ⟨bf, on, none⟩), .pointer (some pv)] 70)).setCell ⟨q, 1, none⟩ (.slice (some ⟨bs', o, none⟩) sl sc))) := (Kp.of_below HX.out).trans (Kp.of_grown (grown_setCell _ _ _ _) (.inl rfl))
  have HSV : Hid (((w.alloc (.cells #[.pointer (some ⟨bf, on, none⟩), .pointer (some pv)] 70)).setCell ⟨q, 1, none⟩ (.slice (some ⟨bs', o, none⟩) sl sc)).heap[w.heap.size]? = some (.cells #[.pointer (some ⟨bf, on, none⟩), .pointer (some pv)] 70 (0, 0))) := by
    rw [Hid, Below.heap_setCell _ _ _ _ (by simpa using hne')]; exact heap_alloc_new w _
  have hfb : ((w.alloc (.cells #[.pointer (some ⟨bf, on, none⟩), .pointer (some pv)] 70)).setCell ⟨q, 1, none⟩ (.slice (some ⟨bs', o, none⟩) sl sc)).heap[bf]? = w.heap[bf]? := by
    rw [Below.heap_setCell _ _ _ _ (by simpa using hfq)]; exact HX.out.block bf hfl
  generalize (w.alloc (.cells #[.pointer (some ⟨bf, on, none⟩), .pointer (some pv)] 70)).setCell ⟨q, 1, none⟩ (.slice (some ⟨bs', o, none⟩) sl sc) = V at HDV HRV HKV HSV hfb ⊢
  obtain ⟨fx0, hfx⟩ := HF0.out
  have hfx' : V.cell? ⟨bf, on, none⟩ = some (.string fx0) := by
    have := hfx
    simp only [World.cell?] at this ⊢
    rw [hfb]; exact this
  have hff' : V.frozen? ⟨bf, on, none⟩ = false := by
    have := HFf.out
    simp only [World.frozen?] at this ⊢
    rw [hfb]; exact this
  have HFx := hide hfx'
  have HFg := hide hff'
  have HP := hide (rtext_any p a bs i e V.drew (HRV.out.drewN 1))
  have HWs := hide HKV.out.size
  have HFb := hide hfb
  clear k0 k1 k2 f1 HX HD1 x0 x1 x2 fx hfb hfx hfx' hff' HD HR HF0 HFf
  have y0 : V.cell? ⟨q, 0, none⟩ = some (.pointer (some ⟨p, 0, none⟩)) := HDV.out.cells.1
  have y1 : V.cell? ⟨w.heap.size, 0, none⟩ = some (.pointer (some ⟨bf, on, none⟩)) := by simp [World.cell?, HSV.out]
  have y2 : V.cell? ⟨w.heap.size, 1, none⟩ = some (.pointer (some pv)) := by simp [World.cell?, HSV.out]
  have hpw : p ≠ w.heap.size := by omega
  have hbw : bf ≠ w.heap.size := by omega
  have hbw' : w.heap.size ≠ bf := by omega
  have HZ : Hid (∀ V2, V.drew.grownBy V2 (some p) → V2.cell? ⟨q, 0, none⟩ = some (.pointer (some ⟨p, 0, none⟩)) ∧ V2.cell? ⟨w.heap.size, 0, none⟩ = some (.pointer (some ⟨bf, on, none⟩)) ∧ V2.cell? ⟨w.heap.size, 1, none⟩ = some (.pointer (some pv)) ∧ V2.cell? ⟨bf, on, none⟩ = some (.string fx0) ∧ V2.frozen? ⟨bf, on, none⟩ = false) := by
    intro V2 hg
    have hb : V2.heap[bf]? = V.heap[bf]? := hg.block bf (Nat.lt_of_lt_of_le hfl HWs.out) (fun e => hfp (by cases e; rfl))
    refine ⟨hg.cell (w := V.drew) y0 (fun e => hqp (by simpa using e)), hg.cell (w := V.drew) y1 (fun e => hpw (by simpa using e.symm)), hg.cell (w := V.drew) y2 (fun e => hpw (by simpa using e.symm)), hg.cell (w := V.drew) HFx.out (fun e => hfp (by simpa using e)), ?_⟩
    have := HFg.out
    simp only [World.frozen?] at this ⊢
    rw [hb]; exact this
  generalize hws : w.heap.size = z at *
  generalize hrt : rt bs i e = R at *
  go_region_held3 (fun W => W.cell? ⟨q, 0, none⟩ = some (.pointer (some ⟨p, 0, none⟩)) ∧ W.cell? ⟨z, 0, none⟩ = some (.pointer (some ⟨bf, on, none⟩)) ∧ W.cell? ⟨z, 1, none⟩ = some (.pointer (some pv))) ((first | (refine ⟨?_, ?_, ?_⟩ <;> assumption) | go_keep)) ((first | (go_at_call 30; refine HP.out.mono ?_; intro e' V2 hh; obtain ⟨rfl, hr2, hg2⟩ := hh; have HR2 := hide hr2; have HG2 := hide hg2; obtain ⟨y0', y1', y2', y3, y4⟩ := HZ.out _ hg2; clear hr2 hg2)))
  go_wp2
  go_ret
  rw [hrt]
  refine ⟨rfl, ?_, HR2.out.other (grown_setCell _ _ _ _) hfp HFa.out, HKV.out.trans ((Kp.of_below (below_drewN (Below.refl _ _) 1)).trans ((Kp.of_grown HG2.out (Or.inr (Or.inl rfl))).trans (Kp.of_grown (grown_setCell _ _ _ _) (Or.inr (Or.inr rfl))))), World.cell?_setCell_same _ _ _ y3, ?_, ?_⟩
  · exact (Below.heap_setCell _ _ _ _ (by simpa using hfq.symm)).trans ((HG2.out.block q HDV.out.lt (fun e => hqp (by cases e; rfl))).trans HDV.out)
  · intro j hj
    have hb : V2.heap[bf]? = V.heap[bf]? := HG2.out.block bf (Nat.lt_of_lt_of_le hfl HWs.out) (fun e => hfp (by cases e; rfl))
    have he : (⟨bf, on, none⟩ : Addr) ≠ ⟨bf, j, none⟩ := by intro e; exact hj (by simpa using (congrArg Addr.off e).symm)
    rw [World.cell?_setCell_other _ _ _ _ he]
    simp only [World.cell?]
    rw [hb, HFb.out]
  · intro j
    have hb : V2.heap[bf]? = V.heap[bf]? := HG2.out.block bf (Nat.lt_of_lt_of_le hfl HWs.out) (fun e => hfp (by cases e; rfl))
    rw [World.frozen?_setCell]
    simp only [World.frozen?]
    rw [hb, HFb.out]
end Go.Proofs.Ytehapglbenaikaa
