/- The reader of documents: the next slot. -/
import Derived.Test.YtehapglbenaikaaKL
namespace Go.Proofs.Ytehapglbenaikaa
open Go.RowKit
set_option linter.unusedVariables false

theorem Dr.setS {W : World} {q p : Nat} {sa : Option Addr} {sl sc n : Nat} (h : Dr W q p sa sl sc n) (sa' : Option Addr) (sl' sc' : Nat) : Dr (W.setCell ⟨q, 1, none⟩ (.slice sa' sl' sc')) q p sa' sl' sc' n := by
  unfold Dr at h ⊢
  rw [heap_setCell_same W q 1 _ 51 _ h]; rfl
set_option maxHeartbeats 1600000 in
set_option maxRecDepth 1000000 in
theorem next_nil (q p bs' o sl sc n i e : Nat) (pv : Addr) (a : Option Addr) (bs : List Int) (w : World) (hd : Dr w q p (some ⟨bs', o, none⟩) (sl + 1) sc n) (hr : Rd w p a bs i e) (hqp : q ≠ p) (hra : ∀ ad, a = some ad → ad.block ≠ q) (hsl : sl + 1 ≤ sc) (hbig : sl ≤ 1000000)
    (c0 : w.cell? ⟨bs', o + sl * 2, none⟩ = some (.pointer none)) (c1 : w.cell? ⟨bs', o + sl * 2 + 1, none⟩ = some (.pointer (some pv))) :
    Calls Try.prog 27 #[.pointer (some ⟨q, 0, none⟩)] w fun r w' => r = .returned (.pointer (some pv)) ∧ Dr w' q p (some ⟨bs', o, none⟩) sl sc n ∧ Rd w' p a bs i e ∧ Kp (fun k => k = q) w w' := by
  obtain ⟨k0, k1, k2⟩ := hd.cells
  have f1 := hd.free 1
  have HD := hide hd
  have HR := hide hr
  have HRa := hide hra
  have HX := hide (below_alloc w (.cells #[.pointer none, .pointer (some pv)] 70))
  have HD1 : Hid (Dr (w.alloc (.cells #[.pointer none, .pointer (some pv)] 70)) q p (some ⟨bs', o, none⟩) (sl + 1) sc n) := (HX.out.block q hd.lt).trans hd
  obtain ⟨x0, x1, x2⟩ := HD1.out.cells
  have fx := HD1.out.free 1
  have hne : q ≠ w.heap.size := by have := hd.lt; omega
  have hne' : w.heap.size ≠ q := fun e => hne e.symm
  have hcap : (sl : Int) ≤ (sc : Int) := by omega
  have hlast : IntKind.i64.wrap (((sl + 1 : Nat) : Int) - 1) = (sl : Int) := by simp only [IntKind.wrap, IntKind.bits, IntKind.signed]; simp; omega
  clear hd hr hra
  go_enter Try.func27, Try.ntmps27
  go_wp2
  go_ret
  refine ⟨rfl, HD1.out.setS _ _ _, (HR.out.below HX.out).other (grown_setCell _ _ _ _) hqp HRa.out, (Kp.of_below HX.out).trans (Kp.of_grown (grown_setCell _ _ _ _) rfl)⟩
end Go.Proofs.Ytehapglbenaikaa
