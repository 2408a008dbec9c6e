/- Whether a value is more than is looked at. -/
import Derived.Test.YtehapglbenaikaaVN
namespace Go.Proofs.Ytehapglbenaikaa
open Go.RowKit
set_option linter.unusedVariables false

set_option maxHeartbeats 1600000 in
set_option maxRecDepth 1000000 in
theorem much_gen (n₀ : Nat) (v : T) (w : World) (hm : v.Mem n₀ w) (hs : v.Szd) (hn : n₀ ≤ w.heap.size) :
    Calls Try.prog 5 #[v.val] w fun e w' => (∃ β, e = .returned (.bool β) ∧ (β = false → v.wt ≤ 100000)) ∧ Below w.heap.size w w' := by
  have HX := hide (below_alloc w (.cells v.cells.toArray 27))
  have HF0 := hide ((Fr.refl w).alloc (.cells v.cells.toArray 27))
  have HW := hide (fun W (h : Below w.heap.size w W) (hz : w.heap.size ≤ W.heap.size) => weight_gen n₀ v.sz v (Nat.le_refl _) hs W 0 (hm.on (h.mono hn)) (by omega) (by omega))
  simp only [Wt] at HW
  generalize v.wt = vw at *
  clear hm hs
  cases v with
  | mk k bo n t ya yc y la lc l fa fc f =>
  simp only [T.val, T.cells] at *
  go_enter Try.func5, Try.ntmps5
  go_wp2_with fail
  first
    | refine (HW.out _ HX.out HF0.out.size).mono ?_
    | refine (HW.out _ (Below.refl _ _) (Nat.le_refl _)).mono ?_
  rintro e W1 ⟨⟨⟨r, rfl, hq0, hq1, hq2⟩, hb⟩, -⟩
  have HF1 := hide (HF0.out.on hb)
  have HQ := hide hq2
  clear hb hq2
  by_cases hr : r ≤ 100000
  · have hd : decide ((100000 : Int) < r) = false := by simp; omega
    go_wp2
    go_ret
    exact ⟨⟨false, by simp, fun _ => by have := HQ.out hr; omega⟩, HF1.out.below⟩
  · have hd : decide ((100000 : Int) < r) = true := by simp; omega
    go_wp2
    go_ret
    exact ⟨⟨true, by simp, fun h => by cases h⟩, HF1.out.below⟩
end Go.Proofs.Ytehapglbenaikaa
