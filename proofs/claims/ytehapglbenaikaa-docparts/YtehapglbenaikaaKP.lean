/- The reader of documents: slots laid down. -/
import Derived.Test.YtehapglbenaikaaKO
namespace Go.Proofs.Ytehapglbenaikaa
open Go.RowKit
set_option linter.unusedVariables false

set_option maxHeartbeats 1600000 in
set_option maxRecDepth 1000000 in
theorem slotL (bx pv po g go n c i : Nat) (w : World) (h : i < n) (hn : n ≤ 1000000) (k0 : w.cell? ⟨bx, 0, none⟩ = some (.pointer (some ⟨pv, po, none⟩))) (k : w.cell? ⟨pv, po + 5, none⟩ = some (.slice (some ⟨g, go, none⟩) n c)) (hb : bx < w.heap.size) (hp : pv < w.heap.size) :
    Calls Try.prog 33 #[.int .i64 (i : Int), .pointer (some ⟨bx, 0, none⟩)] w fun e w' => e = .returned (.agg #[.pointer none, .pointer (some ⟨g, go + i * 7, none⟩)]) ∧ Below w.heap.size w w' := by
  have HX := hide (below_alloc w (.cells #[.pointer none, .pointer none] 70))
  have x0 : (w.alloc (.cells #[.pointer none, .pointer none] 70)).cell? ⟨bx, 0, none⟩ = some (.pointer (some ⟨pv, po, none⟩)) := (HX.out.cell (p := ⟨bx, 0, none⟩) hb).trans k0
  have x1 : (w.alloc (.cells #[.pointer none, .pointer none] 70)).cell? ⟨pv, po + 5, none⟩ = some (.slice (some ⟨g, go, none⟩) n c) := (HX.out.cell (p := ⟨pv, po + 5, none⟩) hp).trans k
  have hi : (i : Int) < (n : Int) := by omega
  go_enter Try.func33, Try.ntmps33
  go_wp2
  refine bodyPost_ret (v := .agg #[.pointer none, .pointer (some ⟨g, go + i * 7, none⟩)]) ?_ rfl ⟨rfl, below_alloc w _⟩
  simp [results, Try.results33, go_sem]
set_option maxHeartbeats 1600000 in
set_option maxRecDepth 1000000 in
theorem slotF (bx pv po g go n c i : Nat) (w : World) (h : i < n) (hn : n ≤ 1000000) (k0 : w.cell? ⟨bx, 0, none⟩ = some (.pointer (some ⟨pv, po, none⟩))) (k : w.cell? ⟨pv, po + 6, none⟩ = some (.slice (some ⟨g, go, none⟩) n c)) (hb : bx < w.heap.size) (hp : pv < w.heap.size) :
    Calls Try.prog 34 #[.int .i64 (i : Int), .pointer (some ⟨bx, 0, none⟩)] w fun e w' => e = .returned (.agg #[.pointer (some ⟨g, go + i * 8, none⟩), .pointer (some ⟨g, go + i * 8 + 1, none⟩)]) ∧ Below w.heap.size w w' := by
  have HX := hide (below_alloc w (.cells #[.pointer none, .pointer none] 70))
  have x0 : (w.alloc (.cells #[.pointer none, .pointer none] 70)).cell? ⟨bx, 0, none⟩ = some (.pointer (some ⟨pv, po, none⟩)) := (HX.out.cell (p := ⟨bx, 0, none⟩) hb).trans k0
  have x1 : (w.alloc (.cells #[.pointer none, .pointer none] 70)).cell? ⟨pv, po + 6, none⟩ = some (.slice (some ⟨g, go, none⟩) n c) := (HX.out.cell (p := ⟨pv, po + 6, none⟩) hp).trans k
  have hi : (i : Int) < (n : Int) := by omega
  go_enter Try.func34, Try.ntmps34
  go_wp2
  go_region
  go_wp2
  refine bodyPost_ret (v := .agg #[.pointer (some ⟨g, go + i * 8, none⟩), .pointer (some ⟨g, go + i * 8 + 1, none⟩)]) ?_ rfl ⟨rfl, below_drewN (below_alloc w _) 1⟩
  simp [results, Try.results34, go_sem]
end Go.Proofs.Ytehapglbenaikaa
