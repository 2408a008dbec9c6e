/- The function that spans are compared by, and whether one ends behind a key. -/
import Derived.Test.YtpoanlbjhhlagaaCA
namespace Go.Proofs.Ytpoanlbjhhlagaa
open Go.RowKit
set_option linter.unusedVariables false

/-- the span that is looked for. -/
def tgt (ka : Option Addr) (kc : Nat) (key : List Int) : En := ⟨⟨key, [], false⟩, ka, kc, none, 0⟩
set_option maxHeartbeats 1600000 in
set_option maxRecDepth 1000000 in
theorem byFrom_any (x y : En) (w : World) (hx : x.Ok w) (hy : y.Ok w) :
    Calls Try.prog 35 #[.agg #[.slice x.ka x.e.key.length x.kc, .slice x.va x.e.val.length x.vc, .bool x.e.del], .agg #[.slice y.ka y.e.key.length y.kc, .slice y.va y.e.val.length y.vc, .bool y.e.del]] w fun e w' => e = .returned (.int .i64 (ordI x.e.key y.e.key)) ∧ Below w.heap.size w w' := by
  obtain ⟨w1, hw1⟩ : ∃ w1, w1 = w.alloc (.cells #[.slice x.ka x.e.key.length x.kc, .slice x.va x.e.val.length x.vc, .bool x.e.del] 65) := ⟨_, rfl⟩
  have hb1 : Below w.heap.size w w1 := by rw [hw1]; exact below_alloc _ _
  obtain ⟨w2, hw2⟩ : ∃ w2, w2 = w1.alloc (.cells #[.slice y.ka y.e.key.length y.kc, .slice y.va y.e.val.length y.vc, .bool y.e.del] 65) := ⟨_, rfl⟩
  have hb2 : Below w.heap.size w w2 := by rw [hw2]; exact hb1.alloc hb1.size _
  have hs1 : w1.heap.size = w.heap.size + 1 := by rw [hw1]; simp
  have c1 : w2.heap[w.heap.size]? = some (.cells #[.slice x.ka x.e.key.length x.kc, .slice x.va x.e.val.length x.vc, .bool x.e.del] 65 (0, 0)) := by
    rw [hw2, Below.heap_alloc _ _ _ (by omega), hw1]; exact heap_alloc_new w _
  have c2 : w2.heap[w1.heap.size]? = some (.cells #[.slice y.ka y.e.key.length y.kc, .slice y.va y.e.val.length y.vc, .bool y.e.del] 65 (0, 0)) := by rw [hw2]; exact heap_alloc_new w1 _
  have x0 : w2.cell? ⟨w.heap.size, 0, none⟩ = some (.slice x.ka x.e.key.length x.kc) := by simp [World.cell?, c1]
  have y0 : w2.cell? ⟨w1.heap.size, 0, none⟩ = some (.slice y.ka y.e.key.length y.kc) := by simp [World.cell?, c2]
  have HC := hide (compare_any (hx.key.below hb2) (hy.key.below hb2))
  have HB := hide hb2
  clear hx hy hb1 hb2 c1 c2
  rw [hs1] at y0
  clear hs1
  subst hw2
  subst hw1
  go_enter Try.func35, Try.ntmps35
  go_wp2_with (go_at_call 68; refine HC.out.mono ?_; rintro r' w3 ⟨rfl, rfl⟩)
  go_ret
  exact ⟨rfl, HB.out⟩
set_option maxHeartbeats 1600000 in
set_option maxRecDepth 1000000 in
/-- does a span end behind a key? -/
theorem ends_any (x : En) (ka : Option Addr) (kn kc : Nat) (key : List Int) (w : World) (hx : x.Ok w) (hk : Inn w ka kn kc key) :
    Calls Try.prog 36 #[.agg #[.slice x.ka x.e.key.length x.kc, .slice x.va x.e.val.length x.vc, .bool x.e.del], .slice ka kn kc] w fun e w' => e = .returned (.bool (x.e.del || decide (0 < ordI x.e.val key))) ∧ Below w.heap.size w w' := by
  have hB := below_alloc w (.cells #[.slice x.ka x.e.key.length x.kc, .slice x.va x.e.val.length x.vc, .bool x.e.del] 65)
  have HB := hide hB
  obtain ⟨b0, b1, b2⟩ := box3 w (.slice x.ka x.e.key.length x.kc) (.slice x.va x.e.val.length x.vc) (.bool x.e.del) 65
  have HC := hide (compare_any (hx.val.below hB) (hk.below hB))
  clear hx hk hB
  cases hd : x.e.del
  · rw [hd] at HC HB b0 b1 b2
    go_enter Try.func36, Try.ntmps36
    by_cases h0 : 0 < ordI x.e.val key
    · go_wp2_with (go_at_call 68; refine HC.out.mono ?_; rintro r' w3 ⟨rfl, rfl⟩)
      go_ret
      exact ⟨by simp [h0], HB.out⟩
    · go_wp2_with (go_at_call 68; refine HC.out.mono ?_; rintro r' w3 ⟨rfl, rfl⟩)
      go_ret
      exact ⟨by simp, HB.out⟩
  · rw [hd] at HC HB b0 b1 b2
    go_enter Try.func36, Try.ntmps36
    go_wp2
    go_ret
    exact ⟨rfl, HB.out⟩
end Go.Proofs.Ytpoanlbjhhlagaa
