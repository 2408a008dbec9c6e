/- Two nodes of the same entries are the same. -/
import Derived.Test.YtjojpohnmfkanaaLA
namespace Go.Proofs.Ytjojpohnmfkanaa
open Go.RowKit
set_option linter.unusedVariables false

set_option maxHeartbeats 1600000 in
set_option maxRecDepth 1000000 in
theorem same_no (a b : Option Addr) (n c d : Nat) (xs ys : List En) (w : World) (h : Ens w a n c xs) (k : Ens w b n d ys) (he : ers xs = ers ys) (hn : n ≤ 1000000) :
    Calls Try.prog 12 #[.agg #[.bool false, .slice a n c], .agg #[.bool false, .slice b n d]] w fun e w' => e = .returned (.bool true) ∧ Below w.heap.size w w' := by
  obtain ⟨hB, hb0, hb1, hs1⟩ := pair_boxes w (.bool false) (.slice a n c) (.bool false) (.slice b n d)
  obtain ⟨c0, c1, -⟩ := cells_two hb0
  obtain ⟨e0, e1, -⟩ := cells_two hb1
  have HS := hide (samee_yes a b n c d xs ys _ (h.below hB) (k.below hB) he hn)
  have HB := hide hB
  clear h k he hB hb0 hb1
  go_enter Try.func12, Try.ntmps12
  go_wp2_with (go_at_call 28; refine HS.out.mono ?_; rintro e w2 ⟨rfl, hb2⟩)
  go_ret
  exact ⟨rfl, HB.out.trans (hb2.mono HB.out.size)⟩
theorem same_any (leaf : Bool) (a b : Option Addr) (n c d : Nat) (xs ys : List En) (w : World) (h : Ens w a n c xs) (k : Ens w b n d ys) (he : ers xs = ers ys) (hn : n ≤ 1000000) :
    Calls Try.prog 12 #[.agg #[.bool leaf, .slice a n c], .agg #[.bool leaf, .slice b n d]] w fun e w' => e = .returned (.bool true) ∧ Below w.heap.size w w' := by
  cases leaf with
  | true => exact same_yes a b n c d xs ys w h k he hn
  | false => exact same_no a b n c d xs ys w h k he hn
end Go.Proofs.Ytjojpohnmfkanaa
