/- Find. -/
import Derived.Test.YtjojpohnmfkanaaFB
namespace Go.Proofs.Ytjojpohnmfkanaa
open Go.RowKit
set_option linter.unusedVariables false

set_option maxHeartbeats 1600000 in
set_option maxRecDepth 1000000 in
theorem find_leaf (ka : Option Addr) (kn kc : Nat) (key : List Int) (a : Option Addr) (n c : Nat) (xs : List En) (w : World) (hk : Inn w ka kn kc key) (h : Ens w a n c xs) (hn : n ≤ 1000000) :
    Calls Try.prog 25 #[.agg #[.bool true, .slice a n c], .slice ka kn kc] w fun e w' => ∃ i : Nat, e = .returned (.tuple #[.int .i64 (i : Int), .bool (ther xs i key)]) ∧ At (pge key) xs i ∧ Below w.heap.size w w' := by
  have hB := two_alloc (w := w) (.cells #[.bool true, .slice a n c] 25) (.cells #[.slice ka kn kc] 22)
  have hbk : ((w.alloc (.cells #[.bool true, .slice a n c] 25)).alloc (.cells #[.slice ka kn kc] 22)).heap[w.heap.size]? = some (.cells #[.bool true, .slice a n c] 25 (0, 0)) := (Below.heap_alloc _ _ _ (by simp)).trans (heap_alloc_new w _)
  obtain ⟨n0, n1, -⟩ := cells_two hbk
  have h1 : ((w.alloc (.cells #[.bool true, .slice a n c] 25)).alloc (.cells #[.slice ka kn kc] 22)).cell? ⟨w.heap.size + 1, 0, none⟩ = some (.slice ka kn kc) := by
    have := cell_of_one (heap_alloc_new (w.alloc (.cells #[.bool true, .slice a n c] 25)) (.cells #[.slice ka kn kc] 22))
    rwa [World.size_alloc] at this
  have HB := hide hB
  have HP := hide (place_any ka kn kc key a n c xs _ (hk.below hB) (h.below hB) hn)
  clear h hk hB hbk
  go_enter Try.func25, Try.ntmps25
  go_wp2_with fail
  refine HP.out.mono ?_
  rintro e w2 ⟨i, rfl, hat, hb2⟩
  have HAt := hide hat
  have HB2 := hide (HB.out.trans (hb2.mono HB.out.size))
  clear hat hb2
  go_wp2
  go_ret2
  exact ⟨i, rfl, HAt.out, HB2.out⟩
set_option maxHeartbeats 1600000 in
set_option maxRecDepth 1000000 in
theorem find_branch (ka : Option Addr) (kn kc : Nat) (key : List Int) (a : Option Addr) (n c : Nat) (xs : List En) (w : World) (hk : Inn w ka kn kc key) (h : Ens w a n c xs) (hn : n ≤ 1000000) :
    Calls Try.prog 25 #[.agg #[.bool false, .slice a n c], .slice ka kn kc] w fun e w' => ∃ i : Nat, e = .returned (.tuple #[.int .i64 ((i - 1 : Nat) : Int), .bool (decide (0 < n))]) ∧ At (pgt key) xs i ∧ Below w.heap.size w w' := by
  have hmf : ∀ (fn : Fn) (first cap : Array Value) (w : World), (Instr.makeFunc fn first cap).run Try.prog w = .ok (.func fn first cap) w := fun _ _ _ _ => rfl
  have hB := two_alloc (w := w) (.cells #[.bool false, .slice a n c] 25) (.cells #[.slice ka kn kc] 22)
  have hbk : ((w.alloc (.cells #[.bool false, .slice a n c] 25)).alloc (.cells #[.slice ka kn kc] 22)).heap[w.heap.size]? = some (.cells #[.bool false, .slice a n c] 25 (0, 0)) := (Below.heap_alloc _ _ _ (by simp)).trans (heap_alloc_new w _)
  obtain ⟨n0, n1, -⟩ := cells_two hbk
  have h1 : ((w.alloc (.cells #[.bool false, .slice a n c] 25)).alloc (.cells #[.slice ka kn kc] 22)).cell? ⟨w.heap.size + 1, 0, none⟩ = some (.slice ka kn kc) := by
    have := cell_of_one (heap_alloc_new (w.alloc (.cells #[.bool false, .slice a n c] 25)) (.cells #[.slice ka kn kc] 22))
    rwa [World.size_alloc] at this
  have HB := hide hB
  have HS := hide (Find1_first (w.heap.size + 1) ka kn kc key a n c xs _ h1 (hk.below hB) (h.below hB) hn)
  have HBk := hide hbk
  have hl := h.len
  have HL := hide hl
  clear h hk hB hbk hl
  go_enter Try.func25, Try.ntmps25
  go_wp2_with fail
  refine HS.out.mono ?_
  rintro e w2 ⟨i, rfl, hat, hb2⟩
  have hin : i ≤ n := by have := hat.1; rw [HL.out] at this; exact this
  have HAt := hide hat
  have HB2 := hide (HB.out.trans (hb2.mono HB.out.size))
  obtain ⟨m0, m1, -⟩ := cells_two ((hb2.block _ (lt_of_block HBk.out)).trans HBk.out)
  clear hat hb2
  go_wp2
  go_quiet (fail)
  go_wp2
  all_goals
    go_ret2
    refine ⟨i, ?_, HAt.out, below_drewN HB2.out _⟩
    first
    | (rw [show ((i - 1 : Nat) : Int) = 0 by omega]; rfl)
    | (rw [show ((i - 1 : Nat) : Int) = (i : Int) - 1 by omega]; rfl)
end Go.Proofs.Ytjojpohnmfkanaa
