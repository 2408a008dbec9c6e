/- The document's own: whether a node may be a page; a number in so many bytes. -/
import Derived.Test.YtcflnkepopcofaaZD
import Derived.Test.YtcflnkepopcofaaW
namespace Go.Proofs.Ytcflnkepopcofaa
open Go.RowKit
set_option linter.unusedVariables false

set_option maxHeartbeats 800000 in
set_option maxRecDepth 1000000 in
theorem rmay_none (leaf : Bool) (a : Option Addr) (c : Nat) (w : World) :
    Calls Try.prog 23 #[.agg #[.bool leaf, .slice a 0 c]] w fun e w' => e = .returned (.bool (mayB leaf [])) ∧ Below w.heap.size w w' := by
  obtain ⟨n0, n1, -⟩ := cells_two (heap_alloc_new w (.cells #[.bool leaf, .slice a 0 c] 24))
  go_enter Try.func23, Try.ntmps23
  go_wp2
  go_ret
  exact ⟨rfl, below_alloc _ _⟩
theorem rmay_all (leaf : Bool) (a : Option Addr) (n c : Nat) (xs : List En) (w : World) (h : Ens w a n c xs) (hn : n ≤ 1000000) :
    Calls Try.prog 23 #[.agg #[.bool leaf, .slice a n c]] w fun e w' => e = .returned (.bool (mayB leaf (ers xs))) ∧ Below w.heap.size w w' := by
  cases xs with
  | nil =>
    have hl := h.len
    simp at hl
    subst hl
    exact rmay_none leaf a c w
  | cons x xs => exact rmay_any leaf a n c (x :: xs) w h hn (by have := h.len; simp at this; omega)
set_option maxHeartbeats 1600000 in
set_option maxRecDepth 1000000 in
theorem rcheck_any (leaf : Bool) (a : Option Addr) (n c : Nat) (xs : List En) (w : World) (h : Ens w a n c xs) (hn : n ≤ 1000000) (hw : wts (ers xs) ≤ 1000000) :
    Calls Try.prog 8 #[.agg #[.bool leaf, .slice a n c]] w fun e w' => e = .returned (.int .u16 ((chk leaf (ers xs) : Nat) : Int)) ∧ Below w.heap.size w w' := by
  have hb := heap_alloc_new w (.cells #[.bool leaf, .slice a n c] 24)
  obtain ⟨n0, n1, -⟩ := cells_two hb
  have hB0 := below_alloc w (.cells #[.bool leaf, .slice a n c] 24)
  have HB0 := hide hB0
  have HE := hide (h.below hB0)
  have HB := hide hb
  have HM := hide (rmay_all leaf a n c xs _ HE.out hn)
  have HS := hide (fun (W : World) (e : Ens W a n c xs) => rsize_any leaf a n c xs W e hn hw)
  have HD : Hid (chk leaf (ers xs) = if mayB leaf (ers xs) then (if nsz leaf (ers xs) ≤ 1008 then 0 else 91) else 90) := hide rfl
  have hz : nsz leaf (ers xs) ≤ 11000002 := by have := esum_le leaf (ers xs); rw [ers_len, h.len] at this; unfold nsz; omega
  clear h hB0 hb
  generalize chk leaf (ers xs) = C at *
  generalize mayB leaf (ers xs) = M at *
  generalize nsz leaf (ers xs) = Z at *
  cases M with
  | false =>
    go_enter Try.func8, Try.ntmps8
    go_wp2_with (go_at_call 23; refine HM.out.mono ?_; rintro e w2 ⟨rfl, hb2⟩)
    go_ret
    exact ⟨by rw [HD.out]; rfl, HB0.out.trans (hb2.mono HB0.out.size)⟩
  | true =>
    go_enter Try.func8, Try.ntmps8
    go_wp2_with fail
    refine HM.out.mono ?_
    rintro e w2 ⟨rfl, hb2⟩
    have hbk := (hb2.block _ (lt_of_block HB.out)).trans HB.out
    obtain ⟨m0, m1, -⟩ := cells_two hbk
    have HE2 := hide (HE.out.below hb2)
    have HB2 := hide (HB0.out.trans (hb2.mono HB0.out.size))
    clear hb2 hbk HM
    by_cases hl : Z ≤ 1008
    · have d1 : ¬ (1008 : Int) < (Z : Int) := by omega
      have HL := hide hl
      clear hl
      go_wp2_with (go_at_call 24; refine (HS.out _ HE2.out).mono ?_; rintro e w3 ⟨rfl, hb3⟩)
      go_ret
      exact ⟨by rw [HD.out, if_pos trivial, if_pos HL.out]; rfl, HB2.out.trans (hb3.mono HB2.out.size)⟩
    · have d1 : (1008 : Int) < (Z : Int) := by omega
      have HL := hide hl
      clear hl
      go_wp2_with (go_at_call 24; refine (HS.out _ HE2.out).mono ?_; rintro e w3 ⟨rfl, hb3⟩)
      go_ret
      exact ⟨by rw [HD.out, if_pos trivial, if_neg HL.out]; rfl, HB2.out.trans (hb3.mono HB2.out.size)⟩

end Go.Proofs.Ytcflnkepopcofaa
