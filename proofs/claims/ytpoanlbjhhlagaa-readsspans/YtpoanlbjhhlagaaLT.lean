/- BufferLast: the walk. -/
import Derived.Test.YtpoanlbjhhlagaaTB
namespace Go.Proofs.Ytpoanlbjhhlagaa
open Go.RowKit Go.Maps
set_option linter.unusedVariables false

set_option maxHeartbeats 800000 in
theorem sameb_yes (a b : Option Addr) (n c d : Nat) (xs : List Int) (w : World) (h : Inn w a n c xs) (k : Inn w b n d xs) :
    Calls Try.prog 41 #[.slice a n c, .slice b n d] w fun e w' => e = .returned (.bool true) ∧ Below w.heap.size w w' := by
  have hl := h.len
  have hmx : n ≤ 9223372036854775807 := by have := h.cap; have := h.max; omega
  have HR := hide h.row
  have HR2 := hide k.row
  have HL := hide hl
  clear h k hl
  have hnb : ((n : Int) != (n : Int)) = false := by simp
  go_enter Try.func41, Try.ntmps41
  go_wp2
  go_loopw [5] (fun i wr => ∃ k : Nat, k ≤ n ∧ i = .int .i64 k ∧ Below w.heap.size w wr) (fun i _ => n - (intOf i).toNat)
  case atStart => exact ⟨0, Nat.zero_le _, rfl, Below.refl _ _⟩
  case round =>
    obtain ⟨k, hk, rfl, hbel⟩ := hrel
    have HBel := hide hbel
    clear hbel
    by_cases hlt : k < n
    · have hlk : k < xs.length := by have := HL.out; omega
      rcases HR.out.below HBel.out with h0 | ⟨b1, o1, rfl, _, hc1⟩
      · subst h0; simp at hlk
      rcases HR2.out.below HBel.out with h0 | ⟨b2, o2, rfl, _, hc2⟩
      · subst h0; simp at hlk
      have g1 := hc1 k hlk
      have g2 := hc2 k hlk
      clear hc1 hc2 hlk
      generalize xs.getD k 0 = cc at g1 g2
      have hbn : (cc != cc) = false := by simp
      go_wp2
      go_quiet (fail)
      go_wp2
      go_roundw
      case rel => exact ⟨k + 1, by omega, by go_num, below_drewN HBel.out _⟩
      case measure => simp [intOf]; omega
    · go_wp2
      go_ret
      exact ⟨rfl, HBel.out⟩
end Go.Proofs.Ytpoanlbjhhlagaa
