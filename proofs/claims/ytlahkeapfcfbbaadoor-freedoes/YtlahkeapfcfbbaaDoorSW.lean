/- SameWords of like rows; rows that stand beside a list. -/
import Derived.Test.YtlahkeapfcfbbaaDoorTZ
namespace Go.Proofs.YtlahkeapfcfbbaaDoor
open Go.RowKit Go.Maps
set_option linter.unusedVariables false
variable {w w' : World}
set_option maxHeartbeats 1600000 in
set_option maxRecDepth 1000000 in
theorem samew_eq (w : World) (a b : Option Addr) (n c d : Nat) (zs : List Nat) (hl : zs.length = n) (hn : n ≤ 1000000) (h1 : Rw w a zs) (h2 : Rw w b zs) :
    Calls Tryd.prog 14 #[.slice a n c, .slice b n d] w fun e w' => e = .returned (.bool true) ∧ Same w w' := by
  have HL := hide hl
  have H1 := hide h1
  have H2 := hide h2
  have hnb : ((n : Int) != (n : Int)) = false := by simp
  clear hl h1 h2
  go_enter Tryd.func14, Tryd.ntmps14
  go_wp2
  go_loopw [5] (fun i wr => ∃ k : Nat, k ≤ n ∧ i = .int .i64 k ∧ Same w wr) (fun i _ => n - (intOf i).toNat)
  case atStart => exact ⟨0, Nat.zero_le _, rfl, Same.refl _⟩
  case round =>
    obtain ⟨k, hk, rfl, hs⟩ := hrel
    have HS := hide hs
    clear hs
    by_cases hlt : k < n
    · have hlk : k < zs.length := by have := HL.out; omega
      rcases H1.out.below HS.out.below with h0 | ⟨b1, o1, rfl, _, hc1⟩
      · subst h0; simp at hlk
      rcases H2.out.below HS.out.below with h0 | ⟨b2, o2, rfl, _, hc2⟩
      · subst h0; simp at hlk
      have g1 := hc1 k hlk
      have g2 := hc2 k hlk
      clear hc1 hc2
      generalize zs.getD k 0 = z at *
      have hbn : ((z : Int) != (z : Int)) = false := by simp
      go_wp2
      go_quiet (fail)
      go_wp2
      go_roundw
      case rel => exact ⟨k + 1, by omega, by go_num, HS.out.drewN _⟩
      case measure => simp [intOf]; omega
    · go_wp2
      go_ret
      exact ⟨rfl, HS.out⟩
theorem OwnW.of_block {v : Value} {zs : List Nat} (h : OwnW w v zs) (hb : ∀ k, v.ownBlock = some k → w'.heap[k]? = w.heap[k]?) : OwnW w' v zs := by
  obtain ⟨h1, h2⟩ := h
  refine ⟨h1, ?_⟩
  rcases h2 with h2 | ⟨g, cap, cur, rfl, hg, hh, r⟩
  · exact .inl h2
  · exact .inr ⟨g, cap, cur, rfl, hg, by rw [hb g rfl]; exact hh, r⟩
end Go.Proofs.YtlahkeapfcfbbaaDoor
