/- The document's own: how long an entry is. -/
import Derived.Test.YtfpojfohlmhklaaSB
namespace Go.Proofs.Ytfpojfohlmhklaa
open Go.RowKit
set_option linter.unusedVariables false

set_option maxHeartbeats 800000 in
set_option maxRecDepth 1000000 in
theorem resize_any (leaf : Bool) (x : En) (w : World) (hk : x.e.key.length ≤ 1000000) (hv : x.e.val.length ≤ 1000000) :
    Calls Try.prog 33 #[.bool leaf, .agg #[.slice x.ka x.e.key.length x.kc, .slice x.va x.e.val.length x.vc, .int .u32 (x.e.page : Int), .int .u32 (x.e.size : Int)]] w fun e w' => e = .returned (.int .i64 ((x.e.sz leaf : Nat) : Int)) ∧ Below w.heap.size w w' := by
  obtain ⟨e, ka, kc, va, vc⟩ := x
  obtain ⟨key, val, page, size⟩ := e
  simp only [] at hk hv ⊢
  obtain ⟨b0, b1, b2, b3⟩ := box4 w (.slice ka key.length kc) (.slice va val.length vc) (.int .u32 (page : Int)) (.int .u32 (size : Int)) 67
  have HB := hide (below_alloc w (.cells #[.slice ka key.length kc, .slice va val.length vc, .int .u32 (page : Int), .int .u32 (size : Int)] 67))
  cases leaf with
  | false =>
    go_enter Try.func33, Try.ntmps33
    go_wp2
    go_ret
    exact ⟨by simp [Ee.sz], HB.out⟩
  | true =>
    by_cases hp : page = 0
    · subst hp
      go_enter Try.func33, Try.ntmps33
      go_wp2
      go_ret
      exact ⟨by simp [Ee.sz], HB.out⟩
    · have hpb : ((page : Int) == 0) = false := by simp; omega
      go_enter Try.func33, Try.ntmps33
      go_wp2
      go_ret
      exact ⟨by simp [Ee.sz, hp], HB.out⟩
end Go.Proofs.Ytfpojfohlmhklaa
