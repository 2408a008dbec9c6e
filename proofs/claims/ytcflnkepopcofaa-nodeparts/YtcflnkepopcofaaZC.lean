/- The document's own: which keys rise, which values and kids may be. -/
import Derived.Test.YtcflnkepopcofaaCE
import Derived.Test.YtcflnkepopcofaaZM
namespace Go.Proofs.Ytcflnkepopcofaa
open Go.RowKit
set_option linter.unusedVariables false

set_option maxHeartbeats 800000 in
theorem rless_any (a b : Option Addr) (n m c d : Nat) (xs ys : List Int) (w : World) (h : Inn w a n c xs) (k : Inn w b m d ys) :
    Calls Try.prog 49 #[.slice a n c, .slice b m d] w fun e w' => e = .returned (.bool (decide (ordI xs ys < 0))) ∧ w' = w := by
  have t1 := text_inn h
  have t2 := text_inn k
  have tl := text_less xs ys h.byts k.byts
  clear h k
  go_enter Try.func49, Try.ntmps49
  go_wp2
  go_ret
  exact ⟨rfl, rfl⟩
set_option maxHeartbeats 1600000 in
set_option maxRecDepth 1000000 in
theorem rval_any (x : En) (w : World) (hv : x.e.val.length ≤ 9223372036854775807) :
    Calls Try.prog 50 #[.agg #[.slice x.ka x.e.key.length x.kc, .slice x.va x.e.val.length x.vc, .int .u32 (x.e.page : Int), .int .u32 (x.e.size : Int)]] w fun e w' => e = .returned (.bool x.e.valOk) ∧ Below w.heap.size w w' := by
  obtain ⟨e, ka, kc, va, vc⟩ := x
  obtain ⟨key, val, page, size⟩ := e
  simp only [] at hv ⊢
  have HD : Hid ((⟨key, val, page, size⟩ : Ee).valOk = ((decide (val.length ≤ 64) && (decide (page = 0) && decide (size = 0))) || (decide (val.length = 0) && (pageOk page && (decide (64 < size) && decide (size ≤ 8192)))))) := hide rfl
  generalize (⟨key, val, page, size⟩ : Ee).valOk = G at *
  generalize val.length = vl at *
  obtain ⟨b0, b1, b2, b3⟩ := box4 w (.slice ka key.length kc) (.slice va vl vc) (.int .u32 (page : Int)) (.int .u32 (size : Int)) 28
  have HB := hide (below_alloc w (.cells #[.slice ka key.length kc, .slice va vl vc, .int .u32 (page : Int), .int .u32 (size : Int)] 28))
  by_cases h0 : page = 0
  · subst h0
    by_cases h1 : size = 0
    · subst h1
      by_cases h2 : vl ≤ 64
      · have d2 : (vl : Int) ≤ 64 := by omega
        go_enter Try.func50, Try.ntmps50
        go_wp2
        go_ret
        exact ⟨by rw [HD.out]; simp [pageOk]; try omega, HB.out⟩
      · have d2 : ¬ (vl : Int) ≤ 64 := by omega
        go_enter Try.func50, Try.ntmps50
        go_wp2
        go_ret
        exact ⟨by rw [HD.out]; simp [pageOk]; try omega, HB.out⟩
    · have d1 : ((size : Int) == 0) = false := by simp; omega
      go_enter Try.func50, Try.ntmps50
      go_wp2
      go_ret
      exact ⟨by rw [HD.out]; simp [pageOk]; try omega, HB.out⟩
  · have d0 : ((page : Int) == 0) = false := by simp; omega
    by_cases h1 : vl = 0
    · subst h1
      by_cases h2 : 2 ≤ page
      · have d2 : (2 : Int) ≤ (page : Int) := by omega
        by_cases h3 : page < 16384
        · have d3 : (page : Int) < 16384 := by omega
          by_cases h4 : 65 ≤ size
          · have d4 : (65 : Int) ≤ (size : Int) := by omega
            by_cases h5 : size ≤ 8192
            · have d5 : (size : Int) ≤ 8192 := by omega
              go_enter Try.func50, Try.ntmps50
              go_wp2
              go_ret
              exact ⟨by rw [HD.out]; simp [pageOk]; try omega, HB.out⟩
            · have d5 : ¬ (size : Int) ≤ 8192 := by omega
              go_enter Try.func50, Try.ntmps50
              go_wp2
              go_ret
              exact ⟨by rw [HD.out]; simp [pageOk]; try omega, HB.out⟩
          · have d4 : ¬ (65 : Int) ≤ (size : Int) := by omega
            go_enter Try.func50, Try.ntmps50
            go_wp2
            go_ret
            exact ⟨by rw [HD.out]; simp [pageOk]; try omega, HB.out⟩
        · have d3 : ¬ (page : Int) < 16384 := by omega
          go_enter Try.func50, Try.ntmps50
          go_wp2
          go_ret
          exact ⟨by rw [HD.out]; simp [pageOk]; try omega, HB.out⟩
      · have d2 : ¬ (2 : Int) ≤ (page : Int) := by omega
        go_enter Try.func50, Try.ntmps50
        go_wp2
        go_ret
        exact ⟨by rw [HD.out]; simp [pageOk]; try omega, HB.out⟩
    · have d1 : ((vl : Int) == 0) = false := by simp; omega
      go_enter Try.func50, Try.ntmps50
      go_wp2
      go_ret
      exact ⟨by rw [HD.out]; simp [pageOk]; try omega, HB.out⟩
set_option maxHeartbeats 1600000 in
set_option maxRecDepth 1000000 in
theorem rkid_any (x : En) (w : World) (hv : x.e.val.length ≤ 9223372036854775807) :
    Calls Try.prog 51 #[.agg #[.slice x.ka x.e.key.length x.kc, .slice x.va x.e.val.length x.vc, .int .u32 (x.e.page : Int), .int .u32 (x.e.size : Int)]] w fun e w' => e = .returned (.bool x.e.kid) ∧ Below w.heap.size w w' := by
  obtain ⟨e, ka, kc, va, vc⟩ := x
  obtain ⟨key, val, page, size⟩ := e
  simp only [] at hv ⊢
  have HD : Hid ((⟨key, val, page, size⟩ : Ee).kid = (decide (val.length = 0) && (pageOk page && decide (size = 0)))) := hide rfl
  generalize (⟨key, val, page, size⟩ : Ee).kid = G at *
  generalize val.length = vl at *
  obtain ⟨b0, b1, b2, b3⟩ := box4 w (.slice ka key.length kc) (.slice va vl vc) (.int .u32 (page : Int)) (.int .u32 (size : Int)) 28
  have HB := hide (below_alloc w (.cells #[.slice ka key.length kc, .slice va vl vc, .int .u32 (page : Int), .int .u32 (size : Int)] 28))
  by_cases h1 : vl = 0
  · subst h1
    by_cases h4 : size = 0
    · subst h4
      by_cases h2 : 2 ≤ page
      · have d2 : (2 : Int) ≤ (page : Int) := by omega
        by_cases h3 : page < 16384
        · have d3 : (page : Int) < 16384 := by omega
          go_enter Try.func51, Try.ntmps51
          go_wp2
          go_ret
          exact ⟨by rw [HD.out]; simp [pageOk]; try omega, HB.out⟩
        · have d3 : ¬ (page : Int) < 16384 := by omega
          go_enter Try.func51, Try.ntmps51
          go_wp2
          go_ret
          exact ⟨by rw [HD.out]; simp [pageOk]; try omega, HB.out⟩
      · have d2 : ¬ (2 : Int) ≤ (page : Int) := by omega
        go_enter Try.func51, Try.ntmps51
        go_wp2
        go_ret
        exact ⟨by rw [HD.out]; simp [pageOk]; try omega, HB.out⟩
    · have d4 : ((size : Int) == 0) = false := by simp; omega
      go_enter Try.func51, Try.ntmps51
      go_wp2
      go_ret
      exact ⟨by rw [HD.out]; simp [pageOk]; try omega, HB.out⟩
  · have d1 : ((vl : Int) == 0) = false := by simp; omega
    go_enter Try.func51, Try.ntmps51
    go_wp2
    go_ret
    exact ⟨by rw [HD.out]; simp [pageOk]; try omega, HB.out⟩
end Go.Proofs.Ytcflnkepopcofaa
