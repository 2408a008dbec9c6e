/- Which values may be. -/
import Derived.Test.YtcflnkepopcofaaCA
namespace Go.Proofs.Ytcflnkepopcofaa
open Go.RowKit
set_option linter.unusedVariables false

set_option maxHeartbeats 1600000 in
set_option maxRecDepth 1000000 in
theorem small_any (x : En) (w : World) (hv : x.e.val.length ≤ 9223372036854775807) :
    Calls Try.prog 63 #[.agg #[.slice x.ka x.e.key.length x.kc, .slice x.va x.e.val.length x.vc, .int .u32 (x.e.page : Int), .int .u32 (x.e.size : Int)]] w fun e w' => e = .returned (.bool x.e.small) ∧ Below w.heap.size w w' := by
  obtain ⟨e, ka, kc, va, vc⟩ := x
  obtain ⟨key, val, page, size⟩ := e
  simp only [] at hv ⊢
  obtain ⟨b0, b1, b2, b3⟩ := box4 w (.slice ka key.length kc) (.slice va val.length vc) (.int .u32 (page : Int)) (.int .u32 (size : Int)) 28
  have HB := hide (below_alloc w (.cells #[.slice ka key.length kc, .slice va val.length vc, .int .u32 (page : Int), .int .u32 (size : Int)] 28))
  by_cases h1 : val.length ≤ 64
  · by_cases h2 : page = 0
    · subst h2
      by_cases h3 : size = 0
      · subst h3
        have d1 : (val.length : Int) ≤ 64 := by omega
        go_enter Try.func63, Try.ntmps63
        go_wp2
        go_ret
        exact ⟨by simp [Ee.small, h1], HB.out⟩
      · have d1 : (val.length : Int) ≤ 64 := by omega
        have d3 : ((size : Int) == 0) = false := by simp; omega
        go_enter Try.func63, Try.ntmps63
        go_wp2
        go_ret
        exact ⟨by simp [Ee.small, h1, h3], HB.out⟩
    · have d1 : (val.length : Int) ≤ 64 := by omega
      have d2 : ((page : Int) == 0) = false := by simp; omega
      go_enter Try.func63, Try.ntmps63
      go_wp2
      go_ret
      exact ⟨by simp [Ee.small, h2], HB.out⟩
  · have d1 : ¬ (val.length : Int) ≤ 64 := by omega
    go_enter Try.func63, Try.ntmps63
    go_wp2
    go_ret
    exact ⟨by simp [Ee.small, h1], HB.out⟩
set_option maxHeartbeats 1600000 in
set_option maxRecDepth 1000000 in
theorem great_any (x : En) (w : World) (hv : x.e.val.length ≤ 9223372036854775807) :
    Calls Try.prog 64 #[.agg #[.slice x.ka x.e.key.length x.kc, .slice x.va x.e.val.length x.vc, .int .u32 (x.e.page : Int), .int .u32 (x.e.size : Int)]] w fun e w' => e = .returned (.bool x.e.great) ∧ Below w.heap.size w w' := by
  obtain ⟨e, ka, kc, va, vc⟩ := x
  obtain ⟨key, val, page, size⟩ := e
  simp only [] at hv ⊢
  have HD : Hid ((⟨key, val, page, size⟩ : Ee).great = (decide (val.length = 0) && (pageOk page && (decide (64 < size) && decide (size ≤ 8192))))) := hide rfl
  generalize (⟨key, val, page, size⟩ : Ee).great = G at *
  generalize val.length = vl at *
  obtain ⟨b0, b1, b2, b3⟩ := box4 w (.slice ka key.length kc) (.slice va vl vc) (.int .u32 (page : Int)) (.int .u32 (size : Int)) 28
  have HB := hide (below_alloc w (.cells #[.slice ka key.length kc, .slice va vl vc, .int .u32 (page : Int), .int .u32 (size : Int)] 28))
  have HP := hide (fun W => page_any page W)
  generalize pageOk page = B at *
  by_cases h1 : vl = 0
  · subst h1
    cases B with
    | false =>
      go_enter Try.func64, Try.ntmps64
      go_wp2_with (go_at_call 65; refine (HP.out _).mono ?_; rintro e w2 ⟨rfl, rfl⟩)
      go_ret
      exact ⟨by rw [HD.out]; simp, HB.out⟩
    | true =>
      by_cases h2 : 64 < size
      · have d2 : (64 : Int) < (size : Int) := by omega
        go_enter Try.func64, Try.ntmps64
        go_wp2_with (go_at_call 65; refine (HP.out _).mono ?_; rintro e w2 ⟨rfl, rfl⟩)
        go_ret
        exact ⟨by rw [HD.out]; simp [h2] <;> omega, HB.out⟩
      · have d2 : ¬ (64 : Int) < (size : Int) := by omega
        go_enter Try.func64, Try.ntmps64
        go_wp2_with (go_at_call 65; refine (HP.out _).mono ?_; rintro e w2 ⟨rfl, rfl⟩)
        go_ret
        exact ⟨by rw [HD.out]; simp [h2], HB.out⟩
  · have d1 : ((vl : Int) == 0) = false := by simp; omega
    go_enter Try.func64, Try.ntmps64
    go_wp2
    go_ret
    exact ⟨by rw [HD.out]; simp [h1], HB.out⟩
set_option maxHeartbeats 1600000 in
set_option maxRecDepth 1000000 in
theorem kid_any (x : En) (w : World) (hv : x.e.val.length ≤ 9223372036854775807) :
    Calls Try.prog 43 #[.agg #[.slice x.ka x.e.key.length x.kc, .slice x.va x.e.val.length x.vc, .int .u32 (x.e.page : Int), .int .u32 (x.e.size : Int)]] w fun e w' => e = .returned (.bool x.e.kid) ∧ Below w.heap.size w w' := by
  obtain ⟨e, ka, kc, va, vc⟩ := x
  obtain ⟨key, val, page, size⟩ := e
  simp only [] at hv ⊢
  have HD : Hid ((⟨key, val, page, size⟩ : Ee).kid = (decide (val.length = 0) && (pageOk page && decide (size = 0)))) := hide rfl
  generalize (⟨key, val, page, size⟩ : Ee).kid = G at *
  generalize val.length = vl at *
  obtain ⟨b0, b1, b2, b3⟩ := box4 w (.slice ka key.length kc) (.slice va vl vc) (.int .u32 (page : Int)) (.int .u32 (size : Int)) 28
  have HB := hide (below_alloc w (.cells #[.slice ka key.length kc, .slice va vl vc, .int .u32 (page : Int), .int .u32 (size : Int)] 28))
  have HP := hide (fun W => page_any page W)
  generalize pageOk page = B at *
  by_cases h1 : vl = 0
  · subst h1
    cases B with
    | false =>
      go_enter Try.func43, Try.ntmps43
      go_wp2_with (go_at_call 65; refine (HP.out _).mono ?_; rintro e w2 ⟨rfl, rfl⟩)
      go_ret
      exact ⟨by rw [HD.out]; simp, HB.out⟩
    | true =>
      by_cases h2 : size = 0
      · subst h2
        go_enter Try.func43, Try.ntmps43
        go_wp2_with (go_at_call 65; refine (HP.out _).mono ?_; rintro e w2 ⟨rfl, rfl⟩)
        go_ret
        exact ⟨by rw [HD.out]; simp, HB.out⟩
      · have d2 : ((size : Int) == 0) = false := by simp; omega
        go_enter Try.func43, Try.ntmps43
        go_wp2_with (go_at_call 65; refine (HP.out _).mono ?_; rintro e w2 ⟨rfl, rfl⟩)
        go_ret
        exact ⟨by rw [HD.out]; simp [h2], HB.out⟩
  · have d1 : ((vl : Int) == 0) = false := by simp; omega
    go_enter Try.func43, Try.ntmps43
    go_wp2
    go_ret
    exact ⟨by rw [HD.out]; simp [h1], HB.out⟩
set_option maxHeartbeats 1600000 in
set_option maxRecDepth 1000000 in
theorem val_any (x : En) (w : World) (hv : x.e.val.length ≤ 9223372036854775807) :
    Calls Try.prog 42 #[.agg #[.slice x.ka x.e.key.length x.kc, .slice x.va x.e.val.length x.vc, .int .u32 (x.e.page : Int), .int .u32 (x.e.size : Int)]] w fun e w' => e = .returned (.bool x.e.valOk) ∧ Below w.heap.size w w' := by
  obtain ⟨b0, b1, b2, b3⟩ := box4 w (.slice x.ka x.e.key.length x.kc) (.slice x.va x.e.val.length x.vc) (.int .u32 (x.e.page : Int)) (.int .u32 (x.e.size : Int)) 28
  have hB1 := below_alloc w (.cells #[.slice x.ka x.e.key.length x.kc, .slice x.va x.e.val.length x.vc, .int .u32 (x.e.page : Int), .int .u32 (x.e.size : Int)] 28)
  have hbl := heap_alloc_new w (.cells #[.slice x.ka x.e.key.length x.kc, .slice x.va x.e.val.length x.vc, .int .u32 (x.e.page : Int), .int .u32 (x.e.size : Int)] 28)
  have HS := hide (fun W => small_any x W hv)
  have HG := hide (fun W => great_any x W hv)
  have HD : Hid (x.e.valOk = (x.e.small || x.e.great)) := hide rfl
  have HB1 := hide hB1
  have HBl := hide hbl
  have hlt := lt_of_block hbl
  have HLt := hide hlt
  clear hB1 hbl hlt
  generalize x.e.valOk = V at *
  generalize x.e.small = S at *
  generalize x.e.great = G at *
  cases S with
  | true =>
    go_enter Try.func42, Try.ntmps42
    go_wp2_with (go_at_call 63; refine (HS.out _).mono ?_; rintro e w2 ⟨rfl, hb2⟩)
    go_ret
    exact ⟨by rw [HD.out]; simp, HB1.out.trans (hb2.mono HB1.out.size)⟩
  | false =>
    go_enter Try.func42, Try.ntmps42
    go_wp2_with fail
    refine (HS.out _).mono ?_
    rintro e w2 ⟨rfl, hb2⟩
    obtain ⟨g0, g1, g2, g3, -⟩ := cells_four ((hb2.block _ HLt.out).trans HBl.out)
    have HB2 := hide (HB1.out.trans (hb2.mono HB1.out.size))
    clear hb2
    go_wp2_with (go_at_call 64; refine (HG.out _).mono ?_; rintro e w3 ⟨rfl, hb3⟩)
    go_ret
    exact ⟨by rw [HD.out]; simp, HB2.out.trans (hb3.mono HB2.out.size)⟩
end Go.Proofs.Ytcflnkepopcofaa
