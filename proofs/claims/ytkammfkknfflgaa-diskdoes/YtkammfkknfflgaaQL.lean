/- Disks that are refused for their size; Load of the document's own disk. -/
import Derived.Test.YtkammfkknfflgaaQK
namespace Go.Proofs.Ytkammfkknfflgaa
open Go.RowKit Go.Maps
set_option linter.unusedVariables false

set_option maxHeartbeats 800000 in
set_option maxRecDepth 1000000 in
theorem rnew_no (n : Int) (w : World) (h : n < 1 ∨ 16384 < n) : Calls Try.prog 7 #[.int .i64 n] w fun e w' => e = .returned (.tuple #[.pointer none, .int .u16 70]) ∧ w' = w := by
  by_cases h1 : n < 1
  · have d1 : decide (n < 1) = true := by simp [h1]
    clear h h1
    go_enter Try.func7, Try.ntmps7
    go_wp2
    go_ret2
    exact ⟨rfl, rfl⟩
  · have d1 : decide (n < 1) = false := by simp [h1]
    have d2 : decide ((16384 : Int) < n) = true := by simp; omega
    clear h h1
    go_enter Try.func7, Try.ntmps7
    go_wp2
    go_ret2
    exact ⟨rfl, rfl⟩
set_option maxHeartbeats 800000 in
set_option maxRecDepth 1000000 in
theorem new_no (n : Int) (w : World) (h : n < 1 ∨ 16384 < n) : Calls Try.prog 6 #[.int .i64 n] w fun e w' => e = .returned (.tuple #[.pointer none, .int .u16 70]) ∧ Below w.heap.size w w' := by
  by_cases h1 : n < 1
  · have d1 : decide (n < 1) = true := by simp [h1]
    clear h h1
    go_enter Try.func6, Try.ntmps6
    go_wp2
    go_ret2
    exact ⟨rfl, Below.refl _ _⟩
  · have d1 : decide (n < 1) = false := by simp [h1]
    have d2 : decide ((16384 : Int) < n) = true := by simp; omega
    clear h h1
    go_enter Try.func6, Try.ntmps6
    go_wp2
    go_ret2
    exact ⟨rfl, Below.refl _ _⟩
set_option maxHeartbeats 800000 in
set_option maxRecDepth 1000000 in
theorem rload_no (a : Option Addr) (len cap : Nat) (w : World) (h : len = 0 ∨ len % 1024 ≠ 0 ∨ 16777216 < len) (hl : len ≤ 9223372036854775807) : Calls Try.prog 12 #[.slice a len cap] w fun e w' => e = .returned (.tuple #[.pointer none, .int .u16 70]) ∧ w' = w := by
  by_cases h1 : len = 0
  · subst h1
    clear h
    go_enter Try.func12, Try.ntmps12
    go_wp2
    go_ret2
    exact ⟨rfl, rfl⟩
  · have d1 : ((len : Int) == 0) = false := by simp; omega
    by_cases h2 : len % 1024 = 0
    · have d3 : ((len : Int) % 1024 != 0) = false := by simp; omega
      have d4 : decide ((16777216 : Int) < (len : Int)) = true := by simp; omega
      have d5 : decide (16777216 < len) = true := by simp; omega
      clear h h1 h2
      go_enter Try.func12, Try.ntmps12
      go_wp2
      go_ret2
      exact ⟨rfl, rfl⟩
    · have d3 : ((len : Int) % 1024 != 0) = true := by simp; omega
      clear h h1 h2
      go_enter Try.func12, Try.ntmps12
      go_wp2
      go_ret2
      exact ⟨rfl, rfl⟩
end Go.Proofs.Ytkammfkknfflgaa
