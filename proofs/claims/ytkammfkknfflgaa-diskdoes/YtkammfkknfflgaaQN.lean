/- A load that the program's disk refuses; both disks begin in the same state. -/
import Derived.Test.YtkammfkknfflgaaQM
import Derived.Test.YtkammfkknfflgaaED
namespace Go.Proofs.Ytkammfkknfflgaa
open Go.RowKit Go.Maps
set_option linter.unusedVariables false

theorem new_of (N : Nat) : DS.of (List.replicate N (List.replicate 128 0)) = DS.new N := rfl
theorem load_of (N : Nat) (zs : List Int) : DS.of ((List.range N).map (sec zs)) = (DS.new N).las (lsk N zs N) := by
  have e : (List.range N).map (sec zs) = lsk N zs N := by
    unfold lsk
    apply List.map_congr_left
    intro i hi
    rw [List.mem_range] at hi
    rw [if_pos hi]
  rw [e]; rfl
set_option maxHeartbeats 800000 in
set_option maxRecDepth 1000000 in
theorem load_no (a : Option Addr) (len cap : Nat) (w : World) (h : len = 0 ∨ len % 1024 ≠ 0 ∨ 16777216 < len) (hl : len ≤ 9223372036854775807) : Calls Try.prog 11 #[.slice a len cap] w fun e w' => e = .returned (.tuple #[.pointer none, .int .u16 70]) ∧ Below w.heap.size w w' := by
  by_cases h2 : len % 1024 = 0
  · have d3 : ((len : Int) % 1024 != 0) = false := by simp; omega
    obtain ⟨n, HQ⟩ : ∃ n : Nat, Hid (n = len / 1024) := ⟨_, rfl⟩
    have HN : Hid (Calls Try.prog 6 #[.int .i64 (n : Int)] w fun e w' => e = .returned (.tuple #[.pointer none, .int .u16 70]) ∧ Below w.heap.size w w') := new_no _ w (by have := HQ.out; omega)
    have hq : (len : Int) / 1024 = (n : Int) := by have := HQ.out; omega
    have hq2 : Int.tdiv (len : Int) 1024 = (n : Int) := by rw [Int.tdiv_eq_ediv_of_nonneg (by omega)]; exact hq
    have hw : IntKind.i64.wrap (n : Int) = (n : Int) := by have := HQ.out; rw [IntKind.wrap_i64]; omega
    clear h h2
    go_enter Try.func11, Try.ntmps11
    go_wp2_with fail
    refine HN.out.mono ?_
    rintro e w1 ⟨rfl, hb⟩
    have HB := hide hb
    clear hb
    go_wp2
    go_ret2
    exact ⟨rfl, HB.out⟩
  · have d3 : ((len : Int) % 1024 != 0) = true := by simp; omega
    have d6 : ((len : Int) % 1024 == 0) = false := by simp; omega
    clear h h2
    go_enter Try.func11, Try.ntmps11
    go_wp2
    go_ret2
    exact ⟨rfl, Below.refl _ _⟩
end Go.Proofs.Ytkammfkknfflgaa
