/- The reader's face: what it gives up with is taken for the answer. -/
import Derived.Test.YtkkjppdooaipiaaRE
import Derived.Defers
import Derived.Recover
namespace Go.Proofs.Ytkkjppdooaipiaa
open Go.RowKit
set_option linter.unusedVariables false

theorem ta_yes170 (v : Value) (w : World) : (Instr.typeAssert (.iface 116 v) 20 116 true).run Try.prog w = .ok (.tuple #[v, .bool true]) w := by
  simp [Instr.typeAssert, run_underlying Try.underlying116]

set_option maxHeartbeats 800000 in
theorem catch_panic (p : Addr) (x : Int) (older : List PanicEntry) (w : World) (hc : w.cell? p = some (.int .u16 x)) (hz : w.frozen? p = false) :
    CallsD Try.prog 55 #[.pointer (some p)] (.panicking ({ v := .iface 116 (.agg #[]), recovered := false } :: older)) w fun e u' w' =>
      e = .returned (.tuple #[]) ∧ u' = .panicking ({ v := .iface 116 (.agg #[]), recovered := true } :: older) ∧ w' = (w.alloc (.cells #[] 116)).setCell p (.int .u16 80) := by
  have hta := ta_yes170
  have hlt : p.block < w.heap.size := World.block_lt_of_cell? w _ hc
  have hc' : (w.alloc (.cells #[] 116)).cell? p = some (.int .u16 x) := ((below_alloc w _).cell hlt).trans hc
  have hz' : (w.alloc (.cells #[] 116)).frozen? p = false := ((below_alloc w _).frozen hlt).trans hz
  refine callsD_of_wpS Try.func55 rfl fun c₀ cs hu => ?_
  apply wpS_seq
  apply wpS_region
  simp [wpOpsS, go_sem, recoverD, hu, Try.ntmps55, Exit.thenS]
  have htm : (#[Value.pointer (some p)] ++ ((Array.replicate 14 undef).setIfInBounds 3 (Value.iface 116 (Value.agg #[]))).setIfInBounds 0 (Value.iface 116 (Value.agg #[]))) = #[.pointer (some p), .iface 116 (.agg #[]), undef, undef, .iface 116 (.agg #[]), undef, undef, undef, undef, undef, undef, undef, undef, undef, undef] := rfl
  rw [htm]
  refine wpS_of_wp ?_
  go_wp2
  cases c₀
  simp_all [bodyPostS, results, Try.results55]

set_option maxHeartbeats 800000 in
theorem catch_idle (p : Addr) (w : World) :
    CallsD Try.prog 55 #[.pointer (some p)] .returning w fun e u' w' => e = .returned (.tuple #[]) ∧ u' = .returning ∧ w' = w := by
  refine callsD_of_wpS Try.func55 rfl fun c₀ cs hu => ?_
  apply wpS_seq
  apply wpS_region
  simp [wpOpsS, go_sem, recoverD, hu, Try.ntmps55, Exit.thenS]
  have htm : (#[Value.pointer (some p)] ++ ((Array.replicate 14 undef).setIfInBounds 3 Value.nilIface).setIfInBounds 0 Value.nilIface) = #[.pointer (some p), .nilIface, undef, undef, .nilIface, undef, undef, undef, undef, undef, undef, undef, undef, undef, undef] := rfl
  rw [htm]
  refine wpS_of_wp ?_
  go_wp2
  cases c₀
  simp_all [bodyPostS, results, Try.results55]
end Go.Proofs.Ytkkjppdooaipiaa
