/- Contracts of what a value has inside: of texts and of numbers. -/
import Derived.Test.YtegoeaofjnpehaaChecked
import Derived.Test.YtegoeaofjnpehaaA
import Derived.KernelRfl
import Derived.Handy
import Derived.LoopTactic
import Derived.Deep.RegionLaw
import Derived.Deep.QuietTactic
import Derived.BigQuiet
import Derived.WalkSmall
import Derived.Laws.RangeString
namespace Go.Proofs.Ytegoeaofjnpehaa
open Go.RowKit
set_option linter.unusedVariables false

/-- a text, a number, as values. -/
abbrev vT (t : ByteArray) : Value := .agg #[.int .u8 4, .bool false, .int .i64 0, .string t, .slice none 0 0, .slice none 0 0, .slice none 0 0]
abbrev vI (n : Int) : Value := .agg #[.int .u8 3, .bool false, .int .i64 n, .string ⟨#[]⟩, .slice none 0 0, .slice none 0 0, .slice none 0 0]

/-- an interface told apart. -/
theorem ta_yes104 (v : Value) (w : World) : (Instr.typeAssert (.iface 104 v) 89 104 true).run Try.prog w = .ok (.tuple #[v, .bool true]) w := by
  simp [Instr.typeAssert, run_underlying Try.underlying104]
theorem ta_no104 (t : TypeId) (h : t ≠ 104) (v : Value) (w : World) : (Instr.typeAssert (.iface t v) 89 104 true).run Try.prog w = .ok (.tuple #[.bool false, .bool false]) w := by
  simp [Instr.typeAssert, run_underlying Try.underlying104, h, Try.zeroValue104]
theorem ta_yes105 (v : Value) (w : World) : (Instr.typeAssert (.iface 105 v) 89 105 true).run Try.prog w = .ok (.tuple #[v, .bool true]) w := by
  simp [Instr.typeAssert, run_underlying Try.underlying105]
theorem ta_no105 (t : TypeId) (h : t ≠ 105) (v : Value) (w : World) : (Instr.typeAssert (.iface t v) 89 105 true).run Try.prog w = .ok (.tuple #[.int .i64 0, .bool false]) w := by
  simp [Instr.typeAssert, run_underlying Try.underlying105, h, Try.zeroValue105]
theorem ta_yes92 (v : Value) (w : World) : (Instr.typeAssert (.iface 92 v) 89 92 true).run Try.prog w = .ok (.tuple #[v, .bool true]) w := by
  simp [Instr.typeAssert, run_underlying Try.underlying92]
theorem ta_no92 (t : TypeId) (h : t ≠ 92) (v : Value) (w : World) : (Instr.typeAssert (.iface t v) 89 92 true).run Try.prog w = .ok (.tuple #[.string ⟨#[]⟩, .bool false]) w := by
  simp [Instr.typeAssert, run_underlying Try.underlying92, h, Try.zeroValue92]
theorem ta_yes95 (v : Value) (w : World) : (Instr.typeAssert (.iface 95 v) 89 95 true).run Try.prog w = .ok (.tuple #[v, .bool true]) w := by
  simp [Instr.typeAssert, run_underlying Try.underlying95]
theorem ta_no95 (t : TypeId) (h : t ≠ 95) (v : Value) (w : World) : (Instr.typeAssert (.iface t v) 89 95 true).run Try.prog w = .ok (.tuple #[.slice none 0 0, .bool false]) w := by
  simp [Instr.typeAssert, run_underlying Try.underlying95, h, Try.zeroValue95]
theorem ta_yes106 (v : Value) (w : World) : (Instr.typeAssert (.iface 106 v) 89 106 true).run Try.prog w = .ok (.tuple #[v, .bool true]) w := by
  simp [Instr.typeAssert, run_underlying Try.underlying106]
theorem ta_no106 (t : TypeId) (h : t ≠ 106) (v : Value) (w : World) : (Instr.typeAssert (.iface t v) 89 106 true).run Try.prog w = .ok (.tuple #[.slice none 0 0, .bool false]) w := by
  simp [Instr.typeAssert, run_underlying Try.underlying106, h, Try.zeroValue106]
theorem ta_yes96 (v : Value) (w : World) : (Instr.typeAssert (.iface 96 v) 89 96 true).run Try.prog w = .ok (.tuple #[v, .bool true]) w := by
  simp [Instr.typeAssert, run_underlying Try.underlying96]
theorem ta_no96 (t : TypeId) (h : t ≠ 96) (v : Value) (w : World) : (Instr.typeAssert (.iface t v) 89 96 true).run Try.prog w = .ok (.tuple #[.slice none 0 0, .bool false]) w := by
  simp [Instr.typeAssert, run_underlying Try.underlying96, h, Try.zeroValue96]
theorem ba_beq (t : ByteArray) : (t == t) = true := by
  cases t with | mk d => exact (beq_self_eq_true d)
set_option maxHeartbeats 800000 in
theorem insideT (t : ByteArray) (w : World) : Calls Try.prog 46 #[vT t] w fun e w' => e = .returned (.iface 92 (.string t)) ∧ Below w.heap.size w w' := by
  go_enter Try.func46, Try.ntmps46
  go_wp2
  go_ret
  exact ⟨rfl, (Below.refl _ _).alloc (Nat.le_refl _) _⟩

set_option maxHeartbeats 800000 in
theorem insideI (n : Int) (w : World) : Calls Try.prog 46 #[vI n] w fun e w' => e = .returned (.iface 105 (.int .i64 n)) ∧ Below w.heap.size w w' := by
  go_enter Try.func46, Try.ntmps46
  go_wp2
  go_ret
  exact ⟨rfl, (Below.refl _ _).alloc (Nat.le_refl _) _⟩
set_option maxHeartbeats 800000 in
set_option maxRecDepth 1000000 in
theorem outsideT (t : ByteArray) (w : World) : Calls Try.prog 48 #[.iface 92 (.string t)] w fun e w' => e = .returned (vT t) ∧ Below w.heap.size w w' := by
  have a0 := ta_no104 92 (by decide)
  have a1 := ta_no105 92 (by decide)
  have a2 := ta_yes92
  go_enter Try.func48, Try.ntmps48
  go_wp2
  refine bodyPost_ret (v := vT t) ?_ rfl ?_
  · simp [results, Try.results48, go_sem]
  · exact ⟨rfl, (Below.refl _ _).alloc (Nat.le_refl _) _⟩
set_option maxHeartbeats 800000 in
set_option maxRecDepth 1000000 in
theorem outsideI (n : Int) (w : World) : Calls Try.prog 48 #[.iface 105 (.int .i64 n)] w fun e w' => e = .returned (vI n) ∧ Below w.heap.size w w' := by
  have a0 := ta_no104 105 (by decide)
  have a1 := ta_yes105
  go_enter Try.func48, Try.ntmps48
  go_wp2
  refine bodyPost_ret (v := vI n) ?_ rfl ?_
  · simp [results, Try.results48, go_sem]
  · exact ⟨rfl, (Below.refl _ _).alloc (Nat.le_refl _) _⟩
set_option maxHeartbeats 800000 in
theorem alikeT (t : ByteArray) (w : World) : Calls Try.prog 47 #[vT t, vT t] w fun e w' => e = .returned (.bool true) ∧ Below w.heap.size w w' := by
  have hb := ba_beq t
  go_enter Try.func47, Try.ntmps47
  go_wp2
  go_ret
  exact ⟨rfl, ((Below.refl _ _).alloc (Nat.le_refl _) _).alloc (by simp) _⟩
set_option maxHeartbeats 800000 in
theorem alikeI (n : Int) (w : World) : Calls Try.prog 47 #[vI n, vI n] w fun e w' => e = .returned (.bool true) ∧ Below w.heap.size w w' := by
  have hb : (n == n) = true := by simp
  go_enter Try.func47, Try.ntmps47
  go_wp2
  go_ret
  exact ⟨rfl, ((Below.refl _ _).alloc (Nat.le_refl _) _).alloc (by simp) _⟩
set_option maxHeartbeats 800000 in
theorem torn_no (s : ByteArray) (r : Int) (w : World) (h : (r == 65533) = false) : Calls Try.prog 53 #[.string s, .int .i32 r] w fun e w' => e = .returned (.bool false) ∧ w' = w := by
  go_enter Try.func53, Try.ntmps53
  go_wp2
  go_ret
  exact ⟨rfl, rfl⟩
theorem below_iter (w : World) (s : ByteArray) (p : Nat) : Below w.heap.size w (w.iter s p) := (Below.refl _ _).alloc (Nat.le_refl _) _
set_option maxHeartbeats 800000 in
set_option maxRecDepth 1000000 in
theorem runes_a (w : World) : Calls Try.prog 49 #[.string ⟨#[97]⟩] w fun e w' => e = .returned (.tuple #[.int .i64 1, .bool true]) ∧ Below w.heap.size w w' := by
  have h0 : ∀ ty, (Instr.next (.pointer (some ⟨w.heap.size, 0, none⟩)) true ty).run Try.prog (w.iter ⟨#[97]⟩ 0) = _ := fun ty => run_next_ascii w ⟨#[97]⟩ 0 ty (by decide) (by decide)
  have h1 : ∀ ty, (Instr.next (.pointer (some ⟨w.heap.size, 0, none⟩)) true ty).run Try.prog (w.iter ⟨#[97]⟩ 1) = _ := fun ty => run_next_end w ⟨#[97]⟩ 1 ty (by decide)
  have e0 : ((ByteArray.mk #[97])[0]'(by decide)).toNat = 97 := rfl
  simp only [e0] at h0
  go_enter Try.func49, Try.ntmps49
  go_wp2
  go_loopw [4] (fun n w' => (w' = w.iter ⟨#[97]⟩ 0 ∧ n = .int .i64 0) ∨ (w' = w.iter ⟨#[97]⟩ 1 ∧ n = .int .i64 1)) (fun n w' => 1 - (intOf n).toNat)
  case atStart => exact .inl ⟨rfl, rfl⟩
  case round =>
    rcases hrel with ⟨rfl, rfl⟩ | ⟨rfl, rfl⟩
    · go_wp2_with fail
      refine (torn_no _ _ _ (by decide)).mono ?_
      rintro r w1 ⟨rfl, rfl⟩
      go_wp2
      go_roundw
      case rel => simp
      case measure => simp [intOf]
    · go_wp2
      go_ret2
      exact ⟨rfl, below_iter _ _ _⟩
end Go.Proofs.Ytegoeaofjnpehaa
