/- Contracts of what a value has inside, of any kind, and of comparing two without looking into their lists. -/
import Derived.Test.YtegoeaofjnpehaaVE
import Derived.Laws.Strings
namespace Go.Proofs.Ytegoeaofjnpehaa
open Go.RowKit
set_option linter.unusedVariables false

set_option maxHeartbeats 800000 in
theorem inside2 (bo : Bool) (n : Int) (t : ByteArray) (ya : Option Addr) (yl yc : Nat) (la : Option Addr) (ll lc : Nat) (fa : Option Addr) (fl fc : Nat) (w : World) : Calls Try.prog 46 #[.agg #[.int .u8 2, .bool bo, .int .i64 n, .string t, .slice ya yl yc, .slice la ll lc, .slice fa fl fc]] w fun e w' => e = .returned (.iface 104 (.bool bo)) ∧ Below w.heap.size w w' := by
  go_enter Try.func46, Try.ntmps46
  go_wp2
  go_ret
  exact ⟨rfl, (Below.refl _ _).alloc (Nat.le_refl _) _⟩
set_option maxHeartbeats 800000 in
set_option maxRecDepth 1000000 in
theorem outside2 (bo : Bool) (w : World) : Calls Try.prog 48 #[.iface 104 (.bool bo)] w fun e w' => e = .returned (.agg #[.int .u8 2, .bool bo, .int .i64 0, .string ⟨#[]⟩, .slice none 0 0, .slice none 0 0, .slice none 0 0]) ∧ Below w.heap.size w w' := by
  have a0 := ta_yes104
  go_enter Try.func48, Try.ntmps48
  go_wp2
  refine bodyPost_ret (v := .agg #[.int .u8 2, .bool bo, .int .i64 0, .string ⟨#[]⟩, .slice none 0 0, .slice none 0 0, .slice none 0 0]) ?_ rfl ?_
  · simp [results, Try.results48, go_sem]
  · exact ⟨rfl, (Below.refl _ _).alloc (Nat.le_refl _) _⟩
set_option maxHeartbeats 800000 in
theorem inside3 (bo : Bool) (n : Int) (t : ByteArray) (ya : Option Addr) (yl yc : Nat) (la : Option Addr) (ll lc : Nat) (fa : Option Addr) (fl fc : Nat) (w : World) : Calls Try.prog 46 #[.agg #[.int .u8 3, .bool bo, .int .i64 n, .string t, .slice ya yl yc, .slice la ll lc, .slice fa fl fc]] w fun e w' => e = .returned (.iface 105 (.int .i64 n)) ∧ Below w.heap.size w w' := by
  go_enter Try.func46, Try.ntmps46
  go_wp2
  go_ret
  exact ⟨rfl, (Below.refl _ _).alloc (Nat.le_refl _) _⟩
set_option maxHeartbeats 800000 in
set_option maxRecDepth 1000000 in
theorem outside3 (n : Int) (w : World) : Calls Try.prog 48 #[.iface 105 (.int .i64 n)] w fun e w' => e = .returned (.agg #[.int .u8 3, .bool false, .int .i64 n, .string ⟨#[]⟩, .slice none 0 0, .slice none 0 0, .slice none 0 0]) ∧ Below w.heap.size w w' := by
  have a0 := ta_no104 105 (by decide)
  have a1 := ta_yes105
  go_enter Try.func48, Try.ntmps48
  go_wp2
  refine bodyPost_ret (v := .agg #[.int .u8 3, .bool false, .int .i64 n, .string ⟨#[]⟩, .slice none 0 0, .slice none 0 0, .slice none 0 0]) ?_ rfl ?_
  · simp [results, Try.results48, go_sem]
  · exact ⟨rfl, (Below.refl _ _).alloc (Nat.le_refl _) _⟩
set_option maxHeartbeats 800000 in
theorem inside4 (bo : Bool) (n : Int) (t : ByteArray) (ya : Option Addr) (yl yc : Nat) (la : Option Addr) (ll lc : Nat) (fa : Option Addr) (fl fc : Nat) (w : World) : Calls Try.prog 46 #[.agg #[.int .u8 4, .bool bo, .int .i64 n, .string t, .slice ya yl yc, .slice la ll lc, .slice fa fl fc]] w fun e w' => e = .returned (.iface 92 (.string t)) ∧ Below w.heap.size w w' := by
  go_enter Try.func46, Try.ntmps46
  go_wp2
  go_ret
  exact ⟨rfl, (Below.refl _ _).alloc (Nat.le_refl _) _⟩
set_option maxHeartbeats 800000 in
set_option maxRecDepth 1000000 in
theorem outside4 (t : ByteArray) (w : World) : Calls Try.prog 48 #[.iface 92 (.string t)] w fun e w' => e = .returned (.agg #[.int .u8 4, .bool false, .int .i64 0, .string t, .slice none 0 0, .slice none 0 0, .slice none 0 0]) ∧ Below w.heap.size w w' := by
  have a0 := ta_no104 92 (by decide)
  have a1 := ta_no105 92 (by decide)
  have a2 := ta_yes92
  go_enter Try.func48, Try.ntmps48
  go_wp2
  refine bodyPost_ret (v := .agg #[.int .u8 4, .bool false, .int .i64 0, .string t, .slice none 0 0, .slice none 0 0, .slice none 0 0]) ?_ rfl ?_
  · simp [results, Try.results48, go_sem]
  · exact ⟨rfl, (Below.refl _ _).alloc (Nat.le_refl _) _⟩
set_option maxHeartbeats 800000 in
theorem inside5 (bo : Bool) (n : Int) (t : ByteArray) (ya : Option Addr) (yl yc : Nat) (la : Option Addr) (ll lc : Nat) (fa : Option Addr) (fl fc : Nat) (w : World) : Calls Try.prog 46 #[.agg #[.int .u8 5, .bool bo, .int .i64 n, .string t, .slice ya yl yc, .slice la ll lc, .slice fa fl fc]] w fun e w' => e = .returned (.iface 95 (.slice ya yl yc)) ∧ Below w.heap.size w w' := by
  go_enter Try.func46, Try.ntmps46
  go_wp2
  go_ret
  exact ⟨rfl, (Below.refl _ _).alloc (Nat.le_refl _) _⟩
set_option maxHeartbeats 800000 in
set_option maxRecDepth 1000000 in
theorem outside5 (ya : Option Addr) (yl yc : Nat) (w : World) : Calls Try.prog 48 #[.iface 95 (.slice ya yl yc)] w fun e w' => e = .returned (.agg #[.int .u8 5, .bool false, .int .i64 0, .string ⟨#[]⟩, .slice ya yl yc, .slice none 0 0, .slice none 0 0]) ∧ Below w.heap.size w w' := by
  have a0 := ta_no104 95 (by decide)
  have a1 := ta_no105 95 (by decide)
  have a2 := ta_no92 95 (by decide)
  have a3 := ta_yes95
  go_enter Try.func48, Try.ntmps48
  go_wp2
  refine bodyPost_ret (v := .agg #[.int .u8 5, .bool false, .int .i64 0, .string ⟨#[]⟩, .slice ya yl yc, .slice none 0 0, .slice none 0 0]) ?_ rfl ?_
  · simp [results, Try.results48, go_sem]
  · exact ⟨rfl, (Below.refl _ _).alloc (Nat.le_refl _) _⟩
set_option maxHeartbeats 800000 in
theorem inside6 (bo : Bool) (n : Int) (t : ByteArray) (ya : Option Addr) (yl yc : Nat) (la : Option Addr) (ll lc : Nat) (fa : Option Addr) (fl fc : Nat) (w : World) : Calls Try.prog 46 #[.agg #[.int .u8 6, .bool bo, .int .i64 n, .string t, .slice ya yl yc, .slice la ll lc, .slice fa fl fc]] w fun e w' => e = .returned (.iface 106 (.slice la ll lc)) ∧ Below w.heap.size w w' := by
  go_enter Try.func46, Try.ntmps46
  go_wp2
  go_ret
  exact ⟨rfl, (Below.refl _ _).alloc (Nat.le_refl _) _⟩
set_option maxHeartbeats 800000 in
set_option maxRecDepth 1000000 in
theorem outside6 (la : Option Addr) (ll lc : Nat) (w : World) : Calls Try.prog 48 #[.iface 106 (.slice la ll lc)] w fun e w' => e = .returned (.agg #[.int .u8 6, .bool false, .int .i64 0, .string ⟨#[]⟩, .slice none 0 0, .slice la ll lc, .slice none 0 0]) ∧ Below w.heap.size w w' := by
  have a0 := ta_no104 106 (by decide)
  have a1 := ta_no105 106 (by decide)
  have a2 := ta_no92 106 (by decide)
  have a3 := ta_no95 106 (by decide)
  have a4 := ta_yes106
  go_enter Try.func48, Try.ntmps48
  go_wp2
  refine bodyPost_ret (v := .agg #[.int .u8 6, .bool false, .int .i64 0, .string ⟨#[]⟩, .slice none 0 0, .slice la ll lc, .slice none 0 0]) ?_ rfl ?_
  · simp [results, Try.results48, go_sem]
  · exact ⟨rfl, (Below.refl _ _).alloc (Nat.le_refl _) _⟩
set_option maxHeartbeats 800000 in
theorem inside7 (bo : Bool) (n : Int) (t : ByteArray) (ya : Option Addr) (yl yc : Nat) (la : Option Addr) (ll lc : Nat) (fa : Option Addr) (fl fc : Nat) (w : World) : Calls Try.prog 46 #[.agg #[.int .u8 7, .bool bo, .int .i64 n, .string t, .slice ya yl yc, .slice la ll lc, .slice fa fl fc]] w fun e w' => e = .returned (.iface 96 (.slice fa fl fc)) ∧ Below w.heap.size w w' := by
  go_enter Try.func46, Try.ntmps46
  go_wp2
  go_ret
  exact ⟨rfl, (Below.refl _ _).alloc (Nat.le_refl _) _⟩
set_option maxHeartbeats 800000 in
set_option maxRecDepth 1000000 in
theorem outside7 (fa : Option Addr) (fl fc : Nat) (w : World) : Calls Try.prog 48 #[.iface 96 (.slice fa fl fc)] w fun e w' => e = .returned (.agg #[.int .u8 7, .bool false, .int .i64 0, .string ⟨#[]⟩, .slice none 0 0, .slice none 0 0, .slice fa fl fc]) ∧ Below w.heap.size w w' := by
  have a0 := ta_no104 96 (by decide)
  have a1 := ta_no105 96 (by decide)
  have a2 := ta_no92 96 (by decide)
  have a3 := ta_no95 96 (by decide)
  have a4 := ta_no106 96 (by decide)
  have a5 := ta_yes96
  go_enter Try.func48, Try.ntmps48
  go_wp2
  refine bodyPost_ret (v := .agg #[.int .u8 7, .bool false, .int .i64 0, .string ⟨#[]⟩, .slice none 0 0, .slice none 0 0, .slice fa fl fc]) ?_ rfl ?_
  · simp [results, Try.results48, go_sem]
  · exact ⟨rfl, (Below.refl _ _).alloc (Nat.le_refl _) _⟩
set_option maxHeartbeats 800000 in
theorem inside_else (k : Int) (bo : Bool) (n : Int) (t : ByteArray) (ya : Option Addr) (yl yc : Nat) (la : Option Addr) (ll lc : Nat) (fa : Option Addr) (fl fc : Nat) (w : World) (h2 : (k == 2) = false) (h3 : (k == 3) = false) (h4 : (k == 4) = false) (h5 : (k == 5) = false) (h6 : (k == 6) = false) (h7 : (k == 7) = false) : Calls Try.prog 46 #[.agg #[.int .u8 k, .bool bo, .int .i64 n, .string t, .slice ya yl yc, .slice la ll lc, .slice fa fl fc]] w fun e w' => e = .returned (.iface 108 (.agg #[])) ∧ Below w.heap.size w w' := by
  go_enter Try.func46, Try.ntmps46
  go_wp2
  go_ret
  exact ⟨rfl, (Below.refl _ _).alloc (Nat.le_refl _) _⟩
set_option maxHeartbeats 800000 in
set_option maxRecDepth 1000000 in
theorem outside_else (w : World) : Calls Try.prog 48 #[.iface 108 (.agg #[])] w fun e w' => e = .returned (.agg #[.int .u8 1, .bool false, .int .i64 0, .string ⟨#[]⟩, .slice none 0 0, .slice none 0 0, .slice none 0 0]) ∧ Below w.heap.size w w' := by
  have a0 := ta_no104 108 (by decide)
  have a1 := ta_no105 108 (by decide)
  have a2 := ta_no92 108 (by decide)
  have a3 := ta_no95 108 (by decide)
  have a4 := ta_no106 108 (by decide)
  have a5 := ta_no96 108 (by decide)
  go_enter Try.func48, Try.ntmps48
  go_wp2
  refine bodyPost_ret (v := .agg #[.int .u8 1, .bool false, .int .i64 0, .string ⟨#[]⟩, .slice none 0 0, .slice none 0 0, .slice none 0 0]) ?_ rfl ?_
  · simp [results, Try.results48, go_sem]
  · exact ⟨rfl, (Below.refl _ _).alloc (Nat.le_refl _) _⟩
theorem ba_leq (s : ByteArray) : (s.toList == s.toList) = true := beq_self_eq_true _
theorem ba_lne (s t : ByteArray) (h : ¬ s = t) : (s.toList == t.toList) = false := by
  rw [beq_eq_false_iff_ne]
  intro h'
  rw [ByteArray.toList_eq, ByteArray.toList_eq] at h'
  apply h
  cases s with | mk d => cases t with | mk e => exact congrArg ByteArray.mk (Array.ext' h')
/-- are two alike, as far as can be told without looking into their lists? -/
def alB (k : Int) (bo : Bool) (n : Int) (t : ByteArray) (yl ll fl : Nat) (k2 : Int) (bo2 : Bool) (n2 : Int) (t2 : ByteArray) (yl2 ll2 fl2 : Nat) : Bool := decide (k = k2 ∧ bo = bo2 ∧ n = n2 ∧ t = t2 ∧ yl = yl2 ∧ ll = ll2 ∧ fl = fl2)
set_option maxHeartbeats 3200000 in
set_option maxRecDepth 1000000 in
theorem alike_gen (k : Int) (bo : Bool) (n : Int) (t : ByteArray) (ya : Option Addr) (yl yc : Nat) (la : Option Addr) (ll lc : Nat) (fa : Option Addr) (fl fc : Nat) (k2 : Int) (bo2 : Bool) (n2 : Int) (t2 : ByteArray) (ya2 : Option Addr) (yl2 yc2 : Nat) (la2 : Option Addr) (ll2 lc2 : Nat) (fa2 : Option Addr) (fl2 fc2 : Nat) (w : World) :
    Calls Try.prog 47 #[.agg #[.int .u8 k, .bool bo, .int .i64 n, .string t, .slice ya yl yc, .slice la ll lc, .slice fa fl fc], .agg #[.int .u8 k2, .bool bo2, .int .i64 n2, .string t2, .slice ya2 yl2 yc2, .slice la2 ll2 lc2, .slice fa2 fl2 fc2]] w fun e w' => e = .returned (.bool (alB k bo n t yl ll fl k2 bo2 n2 t2 yl2 ll2 fl2)) ∧ Below w.heap.size w w' := by
  by_cases e0 : k = k2
  · have b0 : (k == k2) = true := beq_iff_eq.2 e0
    by_cases e1 : bo = bo2
    · have b1 : (bo == bo2) = true := beq_iff_eq.2 e1
      by_cases e2 : n = n2
      · have b2 : (n == n2) = true := beq_iff_eq.2 e2
        by_cases e3 : t = t2
        · have b3 : (t.toList == t2.toList) = true := (by rw [e3]; exact ba_leq t2)
          by_cases e4 : yl = yl2
          · have b4 : ((yl : Int) == (yl2 : Int)) = true := beq_iff_eq.2 (by rw [e4])
            by_cases e5 : ll = ll2
            · have b5 : ((ll : Int) == (ll2 : Int)) = true := beq_iff_eq.2 (by rw [e5])
              by_cases e6 : fl = fl2
              · have b6 : ((fl : Int) == (fl2 : Int)) = true := beq_iff_eq.2 (by rw [e6])
                have HV : Hid (alB k bo n t yl ll fl k2 bo2 n2 t2 yl2 ll2 fl2 = true) := by simp [alB, Hid, e0, e1, e2, e3, e4, e5, e6]
                clear e0 e1 e2 e3 e4 e5 e6
                go_enter Try.func47, Try.ntmps47
                go_wp2
                go_ret
                exact ⟨by rw [HV.out]; rfl, ((Below.refl _ _).alloc (Nat.le_refl _) _).alloc (by simp) _⟩
              · have b6 : ((fl : Int) == (fl2 : Int)) = false := beq_eq_false_iff_ne.2 (by omega)
                have HV : Hid (alB k bo n t yl ll fl k2 bo2 n2 t2 yl2 ll2 fl2 = false) := by simp [alB, Hid, e6]
                clear e0 e1 e2 e3 e4 e5 e6
                go_enter Try.func47, Try.ntmps47
                go_wp2
                go_ret
                exact ⟨by rw [HV.out]; rfl, ((Below.refl _ _).alloc (Nat.le_refl _) _).alloc (by simp) _⟩
            · have b5 : ((ll : Int) == (ll2 : Int)) = false := beq_eq_false_iff_ne.2 (by omega)
              have HV : Hid (alB k bo n t yl ll fl k2 bo2 n2 t2 yl2 ll2 fl2 = false) := by simp [alB, Hid, e5]
              clear e0 e1 e2 e3 e4 e5
              go_enter Try.func47, Try.ntmps47
              go_wp2
              go_ret
              exact ⟨by rw [HV.out]; rfl, ((Below.refl _ _).alloc (Nat.le_refl _) _).alloc (by simp) _⟩
          · have b4 : ((yl : Int) == (yl2 : Int)) = false := beq_eq_false_iff_ne.2 (by omega)
            have HV : Hid (alB k bo n t yl ll fl k2 bo2 n2 t2 yl2 ll2 fl2 = false) := by simp [alB, Hid, e4]
            clear e0 e1 e2 e3 e4
            go_enter Try.func47, Try.ntmps47
            go_wp2
            go_ret
            exact ⟨by rw [HV.out]; rfl, ((Below.refl _ _).alloc (Nat.le_refl _) _).alloc (by simp) _⟩
        · have b3 : (t.toList == t2.toList) = false := ba_lne t t2 e3
          have HV : Hid (alB k bo n t yl ll fl k2 bo2 n2 t2 yl2 ll2 fl2 = false) := by simp [alB, Hid, e3]
          clear e0 e1 e2 e3
          go_enter Try.func47, Try.ntmps47
          go_wp2
          go_ret
          exact ⟨by rw [HV.out]; rfl, ((Below.refl _ _).alloc (Nat.le_refl _) _).alloc (by simp) _⟩
      · have b2 : (n == n2) = false := beq_eq_false_iff_ne.2 e2
        have HV : Hid (alB k bo n t yl ll fl k2 bo2 n2 t2 yl2 ll2 fl2 = false) := by simp [alB, Hid, e2]
        clear e0 e1 e2
        go_enter Try.func47, Try.ntmps47
        go_wp2
        go_ret
        exact ⟨by rw [HV.out]; rfl, ((Below.refl _ _).alloc (Nat.le_refl _) _).alloc (by simp) _⟩
    · have b1 : (bo == bo2) = false := beq_eq_false_iff_ne.2 e1
      have HV : Hid (alB k bo n t yl ll fl k2 bo2 n2 t2 yl2 ll2 fl2 = false) := by simp [alB, Hid, e1]
      clear e0 e1
      go_enter Try.func47, Try.ntmps47
      go_wp2
      go_ret
      exact ⟨by rw [HV.out]; rfl, ((Below.refl _ _).alloc (Nat.le_refl _) _).alloc (by simp) _⟩
  · have b0 : (k == k2) = false := beq_eq_false_iff_ne.2 e0
    have HV : Hid (alB k bo n t yl ll fl k2 bo2 n2 t2 yl2 ll2 fl2 = false) := by simp [alB, Hid, e0]
    clear e0
    go_enter Try.func47, Try.ntmps47
    go_wp2
    go_ret
    exact ⟨by rw [HV.out]; rfl, ((Below.refl _ _).alloc (Nat.le_refl _) _).alloc (by simp) _⟩
end Go.Proofs.Ytegoeaofjnpehaa
