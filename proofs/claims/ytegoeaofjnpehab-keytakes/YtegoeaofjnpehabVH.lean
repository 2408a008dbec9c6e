/- Contracts of what a value has inside, of any kind, and of comparing two without looking into their lists. -/
import Derived.Test.YtegoeaofjnpehabVE
import Derived.Laws.Strings
import Derived.Laws.RangeAny
import Derived.WalkSpells
import Derived.WalkLawsBesides
namespace Go.Proofs.Ytegoeaofjnpehab
open Go.RowKit
set_option linter.unusedVariables false

set_option maxHeartbeats 800000 in
theorem inside2 (bo : Bool) (n : Int) (t : ByteArray) (ya : Option Addr) (yl yc : Nat) (la : Option Addr) (ll lc : Nat) (fa : Option Addr) (fl fc : Nat) (w : World) : Calls Try.prog 47 #[.agg #[.int .u8 2, .bool bo, .int .i64 n, .string t, .slice ya yl yc, .slice la ll lc, .slice fa fl fc]] w fun e w' => e = .returned (.iface 104 (.bool bo)) ∧ Below w.heap.size w w' := by
  go_enter Try.func47, Try.ntmps47
  go_wp2
  go_ret
  exact ⟨rfl, (Below.refl _ _).alloc (Nat.le_refl _) _⟩
set_option maxHeartbeats 800000 in
set_option maxRecDepth 1000000 in
theorem outside2 (bo : Bool) (w : World) : Calls Try.prog 49 #[.iface 104 (.bool bo)] w fun e w' => e = .returned (.agg #[.int .u8 2, .bool bo, .int .i64 0, .string ⟨#[]⟩, .slice none 0 0, .slice none 0 0, .slice none 0 0]) ∧ Below w.heap.size w w' := by
  have a0 := ta_yes104
  go_enter Try.func49, Try.ntmps49
  go_wp2
  refine bodyPost_ret (v := .agg #[.int .u8 2, .bool bo, .int .i64 0, .string ⟨#[]⟩, .slice none 0 0, .slice none 0 0, .slice none 0 0]) ?_ rfl ?_
  · simp [results, Try.results49, go_sem]
  · exact ⟨rfl, (Below.refl _ _).alloc (Nat.le_refl _) _⟩
set_option maxHeartbeats 800000 in
theorem inside3 (bo : Bool) (n : Int) (t : ByteArray) (ya : Option Addr) (yl yc : Nat) (la : Option Addr) (ll lc : Nat) (fa : Option Addr) (fl fc : Nat) (w : World) : Calls Try.prog 47 #[.agg #[.int .u8 3, .bool bo, .int .i64 n, .string t, .slice ya yl yc, .slice la ll lc, .slice fa fl fc]] w fun e w' => e = .returned (.iface 105 (.int .i64 n)) ∧ Below w.heap.size w w' := by
  go_enter Try.func47, Try.ntmps47
  go_wp2
  go_ret
  exact ⟨rfl, (Below.refl _ _).alloc (Nat.le_refl _) _⟩
set_option maxHeartbeats 800000 in
set_option maxRecDepth 1000000 in
theorem outside3 (n : Int) (w : World) : Calls Try.prog 49 #[.iface 105 (.int .i64 n)] w fun e w' => e = .returned (.agg #[.int .u8 3, .bool false, .int .i64 n, .string ⟨#[]⟩, .slice none 0 0, .slice none 0 0, .slice none 0 0]) ∧ Below w.heap.size w w' := by
  have a0 := ta_no104 105 (by decide)
  have a1 := ta_yes105
  go_enter Try.func49, Try.ntmps49
  go_wp2
  refine bodyPost_ret (v := .agg #[.int .u8 3, .bool false, .int .i64 n, .string ⟨#[]⟩, .slice none 0 0, .slice none 0 0, .slice none 0 0]) ?_ rfl ?_
  · simp [results, Try.results49, go_sem]
  · exact ⟨rfl, (Below.refl _ _).alloc (Nat.le_refl _) _⟩
set_option maxHeartbeats 800000 in
theorem inside4 (bo : Bool) (n : Int) (t : ByteArray) (ya : Option Addr) (yl yc : Nat) (la : Option Addr) (ll lc : Nat) (fa : Option Addr) (fl fc : Nat) (w : World) : Calls Try.prog 47 #[.agg #[.int .u8 4, .bool bo, .int .i64 n, .string t, .slice ya yl yc, .slice la ll lc, .slice fa fl fc]] w fun e w' => e = .returned (.iface 90 (.string t)) ∧ Below w.heap.size w w' := by
  go_enter Try.func47, Try.ntmps47
  go_wp2
  go_ret
  exact ⟨rfl, (Below.refl _ _).alloc (Nat.le_refl _) _⟩
set_option maxHeartbeats 800000 in
set_option maxRecDepth 1000000 in
theorem outside4 (t : ByteArray) (w : World) : Calls Try.prog 49 #[.iface 90 (.string t)] w fun e w' => e = .returned (.agg #[.int .u8 4, .bool false, .int .i64 0, .string t, .slice none 0 0, .slice none 0 0, .slice none 0 0]) ∧ Below w.heap.size w w' := by
  have a0 := ta_no104 90 (by decide)
  have a1 := ta_no105 90 (by decide)
  have a2 := ta_yes92
  go_enter Try.func49, Try.ntmps49
  go_wp2
  refine bodyPost_ret (v := .agg #[.int .u8 4, .bool false, .int .i64 0, .string t, .slice none 0 0, .slice none 0 0, .slice none 0 0]) ?_ rfl ?_
  · simp [results, Try.results49, go_sem]
  · exact ⟨rfl, (Below.refl _ _).alloc (Nat.le_refl _) _⟩
set_option maxHeartbeats 800000 in
theorem inside5 (bo : Bool) (n : Int) (t : ByteArray) (ya : Option Addr) (yl yc : Nat) (la : Option Addr) (ll lc : Nat) (fa : Option Addr) (fl fc : Nat) (w : World) : Calls Try.prog 47 #[.agg #[.int .u8 5, .bool bo, .int .i64 n, .string t, .slice ya yl yc, .slice la ll lc, .slice fa fl fc]] w fun e w' => e = .returned (.iface 93 (.slice ya yl yc)) ∧ Below w.heap.size w w' := by
  go_enter Try.func47, Try.ntmps47
  go_wp2
  go_ret
  exact ⟨rfl, (Below.refl _ _).alloc (Nat.le_refl _) _⟩
set_option maxHeartbeats 800000 in
set_option maxRecDepth 1000000 in
theorem outside5 (ya : Option Addr) (yl yc : Nat) (w : World) : Calls Try.prog 49 #[.iface 93 (.slice ya yl yc)] w fun e w' => e = .returned (.agg #[.int .u8 5, .bool false, .int .i64 0, .string ⟨#[]⟩, .slice ya yl yc, .slice none 0 0, .slice none 0 0]) ∧ Below w.heap.size w w' := by
  have a0 := ta_no104 93 (by decide)
  have a1 := ta_no105 93 (by decide)
  have a2 := ta_no92 93 (by decide)
  have a3 := ta_yes95
  go_enter Try.func49, Try.ntmps49
  go_wp2
  refine bodyPost_ret (v := .agg #[.int .u8 5, .bool false, .int .i64 0, .string ⟨#[]⟩, .slice ya yl yc, .slice none 0 0, .slice none 0 0]) ?_ rfl ?_
  · simp [results, Try.results49, go_sem]
  · exact ⟨rfl, (Below.refl _ _).alloc (Nat.le_refl _) _⟩
set_option maxHeartbeats 800000 in
theorem inside6 (bo : Bool) (n : Int) (t : ByteArray) (ya : Option Addr) (yl yc : Nat) (la : Option Addr) (ll lc : Nat) (fa : Option Addr) (fl fc : Nat) (w : World) : Calls Try.prog 47 #[.agg #[.int .u8 6, .bool bo, .int .i64 n, .string t, .slice ya yl yc, .slice la ll lc, .slice fa fl fc]] w fun e w' => e = .returned (.iface 106 (.slice la ll lc)) ∧ Below w.heap.size w w' := by
  go_enter Try.func47, Try.ntmps47
  go_wp2
  go_ret
  exact ⟨rfl, (Below.refl _ _).alloc (Nat.le_refl _) _⟩
set_option maxHeartbeats 800000 in
set_option maxRecDepth 1000000 in
theorem outside6 (la : Option Addr) (ll lc : Nat) (w : World) : Calls Try.prog 49 #[.iface 106 (.slice la ll lc)] w fun e w' => e = .returned (.agg #[.int .u8 6, .bool false, .int .i64 0, .string ⟨#[]⟩, .slice none 0 0, .slice la ll lc, .slice none 0 0]) ∧ Below w.heap.size w w' := by
  have a0 := ta_no104 106 (by decide)
  have a1 := ta_no105 106 (by decide)
  have a2 := ta_no92 106 (by decide)
  have a3 := ta_no95 106 (by decide)
  have a4 := ta_yes106
  go_enter Try.func49, Try.ntmps49
  go_wp2
  refine bodyPost_ret (v := .agg #[.int .u8 6, .bool false, .int .i64 0, .string ⟨#[]⟩, .slice none 0 0, .slice la ll lc, .slice none 0 0]) ?_ rfl ?_
  · simp [results, Try.results49, go_sem]
  · exact ⟨rfl, (Below.refl _ _).alloc (Nat.le_refl _) _⟩
set_option maxHeartbeats 800000 in
theorem inside7 (bo : Bool) (n : Int) (t : ByteArray) (ya : Option Addr) (yl yc : Nat) (la : Option Addr) (ll lc : Nat) (fa : Option Addr) (fl fc : Nat) (w : World) : Calls Try.prog 47 #[.agg #[.int .u8 7, .bool bo, .int .i64 n, .string t, .slice ya yl yc, .slice la ll lc, .slice fa fl fc]] w fun e w' => e = .returned (.iface 94 (.slice fa fl fc)) ∧ Below w.heap.size w w' := by
  go_enter Try.func47, Try.ntmps47
  go_wp2
  go_ret
  exact ⟨rfl, (Below.refl _ _).alloc (Nat.le_refl _) _⟩
set_option maxHeartbeats 800000 in
set_option maxRecDepth 1000000 in
theorem outside7 (fa : Option Addr) (fl fc : Nat) (w : World) : Calls Try.prog 49 #[.iface 94 (.slice fa fl fc)] w fun e w' => e = .returned (.agg #[.int .u8 7, .bool false, .int .i64 0, .string ⟨#[]⟩, .slice none 0 0, .slice none 0 0, .slice fa fl fc]) ∧ Below w.heap.size w w' := by
  have a0 := ta_no104 94 (by decide)
  have a1 := ta_no105 94 (by decide)
  have a2 := ta_no92 94 (by decide)
  have a3 := ta_no95 94 (by decide)
  have a4 := ta_no106 94 (by decide)
  have a5 := ta_yes96
  go_enter Try.func49, Try.ntmps49
  go_wp2
  refine bodyPost_ret (v := .agg #[.int .u8 7, .bool false, .int .i64 0, .string ⟨#[]⟩, .slice none 0 0, .slice none 0 0, .slice fa fl fc]) ?_ rfl ?_
  · simp [results, Try.results49, go_sem]
  · exact ⟨rfl, (Below.refl _ _).alloc (Nat.le_refl _) _⟩
set_option maxHeartbeats 800000 in
theorem inside_else (k : Int) (bo : Bool) (n : Int) (t : ByteArray) (ya : Option Addr) (yl yc : Nat) (la : Option Addr) (ll lc : Nat) (fa : Option Addr) (fl fc : Nat) (w : World) (h2 : (k == 2) = false) (h3 : (k == 3) = false) (h4 : (k == 4) = false) (h5 : (k == 5) = false) (h6 : (k == 6) = false) (h7 : (k == 7) = false) : Calls Try.prog 47 #[.agg #[.int .u8 k, .bool bo, .int .i64 n, .string t, .slice ya yl yc, .slice la ll lc, .slice fa fl fc]] w fun e w' => e = .returned (.iface 108 (.agg #[])) ∧ Below w.heap.size w w' := by
  go_enter Try.func47, Try.ntmps47
  go_wp2
  go_ret
  exact ⟨rfl, (Below.refl _ _).alloc (Nat.le_refl _) _⟩
set_option maxHeartbeats 800000 in
set_option maxRecDepth 1000000 in
theorem outside_else (w : World) : Calls Try.prog 49 #[.iface 108 (.agg #[])] w fun e w' => e = .returned (.agg #[.int .u8 1, .bool false, .int .i64 0, .string ⟨#[]⟩, .slice none 0 0, .slice none 0 0, .slice none 0 0]) ∧ Below w.heap.size w w' := by
  have a0 := ta_no104 108 (by decide)
  have a1 := ta_no105 108 (by decide)
  have a2 := ta_no92 108 (by decide)
  have a3 := ta_no95 108 (by decide)
  have a4 := ta_no106 108 (by decide)
  have a5 := ta_no96 108 (by decide)
  go_enter Try.func49, Try.ntmps49
  go_wp2
  refine bodyPost_ret (v := .agg #[.int .u8 1, .bool false, .int .i64 0, .string ⟨#[]⟩, .slice none 0 0, .slice none 0 0, .slice none 0 0]) ?_ rfl ?_
  · simp [results, Try.results49, go_sem]
  · exact ⟨rfl, (Below.refl _ _).alloc (Nat.le_refl _) _⟩
theorem ba_leq (s : ByteArray) : (s.toList == s.toList) = true := beq_self_eq_true _
theorem ba_lne (s t : ByteArray) (h : ¬ s = t) : (s.toList == t.toList) = false := by
  rw [beq_eq_false_iff_ne]
  intro h'
  rw [ByteArray.toList_eq, ByteArray.toList_eq] at h'
  apply h
  cases s with | mk d => cases t with | mk e => exact congrArg ByteArray.mk (Array.ext' h')
/-- are two alike, as far as can be told without looking into their lists? -/
def alB (k : Int) (bo : Bool) (n : Int) (t : ByteArray) (yl ll fl : Nat) (k2 : Int) (bo2 : Bool) (n2 : Int) (t2 : ByteArray) (yl2 ll2 fl2 : Nat) : Bool := decide (k = k2 ∧ bo = bo2 ∧ n = n2 ∧ t = t2 ∧ yl = yl2 ∧ ll = ll2 ∧ fl = fl2)
set_option maxHeartbeats 3200000 in
set_option maxRecDepth 1000000 in
theorem alike_gen (k : Int) (bo : Bool) (n : Int) (t : ByteArray) (ya : Option Addr) (yl yc : Nat) (la : Option Addr) (ll lc : Nat) (fa : Option Addr) (fl fc : Nat) (k2 : Int) (bo2 : Bool) (n2 : Int) (t2 : ByteArray) (ya2 : Option Addr) (yl2 yc2 : Nat) (la2 : Option Addr) (ll2 lc2 : Nat) (fa2 : Option Addr) (fl2 fc2 : Nat) (w : World) :
    Calls Try.prog 48 #[.agg #[.int .u8 k, .bool bo, .int .i64 n, .string t, .slice ya yl yc, .slice la ll lc, .slice fa fl fc], .agg #[.int .u8 k2, .bool bo2, .int .i64 n2, .string t2, .slice ya2 yl2 yc2, .slice la2 ll2 lc2, .slice fa2 fl2 fc2]] w fun e w' => e = .returned (.bool (alB k bo n t yl ll fl k2 bo2 n2 t2 yl2 ll2 fl2)) ∧ Below w.heap.size w w' := by
  by_cases e0 : k = k2
  · have b0 : (k == k2) = true := beq_iff_eq.2 e0
    by_cases e1 : bo = bo2
    · have b1 : (bo == bo2) = true := beq_iff_eq.2 e1
      by_cases e2 : n = n2
      · have b2 : (n == n2) = true := beq_iff_eq.2 e2
        by_cases e3 : t = t2
        · have b3 : (t.toList == t2.toList) = true := (by rw [e3]; exact ba_leq t2)
          by_cases e4 : yl = yl2
          · have b4 : ((yl : Int) == (yl2 : Int)) = true := beq_iff_eq.2 (by rw [e4])
            by_cases e5 : ll = ll2
            · have b5 : ((ll : Int) == (ll2 : Int)) = true := beq_iff_eq.2 (by rw [e5])
              by_cases e6 : fl = fl2
              · have b6 : ((fl : Int) == (fl2 : Int)) = true := beq_iff_eq.2 (by rw [e6])
                have HV : Hid (alB k bo n t yl ll fl k2 bo2 n2 t2 yl2 ll2 fl2 = true) := by simp [alB, Hid, e0, e1, e2, e3, e4, e5, e6]
                clear e0 e1 e2 e3 e4 e5 e6
                go_enter Try.func48, Try.ntmps48
                go_wp2
                go_ret
                exact ⟨by rw [HV.out]; rfl, ((Below.refl _ _).alloc (Nat.le_refl _) _).alloc (by simp) _⟩
              · have b6 : ((fl : Int) == (fl2 : Int)) = false := beq_eq_false_iff_ne.2 (by omega)
                have HV : Hid (alB k bo n t yl ll fl k2 bo2 n2 t2 yl2 ll2 fl2 = false) := by simp [alB, Hid, e6]
                clear e0 e1 e2 e3 e4 e5 e6
                go_enter Try.func48, Try.ntmps48
                go_wp2
                go_ret
                exact ⟨by rw [HV.out]; rfl, ((Below.refl _ _).alloc (Nat.le_refl _) _).alloc (by simp) _⟩
            · have b5 : ((ll : Int) == (ll2 : Int)) = false := beq_eq_false_iff_ne.2 (by omega)
              have HV : Hid (alB k bo n t yl ll fl k2 bo2 n2 t2 yl2 ll2 fl2 = false) := by simp [alB, Hid, e5]
              clear e0 e1 e2 e3 e4 e5
              go_enter Try.func48, Try.ntmps48
              go_wp2
              go_ret
              exact ⟨by rw [HV.out]; rfl, ((Below.refl _ _).alloc (Nat.le_refl _) _).alloc (by simp) _⟩
          · have b4 : ((yl : Int) == (yl2 : Int)) = false := beq_eq_false_iff_ne.2 (by omega)
            have HV : Hid (alB k bo n t yl ll fl k2 bo2 n2 t2 yl2 ll2 fl2 = false) := by simp [alB, Hid, e4]
            clear e0 e1 e2 e3 e4
            go_enter Try.func48, Try.ntmps48
            go_wp2
            go_ret
            exact ⟨by rw [HV.out]; rfl, ((Below.refl _ _).alloc (Nat.le_refl _) _).alloc (by simp) _⟩
        · have b3 : (t.toList == t2.toList) = false := ba_lne t t2 e3
          have HV : Hid (alB k bo n t yl ll fl k2 bo2 n2 t2 yl2 ll2 fl2 = false) := by simp [alB, Hid, e3]
          clear e0 e1 e2 e3
          go_enter Try.func48, Try.ntmps48
          go_wp2
          go_ret
          exact ⟨by rw [HV.out]; rfl, ((Below.refl _ _).alloc (Nat.le_refl _) _).alloc (by simp) _⟩
      · have b2 : (n == n2) = false := beq_eq_false_iff_ne.2 e2
        have HV : Hid (alB k bo n t yl ll fl k2 bo2 n2 t2 yl2 ll2 fl2 = false) := by simp [alB, Hid, e2]
        clear e0 e1 e2
        go_enter Try.func48, Try.ntmps48
        go_wp2
        go_ret
        exact ⟨by rw [HV.out]; rfl, ((Below.refl _ _).alloc (Nat.le_refl _) _).alloc (by simp) _⟩
    · have b1 : (bo == bo2) = false := beq_eq_false_iff_ne.2 e1
      have HV : Hid (alB k bo n t yl ll fl k2 bo2 n2 t2 yl2 ll2 fl2 = false) := by simp [alB, Hid, e1]
      clear e0 e1
      go_enter Try.func48, Try.ntmps48
      go_wp2
      go_ret
      exact ⟨by rw [HV.out]; rfl, ((Below.refl _ _).alloc (Nat.le_refl _) _).alloc (by simp) _⟩
  · have b0 : (k == k2) = false := beq_eq_false_iff_ne.2 e0
    have HV : Hid (alB k bo n t yl ll fl k2 bo2 n2 t2 yl2 ll2 fl2 = false) := by simp [alB, Hid, e0]
    clear e0
    go_enter Try.func48, Try.ntmps48
    go_wp2
    go_ret
    exact ⟨by rw [HV.out]; rfl, ((Below.refl _ _).alloc (Nat.le_refl _) _).alloc (by simp) _⟩
end Go.Proofs.Ytegoeaofjnpehab
/- Contracts of runes and names. -/
namespace Go.Proofs.Ytegoeaofjnpehab
open Go.RowKit
set_option linter.unusedVariables false

/-- does a text begin with the rune that stands for what is none? -/
def hpB (s : ByteArray) : Bool := decide (3 ≤ s.size) && ((s.extract 0 3).toList == [239, 191, 189])
set_option maxHeartbeats 800000 in
theorem hasp_any (s : ByteArray) (w : World) : Calls Try.prog 64 #[.string s, .string ⟨#[239, 191, 189]⟩] w fun e w' => e = .returned (.bool (hpB s)) ∧ w' = w := by
  by_cases h : 3 ≤ s.size
  · have HV : Hid (hpB s = ((s.extract 0 3).toList == [239, 191, 189])) := by simp [hpB, Hid, h]
    have hd : decide ((3 : Int) ≤ (s.size : Int)) = true := by simp; omega
    go_enter Try.func64, Try.ntmps64
    go_wp2
    go_ret
    exact ⟨by rw [HV.out]; rfl, rfl⟩
  · have HV : Hid (hpB s = false) := by simp [hpB, Hid, h]
    have hd : decide ((3 : Int) ≤ (s.size : Int)) = false := by simp; omega
    go_enter Try.func64, Try.ntmps64
    go_wp2
    go_ret
    exact ⟨by rw [HV.out]; rfl, rfl⟩
set_option maxHeartbeats 800000 in
theorem hasp2_any (s : ByteArray) (w : World) : Calls Try.prog 60 #[.string s, .string ⟨#[239, 191, 189]⟩] w fun e w' => e = .returned (.bool (hpB s)) ∧ w' = w := by
  go_enter Try.func60, Try.ntmps60
  go_wp2_with fail
  refine (hasp_any s w).mono ?_
  rintro e w1 ⟨rfl, rfl⟩
  go_wp2
  go_ret
  exact ⟨rfl, rfl⟩
/-- begins a text that is told to begin with r with a byte that is part of no rune? -/
def tornB (s : ByteArray) (r : Int) : Bool := decide (r = 65533) && !hpB s
set_option maxHeartbeats 800000 in
theorem torn_any (s : ByteArray) (r : Int) (w : World) : Calls Try.prog 56 #[.string s, .int .i32 r] w fun e w' => e = .returned (.bool (tornB s r)) ∧ w' = w := by
  by_cases h : r = 65533
  · have HV : Hid (tornB s r = !hpB s) := by simp [tornB, Hid, h]
    subst h
    go_enter Try.func56, Try.ntmps56
    go_wp2_with fail
    refine (hasp2_any s w).mono ?_
    rintro e w1 ⟨rfl, rfl⟩
    go_wp2
    go_ret
    exact ⟨by rw [HV.out]; rfl, rfl⟩
  · have HV : Hid (tornB s r = false) := by simp [tornB, Hid, h]
    have hb : (r == 65533) = false := by simp [h]
    clear h
    go_enter Try.func56, Try.ntmps56
    go_wp2
    go_ret
    exact ⟨by rw [HV.out]; rfl, rfl⟩
def dgB (r : Int) : Bool := decide (48 ≤ r) && decide (r ≤ 57)
set_option maxHeartbeats 800000 in
theorem digit_any (r : Int) (w : World) : Calls Try.prog 62 #[.int .i32 r] w fun e w' => e = .returned (.bool (dgB r)) ∧ w' = w := by
  by_cases h : 48 ≤ r
  · have HV : Hid (dgB r = decide (r ≤ 57)) := by simp [dgB, Hid, h]
    go_enter Try.func62, Try.ntmps62
    go_wp2
    go_ret
    exact ⟨by rw [HV.out]; rfl, rfl⟩
  · have HV : Hid (dgB r = false) := by simp [dgB, Hid]; omega
    have h' : r < 48 := by omega
    clear h
    go_enter Try.func62, Try.ntmps62
    go_wp2
    go_ret
    exact ⟨by rw [HV.out]; rfl, rfl⟩
theorem ret_bool {a b : Bool} (h : a = b) : Ending.returned (.bool a) = .returned (.bool b) := by rw [h]
/-- may a rune be in a name? -/
def inB (r : Int) : Bool := decide (97 ≤ r ∧ r ≤ 122 ∨ 65 ≤ r ∧ r ≤ 90 ∨ (48 ≤ r ∧ r ≤ 57) ∨ r = 95 ∨ 128 ≤ r)
set_option maxHeartbeats 1600000 in
set_option maxRecDepth 1000000 in
theorem inname_any (r : Int) (w : World) : Calls Try.prog 61 #[.int .i32 r] w fun e w' => e = .returned (.bool (inB r)) ∧ w' = w := by
  by_cases h1 : 97 ≤ r ∧ r ≤ 122
  · have HV : Hid (inB r = true) := by simp [inB, Hid, h1]
    obtain ⟨h1, h2⟩ := h1
    go_enter Try.func61, Try.ntmps61
    go_wp2
    go_ret
    exact ⟨by rw [HV.out]; rfl, rfl⟩
  · by_cases h2 : 65 ≤ r ∧ r ≤ 90
    · have HV : Hid (inB r = true) := by simp [inB, Hid, h2]
      obtain ⟨h3, h4⟩ := h2
      have h5 : r < 97 := by omega
      clear h1
      go_enter Try.func61, Try.ntmps61
      go_wp2
      go_ret
      exact ⟨by rw [HV.out]; rfl, rfl⟩
    · have HD : Hid (dgB r = decide (48 ≤ r ∧ r ≤ 57)) := by simp [dgB, Hid]
      have b1 : (decide (97 ≤ r) && decide (r ≤ 122)) = false := by simpa using h1
      by_cases h3 : 48 ≤ r ∧ r ≤ 57
      · have HV : Hid (inB r = true) := by simp [inB, Hid, h3]
        have hD : dgB r = true := by rw [HD.out]; simp [h3]
        obtain ⟨h4, h5⟩ := h3
        have h6 : r < 97 := by omega
        have h7 : r < 65 := by omega
        clear h1 h2 b1
        go_enter Try.func61, Try.ntmps61
        go_wp2_with fail
        refine (digit_any r w).mono ?_
        rintro e w1 ⟨rfl, rfl⟩
        rw [hD]
        go_wp2
        go_ret
        exact ⟨by rw [HV.out]; rfl, rfl⟩
      · have hD : dgB r = false := by rw [HD.out]; simp [h3]
        by_cases h4 : r = 95
        · have HV : Hid (inB r = true) := by simp [inB, Hid, h4]
          subst h4
          clear h1 h2 h3 b1 HD
          go_enter Try.func61, Try.ntmps61
          go_wp2_with fail
          refine (digit_any 95 w).mono ?_
          rintro e w1 ⟨rfl, rfl⟩
          rw [hD]
          go_wp2
          go_ret
          exact ⟨by rw [HV.out]; rfl, rfl⟩
        · have hb : (r == 95) = false := by simp [h4]
          by_cases h5 : 128 ≤ r
          · have HV : Hid (inB r = true) := by simp [inB, Hid, h5]
            have h6 : 122 < r := by omega
            have h7 : 90 < r := by omega
            have h8 : 97 ≤ r := by omega
            have h9 : 65 ≤ r := by omega
            clear h1 h2 h3 h4 b1 HD
            go_enter Try.func61, Try.ntmps61
            go_wp2_with fail
            refine (digit_any r w).mono ?_
            rintro e w1 ⟨rfl, rfl⟩
            rw [hD]
            go_wp2
            go_ret
            exact ⟨by rw [HV.out]; rfl, rfl⟩
          · have HV : Hid (inB r = false) := by
              rw [Hid, inB, decide_eq_false]
              omega
            have h6 : r < 128 := by omega
            have hcs : (r < 97 ∨ 122 < r) ∧ (r < 65 ∨ 90 < r) := by omega
            clear h1 h2 h3 h4 h5 b1 HD
            rcases hcs with ⟨g1 | g1, g2 | g2⟩
            all_goals first
              | (exfalso; omega)
              | (go_enter Try.func61, Try.ntmps61
                 go_wp2_with fail
                 refine (digit_any r w).mono ?_
                 rintro e w1 ⟨rfl, rfl⟩
                 rw [hD]
                 go_wp2
                 go_ret
                 refine ⟨ret_bool ?_, rfl⟩
                 rw [HV.out]
                 simp
                 omega)
theorem width_pos (s : ByteArray) (pos : Nat) (h : pos < s.size) : 1 ≤ (Utf8.decode s pos).2 := by
  by_cases ha : (s[pos]'h).toNat < 128
  · rw [decode_ascii s pos h ha]
    exact Nat.le_refl _
  · exact (decode_high s pos h (by omega)).2
/-- a text's runes counted; false: some byte is part of none. -/
def rnF (s : ByteArray) : Nat → Nat → Nat → Nat × Bool
  | 0, _, n => (n, true)
  | f + 1, pos, n => if pos < s.size then if tornB (s.extract pos s.size) (Utf8.decode s pos).1 then (0, false) else rnF s f (pos + (Utf8.decode s pos).2) (n + 1) else (n, true)
def rn (s : ByteArray) : Nat × Bool := rnF s s.size 0 0
theorem rnF_end (s : ByteArray) (f pos n : Nat) (h : ¬ pos < s.size) : rnF s f pos n = (n, true) := by
  cases f with
  | zero => rfl
  | succ f => simp [rnF, h]
set_option maxHeartbeats 1600000 in
set_option maxRecDepth 1000000 in
theorem runes_any (s : ByteArray) (w : World) (hs : s.size ≤ 1000000000) : Calls Try.prog 50 #[.string s] w fun e w' => e = .returned (.tuple #[.int .i64 ((rn s).1 : Int), .bool (rn s).2]) ∧ Below w.heap.size w w' := by
  go_enter Try.func50, Try.ntmps50
  go_wp2
  go_loopw [4] (fun n w' => ∃ (pos f c : Nat), w' = w.iter s pos ∧ n = .int .i64 (c : Int) ∧ rnF s f pos c = rn s ∧ s.size ≤ pos + f ∧ c ≤ pos) (fun _ w' => s.size - w'.iterPos w.heap.size)
  case atStart => exact ⟨0, s.size, 0, rfl, rfl, rfl, by omega, by omega⟩
  case round =>
    obtain ⟨pos, f, c, rfl, rfl, hc, hf, hcp⟩ := hrel
    have HC := hide hc
    clear hc
    by_cases hp : pos < s.size
    · have hnx : ∀ ty, (Instr.next (.pointer (some ⟨w.heap.size, 0, none⟩)) true ty).run Try.prog (w.iter s pos) = _ := fun ty => run_next_any w s pos ty hp
      have hwd := width_pos s pos hp
      obtain ⟨g, rfl⟩ : ∃ g, f = g + 1 := ⟨f - 1, by omega⟩
      have HS : Hid (rnF s (g + 1) pos c = if tornB (s.extract pos s.size) (Utf8.decode s pos).1 then (0, false) else rnF s g (pos + (Utf8.decode s pos).2) (c + 1)) := by simp [rnF, Hid, hp]
      have hp2 : (pos : Int) ≤ (s.size : Int) := by omega
      go_wp2_with fail
      refine (torn_any _ _ _).mono ?_
      rintro e w1 ⟨rfl, rfl⟩
      generalize tornB (s.extract pos s.size) (Utf8.decode s pos).1 = b at *
      cases b
      · have HS' : Hid (rnF s (g + 1) pos c = rnF s g (pos + (Utf8.decode s pos).2) (c + 1)) := HS.out
        go_wp2
        go_roundw
        case rel => exact ⟨pos + (Utf8.decode s pos).2, g, c + 1, rfl, by go_num, HS'.out.symm.trans HC.out, by omega, by omega⟩
        case measure => simp; omega
      · have HS' : Hid ((0, false) = rn s) := HS.out.symm.trans HC.out
        go_wp2
        go_ret2
        exact ⟨by rw [← HS'.out]; rfl, below_iter _ _ _⟩
    · have hnx : ∀ ty, (Instr.next (.pointer (some ⟨w.heap.size, 0, none⟩)) true ty).run Try.prog (w.iter s pos) = _ := fun ty => run_next_end w s pos ty hp
      have HE := hide ((rnF_end s f pos c hp).symm.trans HC.out)
      go_wp2
      go_ret2
      exact ⟨by rw [← HE.out]; rfl, below_iter _ _ _⟩
/-- may a text be a name? -/
def nmF (s : ByteArray) : Nat → Nat → Nat → Bool
  | 0, _, n => decide (0 < n)
  | f + 1, pos, n => if pos < s.size then if decide (32 < n + 1) || tornB (s.extract pos s.size) (Utf8.decode s pos).1 || !inB (Utf8.decode s pos).1 || (decide (pos = 0) && dgB (Utf8.decode s pos).1) then false else nmF s f (pos + (Utf8.decode s pos).2) (n + 1) else decide (0 < n)
def nmB (s : ByteArray) : Bool := nmF s s.size 0 0
theorem nmF_end (s : ByteArray) (f pos n : Nat) (h : ¬ pos < s.size) : nmF s f pos n = decide (0 < n) := by
  cases f with
  | zero => rfl
  | succ f => simp [nmF, h]
set_option maxHeartbeats 3200000 in
set_option maxRecDepth 1000000 in
theorem name_any (s : ByteArray) (w : World) (hs : s.size ≤ 1000000000) : Calls Try.prog 57 #[.string s] w fun e w' => e = .returned (.bool (nmB s)) ∧ Below w.heap.size w w' := by
  go_enter Try.func57, Try.ntmps57
  go_wp2
  go_loopw [3] (fun n w' => ∃ (pos f c : Nat), w' = w.iter s pos ∧ n = .int .i64 (c : Int) ∧ nmF s f pos c = nmB s ∧ s.size ≤ pos + f ∧ c ≤ pos) (fun _ w' => s.size - w'.iterPos w.heap.size)
  case atStart => exact ⟨0, s.size, 0, rfl, rfl, rfl, by omega, by omega⟩
  case round =>
    obtain ⟨pos, f, c, rfl, rfl, hc, hf, hcp⟩ := hrel
    have HC := hide hc
    clear hc
    by_cases hp : pos < s.size
    · have hnx : ∀ ty, (Instr.next (.pointer (some ⟨w.heap.size, 0, none⟩)) true ty).run Try.prog (w.iter s pos) = _ := fun ty => run_next_any w s pos ty hp
      have hwd := width_pos s pos hp
      obtain ⟨g, rfl⟩ : ∃ g, f = g + 1 := ⟨f - 1, by omega⟩
      have HS : Hid (nmF s (g + 1) pos c = if decide (32 < c + 1) || tornB (s.extract pos s.size) (Utf8.decode s pos).1 || !inB (Utf8.decode s pos).1 || (decide (pos = 0) && dgB (Utf8.decode s pos).1) then false else nmF s g (pos + (Utf8.decode s pos).2) (c + 1)) := by simp [nmF, Hid, hp]
      have hp2 : (pos : Int) ≤ (s.size : Int) := by omega
      by_cases h32 : 32 < c + 1
      · have HR : Hid (nmB s = false) := by rw [Hid, ← HC.out, HS.out]; simp [h32]
        have hd : decide ((32 : Int) < (c : Int) + 1) = true := by simp; omega
        go_wp2
        go_ret
        exact ⟨by rw [HR.out]; rfl, below_iter _ _ _⟩
      · have hd : decide ((32 : Int) < (c : Int) + 1) = false := by simp; omega
        have hcs : decide (32 < c + 1) = false := by simp; omega
        rw [hcs, Bool.false_or] at HS
        clear hcs
        go_wp2_with fail
        refine (torn_any _ _ _).mono ?_
        rintro e w1 ⟨rfl, rfl⟩
        generalize tornB (s.extract pos s.size) (Utf8.decode s pos).1 = b at *
        cases b
        · go_wp2_with fail
          refine (inname_any _ _).mono ?_
          rintro e w1 ⟨rfl, rfl⟩
          generalize inB ((Utf8.decode s pos).1 : Int) = b2 at *
          cases b2
          · have HR : Hid (nmB s = false) := by rw [Hid, ← HC.out, HS.out]; rfl
            go_wp2
            go_ret
            exact ⟨by rw [HR.out]; rfl, below_iter _ _ _⟩
          · by_cases h0 : pos = 0
            · subst h0
              go_wp2_with fail
              refine (digit_any _ _).mono ?_
              rintro e w1 ⟨rfl, rfl⟩
              generalize dgB ((Utf8.decode s 0).1 : Int) = b3 at *
              cases b3
              · have HS' : Hid (nmF s (g + 1) 0 c = nmF s g (0 + (Utf8.decode s 0).2) (c + 1)) := HS.out
                go_wp2
                go_roundw
                case rel => exact ⟨0 + (Utf8.decode s 0).2, g, c + 1, by simp, by go_num, HS'.out.symm.trans HC.out, by omega, by omega⟩
                case measure => simp; omega
              · have HR : Hid (nmB s = false) := by rw [Hid, ← HC.out, HS.out]; rfl
                go_wp2
                go_ret
                exact ⟨by rw [HR.out]; rfl, below_iter _ _ _⟩
            · have hb0 : ((pos : Int) == 0) = false := by simp [h0]
              have HS' : Hid (nmF s (g + 1) pos c = nmF s g (pos + (Utf8.decode s pos).2) (c + 1)) := by
                rw [Hid, HS.out]
                simp [h0]
              clear h0
              go_wp2
              go_roundw
              case rel => exact ⟨pos + (Utf8.decode s pos).2, g, c + 1, rfl, by go_num, HS'.out.symm.trans HC.out, by omega, by omega⟩
              case measure => simp; omega
        · have HR : Hid (nmB s = false) := by rw [Hid, ← HC.out, HS.out]; rfl
          go_wp2
          go_ret
          exact ⟨by rw [HR.out]; rfl, below_iter _ _ _⟩
    · have hnx : ∀ ty, (Instr.next (.pointer (some ⟨w.heap.size, 0, none⟩)) true ty).run Try.prog (w.iter s pos) = _ := fun ty => run_next_end w s pos ty hp
      have HE := hide ((nmF_end s f pos c hp).symm.trans HC.out)
      go_wp2
      go_ret
      refine ⟨ret_bool ?_, below_iter _ _ _⟩
      rw [← HE.out]
end Go.Proofs.Ytegoeaofjnpehab
/- Contract of rising names. -/
namespace Go.Proofs.Ytegoeaofjnpehab
open Go.RowKit
set_option linter.unusedVariables false

/-- are the first k names ones, each above the one ahead? -/
def risK (ns : List ByteArray) (k : Nat) : Bool := (List.range k).all fun j => nmB (ns.getD j ⟨#[]⟩) && (decide (j = 0) || Op.bytesLess (ns.getD (j - 1) ⟨#[]⟩).toList (ns.getD j ⟨#[]⟩).toList)
theorem risK_succ (ns : List ByteArray) (k : Nat) : risK ns (k + 1) = (risK ns k && (nmB (ns.getD k ⟨#[]⟩) && (decide (k = 0) || Op.bytesLess (ns.getD (k - 1) ⟨#[]⟩).toList (ns.getD k ⟨#[]⟩).toList))) := by simp [risK, List.range_succ]
theorem risK_no (ns : List ByteArray) (k m : Nat) (h : risK ns (k + 1) = false) (hm : k + 1 ≤ m) : risK ns m = false := by
  rw [Bool.eq_false_iff] at h ⊢
  intro hf
  apply h
  simp only [risK, List.all_eq_true, List.mem_range] at hf ⊢
  exact fun j hj => hf j (by omega)
def ris (ns : List ByteArray) : Bool := risK ns ns.length
/-- a document's fields: names, and values of seven cells. -/
structure Flds (W : World) (a : Option Addr) (n₀ : Nat) (f : FL) : Prop where
  mem : f.Mem n₀ W a 0
  big : f.list.length ≤ 1000000
  txt : ∀ x ∈ f.list, x.1.size ≤ 1000000000
def FL.names (f : FL) : List ByteArray := f.list.map (·.1)
theorem FL.name_at (f : FL) (j : Nat) (x : ByteArray × T) (h : f.list[j]? = some x) : f.names.getD j ⟨#[]⟩ = x.1 := by
  simp [FL.names, List.getD_eq_getElem?_getD, h]

set_option maxHeartbeats 3200000 in
set_option maxRecDepth 1000000 in
theorem rising_any (a : Option Addr) (n₀ fc : Nat) (f : FL) (w : World) (hf : Flds w a n₀ f) (hn : n₀ ≤ w.heap.size) :
    Calls Try.prog 51 #[.slice a f.list.length fc] w fun e w' => e = .returned (.bool (ris f.names)) ∧ Below w.heap.size w w' := by
  have hbig := hf.big
  have HF := hide hf
  have HLn : Hid (f.names.length = f.list.length) := by simp [FL.names, Hid]
  clear hf
  go_enter Try.func51, Try.ntmps51
  go_wp2
  go_loopw [7] (fun i wr => ∃ k : Nat, k ≤ f.list.length ∧ i = .int .i64 (k : Int) ∧ risK f.names k = true ∧ Fr w.heap.size w wr) (fun i _ => f.list.length - (intOf i).toNat)
  case atStart => exact ⟨0, by omega, rfl, rfl, Fr.refl w⟩
  case round =>
    obtain ⟨k, hk, rfl, hr, hfr⟩ := hrel
    by_cases hlt : k < f.list.length
    · obtain ⟨⟨s, c⟩, hc⟩ : ∃ x, f.list[k]? = some x := ⟨_, List.getElem?_eq_getElem hlt⟩
      have hmem := HF.out.mem.on (hfr.below.mono hn)
      have hss := HF.out.txt (s, c) (List.mem_of_getElem? hc)
      have HNm := hide (f.name_at k (s, c) hc)
      have HSu := hide (risK_succ f.names k)
      have HNo := hide (risK_no f.names k f.names.length)
      rw [HNm.out] at HSu
      have HFr := hide hfr
      have HRk := hide hr
      cases c with
      | mk ck cbo cn ct cya cyc cy cla clc cl cfa cfc cf =>
      obtain ⟨b, o, rfl, hb, c8, c0, c1, c2, c3, c4, c5, c6⟩ := hmem.cells hc
      have HX := hide (hfr.alloc (.cells #[.string s, .int .u8 ck, .bool cbo, .int .i64 cn, .string ct, .slice cya cy.length cyc, .slice cla cl.list.length clc, .slice cfa cf.list.length cfc] 69))
      have hN := hide (fun W => name_any s W hss)
      clear hc hfr hr
      rcases Bool.eq_false_or_eq_true (nmB s) with hnm | hnm
      · by_cases hk0 : k = 0
        · subst hk0
          have HR : Hid (risK f.names (0 + 1) = true) := by rw [Hid, HSu.out, hnm]; simp [HRk.out]
          simp only [Nat.zero_mul, Nat.add_zero] at c8 c0 c1 c2 c3 c4 c5 c6
          clear HSu HNo
          go_wp2
          refine wp_region_any (by kernel_rfl) ?_
          change wpAny _ _ _ _ _ _ _ (World.drew _)
          refine wpAny_take (i := 0) (oi := { dst := some 12, op := Op.fieldAddr 69 (Operand.tmp 4) 0, type := 0, pos := "value.go:65", after := #[], guard := none }) (v := ?v0) rfl (by kernel_rfl) (by kernel_rfl) (by kernel_rfl) (fun _ _ _ h => h) (Or.inl ⟨by rfl, ?hy0⟩) ?rest0
          case hy0 => (intro w; (first | (go_simp; with_reducible rfl) | go_simp))
          try simp only [Act.put, List.setIfInBounds_toArray, List.set_cons_zero, List.set_cons_succ]
          refine wpAny_ready (rs := [1]) (by kernel_rfl) (by simp) ?_
          refine AllReady.cons (o := { dst := some 13, op := Op.load 9 (Operand.tmp 12), type := 9, pos := "value.go:65", after := #[{ on := 0, ground := Ground.data }], guard := none }) rfl (fun K hK => ?_) AllReady.nil
          go_simp
          refine hK _ _ ?_
          clear hK K
          try simp only [Act.put, List.setIfInBounds_toArray, List.set_cons_zero, List.set_cons_succ]
          refine wpAny_ready (rs := [2]) (by kernel_rfl) (by simp) ?_
          refine AllReady.cons (o := { dst := some 14, op := Op.call { callee := Callee.value (Operand.func 57), args := #[Operand.tmp 13], argTypes := #[9] }, type := 4, pos := "value.go:65", after := #[{ on := 1, ground := Ground.data }], guard := none }) rfl (fun K hK => ?_) AllReady.nil
          go_simp
          refine (hN.out _).mono ?_
          rintro e' W1 ⟨rfl, hb1⟩
          have HX1 := hide (HX.out.drew.on hb1)
          clear hb1
          rw [hnm]
          go_simp
          refine hK _ _ ?_
          clear hK K
          try simp only [Act.put, List.setIfInBounds_toArray, List.set_cons_zero, List.set_cons_succ]
          refine wpAny_take (i := 3) (oi := { dst := some 15, op := Op.unOp UnOp.not 4 (Operand.tmp 14), type := 4, pos := "value.go:65", after := #[{ on := 2, ground := Ground.data }], guard := none }) (v := ?v3) rfl (by kernel_rfl) (by kernel_rfl) (by kernel_rfl) (fun _ _ _ h => h) (Or.inl ⟨by rfl, ?hy3⟩) ?rest3
          case hy3 => (intro w; (first | (go_simp; with_reducible rfl) | go_simp))
          try simp only [Act.put, List.setIfInBounds_toArray, List.set_cons_zero, List.set_cons_succ]
          refine wpAny_take (i := 4) (oi := { dst := some 16, op := Op.move (Operand.tmp 15), type := 4, pos := "value.go:65", after := #[{ on := 3, ground := Ground.data }, { on := 2, ground := Ground.chain }], guard := none }) (v := ?v4) rfl (by kernel_rfl) (by kernel_rfl) (by kernel_rfl) (fun _ _ _ h => h) (Or.inl ⟨by rfl, ?hy4⟩) ?rest4
          case hy4 => (intro w; (first | (go_simp; with_reducible rfl) | go_simp))
          try simp only [Act.put, List.setIfInBounds_toArray, List.set_cons_zero, List.set_cons_succ]
          refine wpAny_take (i := 5) (oi := { dst := some 17, op := Op.move (Operand.tmp 3), type := 3, pos := "value.go:65", after := #[{ on := 4, ground := Ground.guard }], guard := some (4, false) }) (v := ?v5) rfl (by kernel_rfl) (by kernel_rfl) (by kernel_rfl) (fun _ _ _ h => h) (Or.inl ⟨by rfl, ?hy5⟩) ?rest5
          case hy5 => (intro w; (first | (go_simp; with_reducible rfl) | go_simp))
          try simp only [Act.put, List.setIfInBounds_toArray, List.set_cons_zero, List.set_cons_succ]
          refine wpAny_take (i := 6) (oi := { dst := some 18, op := Op.binOp BinOp.gtr 3 (Operand.tmp 17) (Operand.const (Value.int IntKind.i64 0)) 3, type := 4, pos := "value.go:65", after := #[{ on := 5, ground := Ground.data }, { on := 4, ground := Ground.guard }], guard := some (4, false) }) (v := ?v6) rfl (by kernel_rfl) (by kernel_rfl) (by kernel_rfl) (fun _ _ _ h => h) (Or.inl ⟨by rfl, ?hy6⟩) ?rest6
          case hy6 => (intro w; (first | (go_simp; with_reducible rfl) | go_simp))
          try simp only [Act.put, List.setIfInBounds_toArray, List.set_cons_zero, List.set_cons_succ]
          refine wpAny_take (i := 7) (oi := { dst := some 19, op := Op.move (Operand.tmp 18), type := 4, pos := "value.go:65", after := #[{ on := 6, ground := Ground.data }, { on := 4, ground := Ground.chain }, { on := 4, ground := Ground.guard }], guard := some (4, false) }) (v := ?v7) rfl (by kernel_rfl) (by kernel_rfl) (by kernel_rfl) (fun _ _ _ h => h) (Or.inl ⟨by rfl, ?hy7⟩) ?rest7
          case hy7 => (intro w; (first | (go_simp; with_reducible rfl) | go_simp))
          try simp only [Act.put, List.setIfInBounds_toArray, List.set_cons_zero, List.set_cons_succ]
          refine wpAny_take (i := 8) (oi := { dst := some 20, op := Op.move (Operand.tmp 0), type := 94, pos := "value.go:65", after := #[{ on := 7, ground := Ground.guard }], guard := some (7, true) }) (v := undef) rfl (by kernel_rfl) (by kernel_rfl) (by kernel_rfl) (fun _ _ _ h => h) (Or.inr ⟨by rfl, rfl⟩) ?_
          try simp only [Act.put, List.setIfInBounds_toArray, List.set_cons_zero, List.set_cons_succ]
          refine wpAny_take (i := 9) (oi := { dst := some 21, op := Op.move (Operand.tmp 3), type := 3, pos := "value.go:65", after := #[{ on := 7, ground := Ground.guard }], guard := some (7, true) }) (v := undef) rfl (by kernel_rfl) (by kernel_rfl) (by kernel_rfl) (fun _ _ _ h => h) (Or.inr ⟨by rfl, rfl⟩) ?_
          try simp only [Act.put, List.setIfInBounds_toArray, List.set_cons_zero, List.set_cons_succ]
          refine wpAny_take (i := 10) (oi := { dst := some 22, op := Op.binOp BinOp.sub 3 (Operand.tmp 21) (Operand.const (Value.int IntKind.i64 1)) 3, type := 3, pos := "value.go:65", after := #[{ on := 9, ground := Ground.data }, { on := 7, ground := Ground.guard }], guard := some (7, true) }) (v := undef) rfl (by kernel_rfl) (by kernel_rfl) (by kernel_rfl) (fun _ _ _ h => h) (Or.inr ⟨by rfl, rfl⟩) ?_
          try simp only [Act.put, List.setIfInBounds_toArray, List.set_cons_zero, List.set_cons_succ]
          refine wpAny_take (i := 11) (oi := { dst := some 23, op := Op.indexAddr 94 (Operand.tmp 20) (Operand.tmp 22), type := 0, pos := "value.go:65", after := #[{ on := 8, ground := Ground.data }, { on := 10, ground := Ground.data }, { on := 7, ground := Ground.guard }], guard := some (7, true) }) (v := undef) rfl (by kernel_rfl) (by kernel_rfl) (by kernel_rfl) (fun _ _ _ h => h) (Or.inr ⟨by rfl, rfl⟩) ?_
          try simp only [Act.put, List.setIfInBounds_toArray, List.set_cons_zero, List.set_cons_succ]
          refine wpAny_take (i := 12) (oi := { dst := some 24, op := Op.fieldAddr 69 (Operand.tmp 23) 0, type := 0, pos := "value.go:65", after := #[{ on := 11, ground := Ground.data }, { on := 7, ground := Ground.guard }], guard := some (7, true) }) (v := undef) rfl (by kernel_rfl) (by kernel_rfl) (by kernel_rfl) (fun _ _ _ h => h) (Or.inr ⟨by rfl, rfl⟩) ?_
          try simp only [Act.put, List.setIfInBounds_toArray, List.set_cons_zero, List.set_cons_succ]
          refine wpAny_take (i := 13) (oi := { dst := some 25, op := Op.load 9 (Operand.tmp 24), type := 9, pos := "value.go:65", after := #[{ on := 12, ground := Ground.data }, { on := 7, ground := Ground.guard }], guard := some (7, true) }) (v := undef) rfl (by kernel_rfl) (by kernel_rfl) (by kernel_rfl) (fun _ _ _ h => h) (Or.inr ⟨by rfl, rfl⟩) ?_
          try simp only [Act.put, List.setIfInBounds_toArray, List.set_cons_zero, List.set_cons_succ]
          refine wpAny_take (i := 14) (oi := { dst := some 26, op := Op.fieldAddr 69 (Operand.tmp 4) 0, type := 0, pos := "value.go:65", after := #[{ on := 7, ground := Ground.guard }], guard := some (7, true) }) (v := undef) rfl (by kernel_rfl) (by kernel_rfl) (by kernel_rfl) (fun _ _ _ h => h) (Or.inr ⟨by rfl, rfl⟩) ?_
          try simp only [Act.put, List.setIfInBounds_toArray, List.set_cons_zero, List.set_cons_succ]
          refine wpAny_take (i := 15) (oi := { dst := some 27, op := Op.load 9 (Operand.tmp 26), type := 9, pos := "value.go:65", after := #[{ on := 14, ground := Ground.data }, { on := 7, ground := Ground.guard }], guard := some (7, true) }) (v := undef) rfl (by kernel_rfl) (by kernel_rfl) (by kernel_rfl) (fun _ _ _ h => h) (Or.inr ⟨by rfl, rfl⟩) ?_
          try simp only [Act.put, List.setIfInBounds_toArray, List.set_cons_zero, List.set_cons_succ]
          refine wpAny_take (i := 16) (oi := { dst := some 28, op := Op.binOp BinOp.geq 9 (Operand.tmp 25) (Operand.tmp 27) 9, type := 4, pos := "value.go:65", after := #[{ on := 13, ground := Ground.data }, { on := 15, ground := Ground.data }, { on := 7, ground := Ground.guard }], guard := some (7, true) }) (v := undef) rfl (by kernel_rfl) (by kernel_rfl) (by kernel_rfl) (fun _ _ _ h => h) (Or.inr ⟨by rfl, rfl⟩) ?_
          try simp only [Act.put, List.setIfInBounds_toArray, List.set_cons_zero, List.set_cons_succ]
          refine wpAny_take (i := 17) (oi := { dst := some 29, op := Op.pick (Operand.tmp 19) (Operand.tmp 28) (Operand.const (Value.bool false)), type := 4, pos := "value.go:65", after := #[{ on := 7, ground := Ground.data }, { on := 16, ground := Ground.data }, { on := 4, ground := Ground.guard }], guard := some (4, false) }) (v := ?v17) rfl (by kernel_rfl) (by kernel_rfl) (by kernel_rfl) (fun _ _ _ h => h) (Or.inl ⟨by rfl, ?hy17⟩) ?rest17
          case hy17 => (intro w; (first | (go_simp; with_reducible rfl) | go_simp))
          try simp only [Act.put, List.setIfInBounds_toArray, List.set_cons_zero, List.set_cons_succ]
          refine wpAny_take (i := 18) (oi := { dst := some 30, op := Op.pick (Operand.tmp 16) (Operand.const (Value.bool true)) (Operand.tmp 29), type := 4, pos := "value.go:65", after := #[{ on := 4, ground := Ground.data }, { on := 17, ground := Ground.data }], guard := none }) (v := ?v18) rfl (by kernel_rfl) (by kernel_rfl) (by kernel_rfl) (fun _ _ _ h => h) (Or.inl ⟨by rfl, ?hy18⟩) ?rest18
          case hy18 => (intro w; (first | (go_simp; with_reducible rfl) | go_simp))
          try simp only [Act.put, List.setIfInBounds_toArray, List.set_cons_zero, List.set_cons_succ]
          refine wpAny_done (by kernel_rfl) ?_ _
          go_wp2
          go_roundw
          case rel => exact ⟨0 + 1, by omega, by go_num, HR.out, HX1.out⟩
          case measure => simp [intOf]; omega
        · obtain ⟨j, rfl⟩ : ∃ j, k = j + 1 := ⟨k - 1, by omega⟩
          obtain ⟨⟨s', c'⟩, hc'⟩ : ∃ x, f.list[j]? = some x := ⟨_, List.getElem?_eq_getElem (by omega)⟩
          have HNm' := hide (f.name_at j (s', c') hc')
          rw [show j + 1 - 1 = j by omega, HNm'.out] at HSu
          obtain ⟨b2, o2, e2, hb2, d8⟩ : ∃ b2 o2, some (⟨b, o, none⟩ : Addr) = some ⟨b2, o2, none⟩ ∧ b2 < n₀ ∧ wr.cell? ⟨b2, o2 + j * 8, none⟩ = some (.string s') := by
            cases c' with
            | mk ck cbo cn ct cya cyc cy cla clc cl cfa cfc cf =>
            obtain ⟨b2, o2, e2, hb2, d8, _⟩ := hmem.cells hc'
            exact ⟨b2, o2, e2, hb2, d8⟩
          cases e2
          have hbw : b < wr.heap.size := by have := HFr.out.size; omega
          have HXb := hide (heap_alloc_new wr (.cells #[.string s, .int .u8 ck, .bool cbo, .int .i64 cn, .string ct, .slice cya cy.length cyc, .slice cla cl.list.length clc, .slice cfa cf.list.length cfc] 69))
          have D8 : Hid ((wr.alloc (.cells #[.string s, .int .u8 ck, .bool cbo, .int .i64 cn, .string ct, .slice cya cy.length cyc, .slice cla cl.list.length clc, .slice cfa cf.list.length cfc] 69)).cell? ⟨b, o + j * 8, none⟩ = some (.string s')) := ((below_alloc wr (.cells #[.string s, .int .u8 ck, .bool cbo, .int .i64 cn, .string ct, .slice cya cy.length cyc, .slice cla cl.list.length clc, .slice cfa cf.list.length cfc] 69)).cell (p := ⟨b, o + j * 8, none⟩) hbw).trans d8
          have hk1 : decide ((0 : Int) < ((j + 1 : Nat) : Int)) = true := by simp
          have hjl : j < f.list.length := by omega
          have hjI : (j : Int) < (f.list.length : Int) := by omega
          have hwr : IntKind.i64.wrap (j : Int) = (j : Int) := by simp [IntKind.wrap, IntKind.bits, IntKind.signed]; omega
          have hsz : wr.heap.size < (wr.alloc (.cells #[.string s, .int .u8 ck, .bool cbo, .int .i64 cn, .string ct, .slice cya cy.length cyc, .slice cla cl.list.length clc, .slice cfa cf.list.length cfc] 69)).heap.size := by simp
          clear hc' d8 hmem hk0
          go_wp2
          generalize wr.alloc (.cells #[.string s, .int .u8 ck, .bool cbo, .int .i64 cn, .string ct, .slice cya cy.length cyc, .slice cla cl.list.length clc, .slice cfa cf.list.length cfc] 69) = X at *
          generalize wr.heap.size = bx at *
          have y1 : X.cell? ⟨bx, 0, none⟩ = some (.string s) := by simp [World.cell?, HXb.out]
          have y2 := D8.out
          have Y1 : Hid (X.drew.cell? ⟨bx, 0, none⟩ = some (.string s)) := y1
          have Y2 : Hid (X.drew.cell? ⟨b, o + j * 8, none⟩ = some (.string s')) := y2
          clear c8 c0 c1 c2 c3 c4 c5 c6
          go_region_held3 (fun W => W.cell? ⟨bx, 0, none⟩ = some (.string s) ∧ W.cell? ⟨b, o + j * 8, none⟩ = some (.string s')) ((refine ⟨?_, ?_⟩ <;> assumption)) ((first | (go_at_call 57; refine (hN.out _).mono ?_; intro r' W1 hh; obtain ⟨rfl, hb1⟩ := hh; have HX1 := hide (HX.out.drew.on hb1); have z1 := (hb1.cell (p := ⟨bx, 0, none⟩) hsz).trans Y1.out; have z2 := (hb1.cell (p := ⟨b, o + j * 8, none⟩) (Nat.lt_trans hbw hsz)).trans Y2.out; clear hb1; rw [hnm])))
          clear y1 y2 z1 z2
          generalize hless : Op.bytesLess s'.toList s.toList = le at *
          have HLe := hide hless
          clear hless
          cases le
          · have HR : Hid (ris f.names = false) := HNo.out (by rw [HSu.out, hnm]; simp) (by have := HLn.out; omega)
            go_wp2
            go_ret
            exact ⟨by rw [HR.out]; rfl, HX1.out.below⟩
          · have HR : Hid (risK f.names (j + 1 + 1) = true) := by rw [Hid, HSu.out, hnm]; simp [HRk.out]
            go_wp2
            go_roundw
            case rel => exact ⟨j + 1 + 1, by omega, by go_num, HR.out, HX1.out⟩
            case measure => simp [intOf]; omega
      · have HR : Hid (ris f.names = false) := HNo.out (by rw [HSu.out, hnm]; simp) (by have := HLn.out; omega)
        clear HSu HNo
        go_wp2
        refine wp_region_any (by kernel_rfl) ?_
        change wpAny _ _ _ _ _ _ _ (World.drew _)
        refine wpAny_take (i := 0) (oi := { dst := some 12, op := Op.fieldAddr 69 (Operand.tmp 4) 0, type := 0, pos := "value.go:65", after := #[], guard := none }) (v := ?va0) rfl (by kernel_rfl) (by kernel_rfl) (by kernel_rfl) (fun _ _ _ h => h) (Or.inl ⟨by rfl, ?hya0⟩) ?resta0
        case hya0 => (intro w; (first | (go_simp; with_reducible rfl) | go_simp))
        try simp only [Act.put, List.setIfInBounds_toArray, List.set_cons_zero, List.set_cons_succ]
        refine wpAny_ready (rs := [1]) (by kernel_rfl) (by simp) ?_
        refine AllReady.cons (o := { dst := some 13, op := Op.load 9 (Operand.tmp 12), type := 9, pos := "value.go:65", after := #[{ on := 0, ground := Ground.data }], guard := none }) rfl (fun K hK => ?_) AllReady.nil
        go_simp
        refine hK _ _ ?_
        clear hK K
        try simp only [Act.put, List.setIfInBounds_toArray, List.set_cons_zero, List.set_cons_succ]
        refine wpAny_ready (rs := [2]) (by kernel_rfl) (by simp) ?_
        refine AllReady.cons (o := { dst := some 14, op := Op.call { callee := Callee.value (Operand.func 57), args := #[Operand.tmp 13], argTypes := #[9] }, type := 4, pos := "value.go:65", after := #[{ on := 1, ground := Ground.data }], guard := none }) rfl (fun K hK => ?_) AllReady.nil
        go_simp
        refine (hN.out _).mono ?_
        rintro e' W1 ⟨rfl, hb1⟩
        have HX1 := hide (HX.out.drew.on hb1)
        clear hb1
        rw [hnm]
        go_simp
        refine hK _ _ ?_
        clear hK K
        try simp only [Act.put, List.setIfInBounds_toArray, List.set_cons_zero, List.set_cons_succ]
        refine wpAny_take (i := 3) (oi := { dst := some 15, op := Op.unOp UnOp.not 4 (Operand.tmp 14), type := 4, pos := "value.go:65", after := #[{ on := 2, ground := Ground.data }], guard := none }) (v := ?va3) rfl (by kernel_rfl) (by kernel_rfl) (by kernel_rfl) (fun _ _ _ h => h) (Or.inl ⟨by rfl, ?hya3⟩) ?resta3
        case hya3 => (intro w; (first | (go_simp; with_reducible rfl) | go_simp))
        try simp only [Act.put, List.setIfInBounds_toArray, List.set_cons_zero, List.set_cons_succ]
        refine wpAny_take (i := 4) (oi := { dst := some 16, op := Op.move (Operand.tmp 15), type := 4, pos := "value.go:65", after := #[{ on := 3, ground := Ground.data }, { on := 2, ground := Ground.chain }], guard := none }) (v := ?va4) rfl (by kernel_rfl) (by kernel_rfl) (by kernel_rfl) (fun _ _ _ h => h) (Or.inl ⟨by rfl, ?hya4⟩) ?resta4
        case hya4 => (intro w; (first | (go_simp; with_reducible rfl) | go_simp))
        try simp only [Act.put, List.setIfInBounds_toArray, List.set_cons_zero, List.set_cons_succ]
        refine wpAny_take (i := 5) (oi := { dst := some 17, op := Op.move (Operand.tmp 3), type := 3, pos := "value.go:65", after := #[{ on := 4, ground := Ground.guard }], guard := some (4, false) }) (v := undef) rfl (by kernel_rfl) (by kernel_rfl) (by kernel_rfl) (fun _ _ _ h => h) (Or.inr ⟨by rfl, rfl⟩) ?_
        try simp only [Act.put, List.setIfInBounds_toArray, List.set_cons_zero, List.set_cons_succ]
        refine wpAny_take (i := 6) (oi := { dst := some 18, op := Op.binOp BinOp.gtr 3 (Operand.tmp 17) (Operand.const (Value.int IntKind.i64 0)) 3, type := 4, pos := "value.go:65", after := #[{ on := 5, ground := Ground.data }, { on := 4, ground := Ground.guard }], guard := some (4, false) }) (v := undef) rfl (by kernel_rfl) (by kernel_rfl) (by kernel_rfl) (fun _ _ _ h => h) (Or.inr ⟨by rfl, rfl⟩) ?_
        try simp only [Act.put, List.setIfInBounds_toArray, List.set_cons_zero, List.set_cons_succ]
        refine wpAny_take (i := 7) (oi := { dst := some 19, op := Op.move (Operand.tmp 18), type := 4, pos := "value.go:65", after := #[{ on := 6, ground := Ground.data }, { on := 4, ground := Ground.chain }, { on := 4, ground := Ground.guard }], guard := some (4, false) }) (v := undef) rfl (by kernel_rfl) (by kernel_rfl) (by kernel_rfl) (fun _ _ _ h => h) (Or.inr ⟨by rfl, rfl⟩) ?_
        try simp only [Act.put, List.setIfInBounds_toArray, List.set_cons_zero, List.set_cons_succ]
        refine wpAny_take (i := 8) (oi := { dst := some 20, op := Op.move (Operand.tmp 0), type := 94, pos := "value.go:65", after := #[{ on := 7, ground := Ground.guard }], guard := some (7, true) }) (v := undef) rfl (by kernel_rfl) (by kernel_rfl) (by kernel_rfl) (fun _ _ _ h => h) (Or.inr ⟨by rfl, rfl⟩) ?_
        try simp only [Act.put, List.setIfInBounds_toArray, List.set_cons_zero, List.set_cons_succ]
        refine wpAny_take (i := 9) (oi := { dst := some 21, op := Op.move (Operand.tmp 3), type := 3, pos := "value.go:65", after := #[{ on := 7, ground := Ground.guard }], guard := some (7, true) }) (v := undef) rfl (by kernel_rfl) (by kernel_rfl) (by kernel_rfl) (fun _ _ _ h => h) (Or.inr ⟨by rfl, rfl⟩) ?_
        try simp only [Act.put, List.setIfInBounds_toArray, List.set_cons_zero, List.set_cons_succ]
        refine wpAny_take (i := 10) (oi := { dst := some 22, op := Op.binOp BinOp.sub 3 (Operand.tmp 21) (Operand.const (Value.int IntKind.i64 1)) 3, type := 3, pos := "value.go:65", after := #[{ on := 9, ground := Ground.data }, { on := 7, ground := Ground.guard }], guard := some (7, true) }) (v := undef) rfl (by kernel_rfl) (by kernel_rfl) (by kernel_rfl) (fun _ _ _ h => h) (Or.inr ⟨by rfl, rfl⟩) ?_
        try simp only [Act.put, List.setIfInBounds_toArray, List.set_cons_zero, List.set_cons_succ]
        refine wpAny_take (i := 11) (oi := { dst := some 23, op := Op.indexAddr 94 (Operand.tmp 20) (Operand.tmp 22), type := 0, pos := "value.go:65", after := #[{ on := 8, ground := Ground.data }, { on := 10, ground := Ground.data }, { on := 7, ground := Ground.guard }], guard := some (7, true) }) (v := undef) rfl (by kernel_rfl) (by kernel_rfl) (by kernel_rfl) (fun _ _ _ h => h) (Or.inr ⟨by rfl, rfl⟩) ?_
        try simp only [Act.put, List.setIfInBounds_toArray, List.set_cons_zero, List.set_cons_succ]
        refine wpAny_take (i := 12) (oi := { dst := some 24, op := Op.fieldAddr 69 (Operand.tmp 23) 0, type := 0, pos := "value.go:65", after := #[{ on := 11, ground := Ground.data }, { on := 7, ground := Ground.guard }], guard := some (7, true) }) (v := undef) rfl (by kernel_rfl) (by kernel_rfl) (by kernel_rfl) (fun _ _ _ h => h) (Or.inr ⟨by rfl, rfl⟩) ?_
        try simp only [Act.put, List.setIfInBounds_toArray, List.set_cons_zero, List.set_cons_succ]
        refine wpAny_take (i := 13) (oi := { dst := some 25, op := Op.load 9 (Operand.tmp 24), type := 9, pos := "value.go:65", after := #[{ on := 12, ground := Ground.data }, { on := 7, ground := Ground.guard }], guard := some (7, true) }) (v := undef) rfl (by kernel_rfl) (by kernel_rfl) (by kernel_rfl) (fun _ _ _ h => h) (Or.inr ⟨by rfl, rfl⟩) ?_
        try simp only [Act.put, List.setIfInBounds_toArray, List.set_cons_zero, List.set_cons_succ]
        refine wpAny_take (i := 14) (oi := { dst := some 26, op := Op.fieldAddr 69 (Operand.tmp 4) 0, type := 0, pos := "value.go:65", after := #[{ on := 7, ground := Ground.guard }], guard := some (7, true) }) (v := undef) rfl (by kernel_rfl) (by kernel_rfl) (by kernel_rfl) (fun _ _ _ h => h) (Or.inr ⟨by rfl, rfl⟩) ?_
        try simp only [Act.put, List.setIfInBounds_toArray, List.set_cons_zero, List.set_cons_succ]
        refine wpAny_take (i := 15) (oi := { dst := some 27, op := Op.load 9 (Operand.tmp 26), type := 9, pos := "value.go:65", after := #[{ on := 14, ground := Ground.data }, { on := 7, ground := Ground.guard }], guard := some (7, true) }) (v := undef) rfl (by kernel_rfl) (by kernel_rfl) (by kernel_rfl) (fun _ _ _ h => h) (Or.inr ⟨by rfl, rfl⟩) ?_
        try simp only [Act.put, List.setIfInBounds_toArray, List.set_cons_zero, List.set_cons_succ]
        refine wpAny_take (i := 16) (oi := { dst := some 28, op := Op.binOp BinOp.geq 9 (Operand.tmp 25) (Operand.tmp 27) 9, type := 4, pos := "value.go:65", after := #[{ on := 13, ground := Ground.data }, { on := 15, ground := Ground.data }, { on := 7, ground := Ground.guard }], guard := some (7, true) }) (v := undef) rfl (by kernel_rfl) (by kernel_rfl) (by kernel_rfl) (fun _ _ _ h => h) (Or.inr ⟨by rfl, rfl⟩) ?_
        try simp only [Act.put, List.setIfInBounds_toArray, List.set_cons_zero, List.set_cons_succ]
        refine wpAny_take (i := 17) (oi := { dst := some 29, op := Op.pick (Operand.tmp 19) (Operand.tmp 28) (Operand.const (Value.bool false)), type := 4, pos := "value.go:65", after := #[{ on := 7, ground := Ground.data }, { on := 16, ground := Ground.data }, { on := 4, ground := Ground.guard }], guard := some (4, false) }) (v := undef) rfl (by kernel_rfl) (by kernel_rfl) (by kernel_rfl) (fun _ _ _ h => h) (Or.inr ⟨by rfl, rfl⟩) ?_
        try simp only [Act.put, List.setIfInBounds_toArray, List.set_cons_zero, List.set_cons_succ]
        refine wpAny_take (i := 18) (oi := { dst := some 30, op := Op.pick (Operand.tmp 16) (Operand.const (Value.bool true)) (Operand.tmp 29), type := 4, pos := "value.go:65", after := #[{ on := 4, ground := Ground.data }, { on := 17, ground := Ground.data }], guard := none }) (v := ?va18) rfl (by kernel_rfl) (by kernel_rfl) (by kernel_rfl) (fun _ _ _ h => h) (Or.inl ⟨by rfl, ?hya18⟩) ?resta18
        case hya18 => (intro w; (first | (go_simp; with_reducible rfl) | go_simp))
        try simp only [Act.put, List.setIfInBounds_toArray, List.set_cons_zero, List.set_cons_succ]
        refine wpAny_done (by kernel_rfl) ?_ _
        go_wp2
        go_ret
        exact ⟨by rw [HR.out]; rfl, HX1.out.below⟩
    · obtain rfl : k = f.list.length := by omega
      have HR : Hid (ris f.names = true) := by rw [Hid, ris, HLn.out]; exact hr
      go_wp2
      go_ret
      exact ⟨by rw [HR.out]; rfl, hfr.below⟩
end Go.Proofs.Ytegoeaofjnpehab
