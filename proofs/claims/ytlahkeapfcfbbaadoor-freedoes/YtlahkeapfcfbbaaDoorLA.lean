/- The marks of a list: a bit for each page. -/
import Derived.Test.YtlahkeapfcfbbaaDoorPG
import Derived.Laws.Bits64b
import Derived.Laws.BitsAllLaws
namespace Go.Proofs.YtlahkeapfcfbbaaDoor
open Go.RowKit Go.Maps
set_option linter.unusedVariables false
/-- is a page marked? -/
def bt (ms : List Nat) (n : Nat) : Bool := (ms.getD (n / 64) 0).testBit (n % 64)
/-- marks that may be. -/
def Mk (ms : List Nat) : Prop := ms.length = 256 ∧ ∀ x ∈ ms, x < 18446744073709551616
theorem Mk.at {ms : List Nat} (h : Mk ms) (i : Nat) : ms.getD i 0 < 18446744073709551616 := by
  by_cases hi : i < ms.length
  · rw [List.getD_eq_getElem?_getD, List.getElem?_eq_getElem hi]; exact h.2 _ (List.getElem_mem hi)
  · rw [List.getD_eq_getElem?_getD, List.getElem?_eq_none (by omega)]; simp
/-- a page is marked, and is no more. -/
def son (ms : List Nat) (n : Nat) : List Nat := ms.set (n / 64) (ms.getD (n / 64) 0 ||| 2 ^ (n % 64))
def soff (ms : List Nat) (n : Nat) : List Nat := ms.set (n / 64) (ms.getD (n / 64) 0 &&& (18446744073709551615 - 2 ^ (n % 64)))
theorem two_lt (n : Nat) : 2 ^ (n % 64) < 18446744073709551616 := by
  have : 2 ^ (n % 64) < 2 ^ 64 := Nat.pow_lt_pow_right (by omega) (by omega)
  simpa using this
theorem Mk.son {ms : List Nat} (h : Mk ms) (n : Nat) : Mk (son ms n) := by
  refine ⟨by simp [Go.Proofs.YtlahkeapfcfbbaaDoor.son, h.1], fun x hx => ?_⟩
  rcases List.mem_or_eq_of_mem_set hx with hx | rfl
  · exact h.2 x hx
  · exact Nat.or_lt_two_pow (n := 64) (h.at _) (two_lt n)
theorem Mk.soff {ms : List Nat} (h : Mk ms) (n : Nat) : Mk (soff ms n) := by
  refine ⟨by simp [Go.Proofs.YtlahkeapfcfbbaaDoor.soff, h.1], fun x hx => ?_⟩
  rcases List.mem_or_eq_of_mem_set hx with hx | rfl
  · exact h.2 x hx
  · exact Nat.and_lt_two_pow (n := 64) _ (Nat.lt_of_le_of_lt (Nat.sub_le _ _) (by decide))
theorem getD_set {ms : List Nat} (i j x : Nat) (hi : i < ms.length) : (ms.set i x).getD j 0 = if j = i then x else ms.getD j 0 := by
  simp only [List.getD_eq_getElem?_getD, List.getElem?_set]
  by_cases h : j = i
  · subst h; simp [hi]
  · rw [if_neg (fun e => h e.symm), if_neg h]
theorem bt_son {ms : List Nat} (h : Mk ms) (n m : Nat) (hn : n < 16384) : bt (son ms n) m = if m = n then true else bt ms m := by
  unfold bt son
  rw [getD_set _ _ _ (by rw [h.1]; omega)]
  by_cases e : m = n
  · subst e; simp
  · rw [if_neg e]
    by_cases e2 : m / 64 = n / 64
    · rw [if_pos e2, Nat.testBit_or, Nat.testBit_two_pow, e2, decide_eq_false (by omega), Bool.or_false]
    · rw [if_neg e2]
theorem bt_soff {ms : List Nat} (h : Mk ms) (n m : Nat) (hn : n < 16384) : bt (soff ms n) m = if m = n then false else bt ms m := by
  unfold bt soff
  have hb : ∀ i, i < 64 → (18446744073709551615 - 2 ^ (n % 64)).testBit i = !decide (n % 64 = i) := fun i hi => by
    have := Nat.testBit_two_pow_sub_succ (x := 2 ^ (n % 64)) (n := 64) (two_lt n) i
    rw [show 2 ^ 64 - (2 ^ (n % 64) + 1) = 18446744073709551615 - 2 ^ (n % 64) by omega] at this
    rw [this, decide_eq_true hi, Nat.testBit_two_pow, Bool.true_and]
  rw [getD_set _ _ _ (by rw [h.1]; omega)]
  by_cases e : m = n
  · subst e; rw [if_pos rfl, if_pos rfl, Nat.testBit_and, hb _ (by omega)]; simp
  · rw [if_neg e]
    by_cases e2 : m / 64 = n / 64
    · rw [if_pos e2, Nat.testBit_and, hb _ (by omega), e2, decide_eq_false (by omega)]; simp
    · rw [if_neg e2]
set_option maxHeartbeats 1600000 in
set_option maxRecDepth 1000000 in
theorem mayBe_any (w : World) (n : Nat) (hn : n ≤ 4294967295) : Calls Tryd.prog 24 #[.int .u32 (n : Int)] w fun e w' => e = .returned (.bool (decide (2 ≤ n) && decide (n ≤ 16383))) ∧ w' = w := by
  by_cases h : 2 ≤ n
  · have h1 : (2 : Int) ≤ n := by omega
    have e : decide ((n : Int) ≤ 16383) = decide (n ≤ 16383) := by simp only [decide_eq_decide]; omega
    rw [decide_eq_true h, Bool.true_and]
    go_enter Tryd.func24, Tryd.ntmps24
    go_wp2
    go_ret
    exact ⟨by first | rfl | rw [e], rfl⟩
  · have h1 : ¬ (2 : Int) ≤ n := by omega
    rw [decide_eq_false h, Bool.false_and]
    go_enter Tryd.func24, Tryd.ntmps24
    go_wp2
    go_ret
    exact ⟨rfl, rfl⟩
set_option maxHeartbeats 1600000 in
set_option maxRecDepth 1000000 in
theorem has_any (w : World) (l o x n : Nat) (hn : n < 16384) (hx : x < 18446744073709551616) (hc : w.cell? ⟨l, o + n / 64, none⟩ = some (.int .u64 (x : Int))) :
    Calls Tryd.prog 25 #[.pointer (some ⟨l, o, none⟩), .int .u32 (n : Int)] w fun e w' => e = .returned (.bool (x.testBit (n % 64))) ∧ w' = w := by
  go_enter Tryd.func25, Tryd.ntmps25
  go_wp2
  go_ret
  refine ⟨?_, rfl⟩
  congr 2
  have e1 : (x : Int) / 2 ^ (n % 64) = ((x / 2 ^ (n % 64) : Nat) : Int) := by norm_cast
  rw [e1, show (1 : Int) = ((1 : Nat) : Int) by rfl, bits_and_u64_nat _ _ (Nat.lt_of_le_of_lt (Nat.div_le_self _ _) hx) (by omega), Nat.and_one_is_mod]
  rw [Nat.testBit_eq_decide_div_mod_eq]
  generalize x / 2 ^ (n % 64) % 2 = y
  show Value.bool ((y : Int) == ((1 : Nat) : Int)) = Value.bool (decide (y = 1))
  congr 1
  rw [Bool.eq_iff_iff]
  simp only [beq_iff_eq, decide_eq_true_eq]
  omega
theorem wrap_two (n : Nat) : IntKind.u64.wrap (2 ^ (n % 64)) = ((2 ^ (n % 64) : Nat) : Int) := by
  have h := two_lt n
  have e : (2 : Int) ^ (n % 64) = ((2 ^ (n % 64) : Nat) : Int) := by norm_cast
  rw [e, IntKind.wrap_u64]
  generalize 2 ^ (n % 64) = y at h ⊢
  omega
set_option maxHeartbeats 1600000 in
set_option maxRecDepth 1000000 in
theorem set_any (w : World) (l o x n : Nat) (hn : n < 16384) (hx : x < 18446744073709551616) (hc : w.cell? ⟨l, o + n / 64, none⟩ = some (.int .u64 (x : Int))) (hz : w.frozen? ⟨l, o + n / 64, none⟩ = false) :
    Calls Tryd.prog 26 #[.pointer (some ⟨l, o, none⟩), .int .u32 (n : Int)] w fun e w' => e = .returned (.tuple #[]) ∧ Same (w.setCell ⟨l, o + n / 64, none⟩ (.int .u64 ((x ||| 2 ^ (n % 64) : Nat) : Int))) w' := by
  have HX := hide hx
  clear hx
  go_enter Tryd.func26, Tryd.ntmps26
  go_wp2
  go_region
  go_end0
  rw [wrap_two, bits_or_u64_nat _ _ HX.out (two_lt n)]
  exact ⟨rfl, (Same.refl _).drew⟩
set_option maxHeartbeats 1600000 in
set_option maxRecDepth 1000000 in
theorem unset_any (w : World) (l o x n : Nat) (hn : n < 16384) (hx : x < 18446744073709551616) (hc : w.cell? ⟨l, o + n / 64, none⟩ = some (.int .u64 (x : Int))) (hz : w.frozen? ⟨l, o + n / 64, none⟩ = false) :
    Calls Tryd.prog 31 #[.pointer (some ⟨l, o, none⟩), .int .u32 (n : Int)] w fun e w' => e = .returned (.tuple #[]) ∧ Same (w.setCell ⟨l, o + n / 64, none⟩ (.int .u64 ((x &&& (18446744073709551615 - 2 ^ (n % 64)) : Nat) : Int))) w' := by
  have HX := hide hx
  clear hx
  go_enter Tryd.func31, Tryd.ntmps31
  go_wp2
  go_region
  go_end0
  rw [wrap_two, u64_andNot_nat _ _ HX.out (two_lt n)]
  exact ⟨rfl, (Same.refl _).drew⟩
end Go.Proofs.YtlahkeapfcfbbaaDoor
