/- Mathematics of marks: the bits of a word, from the lowest up. -/
import Derived.Lib.TrailingZeros
import Derived.Test.YtlahkeapfcfbbaaDoorLA
namespace Go.Proofs.YtlahkeapfcfbbaaDoor
set_option linter.unusedVariables false
/-- the bits of a word that stand. -/
def bitsOf (x : Nat) : List Nat := (List.range 64).filter fun i => x.testBit i
theorem bitsOf_zero : bitsOf 0 = [] := by
  unfold bitsOf
  rw [List.filter_eq_nil_iff]
  intro i _
  rw [Nat.zero_testBit]; simp
theorem ctz_form (x : Nat) (h0 : x ≠ 0) (hx : x < 18446744073709551616) : Lib.ctz 64 x < 64 ∧ ∃ m, x = 2 ^ Lib.ctz 64 x * (2 * m + 1) := by
  unfold Lib.ctz
  rw [if_neg h0]
  obtain ⟨m, h1, h2⟩ := Lib.ctzFrom_spec 64 x (by omega) (by simpa using hx)
  exact ⟨h2, m, h1⟩
theorem low_bits (k m : Nat) : (∀ j, j < k → (2 ^ k * (2 * m + 1)).testBit j = false) ∧ (2 ^ k * (2 * m + 1)).testBit k = true ∧ ∀ i, ((2 ^ k * (2 * m + 1)) &&& (2 ^ k * (2 * m + 1) - 1)).testBit i = ((2 ^ k * (2 * m + 1)).testBit i && decide (i ≠ k)) := by
  have hp : 0 < 2 ^ k := Nat.two_pow_pos k
  have h1 : ∀ j, j < k → (2 ^ k * (2 * m + 1)).testBit j = false := fun j hj => by
    rw [Nat.mul_comm, Nat.testBit_mul_two_pow, decide_eq_false (by omega), Bool.false_and]
  have h2 : (2 ^ k * (2 * m + 1)).testBit k = true := by
    rw [Nat.mul_comm, Nat.testBit_mul_two_pow, decide_eq_true (Nat.le_refl k), Nat.sub_self]; simp
  refine ⟨h1, h2, fun i => ?_⟩
  rw [Nat.testBit_and]
  by_cases hi : i < k
  · rw [h1 i hi, Bool.false_and, Bool.false_and]
  · have e0 : 2 ^ k * (2 * m + 1) = 2 ^ k * (2 * m) + 2 ^ k := by rw [Nat.mul_add, Nat.mul_one]
    by_cases he : i = k
    · subst he
      have e1 : (2 ^ i * (2 * m + 1) - 1) / 2 ^ i = 2 * m := by
        rw [e0, Nat.add_sub_assoc hp, Nat.mul_add_div hp, Nat.div_eq_of_lt (by omega), Nat.add_zero]
      have e2 : (2 ^ i * (2 * m + 1) - 1).testBit i = false := by
        have := Nat.testBit_div_two_pow (n := i) (2 ^ i * (2 * m + 1) - 1) 0
        rw [e1, Nat.zero_add] at this
        rw [← this]; simp
      rw [e2, Bool.and_false, decide_eq_false (by simp), Bool.and_false]
    · obtain ⟨j, rfl⟩ : ∃ j, i = j + (k + 1) := ⟨i - (k + 1), by omega⟩
      have e3 : 2 ^ k * (2 * m + 1) = 2 ^ (k + 1) * m + 2 ^ k := by rw [e0, Nat.pow_succ, Nat.mul_assoc]
      have hlt : 2 ^ k < 2 ^ (k + 1) := Nat.pow_lt_pow_right (by omega) (by omega)
      have hp1 : 0 < 2 ^ (k + 1) := Nat.two_pow_pos _
      have e4 : (2 ^ k * (2 * m + 1)) / 2 ^ (k + 1) = m := by rw [e3, Nat.mul_add_div hp1, Nat.div_eq_of_lt hlt, Nat.add_zero]
      have e5 : (2 ^ k * (2 * m + 1) - 1) / 2 ^ (k + 1) = m := by rw [e3, Nat.add_sub_assoc hp, Nat.mul_add_div hp1, Nat.div_eq_of_lt (by omega), Nat.add_zero]
      have b1 := Nat.testBit_div_two_pow (n := k + 1) (2 ^ k * (2 * m + 1)) j
      have b2 := Nat.testBit_div_two_pow (n := k + 1) (2 ^ k * (2 * m + 1) - 1) j
      rw [e4] at b1
      rw [e5] at b2
      rw [← b1, ← b2, Bool.and_self, decide_eq_true (by omega), Bool.and_true]
/-- the lowest one goes. -/
theorem bitsOf_step (x : Nat) (h0 : x ≠ 0) (hx : x < 18446744073709551616) : bitsOf x = Lib.ctz 64 x :: bitsOf (x &&& (x - 1)) := by
  obtain ⟨hk, m, hm⟩ := ctz_form x h0 hx
  generalize Lib.ctz 64 x = k at hk hm ⊢
  subst hm
  obtain ⟨h1, h2, h3⟩ := low_bits k m
  generalize 2 ^ k * (2 * m + 1) = x at *
  obtain ⟨r, hr⟩ : ∃ r, 64 = k + (r + 1) := ⟨63 - k, by omega⟩
  unfold bitsOf
  rw [hr, List.range_add, List.range_succ_eq_map, List.map_cons, List.filter_append, List.filter_append, List.filter_cons, List.filter_cons, Nat.add_zero]
  have f1 : (List.range k).filter (fun i => x.testBit i) = [] := by
    rw [List.filter_eq_nil_iff]
    intro i hi
    rw [h1 i (List.mem_range.1 hi)]; simp
  have f2 : (List.range k).filter (fun i => (x &&& (x - 1)).testBit i) = [] := by
    rw [List.filter_eq_nil_iff]
    intro i hi
    rw [h3 i, h1 i (List.mem_range.1 hi)]; simp
  rw [f1, f2, h3 k, h2]
  simp only [List.nil_append, if_true, ne_eq, not_true_eq_false, decide_false, Bool.and_false, Bool.false_eq_true, if_false]
  congr 1
  apply List.filter_congr
  intro i hi
  obtain ⟨j, hj, rfl⟩ := List.mem_map.1 hi
  obtain ⟨q, hq, rfl⟩ := List.mem_map.1 hj
  rw [h3, decide_eq_true (by omega), Bool.and_true]
theorem and_less (x : Nat) (h0 : x ≠ 0) : x &&& (x - 1) < x := Nat.lt_of_le_of_lt (Nat.and_le_right) (by omega)
/-- the pages that are marked, of the first words. -/
def nums (ms : List Nat) (i : Nat) : List Nat := (List.range (64 * i)).filter fun n => bt ms n
theorem nums_succ (ms : List Nat) (i : Nat) : nums ms (i + 1) = nums ms i ++ (bitsOf (ms.getD i 0)).map (fun j => 64 * i + j) := by
  unfold nums bitsOf
  rw [Nat.mul_add, Nat.mul_one, List.range_add, List.filter_append, List.filter_map]
  congr 2
  apply List.filter_congr
  intro j hj
  have hj' := List.mem_range.1 hj
  show bt ms (64 * i + j) = _
  unfold bt
  rw [show (64 * i + j) / 64 = i by omega, show (64 * i + j) % 64 = j by omega]
theorem nums_mem {ms : List Nat} {i n : Nat} : n ∈ nums ms i ↔ n < 64 * i ∧ bt ms n = true := by
  unfold nums
  rw [List.mem_filter, List.mem_range]
theorem nums_nodup (ms : List Nat) (i : Nat) : (nums ms i).Nodup := List.Pairwise.filter _ List.nodup_range
theorem nums_sorted (ms : List Nat) (i : Nat) : (nums ms i).Pairwise (· < ·) := List.Pairwise.filter _ List.pairwise_lt_range
end Go.Proofs.YtlahkeapfcfbbaaDoor
