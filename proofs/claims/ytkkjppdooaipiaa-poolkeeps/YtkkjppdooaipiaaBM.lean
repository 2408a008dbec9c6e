/- Plain mathematics of a change within 32 bits that stand in a row. -/
import Derived.Test.YtkkjppdooaipiaaMath
namespace Go.Proofs.Ytkkjppdooaipiaa
namespace Crc

theorem shl_xor (f x y : Nat) : 2 ^ f * (x ^^^ y) = 2 ^ f * x ^^^ 2 ^ f * y := by
  have h := Nat.shiftLeft_xor_distrib (a := x) (b := y) (i := f)
  simp only [Nat.shiftLeft_eq] at h
  rw [Nat.mul_comm _ (x ^^^ y), Nat.mul_comm _ x, Nat.mul_comm _ y]
  exact h
theorem mul256_xor (x y : Nat) : 256 * (x ^^^ y) = 256 * x ^^^ 256 * y := by
  have h := shl_xor 8 x y
  have e : (2 : Nat) ^ 8 = 256 := by decide
  rw [e] at h
  exact h

/-- the changed bits that lie in the text, of the first k. -/
def eff (C F M : Nat) : Nat → Nat
  | 0 => 0
  | k + 1 => if C.testBit k = true ∧ F + k < M then eff C F M k ^^^ 2 ^ k else eff C F M k
theorem eff_lt (C F M k : Nat) : eff C F M k < 2 ^ k := by
  induction k with
  | zero => exact Nat.one_pos
  | succ k ih =>
    rw [eff]
    have hp : 2 ^ k < 2 ^ (k + 1) := Nat.pow_lt_pow_right (by omega) (by omega)
    split
    · exact Nat.xor_lt_two_pow (by omega) hp
    · omega
theorem eff_yes (C F M k : Nat) (h1 : C.testBit k = true) (h2 : F + k < M) : eff C F M (k + 1) = eff C F M k ^^^ 2 ^ k := by
  rw [eff, if_pos ⟨h1, h2⟩]
theorem eff_no (C F M k : Nat) (h : ¬ (C.testBit k = true ∧ F + k < M)) : eff C F M (k + 1) = eff C F M k := by
  rw [eff, if_neg h]
theorem eff_ne (C F M k : Nat) (h1 : C.testBit k = true) (h2 : F + k < M) : eff C F M (k + 1) ≠ 0 := by
  rw [eff_yes C F M k h1 h2]
  intro h
  have e := (xor_zero_iff _ _).1 h
  have := eff_lt C F M k
  omega

/-- one byte of a text with some bits turned. -/
theorem num_set (xs : List Int) (j : Nat) (hj : j < xs.length) (c : Int) (d : Nat) (hc : c.toNat = (xs.getD j 0).toNat ^^^ d) : num (xs.set j c) = num xs ^^^ (2 ^ (8 * j) * d) := by
  induction xs generalizing j with
  | nil => simp at hj
  | cons x t ih =>
    cases j with
    | zero =>
      have hc' : c.toNat = x.toNat ^^^ d := hc
      rw [List.set_cons_zero, num_cons, num_cons, hc', Nat.mul_zero, Nat.pow_zero, Nat.one_mul, Nat.xor_assoc, Nat.xor_comm d, Nat.xor_assoc]
    | succ j =>
      have h := ih j (by simpa using hj) hc
      have e : 2 ^ (8 * (j + 1)) * d = 256 * (2 ^ (8 * j) * d) := by
        rw [Nat.mul_add, Nat.pow_add, ← Nat.mul_assoc 256, Nat.mul_comm 256 (2 ^ (8 * j))]
      rw [List.set_cons_succ, num_cons, num_cons, h, mul256_xor, e, Nat.xor_assoc]
/-- one round: bit F + k is turned. -/
theorem num_round (xs zs : List Int) (F k E j t : Nat) (c : Int) (hj : j < xs.length) (hb : F + k = 8 * j + t) (hn : num xs = num zs ^^^ 2 ^ F * E) (hc : c.toNat = (xs.getD j 0).toNat ^^^ 2 ^ t) :
    num (xs.set j c) = num zs ^^^ 2 ^ F * (E ^^^ 2 ^ k) := by
  rw [num_set xs j hj c (2 ^ t) hc, hn, shl_xor, ← Nat.pow_add, ← Nat.pow_add, hb, Nat.xor_assoc]
/-- the sums are unlike just if a bit has been turned. -/
theorem burst (xs zs : List Int) (F E : Nat) (hl : xs.length = zs.length) (hF : F ≤ 8 * zs.length) (hE : E < 4294967296) (hn : num xs = num zs ^^^ 2 ^ F * E) : more 0 xs = more 0 zs ↔ E = 0 := by
  rw [more_eq_iff xs zs hl, hn, Nat.xor_comm (num zs), Nat.xor_assoc, Nat.xor_self, Nat.xor_zero]
  have e : 8 * zs.length = F + (8 * zs.length - F) := by omega
  rw [e, stps_add, stps_shift]
  constructor
  · intro h; exact stps_zero_of _ _ hE h
  · intro h; rw [h, stps_zero]
end Crc
end Go.Proofs.Ytkkjppdooaipiaa
