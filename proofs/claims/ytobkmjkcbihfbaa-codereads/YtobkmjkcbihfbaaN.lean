/- Plain mathematics: what was written is read. -/
import Derived.Test.YtobkmjkcbihfbaaE
namespace Go.Proofs.Ytobkmjkcbihfbaa
set_option linter.unusedVariables false

theorem vgo_vb (u : Nat) : ∀ (k x : Nat) (t : List Int), k ≤ 9 → (0 < k → u ≠ 0) → u * 128 ^ k < 18446744073709551616 → vgo k x (vb u ++ t) = (x + u * 128 ^ k, k + (vb u).length, 0) := by
  induction u using Nat.strongRecOn with
  | _ u ih =>
    intro k x t hk h0 hb
    by_cases h : u < 128
    · rw [vb_small u h, List.singleton_append, vgo_cons, if_neg, if_pos (by omega), Int.toNat_natCast]
      · rfl
      · rintro (⟨rfl, h1⟩ | ⟨h1, h2⟩)
        · have e : (128 : Nat) ^ 9 = 9223372036854775808 := by decide
          rw [e] at hb
          have := h0 (by omega)
          omega
        · exact h0 h1 (by omega)
    · have hp : 0 < 128 ^ k := Nat.pow_pos (by omega)
      have hk9 : k ≠ 9 := fun e => by
        subst e
        have e : (128 : Nat) ^ 9 = 9223372036854775808 := by decide
        rw [e] at hb
        omega
      have hs : u = u % 128 + u / 128 * 128 := by omega
      have hlow : u / 128 * 128 ^ (k + 1) ≤ u * 128 ^ k := by
        rw [Nat.pow_succ, Nat.mul_comm (128 ^ k) 128, ← Nat.mul_assoc]
        exact Nat.mul_le_mul_right _ (by omega)
      have he : x + u % 128 * 128 ^ k + u / 128 * 128 ^ (k + 1) = x + u * 128 ^ k := by
        have e1 : u / 128 * 128 ^ (k + 1) = u / 128 * 128 * 128 ^ k := by rw [Nat.pow_succ, Nat.mul_comm (128 ^ k) 128, Nat.mul_assoc]
        have e2 : u * 128 ^ k = (u % 128 + u / 128 * 128) * 128 ^ k := by rw [← hs]
        rw [e1, e2, Nat.add_mul]; omega
      rw [vb_big u h, List.cons_append, vgo_cons, if_neg, if_neg (by omega), Int.toNat_natCast, Nat.add_sub_cancel, ih (u / 128) (by omega) (k + 1) _ t (by omega) (by intro _; omega) (by omega), he, List.length_cons]
      · congr 2; omega
      · rintro (⟨h1, _⟩ | ⟨_, h2⟩)
        · exact hk9 h1
        · omega
theorem vint_vb (v : Nat) (t : List Int) (hv : v < 18446744073709551616) : vint (vb v ++ t) = (v, (vb v).length, 0) := by
  rw [vint, vgo_vb v 0 0 t (by omega) (by omega) (by simpa using hv)]
  simp

theorem jn_fb (v n : Nat) (hn : n ≤ 8) : jn (fb v n) = v % 256 ^ n := by
  have key : ∀ n acc, n ≤ 8 → (fb v n).foldl (fun a c => (a * 256 + c.toNat) % 18446744073709551616) acc = (acc * 256 ^ n + v % 256 ^ n) % 18446744073709551616 ∨ 18446744073709551616 ≤ acc := by
    intro n
    induction n with
    | zero =>
      intro acc _
      by_cases h : acc < 18446744073709551616
      · left; simp [fb, Nat.mod_one, Nat.mod_eq_of_lt h]
      · right; omega
    | succ n ih =>
      intro acc hn
      left
      rw [fb, List.foldl_cons, Int.toNat_natCast]
      have hm : (acc * 256 + v / 256 ^ n % 256) % 18446744073709551616 < 18446744073709551616 := Nat.mod_lt _ (by omega)
      rcases ih ((acc * 256 + v / 256 ^ n % 256) % 18446744073709551616) (by omega) with h | h
      · rw [h]
        have e : v % 256 ^ (n + 1) = v / 256 ^ n % 256 * 256 ^ n + v % 256 ^ n := by
          rw [Nat.pow_succ, Nat.mod_mul, Nat.mul_comm (v / 256 ^ n % 256), Nat.add_comm]
        rw [e, Nat.pow_succ]
        generalize 256 ^ n = P
        generalize v / P % 256 = q
        rw [Nat.add_mod, Nat.mul_mod, Nat.mod_mod, ← Nat.mul_mod, ← Nat.add_mod]
        congr 1
        rw [Nat.add_mul, Nat.mul_assoc, Nat.mul_comm 256 P]
        omega
      · omega
  have hp : v % 256 ^ n < 18446744073709551616 := by
    have h1 : v % 256 ^ n < 256 ^ n := Nat.mod_lt _ (Nat.pow_pos (by omega))
    have h2 := Nat.pow_le_pow_right (n := 256) (by omega) hn
    have e : (256 : Nat) ^ 8 = 18446744073709551616 := by decide
    omega
  rcases key n 0 hn with h | h
  · rw [jn, h, Nat.zero_mul, Nat.zero_add, Nat.mod_eq_of_lt hp]
  · omega

theorem zr_zz (v : Int) : zr (zz v) = v := by
  unfold zr zz
  split
  · rename_i h
    rw [if_pos (by omega)]
    omega
  · rw [if_neg (by omega)]
    omega
end Go.Proofs.Ytobkmjkcbihfbaa
