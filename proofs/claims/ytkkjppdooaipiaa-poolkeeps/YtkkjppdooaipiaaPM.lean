/- Plain mathematics of pages: numbers as bytes, the lowest first; bytes with their checksum behind them. -/
import Derived.Test.YtkkjppdooaipiaaMath
import Derived.Test.YtkkjppdooaipiaaBM
namespace Go.Proofs.Ytkkjppdooaipiaa
namespace Crc

/-- a number in k bytes, the lowest first. -/
def le : Nat → Nat → List Int
  | 0, _ => []
  | k + 1, n => ((n % 256 : Nat) : Int) :: le k (n / 256)
/-- the number that bytes are, the lowest first. -/
def leV : List Int → Nat
  | [] => 0
  | c :: t => c.toNat + 256 * leV t
def B8 (l : List Int) : Prop := ∀ c ∈ l, 0 ≤ c ∧ c ≤ 255
theorem B8.cons {c : Int} {t : List Int} (h : B8 (c :: t)) : (0 ≤ c ∧ c ≤ 255) ∧ B8 t := ⟨h c (by simp), fun d hd => h d (by simp [hd])⟩
theorem le_length (k n : Nat) : (le k n).length = k := by
  induction k generalizing n with
  | zero => rfl
  | succ k ih => simp [le, ih]
theorem le_b8 (k n : Nat) : B8 (le k n) := by
  induction k generalizing n with
  | zero => intro c hc; simp [le] at hc
  | succ k ih =>
    intro c hc
    simp only [le, List.mem_cons] at hc
    rcases hc with rfl | hc
    · omega
    · exact ih _ c hc
theorem le_zero (k : Nat) : le k 0 = List.replicate k 0 := by
  induction k with
  | zero => rfl
  | succ k ih => simp [le, ih, List.replicate_succ]
theorem leV_le (k n : Nat) (h : n < 256 ^ k) : leV (le k n) = n := by
  induction k generalizing n with
  | zero => simp at h; subst h; rfl
  | succ k ih =>
    have hn : n / 256 < 256 ^ k := by rw [Nat.pow_succ] at h; omega
    simp only [le, leV]
    rw [ih _ hn]; omega
theorem le_leV (l : List Int) (h : B8 l) : le l.length (leV l) = l := by
  induction l with
  | nil => rfl
  | cons c t ih =>
    obtain ⟨hc, ht⟩ := h.cons
    have e1 : (c.toNat + 256 * leV t) % 256 = c.toNat := by omega
    have e2 : (c.toNat + 256 * leV t) / 256 = leV t := by omega
    simp only [List.length_cons, le, leV]
    rw [e1, e2, ih ht]
    congr 1
    omega
theorem leV_lt (l : List Int) (h : B8 l) : leV l < 256 ^ l.length := by
  induction l with
  | nil => simp [leV]
  | cons c t ih =>
    obtain ⟨hc, ht⟩ := h.cons
    have := ih ht
    rw [leV, List.length_cons, Nat.pow_succ]
    omega
theorem le_inj (k a b : Nat) (ha : a < 256 ^ k) (hb : b < 256 ^ k) (h : le k a = le k b) : a = b := by
  have := congrArg leV h
  rwa [leV_le k a ha, leV_le k b hb] at this
theorem xor_add (c m : Nat) (hc : c < 256) : c ^^^ (256 * m) = c + 256 * m := by
  have h := Nat.two_pow_add_eq_or_of_lt (i := 8) (b := c) (by omega) m
  have e : (2 : Nat) ^ 8 = 256 := by decide
  rw [e] at h
  rw [Nat.add_comm, h, Nat.xor_comm]
  apply Nat.eq_of_testBit_eq; intro i
  simp only [Nat.testBit_xor, Nat.testBit_or]
  by_cases hi : i < 8
  · have : (256 * m).testBit i = false := by
      rw [← e, Nat.testBit_two_pow_mul]; simp; omega
    rw [this]; simp
  · have : c.testBit i = false := by
      apply Nat.testBit_lt_two_pow
      have : 2 ^ 8 ≤ 2 ^ i := Nat.pow_le_pow_right (by omega) (by omega)
      omega
    rw [this]; simp
theorem leV_num (l : List Int) (h : B8 l) : leV l = num l := by
  induction l with
  | nil => rfl
  | cons c t ih =>
    obtain ⟨hc, ht⟩ := h.cons
    rw [leV, num_cons, ih ht, xor_add _ _ (by omega)]
theorem stps_inj (k a b : Nat) (ha : a < 4294967296) (hb : b < 4294967296) (h : stps k a = stps k b) : a = b := by
  have e : stps k (a ^^^ b) = 0 := by rw [stps_xor, h, Nat.xor_self]
  exact (xor_zero_iff _ _).1 (stps_zero_of k _ (xor_lt32 a b ha hb) e)
theorem inv_iff (r v : Nat) : r ^^^ v = ones ↔ v = inv r := by
  rw [inv]
  constructor
  · intro h; rw [← h, Nat.xor_comm r v, Nat.xor_assoc, Nat.xor_self, Nat.xor_zero]
  · intro h; rw [h, Nat.xor_comm ones, xor_twice]
/-- the sum behind some bytes is right just if the register behind all is what it then always is. -/
theorem right_iff (l t : List Int) (ht : t.length = 4) (hl : B8 l) (h8 : B8 t) : leV t = more 0 l ↔ reg (inv 0) (l ++ t) = stps 32 ones := by
  have hr : reg (inv 0) l < 4294967296 := reg_lt _ _ (inv_lt _ (by omega)) hl
  have hv := leV_lt t h8
  rw [ht] at hv
  have e4 : (256 : Nat) ^ 4 = 4294967296 := by decide
  rw [e4] at hv
  rw [reg_append, reg_num, ht, ← leV_num t h8]
  have e8 : 8 * 4 = 32 := rfl
  rw [e8]
  have ho : ones < 4294967296 := by rw [ones]; omega
  have h0 : more 0 l = inv (reg (inv 0) l) := by rw [more]
  rw [h0, ← inv_iff]
  constructor
  · intro h; rw [h]
  · intro h; exact stps_inj 32 _ _ (xor_lt32 _ _ hr hv) ho h
/-- bytes with a right sum behind them, some bits of 32 in a row turned: the sum is right no more, unless none was turned. -/
theorem turned_right (P T : List Int) (F E : Nat) (hl : T.length = P.length) (hF : F ≤ 8 * P.length) (hE : E < 4294967296) (hn : num T = num P ^^^ 2 ^ F * E)
    (hP : reg (inv 0) P = stps 32 ones) : reg (inv 0) T = stps 32 ones ↔ E = 0 := by
  rw [← hP, reg_num, reg_num, hl, hn]
  have e : inv 0 ^^^ (num P ^^^ 2 ^ F * E) = (inv 0 ^^^ num P) ^^^ 2 ^ F * E := by rw [Nat.xor_assoc]
  rw [e, stps_xor]
  have e2 : 8 * P.length = F + (8 * P.length - F) := by omega
  have e3 : stps (8 * P.length) (2 ^ F * E) = stps (8 * P.length - F) E := by
    rw [e2, stps_add, stps_shift, ← e2]
  rw [e3]
  constructor
  · intro h
    have h2 : stps (8 * P.length - F) E = 0 := by
      have := congrArg (fun x => stps (8 * P.length) (inv 0 ^^^ num P) ^^^ x) h
      simp only [Nat.xor_self] at this
      rw [xor_twice] at this
      exact this
    exact stps_zero_of _ _ hE h2
  · intro h; rw [h, stps_zero, Nat.xor_zero]
end Crc
end Go.Proofs.Ytkkjppdooaipiaa
