/- Plain mathematics of the checksum: one step of the register, over numbers of any width; it is linear, and a text's register is so many steps of one great number. -/
namespace Go.Proofs.Ytkkjppdooaipiaa
namespace Crc

/-- one bit of the register. -/
def stp (n : Nat) : Nat := if n % 2 = 1 then (n / 2) ^^^ 2197175160 else n / 2
/-- so many bits. -/
def stps : Nat → Nat → Nat
  | 0, n => n
  | k + 1, n => stps k (stp n)
/-- one byte. -/
def byt (r c : Nat) : Nat := stps 8 (r ^^^ c)
/-- a text. -/
def reg : Nat → List Int → Nat
  | r, [] => r
  | r, c :: t => reg (byt r c.toNat) t
/-- all bits. -/
def ones : Nat := 4294967295
/-- every bit turned. -/
def inv (a : Nat) : Nat := ones ^^^ a
/-- the checksum of what had s, and l behind it. -/
def more (s : Nat) (l : List Int) : Nat := inv (reg (inv s) l)
/-- a text as a number, the lowest byte first. -/
def num : List Int → Nat
  | [] => 0
  | c :: t => c.toNat ^^^ (256 * num t)

theorem xor_div2 (a b : Nat) : (a ^^^ b) / 2 = a / 2 ^^^ b / 2 := by
  have h := Nat.shiftRight_xor_distrib (a := a) (b := b) (i := 1)
  simpa [Nat.shiftRight_eq_div_pow] using h
theorem xor_mod2 (a b : Nat) : (a ^^^ b) % 2 = (a % 2 + b % 2) % 2 := by
  have h := Nat.testBit_xor a b 0
  simp only [Nat.testBit_zero] at h
  rcases Nat.mod_two_eq_zero_or_one a with h1 | h1 <;> rcases Nat.mod_two_eq_zero_or_one b with h2 | h2 <;> rcases Nat.mod_two_eq_zero_or_one (a ^^^ b) with h3 | h3 <;> simp [h1, h2, h3] at h ⊢
theorem xor_zero_iff (a b : Nat) : a ^^^ b = 0 ↔ a = b := by
  constructor
  · intro h
    have e : a ^^^ b ^^^ b = 0 ^^^ b := by rw [h]
    rw [Nat.xor_assoc, Nat.xor_self, Nat.xor_zero, Nat.zero_xor] at e
    exact e
  · intro h; rw [h, Nat.xor_self]

theorem stp_xor (a b : Nat) : stp (a ^^^ b) = stp a ^^^ stp b := by
  unfold stp
  rw [xor_div2]
  have hm := xor_mod2 a b
  by_cases ha : a % 2 = 1 <;> by_cases hb : b % 2 = 1
  · rw [if_neg (by omega), if_pos ha, if_pos hb]
    apply Nat.eq_of_testBit_eq; intro i; simp only [Nat.testBit_xor]
    cases (a / 2).testBit i <;> cases (b / 2).testBit i <;> cases Nat.testBit 2197175160 i <;> rfl
  · rw [if_pos (by omega), if_pos ha, if_neg hb]
    apply Nat.eq_of_testBit_eq; intro i; simp only [Nat.testBit_xor]
    cases (a / 2).testBit i <;> cases (b / 2).testBit i <;> cases Nat.testBit 2197175160 i <;> rfl
  · rw [if_pos (by omega), if_neg ha, if_pos hb, Nat.xor_assoc]
  · rw [if_neg (by omega), if_neg ha, if_neg hb]
theorem stp_two (a : Nat) : stp (2 * a) = a := by
  unfold stp; rw [if_neg (by omega)]; omega
theorem stp_lt (a : Nat) (h : a < 4294967296) : stp a < 4294967296 := by
  unfold stp; split
  · exact Nat.xor_lt_two_pow (n := 32) (by omega) (by decide)
  · omega
theorem stp_zero_of (a : Nat) (h : a < 4294967296) (e : stp a = 0) : a = 0 := by
  unfold stp at e
  by_cases ha : a % 2 = 1
  · rw [if_pos ha, xor_zero_iff] at e; omega
  · rw [if_neg ha] at e; omega

theorem stps_xor (k a b : Nat) : stps k (a ^^^ b) = stps k a ^^^ stps k b := by
  induction k generalizing a b with
  | zero => rfl
  | succ k ih => simp only [stps]; rw [stp_xor, ih]
theorem stps_add (j k a : Nat) : stps (j + k) a = stps k (stps j a) := by
  induction j generalizing a with
  | zero => rw [Nat.zero_add]; rfl
  | succ j ih => rw [Nat.succ_add]; simp only [stps]; rw [ih]
theorem stps_succ (k a : Nat) : stps (k + 1) a = stp (stps k a) := by
  rw [stps_add]; rfl
theorem stps_shift (k a : Nat) : stps k (2 ^ k * a) = a := by
  induction k generalizing a with
  | zero => simp [stps]
  | succ k ih =>
    simp only [stps]
    have e : 2 ^ (k + 1) * a = 2 * (2 ^ k * a) := by rw [Nat.pow_succ, Nat.mul_comm (2 ^ k) 2, Nat.mul_assoc]
    rw [e, stp_two, ih]
theorem stps_lt (k a : Nat) (h : a < 4294967296) : stps k a < 4294967296 := by
  induction k generalizing a with
  | zero => exact h
  | succ k ih => exact ih _ (stp_lt a h)
theorem stps_zero (k : Nat) : stps k 0 = 0 := by
  induction k with
  | zero => rfl
  | succ k ih => simp only [stps]; exact ih
theorem stps_zero_of (k a : Nat) (h : a < 4294967296) (e : stps k a = 0) : a = 0 := by
  induction k generalizing a with
  | zero => exact e
  | succ k ih => exact stp_zero_of a h (ih _ (stp_lt a h) e)

/-- four bits at once, by the table of what half a byte comes to. -/
theorem half (r : Nat) : r / 16 ^^^ stps 4 (r % 16) = stps 4 r := by
  have e : r = (2 ^ 4 * (r / 16)) ^^^ (r % 16) := by
    have h := Nat.two_pow_add_eq_or_of_lt (i := 4) (b := r % 16) (by omega) (r / 16)
    have hd : 2 ^ 4 * (r / 16) + r % 16 = r := by omega
    have hx : 2 ^ 4 * (r / 16) ^^^ r % 16 = 2 ^ 4 * (r / 16) ||| r % 16 := by
      apply Nat.eq_of_testBit_eq; intro i
      simp only [Nat.testBit_xor, Nat.testBit_or]
      by_cases hi : i < 4
      · have : (2 ^ 4 * (r / 16)).testBit i = false := by
          rw [Nat.testBit_two_pow_mul]; simp; omega
        rw [this]; simp
      · have : (r % 16).testBit i = false := by
          apply Nat.testBit_lt_two_pow
          have : 2 ^ 4 ≤ 2 ^ i := Nat.pow_le_pow_right (by omega) (by omega)
          omega
        rw [this]; simp
    rw [hx, ← h, hd]
  have h2 : stps 4 ((2 ^ 4 * (r / 16)) ^^^ (r % 16)) = stps 4 r := congrArg (stps 4) e.symm
  rw [← h2, stps_xor, stps_shift]
theorem two_halves (r c : Nat) : stps 4 (stps 4 (r ^^^ c)) = byt r c := by
  unfold byt; rw [← stps_add]

theorem reg_nil (r : Nat) : reg r [] = r := rfl
theorem byt_lt (r c : Nat) (h : r < 4294967296) (hc : c < 256) : byt r c < 4294967296 :=
  stps_lt 8 _ (Nat.xor_lt_two_pow (n := 32) (by omega) (by omega))
theorem reg_lt (r : Nat) (l : List Int) (h : r < 4294967296) (hl : ∀ c ∈ l, 0 ≤ c ∧ c ≤ 255) : reg r l < 4294967296 := by
  induction l generalizing r with
  | nil => exact h
  | cons c t ih =>
    have hc := hl c (by simp)
    exact ih _ (byt_lt r c.toNat h (by omega)) (fun d hd => hl d (by simp [hd]))
theorem reg_append (r : Nat) (l m : List Int) : reg r (l ++ m) = reg (reg r l) m := by
  induction l generalizing r with
  | nil => rfl
  | cons c t ih => exact ih _
theorem reg_snoc (r : Nat) (l : List Int) (c : Int) : reg r (l ++ [c]) = byt (reg r l) c.toNat := by
  rw [reg_append]; rfl
theorem reg_cons (r : Nat) (c : Int) (t : List Int) : reg r (c :: t) = reg (byt r c.toNat) t := rfl
theorem num_cons (c : Int) (t : List Int) : num (c :: t) = c.toNat ^^^ (256 * num t) := rfl
theorem stps_k (k a m : Nat) : stps k (a ^^^ 2 ^ k * m) = stps k a ^^^ m := by
  rw [stps_xor, stps_shift]
theorem byt_num (r c m : Nat) : stps 8 (r ^^^ (c ^^^ 256 * m)) = byt r c ^^^ m := by
  have h := stps_k 8 (r ^^^ c) m
  have e : (2 : Nat) ^ 8 = 256 := by decide
  rw [e, Nat.xor_assoc] at h
  exact h
theorem reg_num (r : Nat) (l : List Int) : reg r l = stps (8 * l.length) (r ^^^ num l) := by
  induction l generalizing r with
  | nil => rw [num, Nat.xor_zero]; rfl
  | cons c t ih =>
    have e : 8 * (c :: t).length = 8 + 8 * t.length := by rw [List.length_cons]; omega
    rw [e, stps_add, num_cons, byt_num, reg_cons, ih]
theorem xor_lt32 (f a : Nat) (h0 : f < 4294967296) (h : a < 4294967296) : f ^^^ a < 4294967296 :=
  Nat.xor_lt_two_pow (n := 32) (by omega) (by omega)
theorem inv_lt (a : Nat) (h : a < 4294967296) : inv a < 4294967296 := by
  rw [inv]; exact xor_lt32 ones a (by rw [ones]; omega) h
theorem xor_twice (f a : Nat) : f ^^^ (f ^^^ a) = a := by
  rw [← Nat.xor_assoc, Nat.xor_self, Nat.zero_xor]
theorem more_lt (s : Nat) (l : List Int) (h : s < 4294967296) (hl : ∀ c ∈ l, 0 ≤ c ∧ c ≤ 255) : more s l < 4294967296 :=
  inv_lt _ (reg_lt _ _ (inv_lt _ h) hl)
theorem inv_inv (a : Nat) : inv (inv a) = a := by
  rw [inv, inv]; exact xor_twice ones a
theorem more_more (s : Nat) (l m : List Int) : more (more s l) m = more s (l ++ m) := by
  unfold more; rw [inv_inv, reg_append]
theorem more_nil (s : Nat) : more s [] = s := by
  rw [more, reg_nil, inv_inv]
theorem xor_left (a b c : Nat) (h : a ^^^ b = a ^^^ c) : b = c := by
  have e : a ^^^ (a ^^^ b) = a ^^^ (a ^^^ c) := by rw [h]
  rw [← Nat.xor_assoc, ← Nat.xor_assoc, Nat.xor_self, Nat.zero_xor, Nat.zero_xor] at e
  exact e
theorem eq_iff_aux (o f p q : Nat) : o ^^^ (f ^^^ p) = o ^^^ (f ^^^ q) ↔ p = q := by
  constructor
  · intro e; exact xor_left _ _ _ (xor_left _ _ _ e)
  · intro e; rw [e]
theorem more_eq_iff (a b : List Int) (h : a.length = b.length) : more 0 a = more 0 b ↔ stps (8 * b.length) (num a ^^^ num b) = 0 := by
  rw [more, more, reg_num, reg_num, h, stps_xor, stps_xor, stps_xor, xor_zero_iff]
  rw [inv, inv]
  exact eq_iff_aux _ _ _ _
theorem four_aux (o f p q : Nat) : o ^^^ (f ^^^ p) ^^^ (o ^^^ (f ^^^ q)) ^^^ (o ^^^ (f ^^^ (p ^^^ q))) ^^^ (o ^^^ (f ^^^ 0)) = 0 := by
  apply Nat.eq_of_testBit_eq; intro i; simp only [Nat.testBit_xor, Nat.zero_testBit]
  cases f.testBit i <;> cases p.testBit i <;> cases q.testBit i <;> cases o.testBit i <;> rfl
/-- the four sums of two texts of one length. -/
theorem more_four (a b x z : List Int) (n : Nat) (ha : a.length = n) (hb : b.length = n) (hx : x.length = n) (hz : z.length = n)
    (hX : num x = num a ^^^ num b) (hZ : num z = 0) : more 0 a ^^^ more 0 b ^^^ more 0 x ^^^ more 0 z = 0 := by
  rw [more, more, more, more, reg_num, reg_num, reg_num, reg_num, ha, hb, hx, hz, hX, hZ, stps_xor, stps_xor, stps_xor, stps_xor, stps_xor, stps_zero]
  rw [inv, inv, inv, inv]
  exact four_aux _ _ _ _

end Crc
end Go.Proofs.Ytkkjppdooaipiaa
