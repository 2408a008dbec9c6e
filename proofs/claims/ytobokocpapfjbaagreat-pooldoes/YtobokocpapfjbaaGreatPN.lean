/- A disk's pages as they are told: what a write, a sync and a cut make of them. -/
import Derived.Test.YtobokocpapfjbaaGreatDT
namespace Go.Proofs.YtobokocpapfjbaaGreat
open Go.RowKit Go.Maps
set_option linter.unusedVariables false

theorem newest_same {S S' : DS} (h1 : S'.ls = S.ls) (h2 : S'.ws = S.ws) (n : Nat) : newest S' n = newest S n := by unfold newest; rw [h1, h2]
theorem newest_add (S : DS) (n : Nat) (ys : List Int) (m : Nat) : newest (S.add n ys) m = if n = m then ys else newest S m := by
  unfold newest DS.add
  simp only
  rw [lastAt_snoc]
  by_cases h : n = m
  · simp [h]
  · simp only [h, if_false]
    cases hl : lastAt S.ws m with
    | none => rfl
    | some i =>
      have := (lastAt_some hl).1
      simp [List.getD_eq_getElem?_getD, List.getElem?_append_left this]
theorem newest_adds (S : DS) (b : Nat) (zs : List Int) : ∀ k n, newest (S.adds b zs k) n = if b ≤ n ∧ n < b + k then sec zs (n - b) else newest S n
  | 0, n => by rw [DS.adds_zero, if_neg (by omega)]
  | k + 1, n => by
    rw [DS.adds_succ, newest_add, newest_adds S b zs k n]
    by_cases h : b + k = n
    · subst h
      rw [if_pos rfl, if_pos (by omega), Nat.add_sub_cancel_left]
    · rw [if_neg h]
      by_cases h2 : b ≤ n ∧ n < b + k
      · rw [if_pos h2, if_pos (by omega)]
      · rw [if_neg h2, if_neg (by omega)]
theorem rd_congr {S S' : DS} (b k : Nat) (h : ∀ i, i < k → newest S' (b + i) = newest S (b + i)) : rd S' b k = rd S b k := by
  unfold rd
  congr 1
  apply List.map_congr_left
  intro i hi
  exact h i (List.mem_range.1 hi)
theorem secs (zs : List Int) : ∀ k, ((List.range k).map (sec zs)).flatten = zs.take (k * 128)
  | 0 => by simp
  | k + 1 => by
    rw [List.range_succ, List.map_append, List.flatten_append, secs zs k]
    simp only [List.map_cons, List.map_nil, List.flatten_cons, List.flatten_nil, List.append_nil]
    rw [Nat.add_mul, Nat.one_mul, List.take_add]
    rfl
theorem rd_adds_same (S : DS) (pg : Nat) (zs : List Int) (h : zs.length = 1024) : rd (S.adds (8 * pg) zs 8) (8 * pg) 8 = zs := by
  have e : rd (S.adds (8 * pg) zs 8) (8 * pg) 8 = ((List.range 8).map (sec zs)).flatten := by
    unfold rd
    congr 1
    apply List.map_congr_left
    intro i hi
    have hi := List.mem_range.1 hi
    rw [newest_adds, if_pos (by omega), Nat.add_sub_cancel_left]
  rw [e, secs, List.take_of_length_le (by omega)]
theorem rd_adds_other (S : DS) (pg pg' : Nat) (zs : List Int) (h : pg ≠ pg') : rd (S.adds (8 * pg) zs 8) (8 * pg') 8 = rd S (8 * pg') 8 :=
  rd_congr _ _ fun i hi => by rw [newest_adds, if_neg (by omega)]
theorem rd_same {S S' : DS} (h1 : S'.ls = S.ls) (h2 : S'.ws = S.ws) (b k : Nat) : rd S' b k = rd S b k := rd_congr _ _ fun i _ => newest_same h1 h2 _
theorem settled_left' (ls : List (List Int)) (ws vs : List (Nat × List Int)) (f : Nat → Bool) : ∀ k, k ≤ ws.length → settled ls (ws ++ vs) f k = settled ls ws f k
  | 0, _ => rfl
  | k + 1, hk => by
    rw [settled, settled, settled_left' ls ws vs f k (by omega)]
    have e : (ws ++ vs).getD k (0, []) = ws.getD k (0, []) := by simp [List.getD_eq_getElem?_getD, List.getElem?_append_left (show k < ws.length by omega)]
    rw [e]
theorem settled_newest (ls : List (List Int)) : ∀ (k : Nat) (S : DS), S.ls = ls → S.ws.length = k → ∀ n, n < ls.length → (settled ls S.ws yes k).getD n [] = newest S n
  | 0, S, hls, hk, n, hn => by
    have e : S.ws = [] := List.eq_nil_of_length_eq_zero hk
    simp [settled, newest, e, lastAt, hls]
  | k + 1, S, hls, hk, n, hn => by
    obtain ⟨ws, x, e⟩ : ∃ ws x, S.ws = ws ++ [x] := by
      rcases List.eq_nil_or_concat S.ws with e | ⟨ws, x, e⟩
      · rw [e] at hk; simp at hk
      · exact ⟨ws, x, by rw [e, List.concat_eq_append]⟩
    have hk' : ws.length = k := by rw [e] at hk; simpa using hk
    have hS : newest S n = newest ({ S with ws := ws } |>.add x.1 x.2) n := newest_same (S' := S) (S := { S with ws := ws } |>.add x.1 x.2) rfl e n
    rw [hS, newest_add, e, settled, settled_left' ls ws [x] yes k (by omega), if_pos (show yes k = true from rfl)]
    have e2 : (ws ++ [x]).getD k (0, []) = x := by rw [← hk']; simp
    have ih := settled_newest ls k { S with ws := ws } hls hk' n hn
    simp only at ih
    rw [e2]
    by_cases h : x.1 = n
    · rw [if_pos h, h]
      simp [List.getD_eq_getElem?_getD, settled_len, hn]
    · rw [if_neg h, ← ih]
      simp [List.getD_eq_getElem?_getD, h]
theorem newest_set {S : DS} (n : Nat) (hn : n < S.ls.length) : newest (S.set yes) n = newest S n := by
  rw [← settled_newest S.ls S.ws.length S rfl rfl n hn]
  simp [newest, DS.set, lastAt]
theorem rd_set {S : DS} (b k : Nat) (h : b + k ≤ S.ls.length) : rd (S.set yes) b k = rd S b k := rd_congr _ _ fun i hi => newest_set _ (by omega)
theorem rd_cut {S : DS} (b k : Nat) (bs : List Bool) (h : S.ws = []) : rd (S.cut bs) b k = rd S b k := rd_congr _ _ fun i hi => by
  refine newest_same ?_ ?_ _
  · show settled S.ls S.ws _ S.ws.length = S.ls
    rw [h]; rfl
  · rw [h]; rfl
theorem new_newest (n i : Nat) (h : i < n) : newest (DS.new n) i = List.replicate 128 0 := by
  simp [newest, DS.new, lastAt, h, List.getD_eq_getElem?_getD]
theorem new_rd (n b k : Nat) (h : b + k ≤ n) : rd (DS.new n) b k = List.replicate (k * 128) 0 := by
  induction k with
  | zero => simp [rd]
  | succ k ih => rw [rd_succ, ih (by omega), new_newest n (b + k) (by omega), List.replicate_append_replicate, Nat.add_mul, Nat.one_mul]
theorem rd_byts {S : DS} (h : S.Good) (b : Nat) : ∀ k, b + k ≤ S.ls.length → Byts (rd S b k)
  | 0, _ => by intro c hc; simp [rd] at hc
  | k + 1, hk => by
    rw [rd_succ]
    refine (rd_byts h b k (by omega)).append ?_
    unfold newest
    cases hl : lastAt S.ws (b + k) with
    | none =>
      simp only
      rw [List.getD_eq_getElem?_getD, List.getElem?_eq_getElem (by omega)]
      exact (h.ls _ (List.getElem_mem _)).2
    | some i =>
      obtain ⟨h1, x, h2, h3⟩ := lastAt_some hl
      simp only
      rw [List.getD_eq_getElem?_getD, h2]
      exact (h.ws x (List.mem_of_getElem? h2)).2.2
end Go.Proofs.YtobokocpapfjbaaGreat
/- Plain mathematics of the checksum: one step of the register, over numbers of any width; it is linear, and a text's register is so many steps of one great number. -/
namespace Go.Proofs.YtobokocpapfjbaaGreat
namespace Crc

/-- one bit of the register. -/
def stp (n : Nat) : Nat := if n % 2 = 1 then (n / 2) ^^^ 2197175160 else n / 2
/-- so many bits. -/
def stps : Nat → Nat → Nat
  | 0, n => n
  | k + 1, n => stps k (stp n)
/-- one byte. -/
def byt (r c : Nat) : Nat := stps 8 (r ^^^ c)
/-- a text. -/
def reg : Nat → List Int → Nat
  | r, [] => r
  | r, c :: t => reg (byt r c.toNat) t
/-- all bits. -/
def ones : Nat := 4294967295
/-- every bit turned. -/
def inv (a : Nat) : Nat := ones ^^^ a
/-- the checksum of what had s, and l behind it. -/
def more (s : Nat) (l : List Int) : Nat := inv (reg (inv s) l)
/-- a text as a number, the lowest byte first. -/
def num : List Int → Nat
  | [] => 0
  | c :: t => c.toNat ^^^ (256 * num t)

theorem xor_div2 (a b : Nat) : (a ^^^ b) / 2 = a / 2 ^^^ b / 2 := by
  have h := Nat.shiftRight_xor_distrib (a := a) (b := b) (i := 1)
  simpa [Nat.shiftRight_eq_div_pow] using h
theorem xor_mod2 (a b : Nat) : (a ^^^ b) % 2 = (a % 2 + b % 2) % 2 := by
  have h := Nat.testBit_xor a b 0
  simp only [Nat.testBit_zero] at h
  rcases Nat.mod_two_eq_zero_or_one a with h1 | h1 <;> rcases Nat.mod_two_eq_zero_or_one b with h2 | h2 <;> rcases Nat.mod_two_eq_zero_or_one (a ^^^ b) with h3 | h3 <;> simp [h1, h2, h3] at h ⊢
theorem xor_zero_iff (a b : Nat) : a ^^^ b = 0 ↔ a = b := by
  constructor
  · intro h
    have e : a ^^^ b ^^^ b = 0 ^^^ b := by rw [h]
    rw [Nat.xor_assoc, Nat.xor_self, Nat.xor_zero, Nat.zero_xor] at e
    exact e
  · intro h; rw [h, Nat.xor_self]

theorem stp_xor (a b : Nat) : stp (a ^^^ b) = stp a ^^^ stp b := by
  unfold stp
  rw [xor_div2]
  have hm := xor_mod2 a b
  by_cases ha : a % 2 = 1 <;> by_cases hb : b % 2 = 1
  · rw [if_neg (by omega), if_pos ha, if_pos hb]
    apply Nat.eq_of_testBit_eq; intro i; simp only [Nat.testBit_xor]
    cases (a / 2).testBit i <;> cases (b / 2).testBit i <;> cases Nat.testBit 2197175160 i <;> rfl
  · rw [if_pos (by omega), if_pos ha, if_neg hb]
    apply Nat.eq_of_testBit_eq; intro i; simp only [Nat.testBit_xor]
    cases (a / 2).testBit i <;> cases (b / 2).testBit i <;> cases Nat.testBit 2197175160 i <;> rfl
  · rw [if_pos (by omega), if_neg ha, if_pos hb, Nat.xor_assoc]
  · rw [if_neg (by omega), if_neg ha, if_neg hb]
theorem stp_two (a : Nat) : stp (2 * a) = a := by
  unfold stp; rw [if_neg (by omega)]; omega
theorem stp_lt (a : Nat) (h : a < 4294967296) : stp a < 4294967296 := by
  unfold stp; split
  · exact Nat.xor_lt_two_pow (n := 32) (by omega) (by decide)
  · omega
theorem stp_zero_of (a : Nat) (h : a < 4294967296) (e : stp a = 0) : a = 0 := by
  unfold stp at e
  by_cases ha : a % 2 = 1
  · rw [if_pos ha, xor_zero_iff] at e; omega
  · rw [if_neg ha] at e; omega

theorem stps_xor (k a b : Nat) : stps k (a ^^^ b) = stps k a ^^^ stps k b := by
  induction k generalizing a b with
  | zero => rfl
  | succ k ih => simp only [stps]; rw [stp_xor, ih]
theorem stps_add (j k a : Nat) : stps (j + k) a = stps k (stps j a) := by
  induction j generalizing a with
  | zero => rw [Nat.zero_add]; rfl
  | succ j ih => rw [Nat.succ_add]; simp only [stps]; rw [ih]
theorem stps_succ (k a : Nat) : stps (k + 1) a = stp (stps k a) := by
  rw [stps_add]; rfl
theorem stps_shift (k a : Nat) : stps k (2 ^ k * a) = a := by
  induction k generalizing a with
  | zero => simp [stps]
  | succ k ih =>
    simp only [stps]
    have e : 2 ^ (k + 1) * a = 2 * (2 ^ k * a) := by rw [Nat.pow_succ, Nat.mul_comm (2 ^ k) 2, Nat.mul_assoc]
    rw [e, stp_two, ih]
theorem stps_lt (k a : Nat) (h : a < 4294967296) : stps k a < 4294967296 := by
  induction k generalizing a with
  | zero => exact h
  | succ k ih => exact ih _ (stp_lt a h)
theorem stps_zero (k : Nat) : stps k 0 = 0 := by
  induction k with
  | zero => rfl
  | succ k ih => simp only [stps]; exact ih
theorem stps_zero_of (k a : Nat) (h : a < 4294967296) (e : stps k a = 0) : a = 0 := by
  induction k generalizing a with
  | zero => exact e
  | succ k ih => exact stp_zero_of a h (ih _ (stp_lt a h) e)

/-- four bits at once, by the table of what half a byte comes to. -/
theorem half (r : Nat) : r / 16 ^^^ stps 4 (r % 16) = stps 4 r := by
  have e : r = (2 ^ 4 * (r / 16)) ^^^ (r % 16) := by
    have h := Nat.two_pow_add_eq_or_of_lt (i := 4) (b := r % 16) (by omega) (r / 16)
    have hd : 2 ^ 4 * (r / 16) + r % 16 = r := by omega
    have hx : 2 ^ 4 * (r / 16) ^^^ r % 16 = 2 ^ 4 * (r / 16) ||| r % 16 := by
      apply Nat.eq_of_testBit_eq; intro i
      simp only [Nat.testBit_xor, Nat.testBit_or]
      by_cases hi : i < 4
      · have : (2 ^ 4 * (r / 16)).testBit i = false := by
          rw [Nat.testBit_two_pow_mul]; simp; omega
        rw [this]; simp
      · have : (r % 16).testBit i = false := by
          apply Nat.testBit_lt_two_pow
          have : 2 ^ 4 ≤ 2 ^ i := Nat.pow_le_pow_right (by omega) (by omega)
          omega
        rw [this]; simp
    rw [hx, ← h, hd]
  have h2 : stps 4 ((2 ^ 4 * (r / 16)) ^^^ (r % 16)) = stps 4 r := congrArg (stps 4) e.symm
  rw [← h2, stps_xor, stps_shift]
theorem two_halves (r c : Nat) : stps 4 (stps 4 (r ^^^ c)) = byt r c := by
  unfold byt; rw [← stps_add]

theorem reg_nil (r : Nat) : reg r [] = r := rfl
theorem byt_lt (r c : Nat) (h : r < 4294967296) (hc : c < 256) : byt r c < 4294967296 :=
  stps_lt 8 _ (Nat.xor_lt_two_pow (n := 32) (by omega) (by omega))
theorem reg_lt (r : Nat) (l : List Int) (h : r < 4294967296) (hl : ∀ c ∈ l, 0 ≤ c ∧ c ≤ 255) : reg r l < 4294967296 := by
  induction l generalizing r with
  | nil => exact h
  | cons c t ih =>
    have hc := hl c (by simp)
    exact ih _ (byt_lt r c.toNat h (by omega)) (fun d hd => hl d (by simp [hd]))
theorem reg_append (r : Nat) (l m : List Int) : reg r (l ++ m) = reg (reg r l) m := by
  induction l generalizing r with
  | nil => rfl
  | cons c t ih => exact ih _
theorem reg_snoc (r : Nat) (l : List Int) (c : Int) : reg r (l ++ [c]) = byt (reg r l) c.toNat := by
  rw [reg_append]; rfl
theorem reg_cons (r : Nat) (c : Int) (t : List Int) : reg r (c :: t) = reg (byt r c.toNat) t := rfl
theorem num_cons (c : Int) (t : List Int) : num (c :: t) = c.toNat ^^^ (256 * num t) := rfl
theorem stps_k (k a m : Nat) : stps k (a ^^^ 2 ^ k * m) = stps k a ^^^ m := by
  rw [stps_xor, stps_shift]
theorem byt_num (r c m : Nat) : stps 8 (r ^^^ (c ^^^ 256 * m)) = byt r c ^^^ m := by
  have h := stps_k 8 (r ^^^ c) m
  have e : (2 : Nat) ^ 8 = 256 := by decide
  rw [e, Nat.xor_assoc] at h
  exact h
theorem reg_num (r : Nat) (l : List Int) : reg r l = stps (8 * l.length) (r ^^^ num l) := by
  induction l generalizing r with
  | nil => rw [num, Nat.xor_zero]; rfl
  | cons c t ih =>
    have e : 8 * (c :: t).length = 8 + 8 * t.length := by rw [List.length_cons]; omega
    rw [e, stps_add, num_cons, byt_num, reg_cons, ih]
theorem xor_lt32 (f a : Nat) (h0 : f < 4294967296) (h : a < 4294967296) : f ^^^ a < 4294967296 :=
  Nat.xor_lt_two_pow (n := 32) (by omega) (by omega)
theorem inv_lt (a : Nat) (h : a < 4294967296) : inv a < 4294967296 := by
  rw [inv]; exact xor_lt32 ones a (by rw [ones]; omega) h
theorem xor_twice (f a : Nat) : f ^^^ (f ^^^ a) = a := by
  rw [← Nat.xor_assoc, Nat.xor_self, Nat.zero_xor]
theorem more_lt (s : Nat) (l : List Int) (h : s < 4294967296) (hl : ∀ c ∈ l, 0 ≤ c ∧ c ≤ 255) : more s l < 4294967296 :=
  inv_lt _ (reg_lt _ _ (inv_lt _ h) hl)
theorem inv_inv (a : Nat) : inv (inv a) = a := by
  rw [inv, inv]; exact xor_twice ones a
theorem more_more (s : Nat) (l m : List Int) : more (more s l) m = more s (l ++ m) := by
  unfold more; rw [inv_inv, reg_append]
theorem more_nil (s : Nat) : more s [] = s := by
  rw [more, reg_nil, inv_inv]
theorem xor_left (a b c : Nat) (h : a ^^^ b = a ^^^ c) : b = c := by
  have e : a ^^^ (a ^^^ b) = a ^^^ (a ^^^ c) := by rw [h]
  rw [← Nat.xor_assoc, ← Nat.xor_assoc, Nat.xor_self, Nat.zero_xor, Nat.zero_xor] at e
  exact e
theorem eq_iff_aux (o f p q : Nat) : o ^^^ (f ^^^ p) = o ^^^ (f ^^^ q) ↔ p = q := by
  constructor
  · intro e; exact xor_left _ _ _ (xor_left _ _ _ e)
  · intro e; rw [e]
theorem more_eq_iff (a b : List Int) (h : a.length = b.length) : more 0 a = more 0 b ↔ stps (8 * b.length) (num a ^^^ num b) = 0 := by
  rw [more, more, reg_num, reg_num, h, stps_xor, stps_xor, stps_xor, xor_zero_iff]
  rw [inv, inv]
  exact eq_iff_aux _ _ _ _
theorem four_aux (o f p q : Nat) : o ^^^ (f ^^^ p) ^^^ (o ^^^ (f ^^^ q)) ^^^ (o ^^^ (f ^^^ (p ^^^ q))) ^^^ (o ^^^ (f ^^^ 0)) = 0 := by
  apply Nat.eq_of_testBit_eq; intro i; simp only [Nat.testBit_xor, Nat.zero_testBit]
  cases f.testBit i <;> cases p.testBit i <;> cases q.testBit i <;> cases o.testBit i <;> rfl
/-- the four sums of two texts of one length. -/
theorem more_four (a b x z : List Int) (n : Nat) (ha : a.length = n) (hb : b.length = n) (hx : x.length = n) (hz : z.length = n)
    (hX : num x = num a ^^^ num b) (hZ : num z = 0) : more 0 a ^^^ more 0 b ^^^ more 0 x ^^^ more 0 z = 0 := by
  rw [more, more, more, more, reg_num, reg_num, reg_num, reg_num, ha, hb, hx, hz, hX, hZ, stps_xor, stps_xor, stps_xor, stps_xor, stps_xor, stps_zero]
  rw [inv, inv, inv, inv]
  exact four_aux _ _ _ _

end Crc
end Go.Proofs.YtobokocpapfjbaaGreat
/- Plain mathematics of a change within 32 bits that stand in a row. -/
namespace Go.Proofs.YtobokocpapfjbaaGreat
namespace Crc

theorem shl_xor (f x y : Nat) : 2 ^ f * (x ^^^ y) = 2 ^ f * x ^^^ 2 ^ f * y := by
  have h := Nat.shiftLeft_xor_distrib (a := x) (b := y) (i := f)
  simp only [Nat.shiftLeft_eq] at h
  rw [Nat.mul_comm _ (x ^^^ y), Nat.mul_comm _ x, Nat.mul_comm _ y]
  exact h
theorem mul256_xor (x y : Nat) : 256 * (x ^^^ y) = 256 * x ^^^ 256 * y := by
  have h := shl_xor 8 x y
  have e : (2 : Nat) ^ 8 = 256 := by decide
  rw [e] at h
  exact h

/-- the changed bits that lie in the text, of the first k. -/
def eff (C F M : Nat) : Nat → Nat
  | 0 => 0
  | k + 1 => if C.testBit k = true ∧ F + k < M then eff C F M k ^^^ 2 ^ k else eff C F M k
theorem eff_lt (C F M k : Nat) : eff C F M k < 2 ^ k := by
  induction k with
  | zero => exact Nat.one_pos
  | succ k ih =>
    rw [eff]
    have hp : 2 ^ k < 2 ^ (k + 1) := Nat.pow_lt_pow_right (by omega) (by omega)
    split
    · exact Nat.xor_lt_two_pow (by omega) hp
    · omega
theorem eff_yes (C F M k : Nat) (h1 : C.testBit k = true) (h2 : F + k < M) : eff C F M (k + 1) = eff C F M k ^^^ 2 ^ k := by
  rw [eff, if_pos ⟨h1, h2⟩]
theorem eff_no (C F M k : Nat) (h : ¬ (C.testBit k = true ∧ F + k < M)) : eff C F M (k + 1) = eff C F M k := by
  rw [eff, if_neg h]
theorem eff_ne (C F M k : Nat) (h1 : C.testBit k = true) (h2 : F + k < M) : eff C F M (k + 1) ≠ 0 := by
  rw [eff_yes C F M k h1 h2]
  intro h
  have e := (xor_zero_iff _ _).1 h
  have := eff_lt C F M k
  omega

/-- one byte of a text with some bits turned. -/
theorem num_set (xs : List Int) (j : Nat) (hj : j < xs.length) (c : Int) (d : Nat) (hc : c.toNat = (xs.getD j 0).toNat ^^^ d) : num (xs.set j c) = num xs ^^^ (2 ^ (8 * j) * d) := by
  induction xs generalizing j with
  | nil => simp at hj
  | cons x t ih =>
    cases j with
    | zero =>
      have hc' : c.toNat = x.toNat ^^^ d := hc
      rw [List.set_cons_zero, num_cons, num_cons, hc', Nat.mul_zero, Nat.pow_zero, Nat.one_mul, Nat.xor_assoc, Nat.xor_comm d, Nat.xor_assoc]
    | succ j =>
      have h := ih j (by simpa using hj) hc
      have e : 2 ^ (8 * (j + 1)) * d = 256 * (2 ^ (8 * j) * d) := by
        rw [Nat.mul_add, Nat.pow_add, ← Nat.mul_assoc 256, Nat.mul_comm 256 (2 ^ (8 * j))]
      rw [List.set_cons_succ, num_cons, num_cons, h, mul256_xor, e, Nat.xor_assoc]
/-- one round: bit F + k is turned. -/
theorem num_round (xs zs : List Int) (F k E j t : Nat) (c : Int) (hj : j < xs.length) (hb : F + k = 8 * j + t) (hn : num xs = num zs ^^^ 2 ^ F * E) (hc : c.toNat = (xs.getD j 0).toNat ^^^ 2 ^ t) :
    num (xs.set j c) = num zs ^^^ 2 ^ F * (E ^^^ 2 ^ k) := by
  rw [num_set xs j hj c (2 ^ t) hc, hn, shl_xor, ← Nat.pow_add, ← Nat.pow_add, hb, Nat.xor_assoc]
/-- the sums are unlike just if a bit has been turned. -/
theorem burst (xs zs : List Int) (F E : Nat) (hl : xs.length = zs.length) (hF : F ≤ 8 * zs.length) (hE : E < 4294967296) (hn : num xs = num zs ^^^ 2 ^ F * E) : more 0 xs = more 0 zs ↔ E = 0 := by
  rw [more_eq_iff xs zs hl, hn, Nat.xor_comm (num zs), Nat.xor_assoc, Nat.xor_self, Nat.xor_zero]
  have e : 8 * zs.length = F + (8 * zs.length - F) := by omega
  rw [e, stps_add, stps_shift]
  constructor
  · intro h; exact stps_zero_of _ _ hE h
  · intro h; rw [h, stps_zero]
end Crc
end Go.Proofs.YtobokocpapfjbaaGreat
/- Plain mathematics of pages: numbers as bytes, the lowest first; bytes with their checksum behind them. -/
namespace Go.Proofs.YtobokocpapfjbaaGreat
namespace Crc

/-- a number in k bytes, the lowest first. -/
def le : Nat → Nat → List Int
  | 0, _ => []
  | k + 1, n => ((n % 256 : Nat) : Int) :: le k (n / 256)
/-- the number that bytes are, the lowest first. -/
def leV : List Int → Nat
  | [] => 0
  | c :: t => c.toNat + 256 * leV t
def B8 (l : List Int) : Prop := ∀ c ∈ l, 0 ≤ c ∧ c ≤ 255
theorem B8.cons {c : Int} {t : List Int} (h : B8 (c :: t)) : (0 ≤ c ∧ c ≤ 255) ∧ B8 t := ⟨h c (by simp), fun d hd => h d (by simp [hd])⟩
theorem le_length (k n : Nat) : (le k n).length = k := by
  induction k generalizing n with
  | zero => rfl
  | succ k ih => simp [le, ih]
theorem le_b8 (k n : Nat) : B8 (le k n) := by
  induction k generalizing n with
  | zero => intro c hc; simp [le] at hc
  | succ k ih =>
    intro c hc
    simp only [le, List.mem_cons] at hc
    rcases hc with rfl | hc
    · omega
    · exact ih _ c hc
theorem le_zero (k : Nat) : le k 0 = List.replicate k 0 := by
  induction k with
  | zero => rfl
  | succ k ih => simp [le, ih, List.replicate_succ]
theorem leV_le (k n : Nat) (h : n < 256 ^ k) : leV (le k n) = n := by
  induction k generalizing n with
  | zero => simp at h; subst h; rfl
  | succ k ih =>
    have hn : n / 256 < 256 ^ k := by rw [Nat.pow_succ] at h; omega
    simp only [le, leV]
    rw [ih _ hn]; omega
theorem le_leV (l : List Int) (h : B8 l) : le l.length (leV l) = l := by
  induction l with
  | nil => rfl
  | cons c t ih =>
    obtain ⟨hc, ht⟩ := h.cons
    have e1 : (c.toNat + 256 * leV t) % 256 = c.toNat := by omega
    have e2 : (c.toNat + 256 * leV t) / 256 = leV t := by omega
    simp only [List.length_cons, le, leV]
    rw [e1, e2, ih ht]
    congr 1
    omega
theorem leV_lt (l : List Int) (h : B8 l) : leV l < 256 ^ l.length := by
  induction l with
  | nil => simp [leV]
  | cons c t ih =>
    obtain ⟨hc, ht⟩ := h.cons
    have := ih ht
    rw [leV, List.length_cons, Nat.pow_succ]
    omega
theorem le_inj (k a b : Nat) (ha : a < 256 ^ k) (hb : b < 256 ^ k) (h : le k a = le k b) : a = b := by
  have := congrArg leV h
  rwa [leV_le k a ha, leV_le k b hb] at this
theorem xor_add (c m : Nat) (hc : c < 256) : c ^^^ (256 * m) = c + 256 * m := by
  have h := Nat.two_pow_add_eq_or_of_lt (i := 8) (b := c) (by omega) m
  have e : (2 : Nat) ^ 8 = 256 := by decide
  rw [e] at h
  rw [Nat.add_comm, h, Nat.xor_comm]
  apply Nat.eq_of_testBit_eq; intro i
  simp only [Nat.testBit_xor, Nat.testBit_or]
  by_cases hi : i < 8
  · have : (256 * m).testBit i = false := by
      rw [← e, Nat.testBit_two_pow_mul]; simp; omega
    rw [this]; simp
  · have : c.testBit i = false := by
      apply Nat.testBit_lt_two_pow
      have : 2 ^ 8 ≤ 2 ^ i := Nat.pow_le_pow_right (by omega) (by omega)
      omega
    rw [this]; simp
theorem leV_num (l : List Int) (h : B8 l) : leV l = num l := by
  induction l with
  | nil => rfl
  | cons c t ih =>
    obtain ⟨hc, ht⟩ := h.cons
    rw [leV, num_cons, ih ht, xor_add _ _ (by omega)]
theorem stps_inj (k a b : Nat) (ha : a < 4294967296) (hb : b < 4294967296) (h : stps k a = stps k b) : a = b := by
  have e : stps k (a ^^^ b) = 0 := by rw [stps_xor, h, Nat.xor_self]
  exact (xor_zero_iff _ _).1 (stps_zero_of k _ (xor_lt32 a b ha hb) e)
theorem inv_iff (r v : Nat) : r ^^^ v = ones ↔ v = inv r := by
  rw [inv]
  constructor
  · intro h; rw [← h, Nat.xor_comm r v, Nat.xor_assoc, Nat.xor_self, Nat.xor_zero]
  · intro h; rw [h, Nat.xor_comm ones, xor_twice]
/-- the sum behind some bytes is right just if the register behind all is what it then always is. -/
theorem right_iff (l t : List Int) (ht : t.length = 4) (hl : B8 l) (h8 : B8 t) : leV t = more 0 l ↔ reg (inv 0) (l ++ t) = stps 32 ones := by
  have hr : reg (inv 0) l < 4294967296 := reg_lt _ _ (inv_lt _ (by omega)) hl
  have hv := leV_lt t h8
  rw [ht] at hv
  have e4 : (256 : Nat) ^ 4 = 4294967296 := by decide
  rw [e4] at hv
  rw [reg_append, reg_num, ht, ← leV_num t h8]
  have e8 : 8 * 4 = 32 := rfl
  rw [e8]
  have ho : ones < 4294967296 := by rw [ones]; omega
  have h0 : more 0 l = inv (reg (inv 0) l) := by rw [more]
  rw [h0, ← inv_iff]
  constructor
  · intro h; rw [h]
  · intro h; exact stps_inj 32 _ _ (xor_lt32 _ _ hr hv) ho h
/-- bytes with a right sum behind them, some bits of 32 in a row turned: the sum is right no more, unless none was turned. -/
theorem turned_right (P T : List Int) (F E : Nat) (hl : T.length = P.length) (hF : F ≤ 8 * P.length) (hE : E < 4294967296) (hn : num T = num P ^^^ 2 ^ F * E)
    (hP : reg (inv 0) P = stps 32 ones) : reg (inv 0) T = stps 32 ones ↔ E = 0 := by
  rw [← hP, reg_num, reg_num, hl, hn]
  have e : inv 0 ^^^ (num P ^^^ 2 ^ F * E) = (inv 0 ^^^ num P) ^^^ 2 ^ F * E := by rw [Nat.xor_assoc]
  rw [e, stps_xor]
  have e2 : 8 * P.length = F + (8 * P.length - F) := by omega
  have e3 : stps (8 * P.length) (2 ^ F * E) = stps (8 * P.length - F) E := by
    rw [e2, stps_add, stps_shift, ← e2]
  rw [e3]
  constructor
  · intro h
    have h2 : stps (8 * P.length - F) E = 0 := by
      have := congrArg (fun x => stps (8 * P.length) (inv 0 ^^^ num P) ^^^ x) h
      simp only [Nat.xor_self] at this
      rw [xor_twice] at this
      exact this
    exact stps_zero_of _ _ hE h2
  · intro h; rw [h, stps_zero, Nat.xor_zero]
end Crc
end Go.Proofs.YtobokocpapfjbaaGreat
/- Plain mathematics of pages and states: their bytes, and which bytes are one. -/
namespace Go.Proofs.YtobokocpapfjbaaGreat
namespace Pg
open Crc

/-- bytes, filled up with noughts ahead of a sum. -/
def fill (size : Nat) (l : List Int) : List Int := l ++ List.replicate (size - 4 - l.length) 0
/-- with the sum. -/
def sl (size : Nat) (l : List Int) : List Int := fill size l ++ le 4 (more 0 (fill size l))
/-- the sum at the end is right, and the length. -/
def Rt (size : Nat) (zs : List Int) : Prop := zs.length = size ∧ leV (zs.drop (size - 4)) = more 0 (zs.take (size - 4))
instance (size : Nat) (zs : List Int) : Decidable (Rt size zs) := by unfold Rt; infer_instance

theorem fill_length (size : Nat) (l : List Int) (h : l.length + 4 ≤ size) : (fill size l).length = size - 4 := by
  simp [fill]; omega
theorem sl_length (size : Nat) (l : List Int) (h : l.length + 4 ≤ size) : (sl size l).length = size := by
  rw [sl, List.length_append, fill_length size l h, le_length]; omega
theorem b8_app {a b : List Int} (ha : B8 a) (hb : B8 b) : B8 (a ++ b) := fun c hc => (List.mem_append.1 hc).elim (ha c) (hb c)
theorem b8_rep (n : Nat) : B8 (List.replicate n 0) := by
  intro c hc
  have := List.eq_of_mem_replicate hc
  omega
theorem b8_take {a : List Int} (h : B8 a) (k : Nat) : B8 (a.take k) := fun c hc => h c (List.mem_of_mem_take hc)
theorem b8_drop {a : List Int} (h : B8 a) (k : Nat) : B8 (a.drop k) := fun c hc => h c (List.mem_of_mem_drop hc)
theorem fill_b8 (size : Nat) (l : List Int) (h : B8 l) : B8 (fill size l) := b8_app h (b8_rep _)
theorem sl_b8 (size : Nat) (l : List Int) (h : B8 l) : B8 (sl size l) := b8_app (fill_b8 size l h) (le_b8 _ _)
theorem more_lt4 (l : List Int) (h : B8 l) : more 0 l < 256 ^ 4 := by
  have := more_lt 0 l (by omega) h
  have e4 : (256 : Nat) ^ 4 = 4294967296 := by decide
  rw [e4]; exact this
theorem sl_right (size : Nat) (l : List Int) (h : l.length + 4 ≤ size) (h8 : B8 l) : Rt size (sl size l) := by
  refine ⟨sl_length size l h, ?_⟩
  have e := fill_length size l h
  rw [sl, List.drop_left' e, List.take_left' e, leV_le 4 _ (more_lt4 _ (fill_b8 size l h8))]
/-- bytes with a right sum are sealed. -/
theorem right_is (size : Nat) (zs : List Int) (h8 : B8 zs) (hs : 4 ≤ size) (h : Rt size zs) : zs = zs.take (size - 4) ++ le 4 (more 0 (zs.take (size - 4))) := by
  obtain ⟨h1, h2⟩ := h
  have e : (zs.drop (size - 4)).length = 4 := by rw [List.length_drop]; omega
  have e2 := le_leV (zs.drop (size - 4)) (b8_drop h8 _)
  rw [e, h2] at e2
  rw [e2, List.take_append_drop]
/-- in the register's words. -/
theorem right_reg (size : Nat) (zs : List Int) (h8 : B8 zs) (hs : 4 ≤ size) (hl : zs.length = size) : Rt size zs ↔ reg (inv 0) zs = stps 32 ones := by
  have e : (zs.drop (size - 4)).length = 4 := by rw [List.length_drop]; omega
  have h := right_iff (zs.take (size - 4)) (zs.drop (size - 4)) e (b8_take h8 _) (b8_drop h8 _)
  rw [List.take_append_drop] at h
  rw [← h, Rt]
  simp [hl]
/-- what is sealed, with some bits of 32 in a row turned, is right just if none was. -/
theorem turned_rt (size : Nat) (P T : List Int) (F E : Nat) (hs : 4 ≤ size) (hP8 : B8 P) (hT8 : B8 T) (hP : Rt size P) (hl : T.length = P.length) (hF : F ≤ 8 * P.length) (hE : E < 4294967296) (hn : num T = num P ^^^ 2 ^ F * E) :
    Rt size T ↔ E = 0 := by
  have hp := (right_reg size P hP8 hs hP.1).1 hP
  rw [right_reg size T hT8 hs (hl.trans hP.1)]
  exact turned_right P T F E hl hF hE hn hp
theorem num_inj (a b : List Int) (hl : a.length = b.length) (ha : B8 a) (hb : B8 b) (h : num a = num b) : a = b := by
  rw [← leV_num a ha, ← leV_num b hb] at h
  have h1 := le_leV a ha
  have h2 := le_leV b hb
  rw [hl, h, h2] at h1
  exact h1.symm

/-- the bytes of a page ahead of its sum. -/
def pb (kind number : Nat) (pl : List Int) : List Int := [67, 80] ++ (le 1 kind ++ (le 1 0 ++ (le 4 number ++ (le 2 pl.length ++ (le 2 0 ++ (pl ++ List.replicate (1008 - pl.length) 0))))))
/-- a page's head and payload, as they are laid down. -/
def ph (kind number : Nat) (pl : List Int) : List Int := ([67, 80] ++ le 1 kind ++ le 1 0 ++ le 4 number ++ le 2 pl.length ++ le 2 0) ++ pl
/-- a page. -/
def pg (kind number : Nat) (pl : List Int) : List Int := sl 1024 (ph kind number pl)
theorem ph_length (kind number : Nat) (pl : List Int) : (ph kind number pl).length = 12 + pl.length := by
  simp [ph, le_length]; omega
theorem fill_ph (kind number : Nat) (pl : List Int) : fill 1024 (ph kind number pl) = pb kind number pl := by
  have e : 1024 - 4 - (ph kind number pl).length = 1008 - pl.length := by rw [ph_length]; omega
  rw [fill, e]
  simp [ph, pb]
theorem pg_eq (kind number : Nat) (pl : List Int) : pg kind number pl = pb kind number pl ++ le 4 (more 0 (pb kind number pl)) := by rw [pg, sl, fill_ph]
theorem cp8 : B8 [67, 80] := by intro c hc; simp at hc; omega
theorem ph_b8 (kind number : Nat) (pl : List Int) (h : B8 pl) : B8 (ph kind number pl) :=
  b8_app (b8_app (b8_app (b8_app (b8_app (b8_app cp8 (le_b8 _ _)) (le_b8 _ _)) (le_b8 _ _)) (le_b8 _ _)) (le_b8 _ _)) h
theorem pb_b8 (kind number : Nat) (pl : List Int) (h : B8 pl) : B8 (pb kind number pl) := by rw [← fill_ph]; exact fill_b8 _ _ (ph_b8 _ _ _ h)
theorem pg_b8 (kind number : Nat) (pl : List Int) (h : B8 pl) : B8 (pg kind number pl) := sl_b8 _ _ (ph_b8 _ _ _ h)
theorem pb_length (kind number : Nat) (pl : List Int) (h : pl.length ≤ 1008) : (pb kind number pl).length = 1020 := by
  rw [← fill_ph, fill_length _ _ (by rw [ph_length]; omega)]
theorem pg_length (kind number : Nat) (pl : List Int) (h : pl.length ≤ 1008) : (pg kind number pl).length = 1024 := sl_length _ _ (by rw [ph_length]; omega)
theorem pg_right (kind number : Nat) (pl : List Int) (h : pl.length ≤ 1008) (h8 : B8 pl) : Rt 1024 (pg kind number pl) := sl_right _ _ (by rw [ph_length]; omega) (ph_b8 _ _ _ h8)
theorem pg_take (kind number : Nat) (pl : List Int) (h : pl.length ≤ 1008) : (pg kind number pl).take 1020 = pb kind number pl := by
  rw [pg_eq]; exact List.take_left' (pb_length kind number pl h)

/-- bytes ahead of a sum, cut as a page is. -/
theorem cut6 (B : List Int) (h : B.length = 1020) : ∃ x1 x2 x3 x4 x5 x6 R : List Int, B = x1 ++ (x2 ++ (x3 ++ (x4 ++ (x5 ++ (x6 ++ R))))) ∧ x1.length = 2 ∧ x2.length = 1 ∧ x3.length = 1 ∧ x4.length = 4 ∧ x5.length = 2 ∧ x6.length = 2 ∧ R.length = 1008 := by
  refine ⟨B.take 2, (B.drop 2).take 1, (B.drop 3).take 1, (B.drop 4).take 4, (B.drop 8).take 2, (B.drop 10).take 2, B.drop 12, ?_, by simp [h], by simp [h], by simp [h], by simp [h], by simp [h], by simp [h], by simp [h]⟩
  have e6 : (B.drop 10).take 2 ++ B.drop 12 = B.drop 10 := by have := List.take_append_drop 2 (B.drop 10); rwa [List.drop_drop] at this
  have e5 : (B.drop 8).take 2 ++ B.drop 10 = B.drop 8 := by have := List.take_append_drop 2 (B.drop 8); rwa [List.drop_drop] at this
  have e4 : (B.drop 4).take 4 ++ B.drop 8 = B.drop 4 := by have := List.take_append_drop 4 (B.drop 4); rwa [List.drop_drop] at this
  have e3 : (B.drop 3).take 1 ++ B.drop 4 = B.drop 3 := by have := List.take_append_drop 1 (B.drop 3); rwa [List.drop_drop] at this
  have e2 : (B.drop 2).take 1 ++ B.drop 3 = B.drop 2 := by have := List.take_append_drop 1 (B.drop 2); rwa [List.drop_drop] at this
  rw [e6, e5, e4, e3, e2, List.take_append_drop]
theorem peel6 (x1 x2 x3 x4 x5 x6 R y1 y2 y3 y4 y5 y6 S : List Int) (h : x1 ++ (x2 ++ (x3 ++ (x4 ++ (x5 ++ (x6 ++ R))))) = y1 ++ (y2 ++ (y3 ++ (y4 ++ (y5 ++ (y6 ++ S))))))
    (h1 : x1.length = y1.length) (h2 : x2.length = y2.length) (h3 : x3.length = y3.length) (h4 : x4.length = y4.length) (h5 : x5.length = y5.length) (h6 : x6.length = y6.length) :
    x1 = y1 ∧ x2 = y2 ∧ x3 = y3 ∧ x4 = y4 ∧ x5 = y5 ∧ x6 = y6 ∧ R = S := by
  obtain ⟨e1, h⟩ := List.append_inj h h1
  obtain ⟨e2, h⟩ := List.append_inj h h2
  obtain ⟨e3, h⟩ := List.append_inj h h3
  obtain ⟨e4, h⟩ := List.append_inj h h4
  obtain ⟨e5, h⟩ := List.append_inj h h5
  obtain ⟨e6, h⟩ := List.append_inj h h6
  exact ⟨e1, e2, e3, e4, e5, e6, h⟩

/-- what a page of that number has, by the document's own words. -/
def opn (number : Nat) (zs : List Int) : Option (Nat × List Int) :=
  if zs.length = 1024 ∧ leV ((zs.drop 8).take 2) ≤ 1008 ∧ 1 ≤ leV ((zs.drop 2).take 1) ∧ leV ((zs.drop 2).take 1) ≤ 4 ∧ zs = pg (leV ((zs.drop 2).take 1)) number ((zs.drop 12).take (leV ((zs.drop 8).take 2))) then
    some (leV ((zs.drop 2).take 1), (zs.drop 12).take (leV ((zs.drop 8).take 2))) else none
theorem le1_0 : le 1 0 = [0] := rfl
theorem le2_0 : le 2 0 = [0, 0] := rfl
theorem pg_kind (kind number : Nat) (pl : List Int) (h : kind < 256) : leV (((pg kind number pl).drop 2).take 1) = kind := by
  have e : ((pg kind number pl).drop 2).take 1 = le 1 kind := by
    rw [pg_eq, pb, List.append_assoc, List.drop_left' (by rfl), List.append_assoc]
    exact List.take_left' (le_length _ _)
  rw [e]; exact leV_le 1 kind (by omega)
theorem pg_len (kind number : Nat) (pl : List Int) (h : pl.length ≤ 1008) : leV (((pg kind number pl).drop 8).take 2) = pl.length := by
  have e : ((pg kind number pl).drop 8).take 2 = le 2 pl.length := by
    have e8 : pg kind number pl = ([67, 80] ++ (le 1 kind ++ (le 1 0 ++ le 4 number))) ++ (le 2 pl.length ++ ((le 2 0 ++ (pl ++ List.replicate (1008 - pl.length) 0)) ++ le 4 (more 0 (pb kind number pl)))) := by
      rw [pg_eq]; conv => lhs; arg 1; rw [pb]
      simp
    rw [e8, List.drop_left' (by simp [le_length])]
    exact List.take_left' (le_length _ _)
  rw [e]; exact leV_le 2 _ (by have : (256 : Nat) ^ 2 = 65536 := by decide
                               omega)
theorem pg_payload (kind number : Nat) (pl : List Int) : ((pg kind number pl).drop 12).take pl.length = pl := by
  have e8 : pg kind number pl = ([67, 80] ++ (le 1 kind ++ (le 1 0 ++ (le 4 number ++ (le 2 pl.length ++ le 2 0))))) ++ (pl ++ (List.replicate (1008 - pl.length) 0 ++ le 4 (more 0 (pb kind number pl)))) := by
    rw [pg_eq]; conv => lhs; arg 1; rw [pb]
    simp
  rw [e8, List.drop_left' (by simp [le_length])]
  exact List.take_left' rfl
theorem opn_pg (kind number : Nat) (pl : List Int) (h1 : 1 ≤ kind) (h4 : kind ≤ 4) (hl : pl.length ≤ 1008) : opn number (pg kind number pl) = some (kind, pl) := by
  rw [opn, pg_kind kind number pl (by omega), pg_len kind number pl hl, pg_payload, if_pos ⟨pg_length _ _ _ hl, hl, h1, h4, rfl⟩]
theorem opn_some {number kind : Nat} {zs pl : List Int} (h : opn number zs = some (kind, pl)) : 1 ≤ kind ∧ kind ≤ 4 ∧ pl.length ≤ 1008 ∧ zs = pg kind number pl := by
  rw [opn] at h
  split at h
  · rename_i hc
    obtain ⟨h0, h1, h2, h3, h5⟩ := hc
    cases h
    exact ⟨h2, h3, by rw [List.length_take, List.length_drop]; omega, h5⟩
  · cases h
theorem opn_none {number : Nat} {zs : List Int} (h : ∀ kind pl, 1 ≤ kind → kind ≤ 4 → pl.length ≤ 1008 → zs ≠ pg kind number pl) : opn number zs = none := by
  cases e : opn number zs with
  | none => rfl
  | some x => obtain ⟨k, pl⟩ := x; obtain ⟨h1, h2, h3, h4⟩ := opn_some e; exact absurd h4 (h k pl h1 h2 h3)
/-- bytes without a right sum are no page. -/
theorem opn_wrong {number : Nat} {zs : List Int} (h8 : B8 zs) (h : ¬ Rt 1024 zs) : opn number zs = none := by
  apply opn_none
  intro kind pl h1 h2 h3 e
  apply h
  have hp : B8 pl := by
    intro c hc
    have e2 := pg_payload kind number pl
    rw [← e] at e2
    exact h8 c (List.mem_of_mem_drop (List.mem_of_mem_take (by rw [e2]; exact hc)))
  rw [e]
  exact pg_right kind number pl h3 hp
/-- bytes with a right sum, cut as a page is. -/
theorem opn_cut {number : Nat} {zs x1 x2 x3 x4 x5 x6 R : List Int} (h8 : B8 zs) (hr : Rt 1024 zs) (hc : zs.take 1020 = x1 ++ (x2 ++ (x3 ++ (x4 ++ (x5 ++ (x6 ++ R))))))
    (l1 : x1.length = 2) (l2 : x2.length = 1) (l3 : x3.length = 1) (l4 : x4.length = 4) (l5 : x5.length = 2) (l6 : x6.length = 2) (lR : R.length = 1008) (hn : number < 4294967296) :
    (x1 = [67, 80] → 1 ≤ leV x2 → leV x2 ≤ 4 → x3 = [0] → leV x4 = number → x6 = [0, 0] → leV x5 ≤ 1008 → R.drop (leV x5) = List.replicate (1008 - leV x5) 0 → opn number zs = some (leV x2, R.take (leV x5))) ∧
    (¬ (x1 = [67, 80] ∧ 1 ≤ leV x2 ∧ leV x2 ≤ 4 ∧ x3 = [0] ∧ leV x4 = number ∧ x6 = [0, 0] ∧ leV x5 ≤ 1008 ∧ R.drop (leV x5) = List.replicate (1008 - leV x5) 0) → opn number zs = none) := by
  have b := b8_take h8 1020
  rw [hc] at b
  have bx : ∀ l : List Int, (∀ c ∈ l, c ∈ x1 ++ (x2 ++ (x3 ++ (x4 ++ (x5 ++ (x6 ++ R)))))) → B8 l := fun l hl c hc => b c (hl c hc)
  have b2 : B8 x2 := bx x2 (fun c hc => by simp [hc])
  have b4 : B8 x4 := bx x4 (fun c hc => by simp [hc])
  have b5 : B8 x5 := bx x5 (fun c hc => by simp [hc])
  constructor
  · intro e1 k1 k4 e3 e4 e6 e5 eR
    have hz := right_is 1024 zs h8 (by omega) hr
    have hlen : (R.take (leV x5)).length = leV x5 := by rw [List.length_take, lR]; omega
    have hb : zs.take 1020 = pb (leV x2) number (R.take (leV x5)) := by
      have i2 := le_leV x2 b2
      have i4 := le_leV x4 b4
      have i5 := le_leV x5 b5
      rw [l2] at i2
      rw [l4, e4] at i4
      rw [l5] at i5
      rw [hc, pb, hlen, i2, i4, i5, le1_0, le2_0, e1, e3, e6, ← eR, List.take_append_drop]
    have hz2 : zs = pg (leV x2) number (R.take (leV x5)) := by
      rw [pg_eq, ← hb]; exact hz
    rw [hz2]
    exact opn_pg _ _ _ k1 k4 (by omega)
  · intro hno
    apply opn_none
    intro kind pl h1 h4 hl e
    apply hno
    have hb : zs.take 1020 = pb kind number pl := by rw [e]; exact pg_take kind number pl hl
    rw [hc, pb] at hb
    obtain ⟨e1, e2, e3, e4, e5, e6, eR⟩ := peel6 _ _ _ _ _ _ _ _ _ _ _ _ _ _ hb (by rw [l1]; rfl) (by rw [l2, le_length]) (by rw [l3, le_length]) (by rw [l4, le_length]) (by rw [l5, le_length]) (by rw [l6, le_length])
    have v2 : leV x2 = kind := by rw [e2]; exact leV_le 1 kind (by omega)
    have v4 : leV x4 = number := by rw [e4]; exact leV_le 4 number (by have : (256 : Nat) ^ 4 = 4294967296 := by decide
                                                                       omega)
    have v5 : leV x5 = pl.length := by rw [e5]; exact leV_le 2 _ (by have : (256 : Nat) ^ 2 = 65536 := by decide
                                                                     omega)
    refine ⟨e1, by omega, by omega, e3, v4, e6, by omega, ?_⟩
    rw [v5, eR]
    exact List.drop_left' rfl
end Pg
end Go.Proofs.YtobokocpapfjbaaGreat
