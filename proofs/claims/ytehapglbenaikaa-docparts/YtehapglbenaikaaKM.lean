/- Plain mathematics of numbers as bytes: varints, numbers of fixed length, numbers of either sign. -/
import Derived.Laws.BitsAllLaws
import Derived.Laws.Bits128
namespace Go.Proofs.Ytehapglbenaikaa

/-- the bytes of a varint. -/
def vb (v : Nat) : List Int := if h : v < 128 then [(v : Int)] else ((v % 128 + 128 : Nat) : Int) :: vb (v / 128)
termination_by v
decreasing_by omega
theorem vb_small (v : Nat) (h : v < 128) : vb v = [(v : Int)] := by rw [vb, dif_pos h]
theorem vb_big (v : Nat) (h : ¬ v < 128) : vb v = ((v % 128 + 128 : Nat) : Int) :: vb (v / 128) := by rw [vb, dif_neg h]
theorem vb_byts (v : Nat) : ∀ c ∈ vb v, 0 ≤ c ∧ c ≤ 255 := by
  induction v using Nat.strongRecOn with
  | _ v ih =>
    intro c hc
    by_cases h : v < 128
    · rw [vb_small v h] at hc; simp at hc; omega
    · rw [vb_big v h] at hc
      rcases List.mem_cons.1 hc with rfl | hc
      · omega
      · exact ih (v / 128) (by omega) c hc
theorem vb_pos (v : Nat) : 1 ≤ (vb v).length := by
  by_cases h : v < 128
  · rw [vb_small v h]; simp
  · rw [vb_big v h]; simp
theorem vb_len (k v : Nat) (h : v < 128 ^ k) (hk : 1 ≤ k) : (vb v).length ≤ k := by
  induction k generalizing v with
  | zero => omega
  | succ k ih =>
    by_cases hv : v < 128
    · rw [vb_small v hv]; simp
    · rw [vb_big v hv, List.length_cons]
      have h2 : v / 128 < 128 ^ k := Nat.div_lt_of_lt_mul (by rw [Nat.mul_comm]; exact h)
      have hk1 : 1 ≤ k := by
        rcases Nat.eq_zero_or_pos k with rfl | h0
        · simp at h; omega
        · exact h0
      have := ih (v / 128) h2 hk1
      omega
theorem vb_mono (u v : Nat) (h : u ≤ v) : (vb u).length ≤ (vb v).length := by
  induction v using Nat.strongRecOn generalizing u with
  | _ v ih =>
    by_cases hu : u < 128
    · rw [vb_small u hu]; exact vb_pos v
    · rw [vb_big u hu, vb_big v (by omega), List.length_cons, List.length_cons]
      have := ih (v / 128) (by omega) (u / 128) (Nat.div_le_div_right h)
      omega
theorem vb_ten (v : Nat) (h : v < 18446744073709551616) : (vb v).length ≤ 10 := by
  have e : (128 : Nat) ^ 10 = 1180591620717411303424 := by decide
  exact vb_len 10 v (by omega) (by omega)

theorem and127 (n : Nat) (hn : n < 18446744073709551616) : bits .and .u64 (n : Int) 127 = ((n % 128 : Nat) : Int) := by
  have h := u64_and_nat n 127 hn (by omega)
  have e := Nat.and_two_pow_sub_one_eq_mod n 7
  rw [show (2 : Nat) ^ 7 - 1 = 127 from rfl, show (2 : Nat) ^ 7 = 128 from rfl] at e
  rw [e] at h
  exact h
theorem or128 (n : Nat) (hn : n < 128) : bits .or .u8 (n : Int) 128 = ((n + 128 : Nat) : Int) := by
  have h := u8_or128_right (n : Int) (by omega) (by omega)
  rw [h]; omega

/-- a number of n bytes, the highest one first. -/
def fb (v : Nat) : Nat → List Int
  | 0 => []
  | n + 1 => ((v / 256 ^ n % 256 : Nat) : Int) :: fb v n
theorem fb_len (v n : Nat) : (fb v n).length = n := by
  induction n with
  | zero => rfl
  | succ n ih => rw [fb, List.length_cons, ih]
theorem fb_byts (v n : Nat) : ∀ c ∈ fb v n, 0 ≤ c ∧ c ≤ 255 := by
  induction n with
  | zero => intro c hc; simp [fb] at hc
  | succ n ih =>
    intro c hc
    rw [fb] at hc
    rcases List.mem_cons.1 hc with rfl | hc
    · omega
    · exact ih c hc
theorem pow256 (n : Nat) : (2 : Nat) ^ (8 * n) = 256 ^ n := by rw [Nat.pow_mul]
theorem shr_run (P : Program) (v m : Nat) (hm : m < 8) (w : World) : (Op.shift .shr .u64 (v : Int) .i64 (IntKind.i64.wrap (8 * (m : Int)))).run P w = .ok (.int .u64 ((v / 256 ^ m : Nat) : Int)) w := by
  have e0 : IntKind.i64.wrap (8 * (m : Int)) = ((8 * m : Nat) : Int) := by simp [IntKind.wrap, IntKind.bits, IntKind.signed]; omega
  have e : (2 : Int) ^ (8 * m) = ((256 ^ m : Nat) : Int) := by rw [← pow256]; exact (Int.natCast_pow 2 (8 * m)).symm
  rw [e0]
  unfold Op.shift
  rw [if_neg (by omega)]
  have e1 : min ((8 * m : Nat) : Int).toNat IntKind.u64.bits = 8 * m := by rw [Int.toNat_natCast]; simp [IntKind.bits]; omega
  simp only [e1]
  rw [Int.fdiv_eq_ediv_of_nonneg _ (by rw [e]; exact Int.natCast_nonneg _), e, ← Int.natCast_ediv]
  rfl

theorem wrap8 (q : Nat) : IntKind.u8.wrap (q : Int) = ((q % 256 : Nat) : Int) := by simp [IntKind.wrap, IntKind.bits, IntKind.signed]
/-- a text's bytes. -/
def sb (s : ByteArray) : List Int := s.data.toList.map fun b => (b.toNat : Int)
theorem sb_len (s : ByteArray) : (sb s).length = s.size := by
  unfold sb
  rw [List.length_map, Array.length_toList]
  rfl
theorem sb_byts (s : ByteArray) : ∀ c ∈ sb s, 0 ≤ c ∧ c ≤ 255 := by
  intro c hc
  obtain ⟨b, _, rfl⟩ := List.mem_map.1 hc
  have := b.toNat_lt
  omega
/-- a number of either sign as one without. -/
def zz (v : Int) : Nat := if v < 0 then (-2 * v - 1).toNat else (2 * v).toNat
theorem zz_lt (v : Int) (h1 : -9223372036854775808 ≤ v) (h2 : v ≤ 9223372036854775807) : zz v < 18446744073709551616 := by
  unfold zz
  split <;> omega

theorem not_i64 (v : Int) (h1 : -9223372036854775808 ≤ v) (h2 : v ≤ 9223372036854775807) : bits .xor .i64 (-1) v = -1 - v := by
  show IntKind.i64.wrap ((BitVec.ofInt 64 (-1) ^^^ BitVec.ofInt 64 v).toNat : Int) = _
  have h1 : BitVec.ofInt 64 (-1) = BitVec.allOnes 64 := by decide
  rw [h1, BitVec.allOnes_xor, BitVec.toNat_not, BitVec.toNat_ofInt]
  simp [IntKind.wrap, IntKind.bits, IntKind.signed]
  omega
theorem or_one (n : Nat) (h : 2 * n < 18446744073709551616) : bits .or .u64 ((2 * n : Nat) : Int) 1 = ((2 * n + 1 : Nat) : Int) := by
  have e := u64_or_nat (2 * n) 1 h (by omega)
  have e2 : 2 * n ||| 1 = 2 * n + 1 := by
    have h := Nat.two_pow_add_eq_or_of_lt (i := 1) (b := 1) (by omega) n
    rw [show (2 : Nat) ^ 1 = 2 from rfl] at h
    exact h.symm
  rw [e2] at e
  exact e
theorem zz_neg (v : Int) (h1 : -9223372036854775808 ≤ v) (h : v < 0) : bits .or .u64 (IntKind.u64.wrap (IntKind.u64.wrap (bits .xor .i64 (-1) v) * 2)) 1 = ((zz v : Nat) : Int) := by
  obtain ⟨n, rfl⟩ : ∃ n : Nat, v = -1 - (n : Int) := ⟨(-1 - v).toNat, by omega⟩
  rw [not_i64 _ h1 (by omega)]
  have e1 : IntKind.u64.wrap (-1 - (-1 - (n : Int))) = (n : Int) := by simp [IntKind.wrap, IntKind.bits, IntKind.signed]; omega
  have e2 : IntKind.u64.wrap ((n : Int) * 2) = ((2 * n : Nat) : Int) := by simp [IntKind.wrap, IntKind.bits, IntKind.signed]; omega
  have e3 : zz (-1 - (n : Int)) = 2 * n + 1 := by unfold zz; rw [if_pos h]; omega
  rw [e1, e2, or_one n (by omega), e3]
theorem zz_pos (v : Int) (h2 : v ≤ 9223372036854775807) (h : ¬ v < 0) : IntKind.u64.wrap (IntKind.u64.wrap v * 2) = ((zz v : Nat) : Int) := by
  obtain ⟨n, rfl⟩ : ∃ n : Nat, v = (n : Int) := ⟨v.toNat, by omega⟩
  have e3 : zz (n : Int) = 2 * n := by unfold zz; rw [if_neg h]; omega
  rw [e3]
  simp [IntKind.wrap, IntKind.bits, IntKind.signed]; omega

/-- a varint, from its byte i on: its number, how many bytes it has, its error. -/
def vgo : Nat → Nat → List Int → Nat × Nat × Nat
  | _, _, [] => (0, 0, 20)
  | i, v, c :: t => if (i = 9 ∧ c ≠ 1) ∨ (0 < i ∧ c = 0) then (0, 0, 21) else if c < 128 then (v + c.toNat * 128 ^ i, i + 1, 0) else vgo (i + 1) (v + (c.toNat - 128) * 128 ^ i) t
def vint (bs : List Int) : Nat × Nat × Nat := vgo 0 0 bs

theorem pow128 (n : Nat) : (2 : Nat) ^ (7 * n) = 128 ^ n := by rw [Nat.pow_mul]
theorem pow128_le (n : Nat) (h : n ≤ 9) : 128 ^ n ≤ 9223372036854775808 := by
  have e : (128 : Nat) ^ 9 = 9223372036854775808 := by decide
  rw [← e]; exact Nat.pow_le_pow_right (by omega) h
/-- what a round of reading a varint makes of the number. -/
theorem vround (v k c : Nat) (hk : k ≤ 9) (hv : v < 128 ^ k) (hc : c < 256) :
    ∃ X : Nat, X < 18446744073709551616 ∧ bits .or .u64 (v : Int) (IntKind.u64.wrap ((c : Int) % 128 * 2 ^ (7 * k))) = (X : Int) ∧ (k < 9 ∨ c = 1 → X = v + c % 128 * 128 ^ k) := by
  have hp := pow128_le k hk
  have hvb : v < 18446744073709551616 := by omega
  let S := (c % 128 * 128 ^ k) % 18446744073709551616
  have hS : S < 18446744073709551616 := Nat.mod_lt _ (by omega)
  have h2 : IntKind.u64.wrap ((c : Int) % 128 * 2 ^ (7 * k)) = (S : Int) := by
    have e : (2 : Int) ^ (7 * k) = ((128 ^ k : Nat) : Int) := by rw [← pow128]; exact (Int.natCast_pow 2 (7 * k)).symm
    have e3 : (c : Int) % 128 = ((c % 128 : Nat) : Int) := by omega
    rw [e, e3, ← Int.natCast_mul]
    show _ = ((c % 128 * 128 ^ k % 18446744073709551616 : Nat) : Int)
    generalize c % 128 * 128 ^ k = y
    simp [IntKind.wrap, IntKind.bits, IntKind.signed]
  refine ⟨v ||| S, Nat.or_lt_two_pow (n := 64) (by omega) (by omega), by rw [h2]; exact u64_or_nat v S hvb hS, ?_⟩
  intro hor
  have hfit : c % 128 * 128 ^ k < 18446744073709551616 := by
    rcases hor with hk9 | hc1
    · have h8 := Nat.pow_le_pow_right (n := 128) (by omega) (show k ≤ 8 by omega)
      have e : (128 : Nat) ^ 8 = 72057594037927936 := by decide
      have : c % 128 * 128 ^ k ≤ 127 * 72057594037927936 := Nat.mul_le_mul (by omega) (by omega)
      omega
    · subst hc1
      simp; omega
  have hSe : S = c % 128 * 128 ^ k := Nat.mod_eq_of_lt hfit
  rw [hSe]
  have h := Nat.two_pow_add_eq_or_of_lt (i := 7 * k) (b := v) (by rw [pow128]; exact hv) (c % 128)
  rw [pow128] at h
  rw [Nat.or_comm, Nat.mul_comm (c % 128), ← h]
  omega
theorem and127b (c : Nat) (hc : c < 256) : bits .and .u8 (c : Int) 127 = (c : Int) % 128 := by
  have h := u8_and_nat c 127 hc (by omega)
  have e := Nat.and_two_pow_sub_one_eq_mod c 7
  rw [show (2 : Nat) ^ 7 - 1 = 127 from rfl, show (2 : Nat) ^ 7 = 128 from rfl] at e
  rw [e] at h
  exact h
theorem and128 (c : Nat) (hc : c < 256) : bits .and .u8 (c : Int) 128 = ((if c < 128 then 0 else 128 : Nat) : Int) := by
  have h := u8_and_nat c 128 hc (by omega)
  have e : ∀ c : Fin 256, c.val &&& 128 = if c.val < 128 then 0 else 128 := by decide +kernel
  have e2 := e ⟨c, hc⟩
  simp only [] at e2
  rw [e2] at h
  exact h
end Go.Proofs.Ytehapglbenaikaa
