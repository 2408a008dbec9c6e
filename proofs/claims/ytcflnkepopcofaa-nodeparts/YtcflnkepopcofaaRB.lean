/- The reader: numbers. -/
import Derived.Test.YtcflnkepopcofaaRA
namespace Go.Proofs.Ytcflnkepopcofaa
open Go.RowKit
set_option linter.unusedVariables false

theorem or_byte (N C j : Nat) (hN : N < 256 ^ j) (hC : C < 256) (hj : j ≤ 3) : bits BinOp.or IntKind.u32 (N : Int) ((C : Int) * 2 ^ (8 * j) % 4294967296) = ((N + 256 ^ j * ((C : Int)).toNat : Nat) : Int) := by
  have e2 : (2 : Nat) ^ (8 * j) = 256 ^ j := by rw [Nat.pow_mul]
  have hp : (256 : Nat) ^ j ≤ 256 ^ 3 := Nat.pow_le_pow_right (by omega) hj
  have h7 : (256 : Nat) ^ 3 = 16777216 := by decide
  have e3 : ((C : Int) * 2 ^ (8 * j)) = ((C * 256 ^ j : Nat) : Int) := by rw [← e2]; simp
  have hb : C * 256 ^ j < 4294967296 := by
    have : C * 256 ^ j ≤ 255 * 256 ^ j := Nat.mul_le_mul_right _ (by omega)
    omega
  have hw : ((C * 256 ^ j : Nat) : Int) % 4294967296 = ((C * 256 ^ j : Nat) : Int) := by
    generalize C * 256 ^ j = X at *
    omega
  have h := Nat.two_pow_add_eq_or_of_lt (i := 8 * j) (b := N) (by rw [e2]; exact hN) C
  rw [e2] at h
  rw [e3, hw, Int.toNat_natCast, u32_or_nat N (C * 256 ^ j) (by omega) hb, Nat.mul_comm C, Nat.or_comm, ← h, Nat.add_comm]
set_option maxHeartbeats 800000 in
theorem num_ok (p : Nat) (k : Nat) (xs ys : List Int) (w : World) (hk : xs.length = k) (hk8 : k ≤ 4) (h : Rdr w p (xs ++ ys)) (h8 : Byts xs) :
    Calls Try.prog 59 #[.pointer (some ⟨p, 0, none⟩), .int .u32 (k : Int)] w fun e w' => e = .returned (.int .u32 ((Crc.leV xs : Nat) : Int)) ∧ Rdr w' p ys ∧ w.grownBy w' (some p) := by
  have HT := hide (take_ok p k xs ys w hk (by omega) h)
  have HK := hide hk
  have H8 := hide h8
  clear hk h h8
  go_enter Try.func59, Try.ntmps59
  go_wp2_with fail
  refine HT.out.mono ?_
  rintro e w1 ⟨a, c, rfl, hkc, hc, hn, hrow, hrd, hg⟩
  have HRow := hide hrow
  have HRd := hide hrd
  have HG := hide hg
  clear hn hrow hrd hg
  go_wp2
  go_loopw [5, 12] (fun x i wr => ∃ j : Nat, j ≤ k ∧ i = .int .i64 (j : Int) ∧ x = .int .u32 ((Crc.leV (xs.take j) : Nat) : Int) ∧ wr = w1) (fun _ i _ => k - (intOf i).toNat)
  case atStart => exact ⟨0, Nat.zero_le _, rfl, rfl, rfl⟩
  case round =>
    obtain ⟨j, hj, rfl, rfl, rfl⟩ := hrel
    by_cases hlt : j < k
    · have hjx : j < xs.length := by have := HK.out; omega
      obtain ⟨b, off, rfl, hcell⟩ : ∃ b off, a = some ⟨b, off, none⟩ ∧ wr.cell? ⟨b, off + j, none⟩ = some (.int .u8 (xs.getD j 0)) := by
        rcases HRow.out with h0 | ⟨b, off, h1, _, _, h2⟩
        · rw [h0] at hjx; simp at hjx
        · exact ⟨b, off, h1, h2 j hjx⟩
      have hcb := H8.out.at j
      have HS := hide (leV_one xs j hjx)
      have HLt : Hid (Crc.leV (xs.take j) < 256 ^ j) := by
        have := Crc.leV_lt (xs.take j) (H8.out.take j)
        rwa [List.length_take, Nat.min_eq_left (by omega)] at this
      have hN : Crc.leV (xs.take j) < 4294967296 := by
        have h1 : (256 : Nat) ^ j ≤ 256 ^ 3 := Nat.pow_le_pow_right (by omega) (by omega)
        have h2 : (256 : Nat) ^ 3 = 16777216 := by decide
        have := HLt.out
        omega
      generalize Crc.leV (xs.take j) = N at *
      generalize xs.getD j 0 = cc at *
      obtain ⟨C, rfl⟩ := Int.eq_ofNat_of_zero_le hcb.1
      go_wp2
      go_roundw
      case rel => exact ⟨j + 1, by omega, by go_num, by rw [HS.out, or_byte N C j HLt.out (by omega) (by omega)], trivial⟩
      case measure => simp [intOf]; omega
    · obtain rfl : j = k := by omega
      have HF : Hid (xs.take j = xs) := hide (List.take_of_length_le (by have := HK.out; omega))
      go_wp2
      go_ret
      exact ⟨by rw [HF.out]; rfl, HRd.out, HG.out⟩
set_option maxHeartbeats 800000 in
theorem num_no (p : Nat) (k : Nat) (zs : List Int) (w : World) (hk : zs.length < k) (hk8 : k ≤ 4) (h : Rdr w p zs) :
    Calls Try.prog 59 #[.pointer (some ⟨p, 0, none⟩), .int .u32 (k : Int)] w fun e w' => e = .panicked flt ∧ w.grownBy w' (some p) := by
  have HT := hide (take_no p k zs w hk (by omega) h)
  clear hk h
  go_enter Try.func59, Try.ntmps59
  go_wp2_with fail
  refine HT.out.mono ?_
  rintro e w1 ⟨rfl, hg⟩
  exact ⟨rfl, rfl, hg⟩
end Go.Proofs.Ytcflnkepopcofaa
