/- Contracts of the reckoning by definition: the same numbers. -/
import Derived.Test.YtfbkcolcdkglbaaCB
namespace Go.Proofs.Ytfbkcolcdkglbaa
open Go.RowKit
set_option linter.unusedVariables false

set_option maxHeartbeats 400000 in
theorem ref_more_any (s : Nat) (hs : s < 4294967296) (a : Option Addr) (len cap : Nat) (zs : List Int) (w : World) (hl : zs.length = len) (hbig : len ≤ 9223372036854775807) (hr : Row w a zs) (hb : Byts zs) :
    Calls Try.prog 84 #[.int .u32 (s : Int), .slice a len cap] w fun e w' => e = .returned (.int .u32 ((Crc.more s zs : Nat) : Int)) ∧ w' = w := by
  have HL : Hid (zs.length = len) := hl
  have HB := hide hb
  have hrow := hide hr
  clear hl hb hr
  go_enter Try.func84, Try.ntmps84
  go_wp2
  rw [inv_is s hs]
  go_loop [5, 6] (fun r i => ∃ k : Nat, k ≤ len ∧ i = .int .i64 k ∧ r = .int .u32 ((Crc.reg (Crc.inv s) (zs.take k) : Nat) : Int)) (fun _ i => len - (intOf i).toNat)
  case atStart => exact ⟨0, Nat.zero_le _, rfl, rfl⟩
  case round =>
    obtain ⟨k, hk, rfl, rfl⟩ := hrel
    have hR := Crc.reg_lt (Crc.inv s) (zs.take k) (Crc.inv_lt s hs) (HB.out.take k)
    by_cases hlt : k < len
    · have hlk : k < zs.length := by have := HL.out; omega
      rcases hrow.out with h0 | ⟨b, off, rfl, hlt2, hc⟩
      · subst h0; simp at hlk
      have hcb := HB.out.at k
      have hck := hc k hlk
      have HS : Hid (Crc.reg (Crc.inv s) (zs.take (k + 1)) = Crc.byt (Crc.reg (Crc.inv s) (zs.take k)) (zs.getD k 0).toNat) := by rw [Hid, take_snoc zs k hlk, Crc.reg_snoc]
      generalize Crc.reg (Crc.inv s) (zs.take k) = R at *
      generalize zs.getD k 0 = c at *
      obtain ⟨C, rfl⟩ := Int.eq_ofNat_of_zero_le hcb.1
      have e1 := xor_is R C hR (by omega)
      have hX := Crc.xor_lt32 R C hR (by omega)
      have HX : Hid (Crc.byt R C = Crc.stps 8 (R ^^^ C)) := by rw [Hid, Crc.byt]
      generalize R ^^^ C = X at *
      have hd : decide ((k : Int) < (len : Int)) = true := by simp; omega
      clear hc hlt2
      go_wp2
      go_loop [5, 7] (fun r j => ∃ m : Nat, m ≤ 8 ∧ j = .int .i64 m ∧ r = .int .u32 ((Crc.stps m X : Nat) : Int)) (fun _ j => 8 - (intOf j).toNat)
      case atStart => exact ⟨0, Nat.zero_le _, rfl, rfl⟩
      case round =>
        obtain ⟨m, hm, rfl, rfl⟩ := hrel
        have hs := Crc.stps_lt m X hX
        by_cases hml : m < 8
        · have HS2 := hide (Crc.stps_succ m X)
          generalize Crc.stps m X = Y at *
          go_wp2
          · go_round
            case rel => exact ⟨m + 1, by omega, by go_num, by rw [HS2.out, stp_odd Y hs ‹_›]⟩
            case measure => simp [intOf]; omega
          · go_round
            case rel => exact ⟨m + 1, by omega, by go_num, by rw [HS2.out, stp_even Y hs ‹_›]⟩
            case measure => simp [intOf]; omega
        · obtain rfl : m = 8 := by omega
          go_wp2
          go_round
          case rel => exact ⟨k + 1, by omega, by go_num, by rw [HS.out, Int.toNat_natCast, HX.out]⟩
          case measure => simp [intOf]; omega
    · obtain rfl : k = len := by omega
      have HF : Hid (bits .xor .u32 IntKind.u32.max ((Crc.reg (Crc.inv s) (zs.take k) : Nat) : Int) = ((Crc.more s zs : Nat) : Int)) := by
        rw [Hid, inv_is _ hR, Crc.more, List.take_of_length_le (by have := HL.out; omega)]
      go_wp2
      go_ret
      exact ⟨ret_int HF.out, rfl⟩

set_option maxHeartbeats 400000 in
theorem ref_sum_any (a : Option Addr) (len cap : Nat) (zs : List Int) (w : World) (hl : zs.length = len) (hbig : len ≤ 9223372036854775807) (hr : Row w a zs) (hb : Byts zs) :
    Calls Try.prog 70 #[.slice a len cap] w fun e w' => e = .returned (.int .u32 ((Crc.more 0 zs : Nat) : Int)) ∧ w' = w := by
  have H := hide (ref_more_any 0 (by omega) a len cap zs w hl hbig hr hb)
  clear hl hr hb
  go_enter Try.func70, Try.ntmps70
  go_wp2_with fail
  refine H.out.mono ?_
  rintro e w1 ⟨rfl, rfl⟩
  go_wp2
  go_ret
  exact ⟨rfl, rfl⟩
end Go.Proofs.Ytfbkcolcdkglbaa
