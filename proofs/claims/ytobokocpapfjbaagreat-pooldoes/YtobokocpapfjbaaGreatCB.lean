/- Contracts of two inner functions of the checksum: one shift of the register, and the table of what half a byte comes to. No condition but that the register is a number of 42 bits. -/
import Derived.Test.YtobokocpapfjbaaGreatChecked
import Derived.Test.YtobokocpapfjbaaGreatPN
import Derived.KernelRfl
import Derived.WalkKit
import Derived.Handy
import Derived.LoopTactic
import Derived.Laws.BitsAllLaws
import Derived.Test.YtobokocpapfjbaaGreatA
namespace Go.Proofs.YtobokocpapfjbaaGreat
open Go.RowKit
set_option linter.unusedVariables false

theorem and1 (n : Nat) (hn : n < 4294967296) : bits .and .u32 (n : Int) 1 = ((n % 2 : Nat) : Int) := by
  have h := u32_and_nat n 1 hn (by omega)
  rw [Nat.and_one_is_mod] at h
  exact h
theorem and15 (n : Nat) (hn : n < 4294967296) : bits .and .u32 (n : Int) 15 = ((n % 16 : Nat) : Int) := by
  have h := u32_and_nat n 15 hn (by omega)
  have e := Nat.and_two_pow_sub_one_eq_mod n 4
  rw [show (2 : Nat) ^ 4 - 1 = 15 from rfl, show (2 : Nat) ^ 4 = 16 from rfl] at e
  rw [e] at h
  exact h
theorem stp_odd (n : Nat) (hn : n < 4294967296) (h : (bits BinOp.and IntKind.u32 (↑n) 1 == 1) = true) : bits BinOp.xor IntKind.u32 (↑n / 2) 2197175160 = ((Crc.stp n : Nat) : Int) := by
  rw [and1 n hn] at h
  have h1 : n % 2 = 1 := by simp at h; omega
  have e : ((n : Int) / 2) = ((n / 2 : Nat) : Int) := by omega
  have h2 := u32_xor_nat (n / 2) 2197175160 (by omega) (by omega)
  rw [e, Crc.stp, if_pos h1]
  exact h2
theorem stp_even (n : Nat) (hn : n < 4294967296) (h : (bits BinOp.and IntKind.u32 (↑n) 1 == 1) = false) : ((n : Int) / 2) = ((Crc.stp n : Nat) : Int) := by
  rw [and1 n hn] at h
  have h1 : ¬ n % 2 = 1 := by simp at h; omega
  rw [Crc.stp, if_neg h1]; omega
theorem ret_int {k : IntKind} {a b : Int} (h : a = b) : Ending.returned (.int k a) = .returned (.int k b) := by rw [h]

set_option maxHeartbeats 400000 in
theorem shifted_any (n : Nat) (hn : n < 4294967296) (w : World) :
    Calls Tryz.prog 118 #[.int .u32 (n : Int)] w fun e w' => e = .returned (.int .u32 ((Crc.stp n : Nat) : Int)) ∧ w' = w := by
  go_enter Tryz.func118, Tryz.ntmps118
  go_wp2
  · go_ret
    exact ⟨ret_int (stp_odd n hn ‹_›), rfl⟩
  · go_ret
    exact ⟨ret_int (stp_even n hn ‹_›), rfl⟩

/-- what half a byte comes to, the first k of them. -/
def tab (k : Nat) : Array Value := ((List.range 16).map fun j => if j < k then Value.int .u32 ((Crc.stps 4 j : Nat) : Int) else .int .u32 0).toArray
theorem tab_zero : tab 0 = #[.int .u32 0, .int .u32 0, .int .u32 0, .int .u32 0, .int .u32 0, .int .u32 0, .int .u32 0, .int .u32 0, .int .u32 0, .int .u32 0, .int .u32 0, .int .u32 0, .int .u32 0, .int .u32 0, .int .u32 0, .int .u32 0] := by kernel_rfl
theorem tab_full : tab 16 = #[.int .u32 0, .int .u32 274646895, .int .u32 549293790, .int .u32 820201905, .int .u32 1098587580, .int .u32 1361435347, .int .u32 1640403810, .int .u32 1905808397, .int .u32 2197175160, .int .u32 2460548119, .int .u32 2722870694, .int .u32 2987750089, .int .u32 3280807620, .int .u32 3553878443, .int .u32 3811616794, .int .u32 4084100981] := by kernel_rfl
theorem tab_size (k : Nat) : (tab k).size = 16 := by simp [tab]
theorem tab_at (k j : Nat) (h : j < 16) : (tab k)[j]? = some (if j < k then Value.int .u32 ((Crc.stps 4 j : Nat) : Int) else .int .u32 0) := by
  simp [tab, h]
theorem tab_next (k : Nat) (h : k < 16) : (tab k).setIfInBounds k (.int .u32 ((Crc.stps 4 k : Nat) : Int)) = tab (k + 1) := by
  apply Array.ext_getElem?
  intro j
  rw [Array.getElem?_setIfInBounds]
  by_cases hj : j < 16
  · rw [tab_at _ j hj, tab_at _ j hj, tab_size]
    by_cases e : k = j
    · subst e; simp [h]
    · rw [if_neg e]
      by_cases l : j < k
      · rw [if_pos l, if_pos (by omega)]
      · rw [if_neg l, if_neg (by omega)]
  · rw [Array.getElem?_eq_none (by rw [tab_size]; omega), Array.getElem?_eq_none (by rw [tab_size]; omega), if_neg (by omega)]

set_option maxHeartbeats 400000 in
theorem half_any (w : World) :
    Calls Tryz.prog 117 #[] w fun e w' => e = .returned (.agg (tab 16)) ∧ Below w.heap.size w w' := by
  go_enter Tryz.func117, Tryz.ntmps117
  go_wp2
  go_loopw [4] (fun i wr => ∃ k : Nat, k ≤ 16 ∧ i = .int .i64 k ∧ wr = (w.alloc (.cells (tab 0) 243)).alloc (.cells (tab k) 243)) (fun i _ => 16 - (intOf i).toNat)
  case atStart => exact ⟨0, Nat.zero_le _, rfl, by rw [tab_zero]⟩
  case round =>
    obtain ⟨k, hk, rfl, rfl⟩ := hrel
    by_cases hlt : k < 16
    · have h1 : (tab k)[k]? = some (.int .u32 0) := by rw [tab_at k k hlt, if_neg (by omega)]
      have h2 := tab_size k
      have hd : decide ((k : Int) < 16) = true := by simp; omega
      go_wp2
      go_loop [3, 9] (fun r j => ∃ m : Nat, m ≤ 4 ∧ j = .int .i64 m ∧ r = .int .u32 ((Crc.stps m k : Nat) : Int)) (fun _ j => 4 - (intOf j).toNat)
      case atStart => exact ⟨0, Nat.zero_le _, rfl, rfl⟩
      case round =>
        obtain ⟨m, hm, rfl, rfl⟩ := hrel
        by_cases hml : m < 4
        · have hs := Crc.stps_lt m k (by omega)
          go_wp2_with (go_at_call 118; refine (shifted_any _ hs _).mono ?_; rintro e w' ⟨rfl, rfl⟩)
          go_round
          case rel => exact ⟨m + 1, by omega, by go_num, by rw [Crc.stps_succ]⟩
          case measure => simp [intOf]; omega
        · obtain rfl : m = 4 := by omega
          go_wp2
          go_roundw
          case rel => exact ⟨k + 1, by omega, by go_num, by rw [tab_next k hlt]⟩
          case measure => simp [intOf]; omega
    · obtain rfl : k = 16 := by omega
      rw [tab_full, tab_zero]
      go_wp2
      exact bodyPost_ret (v := .agg #[.int .u32 0, .int .u32 274646895, .int .u32 549293790, .int .u32 820201905, .int .u32 1098587580, .int .u32 1361435347, .int .u32 1640403810, .int .u32 1905808397, .int .u32 2197175160, .int .u32 2460548119, .int .u32 2722870694, .int .u32 2987750089, .int .u32 3280807620, .int .u32 3553878443, .int .u32 3811616794, .int .u32 4084100981]) (by simp [results, Tryz.results117, go_sem]) rfl ⟨by rw [tab_full], ((Below.refl _ _).alloc (Nat.le_refl _) _).alloc (by simp) _⟩
end Go.Proofs.YtobokocpapfjbaaGreat
/- Contracts of the checksum and of going on with one: of any bytes that lie in memory they answer what the plain mathematics says, and turn nothing that was there. -/
namespace Go.Proofs.YtobokocpapfjbaaGreat
open Go.RowKit
set_option linter.unusedVariables false

theorem inv_is (s : Nat) (hs : s < 4294967296) : bits .xor .u32 IntKind.u32.max (s : Int) = ((Crc.inv s : Nat) : Int) := by
  have h := u32_xor_nat 4294967295 s (by omega) hs
  rw [Crc.inv, Crc.ones]
  exact h
theorem xor_is (r c : Nat) (hr : r < 4294967296) (hc : c < 4294967296) : bits .xor .u32 (r : Int) (c : Int) = ((r ^^^ c : Nat) : Int) := u32_xor_nat r c hr hc
theorem half_is (x : Nat) (hx : x < 4294967296) : bits .xor .u32 ((x : Int) / 16) ((Crc.stps 4 (x % 16) : Nat) : Int) = ((Crc.stps 4 x : Nat) : Int) := by
  have e : ((x : Int) / 16) = ((x / 16 : Nat) : Int) := by omega
  rw [e, xor_is _ _ (by omega) (Crc.stps_lt 4 _ (by omega)), Crc.half]
theorem tab_cell (w1 : World) (i : Nat) (h : i < 16) : (w1.alloc (.cells (tab 16) 243)).cell? ⟨w1.heap.size, i, none⟩ = some (.int .u32 ((Crc.stps 4 i : Nat) : Int)) := by
  rw [World.cell?_alloc_at _ _ _ _ rfl, tab_at 16 i h, if_pos h]
/-- all that a round asks of its numbers. -/
theorem round_nums (R C : Nat) (hR : R < 4294967296) (hC : C < 256) : ∃ X Y i1 i2 t1 t2 : Nat, X < 4294967296 ∧ Y < 4294967296 ∧ i1 < 16 ∧ i2 < 16 ∧ t1 = Crc.stps 4 i1 ∧ t2 = Crc.stps 4 i2 ∧
    bits .xor .u32 (R : Int) (C : Int) = (X : Int) ∧ bits .and .u32 (X : Int) 15 = (i1 : Int) ∧ bits .xor .u32 ((X : Int) / 16) (t1 : Int) = (Y : Int) ∧
    bits .and .u32 (Y : Int) 15 = (i2 : Int) ∧ bits .xor .u32 ((Y : Int) / 16) (t2 : Int) = ((Crc.byt R C : Nat) : Int) := by
  have hX := Crc.xor_lt32 R C hR (by omega)
  have hY := Crc.stps_lt 4 _ hX
  refine ⟨R ^^^ C, Crc.stps 4 (R ^^^ C), (R ^^^ C) % 16, Crc.stps 4 (R ^^^ C) % 16, _, _, hX, hY, Nat.mod_lt _ (by omega), Nat.mod_lt _ (by omega), rfl, rfl, xor_is R C hR (by omega), and15 _ hX, half_is _ hX, and15 _ hY, ?_⟩
  rw [← Crc.two_halves]
  exact half_is _ hY

set_option maxHeartbeats 400000 in
theorem more_any (s : Nat) (hs : s < 4294967296) (a : Option Addr) (len cap : Nat) (zs : List Int) (w : World) (hl : zs.length = len) (hbig : len ≤ 9223372036854775807) (hr : Row w a zs) (hb : Byts zs) :
    Calls Tryz.prog 115 #[.int .u32 (s : Int), .slice a len cap] w fun e w' => e = .returned (.int .u32 ((Crc.more s zs : Nat) : Int)) ∧ Below w.heap.size w w' := by
  have HL : Hid (zs.length = len) := hl
  clear hl
  go_enter Tryz.func115, Tryz.ntmps115
  go_wp2_with fail
  refine (half_any _).mono ?_
  rintro e w1 ⟨rfl, hb1⟩
  rw [tab_full]
  go_wp2
  rw [← tab_full, inv_is s hs]
  have hT := tab_cell w1
  have hW := (hb1.alloc hb1.size (.cells (tab 16) 243))
  have hrow := hide (hr.below hW)
  have HW := hide hW
  have HT := hide hT
  clear hT hW hr
  generalize w1.alloc (.cells (tab 16) 243) = W at *
  generalize w1.heap.size = B at *
  clear hb1
  have HB := hide hb
  clear hb
  go_loop [6, 14] (fun r i => ∃ k : Nat, k ≤ len ∧ i = .int .i64 k ∧ r = .int .u32 ((Crc.reg (Crc.inv s) (zs.take k) : Nat) : Int)) (fun _ i => len - (intOf i).toNat)
  case atStart => exact ⟨0, Nat.zero_le _, rfl, rfl⟩
  case round =>
    obtain ⟨k, hk, rfl, rfl⟩ := hrel
    have hR := Crc.reg_lt (Crc.inv s) (zs.take k) (Crc.inv_lt s hs) (HB.out.take k)
    by_cases hlt : k < len
    · have hlk : k < zs.length := by have := HL.out; omega
      rcases hrow.out with h0 | ⟨b, off, rfl, hlt2, hc⟩
      · subst h0; simp at hlk
      have hcb := HB.out.at k
      have hck := hc k hlk
      have HS : Hid (Crc.reg (Crc.inv s) (zs.take (k + 1)) = Crc.byt (Crc.reg (Crc.inv s) (zs.take k)) (zs.getD k 0).toNat) := by rw [Hid, take_snoc zs k hlk, Crc.reg_snoc]
      generalize Crc.reg (Crc.inv s) (zs.take k) = R at *
      generalize zs.getD k 0 = c at *
      obtain ⟨C, rfl⟩ := Int.eq_ofNat_of_zero_le hcb.1
      obtain ⟨X, Y, i1, i2, t1, t2, hX, hY, hi1, hi2, ht1, ht2, e1, e2, e3, e4, e5⟩ := round_nums R C hR (by omega)
      have c1 := HT.out i1 hi1
      have c2 := HT.out i2 hi2
      rw [← ht1] at c1
      rw [← ht2] at c2
      clear ht1 ht2 hc hlt2
      go_wp2
      go_round
      case rel => exact ⟨k + 1, by omega, by go_num, by rw [HS.out, Int.toNat_natCast]⟩
      case measure => simp [intOf]; omega
    · obtain rfl : k = len := by omega
      have HF : Hid (bits .xor .u32 IntKind.u32.max ((Crc.reg (Crc.inv s) (zs.take k) : Nat) : Int) = ((Crc.more s zs : Nat) : Int)) := by
        rw [Hid, inv_is _ hR, Crc.more, List.take_of_length_le (by have := HL.out; omega)]
      go_wp2
      go_ret
      exact ⟨ret_int HF.out, HW.out⟩

set_option maxHeartbeats 400000 in
theorem sum_any (a : Option Addr) (len cap : Nat) (zs : List Int) (w : World) (hl : zs.length = len) (hbig : len ≤ 9223372036854775807) (hr : Row w a zs) (hb : Byts zs) :
    Calls Tryz.prog 113 #[.slice a len cap] w fun e w' => e = .returned (.int .u32 ((Crc.more 0 zs : Nat) : Int)) ∧ Below w.heap.size w w' := by
  have H := hide (more_any 0 (by omega) a len cap zs w hl hbig hr hb)
  clear hl hr hb
  go_enter Tryz.func113, Tryz.ntmps113
  go_wp2_with fail
  refine H.out.mono ?_
  rintro e w1 ⟨rfl, hb1⟩
  go_wp2
  go_ret
  exact ⟨rfl, hb1⟩
end Go.Proofs.YtobokocpapfjbaaGreat
