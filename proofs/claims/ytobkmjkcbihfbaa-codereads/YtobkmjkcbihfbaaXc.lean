/- Contracts of the document's reader: numbers, varints, texts. -/
import Derived.Test.YtobkmjkcbihfbaaXb
namespace Go.Proofs.Ytobkmjkcbihfbaa
open Go.RowKit
set_option linter.unusedVariables false

theorem tk_len (bs : List Int) (i e : Nat) (n : Int) : (tk bs i e n).2.2.length ≤ bs.length := by
  rw [tk]
  split
  · simp
  · split
    · simp
    · split
      · simp
      · simp; omega

set_option maxHeartbeats 1600000 in
set_option maxRecDepth 1000000 in
theorem xfixed_any (p : Nat) (a : Option Addr) (c : Nat) (bs : List Int) (i e n : Nat) (w : World) (hr : Xd w p a c bs i e) (hn : n ≤ 8) :
    Calls Try.prog 70 #[.pointer (some ⟨p, 0, none⟩), .int .i64 (n : Int)] w fun r w' => r = .returned (.int .u64 (jn (tk bs i e n).2.2 : Int)) ∧ Xd w' p a c bs (tk bs i e n).1 (tk bs i e n).2.1 ∧ w.grownBy w' (some p) := by
  have HC := hide (xraw_any p a c bs i e (n : Int) w hr (by omega) (by omega))
  have HBy := hide (tk_byts bs i e (n : Int) hr.byts)
  have hlen0 := tk_len bs i e (n : Int)
  have hsm := hr.small
  clear hr
  go_enter Try.func70, Try.ntmps70
  go_wp2_with fail
  refine HC.out.mono ?_
  rintro r w1 ⟨a1, m, c1, rfl, hlen, hbare, hrow, -, hrd, hg⟩
  have HR := hide hrd
  have HG := hide hg
  have HL := hide hlen
  have HRow := hide hrow
  have hm : m ≤ 9223372036854775807 := by omega
  generalize hY : (tk bs i e (n : Int)).2.2 = ys at *
  have HY := hide hY
  clear hY hlen hbare hrow hrd hg HC
  go_wp2
  go_loop [5, 7] (fun x z => ∃ k : Nat, k ≤ m ∧ x = .int .u64 (jn (ys.take k) : Int) ∧ z = .int .i64 (k : Int)) (fun _ z => m - (intOf z).toNat)
  case atStart => exact ⟨0, Nat.zero_le _, rfl, rfl⟩
  case round =>
    obtain ⟨k, hk, rfl, rfl⟩ := hrel
    by_cases hlt : k < m
    · have hlk : k < ys.length := by have := HL.out; omega
      rcases HRow.out with h0 | ⟨b, off, rfl, hlt2, hc⟩
      · subst h0; simp at hlk
      have hcb := HBy.out.at k
      have hck := hc k hlk
      have HS : Hid (jn (ys.take (k + 1)) = (jn (ys.take k) * 256 + (ys.getD k 0).toNat) % 18446744073709551616) := by rw [Hid, take_snoc ys k hlk, jn_snoc]
      have hj := jn_lt (ys.take k)
      generalize jn (ys.take k) = V at *
      generalize ys.getD k 0 = x at *
      obtain ⟨C, rfl⟩ := Int.eq_ofNat_of_zero_le hcb.1
      have HE := hide (join_step V C hj (by omega))
      clear hc hlt2
      go_wp2
      go_round
      case rel => exact ⟨k + 1, by omega, by rw [HE.out, HS.out, Int.toNat_natCast], by go_num⟩
      case measure => simp [intOf]; omega
    · obtain rfl : k = m := by omega
      have HT : Hid (ys.take k = ys) := List.take_of_length_le (by have := HL.out; omega)
      go_wp2
      go_ret
      exact ⟨by rw [HT.out, HY.out]; rfl, HR.out, HG.out⟩

set_option maxHeartbeats 1600000 in
set_option maxRecDepth 1000000 in
theorem xvarint_any (a : Option Addr) (n c : Nat) (bs : List Int) (w : World) (hr : Row w a bs) (hb : Byts bs) (hl : bs.length = n) (hn : n ≤ 140737488355328) :
    Calls Try.prog 81 #[.slice a n c] w fun r w' => r = .returned (.tuple #[.int .u64 ((vint bs).1 : Int), .int .i64 ((vint bs).2.1 : Int), .int .i64 ((vint bs).2.2 : Int)]) ∧ w' = w := by
  have HR := hide hr
  have HB := hide hb
  have HL := hide hl
  clear hr hb hl
  go_enter Try.func81, Try.ntmps81
  go_wp2
  go_loop [5, 6] (fun x z => ∃ k v : Nat, x = .int .u64 (v : Int) ∧ z = .int .i64 (k : Int) ∧ k ≤ n ∧ k ≤ 9 ∧ v < 128 ^ k ∧ vgo k v (bs.drop k) = vint bs) (fun _ z => 10 - (intOf z).toNat)
  case atStart => exact ⟨0, 0, rfl, rfl, by omega, by omega, by simp, rfl⟩
  case round =>
    obtain ⟨k, v, rfl, rfl, hkn, hk9, hv, hgo⟩ := hrel
    have HG := hide hgo
    clear hgo
    by_cases hlt : k < n
    · have hlk : k < bs.length := by have := HL.out; omega
      rcases HR.out with h0 | ⟨b, off, rfl, hlt2, hc⟩
      · subst h0; simp at hlk
      have hcb := HB.out.at k
      have hck := hc k hlk
      have HD := hide (drop_cons bs k hlk)
      generalize bs.getD k 0 = x at *
      obtain ⟨C, rfl⟩ := Int.eq_ofNat_of_zero_le hcb.1
      obtain ⟨X, hX, e3, e4⟩ := vround v k C hk9 hv (by omega)
      have HE3 := hide e3
      have e7 := and127b C (by omega)
      have HE4 := hide e4
      have HV := hide hv
      have hC : C < 256 := by omega
      clear e3 e4 hv hc hcb hlt2
      by_cases hA : k = 9 ∧ C ≠ 1
      · obtain ⟨rfl, hC1⟩ := hA
        have hd : ((C : Int) != 1) = true := by simp; omega
        have HF : Hid (vint bs = (0, 0, 21)) := by
          rw [Hid, ← HG.out, HD.out, vgo_cons, if_pos (.inl ⟨rfl, by omega⟩)]
        go_wp2
        go_ret3
        exact ⟨by rw [HF.out]; rfl, rfl⟩
      · by_cases hB : 0 < k ∧ C = 0
        · obtain ⟨hk0, rfl⟩ := hB
          have hd : ((k : Int) == 9) = false := by simp; omega
          have HF : Hid (vint bs = (0, 0, 21)) := by
            rw [Hid, ← HG.out, HD.out, vgo_cons, if_pos (.inr ⟨hk0, by omega⟩)]
          go_wp2
          go_ret3
          exact ⟨by rw [HF.out]; rfl, rfl⟩
        · by_cases hC2 : C < 128
          · have HF : Hid (vint bs = (X, k + 1, 0)) := by
              rw [Hid, ← HG.out, HD.out, vgo_cons, if_neg (by omega), if_pos (by omega), HE4.out (by omega), Nat.mod_eq_of_lt hC2, Int.toNat_natCast]
            by_cases h9 : k = 9
            · obtain rfl : C = 1 := by omega
              subst h9
              have HE5 : Hid (bits .or .u64 (v : Int) (IntKind.u64.wrap (IntKind.u64.wrap (bits .and .u8 1 127) * 9223372036854775808)) = (X : Int)) := by
                have h := HE3.out
                rw [show IntKind.u64.wrap (((1 : Nat) : Int) % 128 * 2 ^ (7 * 9)) = 9223372036854775808 from by decide] at h
                rw [Hid, show IntKind.u64.wrap (IntKind.u64.wrap (bits .and .u8 1 127) * 9223372036854775808) = 9223372036854775808 from by decide]
                exact h
              go_wp2
              go_ret3
              exact ⟨by rw [HF.out]; exact ret_three HE5.out (by show _ = ((9 + 1 : Nat) : Int); omega) rfl, rfl⟩
            · have hd : ((k : Int) == 9) = false := by simp; omega
              go_wp2
              all_goals (go_ret3; exact ⟨by rw [HF.out]; exact ret_three HE3.out (by show _ = ((k + 1 : Nat) : Int); omega) rfl, rfl⟩)
          · have hk8 : k < 9 := by omega
            have hd : ((k : Int) == 9) = false := by simp; omega
            have HX : Hid (X = v + (C - 128) * 128 ^ k) := by
              have e : C % 128 = C - 128 := by omega
              rw [Hid, HE4.out (.inl hk8), e]
            have HF : Hid (vgo (k + 1) X (bs.drop (k + 1)) = vint bs) := by
              rw [Hid, ← HG.out, HD.out, vgo_cons, if_neg (by omega), if_neg (by omega), HX.out, Int.toNat_natCast]
            have HN : Hid (X < 128 ^ (k + 1)) := by
              have h1 := HX.out
              have h2 := HV.out
              have h3 : (C - 128) * 128 ^ k ≤ 127 * 128 ^ k := Nat.mul_le_mul_right _ (by omega)
              rw [Hid, Nat.pow_succ]
              omega
            go_wp2
            all_goals
              go_round
              case rel => exact ⟨k + 1, X, by rw [HE3.out], by go_num, by omega, by omega, HN.out, HF.out⟩
              case measure => simp [intOf]; omega
    · have hke : k = n := by omega
      subst hke
      have HF : Hid (vint bs = (0, 0, 20)) := by
        rw [Hid, ← HG.out, List.drop_of_length_le (by have := HL.out; omega)]; rfl
      go_wp2
      go_ret3
      exact ⟨by rw [HF.out]; rfl, rfl⟩
end Go.Proofs.Ytobkmjkcbihfbaa
