/- Contracts of the reader's fields: numbers, texts, bytes; what a reader tells. -/
import Derived.Test.YtehapglbenaikaaKR
namespace Go.Proofs.Ytehapglbenaikaa
open Go.RowKit
set_option linter.unusedVariables false

/-- the varint that comes next: its number, how many bytes it has, the reader's error then. -/
def nm (bs : List Int) (i e : Nat) : Nat × Nat × Nat := if e ≠ 0 then (0, 0, e) else vint (bs.drop i)
theorem ret_two {k1 k2 : IntKind} {a b a' b' : Int} (h1 : a = a') (h2 : b = b') : Ending.returned (.tuple #[.int k1 a, .int k2 b]) = .returned (.tuple #[.int k1 a', .int k2 b']) := by rw [h1, h2]
theorem nm_err (bs : List Int) (i e : Nat) (h : e ≠ 0) : nm bs i e = (0, 0, e) := by rw [nm, if_pos h]
theorem nm_ok (bs : List Int) (i : Nat) : nm bs i 0 = vint (bs.drop i) := by rw [nm, if_neg (by omega)]
theorem vgo_err (k v : Nat) (bs : List Int) : (vgo k v bs).2.2 < 65536 := by
  induction bs generalizing k v with
  | nil => simp [vgo]
  | cons c t ih =>
    rw [vgo_cons]
    split
    · simp
    · split
      · simp
      · exact ih _ _

set_option maxHeartbeats 1600000 in
set_option maxRecDepth 1000000 in
theorem number_any (p : Nat) (a : Option Addr) (bs : List Int) (i e : Nat) (w : World) (hr : Rd w p a bs i e) :
    Calls Try.prog 52 #[.pointer (some ⟨p, 0, none⟩)] w fun r w' => r = .returned (.tuple #[.int .u64 ((nm bs i e).1 : Int), .int .i64 ((nm bs i e).2.1 : Int)]) ∧ Rd w' p a bs i (nm bs i e).2.2 ∧ w.grownBy w' (some p) := by
  have HR := hide hr
  have hle := hr.le
  have hsm := hr.small
  have k0 := hr.c0
  have k1 := hr.c1
  have k2 := hr.c2
  clear hr
  by_cases he : e = 0
  · subst he
    have HNm := hide (nm_ok bs i)
    have HRow := hide (HR.out.row.cut i (bs.length - i) bs.length rfl (by omega))
    have HTk : Hid ((bs.drop i).take (bs.length - i) = bs.drop i) := List.take_of_length_le (by rw [List.length_drop]; omega)
    have HLn : Hid ((bs.drop i).length = bs.length - i) := List.length_drop
    have HBy := hide (HR.out.byts.drop i)
    have hE := vgo_err 0 0 (bs.drop i)
    have HC : ∀ W : World, Hid (Row W (if bs.length = i then a else Option.map (fun x => x.add i) a) ((bs.drop i).take (bs.length - i)) → Calls Try.prog 59 #[.slice (if bs.length = i then a else Option.map (fun x => x.add i) a) (bs.length - i) (bs.length - i)] W fun r w' => r = .returned (.tuple #[.int .u64 ((vint (bs.drop i)).1 : Int), .int .i64 ((vint (bs.drop i)).2.1 : Int), .int .u16 ((vint (bs.drop i)).2.2 : Int)]) ∧ w' = W) := by
      intro W h
      rw [HTk.out] at h
      exact varint_any _ _ _ (bs.drop i) W h HBy.out HLn.out (by omega)
    have hE2 : (vint (bs.drop i)).2.2 < 65536 := hE
    clear hE HTk HLn HBy
    generalize hV : (vint (bs.drop i)).1 = V at *
    generalize hM : (vint (bs.drop i)).2.1 = M at *
    generalize hX : (vint (bs.drop i)).2.2 = X at *
    have HV : Hid (nm bs i 0 = (V, M, X)) := by rw [Hid, HNm.out, ← hV, ← hM, ← hX]
    clear hV hM hX HNm
    generalize (bs.drop i).take (bs.length - i) = ys at *
    generalize hN : bs.length = N at *
    have HN := hide hN
    clear hN
    go_enter Try.func52, Try.ntmps52
    go_wp2
    go_quiet (first | (go_at_call 59; exact Calls.quiet_of_same ((HC _).out (HRow.out.drewN _))))
    have HR1 := hide (HR.out.drewN nq)
    have HG1 := hide (grown_drewN (grown_refl w (some p)) nq)
    generalize w.drewN nq = W at *
    generalize (if N = i then a else Option.map (fun x => x.add i) a) = A at *
    clear k0 k1 k2 HC HRow HR
    by_cases hx : X = 0
    · subst hx
      go_wp2
      go_ret2
      refine ⟨?_, ?_, HG1.out⟩
      · rw [HV.out]; rfl
      · rw [HV.out]; exact HR1.out
    · have hne : ((X : Int) != 0) = true := by simp; omega
      go_wp2_with fail
      refine (fail_any p a bs i 0 X _ HR1.out hE2).mono ?_
      rintro r w2 ⟨rfl, hr2, hg2⟩
      have HR2 := hide hr2
      have HG2 := hide (grown_trans HG1.out hg2)
      clear hr2 hg2
      go_wp2
      go_ret2
      refine ⟨?_, ?_, HG2.out⟩
      · rw [HV.out]; rfl
      · rw [HV.out]; exact HR2.out
  · have hne : ((e : Int) != 0) = true := by simp; omega
    have HNm := hide (nm_err bs i e he)
    go_enter Try.func52, Try.ntmps52
    go_wp2
    go_ret2
    refine ⟨?_, ?_, grown_refl _ _⟩
    · rw [HNm.out]; rfl
    · rw [HNm.out]; exact HR.out

/-- bytes as one number, the highest one first, within 64 bits. -/
def jn (ys : List Int) : Nat := ys.foldl (fun v c => (v * 256 + c.toNat) % 18446744073709551616) 0
theorem jn_snoc (ys : List Int) (c : Int) : jn (ys ++ [c]) = (jn ys * 256 + c.toNat) % 18446744073709551616 := by simp [jn, List.foldl_append]
theorem jn_lt (ys : List Int) : jn ys < 18446744073709551616 := by
  rcases List.eq_nil_or_concat ys with rfl | ⟨l, c, rfl⟩
  · simp [jn]
  · rw [List.concat_eq_append, jn_snoc]; exact Nat.mod_lt _ (by omega)
theorem join_step (v c : Nat) (hv : v < 18446744073709551616) (hc : c < 256) : bits .or .u64 (IntKind.u64.wrap ((v : Int) * 256)) (c : Int) = (((v * 256 + c) % 18446744073709551616 : Nat) : Int) := by
  have e1 : IntKind.u64.wrap ((v : Int) * 256) = ((v * 256 % 18446744073709551616 : Nat) : Int) := by
    simp [IntKind.wrap, IntKind.bits, IntKind.signed]
  have e2 : v * 256 % 18446744073709551616 = 256 * (v % 72057594037927936) := by omega
  have h := Nat.two_pow_add_eq_or_of_lt (i := 8) (b := c) (by omega) (v % 72057594037927936)
  rw [show (2 : Nat) ^ 8 = 256 from rfl] at h
  rw [e1, u64_or_nat _ c (by omega) (by omega), e2, ← h]
  omega

set_option maxHeartbeats 1600000 in
set_option maxRecDepth 1000000 in
theorem joined_any (p : Nat) (a : Option Addr) (bs : List Int) (i e n : Nat) (w : World) (hr : Rd w p a bs i e) (hn : n ≤ 8) :
    Calls Try.prog 49 #[.func (.func 50) #[.pointer (some ⟨p, 0, none⟩)] #[], .int .i64 (n : Int)] w fun r w' => r = .returned (.int .u64 (jn (tk bs i e n).2.2 : Int)) ∧ Rd w' p a bs (tk bs i e n).1 (tk bs i e n).2.1 ∧ w.grownBy w' (some p) := by
  have HC := hide (take_any p a bs i e (n : Int) w hr (by omega) (by omega))
  have hbT : Byts (tk bs i e n).2.2 := by
    have hb := hr.byts
    rw [tk]
    split
    · intro c hc; simp at hc
    · split
      · intro c hc; simp at hc
      · split
        · intro c hc; simp at hc
        · exact (hb.drop i).take _
  have HBy := hide hbT
  clear hr hbT
  go_enter Try.func49, Try.ntmps49
  go_wp2_with fail
  refine HC.out.mono ?_
  rintro r w1 ⟨a1, m, c1, rfl, hlen, hmc, hcm, hbare, hrow, hrd, hg⟩
  have HR := hide hrd
  have HG := hide hg
  have HL := hide hlen
  have HRow := hide hrow
  have hm : m ≤ 9223372036854775807 := by unfold maxLen at hcm; omega
  generalize hY : (tk bs i e (n : Int)).2.2 = ys at *
  have HY := hide hY
  clear hY hlen hmc hcm hbare hrow hrd hg HC
  go_wp2
  go_loop [5, 12] (fun x z => ∃ k : Nat, k ≤ m ∧ x = .int .u64 (jn (ys.take k) : Int) ∧ z = .int .i64 (k : Int)) (fun _ z => m - (intOf z).toNat)
  case atStart => exact ⟨0, Nat.zero_le _, rfl, rfl⟩
  case round =>
    obtain ⟨k, hk, rfl, rfl⟩ := hrel
    by_cases hlt : k < m
    · have hlk : k < ys.length := by have := HL.out; omega
      rcases HRow.out with h0 | ⟨b, off, rfl, hlt2, hc⟩
      · subst h0; simp at hlk
      have hcb := HBy.out.at k
      have hck := hc k hlk
      have HS : Hid (jn (ys.take (k + 1)) = (jn (ys.take k) * 256 + (ys.getD k 0).toNat) % 18446744073709551616) := by rw [Hid, take_snoc ys k hlk, jn_snoc]
      have hj := jn_lt (ys.take k)
      generalize jn (ys.take k) = V at *
      generalize ys.getD k 0 = x at *
      obtain ⟨C, rfl⟩ := Int.eq_ofNat_of_zero_le hcb.1
      have HE := hide (join_step V C hj (by omega))
      clear hc hlt2
      go_wp2
      go_round
      case rel => exact ⟨k + 1, by omega, by rw [HE.out, HS.out, Int.toNat_natCast], by go_num⟩
      case measure => simp [intOf]; omega
    · obtain rfl : k = m := by omega
      have HT : Hid (ys.take k = ys) := List.take_of_length_le (by have := HL.out; omega)
      go_wp2
      go_ret
      exact ⟨by rw [HT.out, HY.out]; rfl, HR.out, HG.out⟩

set_option maxHeartbeats 800000 in
set_option maxRecDepth 1000000 in
theorem ru8_any (p : Nat) (a : Option Addr) (bs : List Int) (i e : Nat) (w : World) (hr : Rd w p a bs i e) :
    Calls Try.prog 28 #[.pointer (some ⟨p, 0, none⟩)] w fun r w' => r = .returned (.int .u8 ((jn (tk bs i e 1).2.2 % 256 : Nat) : Int)) ∧ Rd w' p a bs (tk bs i e 1).1 (tk bs i e 1).2.1 ∧ w.grownBy w' (some p) := by
  have hmf : ∀ (fn : Fn) (first cap : Array Value) (w : World), (Instr.makeFunc fn first cap).run Try.prog w = .ok (.func fn first cap) w := fun _ _ _ _ => rfl
  have HC := hide (joined_any p a bs i e 1 w hr (by omega))
  clear hr
  go_enter Try.func28, Try.ntmps28
  go_wp2_with fail
  refine HC.out.mono ?_
  rintro r w1 ⟨rfl, hrd, hg⟩
  have HR := hide (And.intro hrd hg)
  have hj := jn_lt (tk bs i e 1).2.2
  clear hrd hg
  go_wp2
  go_ret
  exact ⟨rfl, HR.out⟩
end Go.Proofs.Ytehapglbenaikaa
