/- Contracts of the reckoning by definition: the same numbers. -/
import Derived.Test.YtlmofgfkclfgeaaGreatRA
import Derived.Test.YtlmofgfkclfgeaaGreatZK
namespace Go.Proofs.YtlmofgfkclfgeaaGreat
open Go.RowKit
set_option linter.unusedVariables false

set_option maxHeartbeats 400000 in
theorem ref_more_any (s : Nat) (hs : s < 4294967296) (a : Option Addr) (len cap : Nat) (zs : List Int) (w : World) (hl : zs.length = len) (hbig : len ≤ 9223372036854775807) (hr : Row w a zs) (hb : Byts zs) :
    Calls Tryz.prog 103 #[.int .u32 (s : Int), .slice a len cap] w fun e w' => e = .returned (.int .u32 ((Crc.more s zs : Nat) : Int)) ∧ w' = w := by
  have HL : Hid (zs.length = len) := hl
  have HB := hide hb
  have hrow := hide hr
  clear hl hb hr
  go_enter Tryz.func103, Tryz.ntmps103
  go_wp2
  rw [inv_is s hs]
  go_loop [5, 6] (fun r i => ∃ k : Nat, k ≤ len ∧ i = .int .i64 k ∧ r = .int .u32 ((Crc.reg (Crc.inv s) (zs.take k) : Nat) : Int)) (fun _ i => len - (intOf i).toNat)
  case atStart => exact ⟨0, Nat.zero_le _, rfl, rfl⟩
  case round =>
    obtain ⟨k, hk, rfl, rfl⟩ := hrel
    have hR := Crc.reg_lt (Crc.inv s) (zs.take k) (Crc.inv_lt s hs) (HB.out.take k)
    by_cases hlt : k < len
    · have hlk : k < zs.length := by have := HL.out; omega
      rcases hrow.out with h0 | ⟨b, off, rfl, hlt2, hc⟩
      · subst h0; simp at hlk
      have hcb := HB.out.at k
      have hck := hc k hlk
      have HS : Hid (Crc.reg (Crc.inv s) (zs.take (k + 1)) = Crc.byt (Crc.reg (Crc.inv s) (zs.take k)) (zs.getD k 0).toNat) := by rw [Hid, take_snoc zs k hlk, Crc.reg_snoc]
      generalize Crc.reg (Crc.inv s) (zs.take k) = R at *
      generalize zs.getD k 0 = c at *
      obtain ⟨C, rfl⟩ := Int.eq_ofNat_of_zero_le hcb.1
      have e1 := xor_is R C hR (by omega)
      have hX := Crc.xor_lt32 R C hR (by omega)
      have HX : Hid (Crc.byt R C = Crc.stps 8 (R ^^^ C)) := by rw [Hid, Crc.byt]
      generalize R ^^^ C = X at *
      have hd : decide ((k : Int) < (len : Int)) = true := by simp; omega
      clear hc hlt2
      go_wp2
      go_loop [5, 7] (fun r j => ∃ m : Nat, m ≤ 8 ∧ j = .int .i64 m ∧ r = .int .u32 ((Crc.stps m X : Nat) : Int)) (fun _ j => 8 - (intOf j).toNat)
      case atStart => exact ⟨0, Nat.zero_le _, rfl, rfl⟩
      case round =>
        obtain ⟨m, hm, rfl, rfl⟩ := hrel
        have hs := Crc.stps_lt m X hX
        by_cases hml : m < 8
        · have HS2 := hide (Crc.stps_succ m X)
          generalize Crc.stps m X = Y at *
          go_wp2
          · go_round
            case rel => exact ⟨m + 1, by omega, by go_num, by rw [HS2.out, stp_odd Y hs ‹_›]⟩
            case measure => simp [intOf]; omega
          · go_round
            case rel => exact ⟨m + 1, by omega, by go_num, by rw [HS2.out, stp_even Y hs ‹_›]⟩
            case measure => simp [intOf]; omega
        · obtain rfl : m = 8 := by omega
          go_wp2
          go_round
          case rel => exact ⟨k + 1, by omega, by go_num, by rw [HS.out, Int.toNat_natCast, HX.out]⟩
          case measure => simp [intOf]; omega
    · obtain rfl : k = len := by omega
      have HF : Hid (bits .xor .u32 IntKind.u32.max ((Crc.reg (Crc.inv s) (zs.take k) : Nat) : Int) = ((Crc.more s zs : Nat) : Int)) := by
        rw [Hid, inv_is _ hR, Crc.more, List.take_of_length_le (by have := HL.out; omega)]
      go_wp2
      go_ret
      exact ⟨ret_int HF.out, rfl⟩

set_option maxHeartbeats 400000 in
theorem ref_sum_any (a : Option Addr) (len cap : Nat) (zs : List Int) (w : World) (hl : zs.length = len) (hbig : len ≤ 9223372036854775807) (hr : Row w a zs) (hb : Byts zs) :
    Calls Tryz.prog 93 #[.slice a len cap] w fun e w' => e = .returned (.int .u32 ((Crc.more 0 zs : Nat) : Int)) ∧ w' = w := by
  have H := hide (ref_more_any 0 (by omega) a len cap zs w hl hbig hr hb)
  clear hl hr hb
  go_enter Tryz.func93, Tryz.ntmps93
  go_wp2_with fail
  refine H.out.mono ?_
  rintro e w1 ⟨rfl, rfl⟩
  go_wp2
  go_ret
  exact ⟨rfl, rfl⟩
end Go.Proofs.YtlmofgfkclfgeaaGreat
/- The document's own bytes: numbers, and the sum. -/
namespace Go.Proofs.YtlmofgfkclfgeaaGreat
open Go.RowKit
set_option linter.unusedVariables false

def sliceLen : Value → Nat
  | .slice _ n _ => n
  | _ => 0
/-- an append of one byte to what a call made. -/
theorem Made.append {w0 W W1 W2 : World} {v v' : Value} {zs ys : List Int} (h : Made w0 v zs W) (h0 : Below W.heap.size W W1) (hown : Own W2 v' (zs ++ ys)) (hg : W1.grownBy W2 v.ownBlock) (hf : ∀ k, v'.ownBlock = some k → v.ownBlock = some k ∨ W1.heap.size ≤ k) : Made w0 v' (zs ++ ys) W2 := by
  have hb1 := h.2.2.trans (h0.mono h.2.2.size)
  refine ⟨hown, fun k hk => ?_, hb1.grown hg hb1.size (fun k hk => h.2.1 k hk)⟩
  rcases hf k hk with h1 | h1
  · exact h.2.1 k h1
  · exact Nat.le_trans hb1.size h1

set_option maxHeartbeats 1600000 in
set_option maxRecDepth 1000000 in
theorem put_made (w0 : World) (v : Value) (n m : Nat) (mi ni : Int) (hni : ni = (n : Int)) (hmi : mi = (m : Int)) (zs : List Int) (W : World) (h : Made w0 v zs W) (hn : n < 18446744073709551616) (hm : m ≤ 100) (hb : zs.length ≤ 100000) :
    Calls Tryz.prog 80 #[v, .int .u64 ni, .int .i64 mi] W fun e W' => ∃ v', e = .returned v' ∧ Made w0 v' (zs ++ Crc.le m n) W' := by
  subst hni
  subst hmi
  obtain ⟨i0, hi, hz0, hz1, hz2⟩ := info_parts Tryz.info5
  obtain ⟨a0, n0, c0, rfl, -⟩ := h.1.shape2
  have HW := hide h
  clear h
  go_enter Tryz.func80, Tryz.ntmps80
  go_wp2
  go_loopw [0, 1, 7] (fun b x i wr => ∃ (j u : Nat), j ≤ m ∧ i = .int .i64 (j : Int) ∧ x = .int .u64 (u : Int) ∧ u < 18446744073709551616 ∧ ∃ pre, pre.length = j ∧ pre ++ Crc.le (m - j) u = Crc.le m n ∧ Made w0 b (zs ++ pre) wr) (fun _ _ i _ => m - (intOf i).toNat)
  case atStart => exact ⟨0, n, Nat.zero_le _, rfl, rfl, hn, [], rfl, rfl, by simpa using HW.out⟩
  case round =>
    obtain ⟨j, u, hj, rfl, rfl, hu, pre, hpl, hpre, hmd⟩ := hrel
    have HPL := hide hpl
    have HPre := hide hpre
    have HMd := hide hmd
    obtain ⟨a1, n1, c1, rfl, -⟩ := hmd.1.shape2
    clear hpl hpre hmd
    by_cases hlt : j < m
    · have HL : Hid ((zs ++ pre).length + 1 ≤ 140737488355328) := by
        have := HPL.out
        rw [Hid, List.length_append]
        omega
      have HE : Hid (Crc.le (m - j) u = [((u % 256 : Nat) : Int)] ++ Crc.le (m - (j + 1)) (u / 256)) := by
        have e : m - j = (m - (j + 1)) + 1 := by omega
        rw [Hid, e]; rfl
      go_wp2_with (at_builtin; refine wpList_append_src (by rfl) (.tmp 13) (.tmp 17) 22 22 (by rfl) i0 Tryz.underlying22 hi hz0 hz1 hz2 (.slice a1 n1 c1) (zs ++ pre) (by rfl) (HMd.out.1.alloc _) (.slice (some ⟨wr.heap.size, 0, none⟩) 1 1) 1 [((u % 256 : Nat) : Int)] (by rfl) (src_one _ _) HL.out ?_; intro v' w1 hown1 hg1 hf1; obtain ⟨a2, n2, c2, rfl, HN2⟩ := hown1.shape2; have HR := hide (HMd.out.append (below_alloc _ _) hown1 hg1 hf1); clear hown1 hg1 hf1)
      go_roundw
      case rel => exact ⟨j + 1, u / 256, by omega, by go_num, by go_num, by omega, pre ++ [((u % 256 : Nat) : Int)], by rw [List.length_append, HPL.out]; rfl, by rw [List.append_assoc, ← HE.out]; exact HPre.out, by rw [← List.append_assoc]; exact HR.out⟩
      case measure => simp [intOf]; omega
    · obtain rfl : j = m := by omega
      go_wp2
      go_ret
      have e : pre = Crc.le j n := by have := HPre.out; rw [Nat.sub_self] at this; rw [← this]; simp [Crc.le]
      exact ⟨_, rfl, by rw [← e]; exact HMd.out⟩

set_option maxHeartbeats 1600000 in
set_option maxRecDepth 1000000 in
theorem filled_made (w0 : World) (v : Value) (m : Nat) (mi : Int) (hmi : mi = (m : Int)) (zs : List Int) (W : World) (h : Made w0 v zs W) (h8 : Byts zs) (hm : m ≤ 5000) (hb : zs.length ≤ m) :
    Calls Tryz.prog 81 #[v, .int .i64 mi] W fun e W' => ∃ v', e = .returned v' ∧ Made w0 v' (Pg.sl (m + 4) zs) W' := by
  subst hmi
  obtain ⟨i0, hi, hz0, hz1, hz2⟩ := info_parts Tryz.info5
  obtain ⟨a0, n0, c0, rfl, -⟩ := h.1.shape2
  have HW := hide h
  have HF : Hid (Pg.fill (m + 4) zs = zs ++ List.replicate (m - zs.length) 0) := by rw [Hid, Pg.fill]; congr 2
  have HFl : Hid ((Pg.fill (m + 4) zs).length = m) := hide (by rw [Pg.fill_length _ _ (by omega)]; omega)
  have HF8 : Hid (Byts (Pg.fill (m + 4) zs)) := hide (Pg.fill_b8 _ _ h8)
  have HSum : Hid (∀ (W : World) a n c, Inn W a n c (Pg.fill (m + 4) zs) → Calls Tryz.prog 93 #[.slice a n c] W fun e w' => e = .returned (.int .u32 ((Crc.more 0 (Pg.fill (m + 4) zs) : Nat) : Int)) ∧ w' = W) :=
    hide fun W a n c hr => ref_sum_any a n c _ W hr.len (by have := hr.cap; have := hr.max; omega) hr.row hr.byts
  have HPut : Hid (∀ (W : World) v, Made w0 v (Pg.fill (m + 4) zs) W → Calls Tryz.prog 80 #[v, .int .u64 ((Crc.more 0 (Pg.fill (m + 4) zs) : Nat) : Int), .int .i64 4] W fun e w' => ∃ v', e = .returned v' ∧ Made w0 v' (Pg.sl (m + 4) zs) w') :=
    hide fun W v hv => put_made w0 v _ 4 4 _ rfl rfl _ W hv (by have := Crc.more_lt 0 _ (by omega) HF8.out; omega) (by omega) (by rw [HFl.out]; omega)
  have hM := Crc.more_lt 0 _ (by omega) HF8.out
  generalize Pg.sl (m + 4) zs = RR at *
  generalize Crc.more 0 (Pg.fill (m + 4) zs) = MM at *
  generalize Pg.fill (m + 4) zs = FF at *
  clear h h8
  go_enter Tryz.func81, Tryz.ntmps81
  go_wp2
  go_loopw [0] (fun b wr => ∃ (j n1 c1 : Nat) (a1 : Option Addr), b = .slice a1 n1 c1 ∧ n1 = zs.length + j ∧ n1 ≤ m ∧ Made w0 b (zs ++ List.replicate j 0) wr) (fun b _ => m - sliceLen b)
  case atStart =>
    obtain ⟨a', c', e, -⟩ := HW.out.1.shape
    cases e
    exact ⟨0, _, _, _, rfl, rfl, hb, by simpa using HW.out⟩
  case round =>
    obtain ⟨j, n1, c1, a1, rfl, hn1, hnm, hmd⟩ := hrel
    have HMd := hide hmd
    have HN1 := hide hn1
    clear hmd hn1
    by_cases hlt : n1 < m
    · have HL : Hid ((zs ++ List.replicate j 0).length + 1 ≤ 140737488355328) := by
        have := HN1.out
        rw [Hid, List.length_append, List.length_replicate]
        omega
      have dlt : (n1 : Int) < (m : Int) := by omega
      go_wp2_with (at_builtin; refine wpList_append_src (by rfl) (.tmp 10) (.tmp 11) 22 22 (by rfl) i0 Tryz.underlying22 hi hz0 hz1 hz2 (.slice a1 n1 c1) (zs ++ List.replicate j 0) (by rfl) (HMd.out.1.alloc _) (.slice (some ⟨wr.heap.size, 0, none⟩) 1 1) 1 [0] (by rfl) (src_one _ _) HL.out ?_; intro v' w1 hown1 hg1 hf1; obtain ⟨a2, n2, c2, rfl, HN2⟩ := hown1.shape2; have HR := hide (HMd.out.append (below_alloc _ _) hown1 hg1 hf1); clear hown1 hg1 hf1)
      have hn2 : n2 = n1 + 1 := by have := HN2.out; have := HN1.out; simp at *; omega
      go_roundw
      case rel => exact ⟨j + 1, _, _, _, rfl, by have := HN1.out; omega, by omega, by rw [List.replicate_succ', ← List.append_assoc]; exact HR.out⟩
      case measure => simp [sliceLen]; omega
    · obtain rfl : n1 = m := by omega
      have HMf : Hid (Made w0 (.slice a1 n1 c1) FF wr) := by
        have e : n1 - zs.length = j := by have := HN1.out; omega
        have := HMd.out
        rw [HF.out, e]
        exact this
      obtain ⟨hin, -⟩ := HMf.out.inn HF8.out
      have HIn := hide hin
      clear hin
      go_wp2_with fail
      refine (HSum.out _ a1 n1 c1 HIn.out).mono ?_
      rintro e w1 ⟨rfl, rfl⟩
      go_wp2_with fail
      refine (HPut.out _ _ HMf.out).mono ?_
      rintro e w2 ⟨v2, rfl, hm2⟩
      have HM2 := hide hm2
      obtain ⟨a2, n2, c2, rfl, -⟩ := hm2.1.shape2
      clear hm2
      go_wp2
      go_ret
      exact ⟨_, rfl, HM2.out⟩
end Go.Proofs.YtlmofgfkclfgeaaGreat
/- The document's own PutMeta; a number out of bytes. -/
namespace Go.Proofs.YtlmofgfkclfgeaaGreat
open Go.RowKit
set_option linter.unusedVariables false

theorem src_cmet (w : World) : Src Tryz.prog 1 9 (.string ⟨#[67, 77, 69, 84]⟩) 4 (([67, 77, 69, 84] : List Int).map (Value.int .u8)) w := Src.ofString w Tryz.underlying9 ⟨#[67, 77, 69, 84]⟩
theorem rput_made (w0 : World) (v : Value) (n m : Nat) (mi ni : Int) (hni : ni = (n : Int)) (hmi : mi = (m : Int)) (zs : List Int) (W : World) (h : Made w0 v zs W) (hn : n < 18446744073709551616) (hm : m ≤ 100) (hb : zs.length ≤ 100000) :
    Calls Tryz.prog 80 #[v, .int .u64 ni, .int .i64 mi] W fun e W' => ∃ a n' c, e = .returned (.slice a n' c) ∧ Made w0 (.slice a n' c) (zs ++ Crc.le m n) W' := by
  refine (put_made w0 v n m mi ni hni hmi zs W h hn hm hb).mono ?_
  rintro e W' ⟨v', rfl, hm'⟩
  obtain ⟨a, n', c, rfl, -⟩ := hm'.1.shape2
  exact ⟨a, n', c, rfl, hm'⟩

end Go.Proofs.YtlmofgfkclfgeaaGreat
/- The document's own Seal. -/
namespace Go.Proofs.YtlmofgfkclfgeaaGreat
open Go.RowKit
set_option linter.unusedVariables false

theorem own_four (w : World) (x y z u : Int) : Own (w.alloc (.cells #[.int .u8 x, .int .u8 y, .int .u8 z, .int .u8 u] 5)) (.slice (some ⟨w.heap.size, 0, none⟩) 4 4) [x, y, z, u] :=
  ⟨rfl, .inr ⟨w.heap.size, 4, _, rfl, Nat.zero_le _, heap_alloc_new w _, Nat.le_refl _, by decide, rfl, rfl⟩⟩
theorem made_four (w : World) (x y z u : Int) : Made w (.slice (some ⟨w.heap.size, 0, none⟩) 4 4) [x, y, z, u] (w.alloc (.cells #[.int .u8 x, .int .u8 y, .int .u8 z, .int .u8 u] 5)) :=
  ⟨own_four w x y z u, fun k hk => by (simp [Value.ownBlock] at hk; omega), below_alloc _ _⟩
set_option maxHeartbeats 1600000 in
set_option maxRecDepth 1000000 in
theorem rseal_no (kind number : Nat) (a : Option Addr) (n c : Nat) (w : World) (h : ¬ (1 ≤ kind ∧ kind ≤ 4 ∧ n ≤ 1008)) :
    Calls Tryz.prog 73 #[.int .u8 (kind : Int), .int .u32 (number : Int), .slice a n c] w fun e w' => e = .returned (.tuple #[.slice none 0 0, .int .u16 80]) ∧ w' = w := by
  by_cases h1 : 1 ≤ kind
  · have d1 : decide ((kind : Int) < 1) = false := by simp; omega
    by_cases h4 : kind ≤ 4
    · have d2 : decide ((4 : Int) < (kind : Int)) = false := by simp; omega
      have d3 : decide ((1008 : Int) < (n : Int)) = true := by simp; omega
      clear h h1 h4
      go_enter Tryz.func73, Tryz.ntmps73
      go_wp2
      go_ret2
      exact ⟨rfl, rfl⟩
    · have d2 : decide ((4 : Int) < (kind : Int)) = true := by simp; omega
      clear h h1 h4
      go_enter Tryz.func73, Tryz.ntmps73
      go_wp2
      go_ret2
      exact ⟨rfl, rfl⟩
  · have d1 : decide ((kind : Int) < 1) = true := by simp; omega
    clear h h1
    go_enter Tryz.func73, Tryz.ntmps73
    go_wp2
    go_ret2
    exact ⟨rfl, rfl⟩
set_option maxHeartbeats 3200000 in
set_option maxRecDepth 1000000 in
theorem rseal_ok (kind number : Nat) (a : Option Addr) (n c : Nat) (pl : List Int) (w : World) (h1 : 1 ≤ kind) (h4 : kind ≤ 4) (hnum : number < 4294967296) (hl : pl.length = n) (hn : a = none → n = 0 ∧ c = 0) (hr : Row w a pl) (h8 : Byts pl) (hlen : n ≤ 1008) :
    Calls Tryz.prog 73 #[.int .u8 (kind : Int), .int .u32 (number : Int), .slice a n c] w fun e w' => ∃ v, e = .returned (.tuple #[v, .int .u16 0]) ∧ Made w v (Pg.pg kind number pl) w' := by
  obtain ⟨i0, hi, hz0, hz1, hz2⟩ := info_parts Tryz.info5
  have HR := hide hr
  have HL := hide hl
  have HN := hide hn
  have HG : Hid (Pg.pg kind number pl = Pg.sl 1024 (([67, 80, (kind : Int), 0] ++ Crc.le 4 number ++ Crc.le 2 n ++ Crc.le 2 0) ++ pl)) := by
    have e1 : Crc.le 1 kind = [(kind : Int)] := by simp [Crc.le]; omega
    have e2 : Crc.le 1 0 = [0] := by simp [Crc.le]
    rw [Hid, Pg.pg, Pg.ph, HL.out, e1, e2]; rfl
  have HH : Hid (Byts (([67, 80, (kind : Int), 0] ++ Crc.le 4 number ++ Crc.le 2 n ++ Crc.le 2 0) ++ pl)) := by
    have := Pg.ph_b8 kind number pl h8
    have e1 : Crc.le 1 kind = [(kind : Int)] := by simp [Crc.le]; omega
    have e2 : Crc.le 1 0 = [0] := by simp [Crc.le]
    rw [Pg.ph, HL.out, e1, e2] at this
    exact this
  have d1 : decide ((kind : Int) < 1) = false := by simp; omega
  have d2 : decide ((4 : Int) < (kind : Int)) = false := by simp; omega
  have d3 : decide ((1008 : Int) < (n : Int)) = false := by simp; omega
  have HM1 := hide (made_four w 67 80 (kind : Int) 0)
  clear h1 h4 hr hl hn h8
  generalize Pg.pg kind number pl = G at *
  go_enter Tryz.func73, Tryz.ntmps73
  go_wp2_with fail
  refine (rput_made w _ number 4 _ _ rfl rfl _ _ HM1.out (by omega) (by omega) (by simp)).mono ?_
  rintro e w3 ⟨a3, n3, c3, rfl, hm3⟩
  have HM3 := hide hm3
  clear hm3
  go_wp2_with fail
  refine (rput_made w _ n 2 _ _ rfl rfl _ _ HM3.out (by omega) (by omega) (by simp [Crc.le_length])).mono ?_
  rintro e w4 ⟨a4, n4, c4, rfl, hm4⟩
  have HM4 := hide hm4
  clear hm4
  go_wp2_with fail
  refine (rput_made w _ 0 2 _ _ rfl rfl _ _ HM4.out (by omega) (by omega) (by simp [Crc.le_length])).mono ?_
  rintro e w5 ⟨a5, n5, c5, rfl, hm5⟩
  have HM5 := hide hm5
  have HSrc := hide (src_row w5 a n c pl HL.out HN.out (HR.out.below hm5.2.2))
  have HLn : Hid (([67, 80, (kind : Int), 0] ++ Crc.le 4 number ++ Crc.le 2 n ++ Crc.le 2 0).length + n ≤ 140737488355328) := by rw [Hid]; simp [Crc.le_length]; omega
  clear hm5
  go_wp2_with (at_builtin; refine wpList_append_src (by rfl) (.tmp 33) (.tmp 34) 22 22 (by rfl) i0 Tryz.underlying22 hi hz0 hz1 hz2 (.slice a5 n5 c5) _ (by rfl) HM5.out.1 (.slice a n c) n pl (by rfl) HSrc.out HLn.out ?_; intro v' w6 hown1 hg1 hf1; obtain ⟨a6, n6, c6, rfl, HN6⟩ := hown1.shape2; have HM6 := hide (HM5.out.append (Below.refl _ _) hown1 hg1 hf1); clear hown1 hg1 hf1)
  skip
  refine (filled_made w _ 1020 _ rfl _ _ HM6.out HH.out (by omega) (by have := HL.out; simp [Crc.le_length]; omega)).mono ?_
  rintro e w9 ⟨v, rfl, hm9⟩
  rw [show 1020 + 4 = 1024 from rfl, ← HG.out] at hm9
  have HM9 := hide hm9
  clear hm9
  obtain ⟨a9, n9, c9, rfl, -⟩ := HM9.out.1.shape2
  go_wp2
  go_ret2
  exact ⟨_, rfl, HM9.out⟩
end Go.Proofs.YtlmofgfkclfgeaaGreat
/- The document's own GetMeta. -/
namespace Go.Proofs.YtlmofgfkclfgeaaGreat
open Go.RowKit
set_option linter.unusedVariables false

theorem leV_drop (L : List Int) (j : Nat) (h : j < L.length) : Crc.leV (L.drop j) = (L.getD j 0).toNat + 256 * Crc.leV (L.drop (j + 1)) := by
  rw [List.drop_eq_getElem_cons h, Crc.leV, List.getD_eq_getElem?_getD, List.getElem?_eq_getElem h]
  rfl
set_option maxHeartbeats 1600000 in
set_option maxRecDepth 1000000 in
theorem rget_any (a : Option Addr) (n c : Nat) (zs : List Int) (at1 k : Nat) (ai ki : Int) (hai : ai = (at1 : Int)) (hki : ki = (k : Int)) (w : World) (h : Inn w a n c zs) (hk : k ≤ 8) (hat : at1 + k ≤ n) :
    Calls Tryz.prog 72 #[.slice a n c, .int .i64 ai, .int .i64 ki] w fun e w' => e = .returned (.int .u64 ((Crc.leV ((zs.drop at1).take k) : Nat) : Int)) ∧ Below w.heap.size w w' := by
  subst hai
  subst hki
  have hcap := h.cap
  have hmax := h.max
  have HI := hide h
  have hLl : ((zs.drop at1).take k).length = k := by rw [List.length_take, List.length_drop, h.len]; omega
  have HL8 : Hid (Byts ((zs.drop at1).take k)) := hide ((h.byts.drop at1).take k)
  have HC : Hid (∀ i, i < k → ∃ b off, a = some ⟨b, off, none⟩ ∧ w.cell? ⟨b, off + (at1 + i), none⟩ = some (.int .u8 (((zs.drop at1).take k).getD i 0))) := by
    intro i hi
    rcases h.row with h0 | ⟨b, off, h1, _, h2⟩
    · have := h.len; rw [h0] at this; simp at this; omega
    · refine ⟨b, off, h1, ?_⟩
      rw [h2 (at1 + i) (by rw [h.len]; omega)]
      simp [hi]
  have HLl := hide hLl
  clear h hLl
  generalize (zs.drop at1).take k = L at *
  go_enter Tryz.func72, Tryz.ntmps72
  go_wp2
  go_loopw [7, 8] (fun x i wr => ∃ j : Nat, j ≤ k ∧ i = .int .i64 ((j : Int) - 1) ∧ x = .int .u64 ((Crc.leV (L.drop j) : Nat) : Int) ∧ wr = w) (fun _ i _ => ((intOf i) + 1).toNat)
  case atStart => exact ⟨k, Nat.le_refl _, rfl, by rw [List.drop_of_length_le (by rw [HLl.out]; exact Nat.le_refl _)]; rfl, rfl⟩
  case round =>
    obtain ⟨j, hj, rfl, rfl, rfl⟩ := hrel
    cases j with
    | succ q =>
      have e1 : ((q + 1 : Nat) : Int) - 1 = (q : Int) := by omega
      rw [e1]
      obtain ⟨b, off, rfl, hcell⟩ := HC.out q (by omega)
      have hcb := HL8.out.at q
      have HD := hide (leV_drop L q (by rw [HLl.out]; omega))
      have HLt : Hid (Crc.leV (L.drop (q + 1)) < 256 ^ 7) := by
        have h1 := Crc.leV_lt (L.drop (q + 1)) (HL8.out.drop (q + 1))
        rw [List.length_drop, HLl.out] at h1
        have h2 : (256 : Nat) ^ (k - (q + 1)) ≤ 256 ^ 7 := Nat.pow_le_pow_right (by omega) (by omega)
        exact Nat.lt_of_lt_of_le h1 h2
      have hN : Crc.leV (L.drop (q + 1)) < 72057594037927936 := by
        have h2 : (256 : Nat) ^ 7 = 72057594037927936 := by decide
        have := HLt.out
        omega
      generalize Crc.leV (L.drop (q + 1)) = N at *
      generalize L.getD q 0 = cc at *
      obtain ⟨C, rfl⟩ := Int.eq_ofNat_of_zero_le hcb.1
      have hidx : decide (at1 + q < n) = true := by simp; omega
      clear e1
      go_wp2
      go_roundw
      case rel => exact ⟨q, by omega, by go_num, by rw [HD.out]; go_num, trivial⟩
      case measure => simp [intOf]
    | zero =>
      go_wp2
      go_ret
      exact ⟨by rw [List.drop_zero]; rfl, Below.refl _ _⟩
end Go.Proofs.YtlmofgfkclfgeaaGreat
