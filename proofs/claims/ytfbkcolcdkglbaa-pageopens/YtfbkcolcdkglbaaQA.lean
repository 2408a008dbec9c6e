/- The document's own bytes: numbers, and the sum. -/
import Derived.Test.YtfbkcolcdkglbaaTB
import Derived.Test.YtfbkcolcdkglbaaCC
namespace Go.Proofs.Ytfbkcolcdkglbaa
open Go.RowKit
set_option linter.unusedVariables false

def sliceLen : Value → Nat
  | .slice _ n _ => n
  | _ => 0
/-- an append of one byte to what a call made. -/
theorem Made.append {w0 W W1 W2 : World} {v v' : Value} {zs ys : List Int} (h : Made w0 v zs W) (h0 : Below W.heap.size W W1) (hown : Own W2 v' (zs ++ ys)) (hg : W1.grownBy W2 v.ownBlock) (hf : ∀ k, v'.ownBlock = some k → v.ownBlock = some k ∨ W1.heap.size ≤ k) : Made w0 v' (zs ++ ys) W2 := by
  have hb1 := h.2.2.trans (h0.mono h.2.2.size)
  refine ⟨hown, fun k hk => ?_, hb1.grown hg hb1.size (fun k hk => h.2.1 k hk)⟩
  rcases hf k hk with h1 | h1
  · exact h.2.1 k h1
  · exact Nat.le_trans hb1.size h1

set_option maxHeartbeats 1600000 in
set_option maxRecDepth 1000000 in
theorem put_made (w0 : World) (v : Value) (n m : Nat) (mi ni : Int) (hni : ni = (n : Int)) (hmi : mi = (m : Int)) (zs : List Int) (W : World) (h : Made w0 v zs W) (hn : n < 18446744073709551616) (hm : m ≤ 100) (hb : zs.length ≤ 100000) :
    Calls Try.prog 33 #[v, .int .u64 ni, .int .i64 mi] W fun e W' => ∃ v', e = .returned v' ∧ Made w0 v' (zs ++ Crc.le m n) W' := by
  subst hni
  subst hmi
  obtain ⟨i0, hi, hz0, hz1, hz2⟩ := info_parts Try.info5
  obtain ⟨a0, n0, c0, rfl, -⟩ := h.1.shape2
  have HW := hide h
  clear h
  go_enter Try.func33, Try.ntmps33
  go_wp2
  go_loopw [0, 1, 7] (fun b x i wr => ∃ (j u : Nat), j ≤ m ∧ i = .int .i64 (j : Int) ∧ x = .int .u64 (u : Int) ∧ u < 18446744073709551616 ∧ ∃ pre, pre.length = j ∧ pre ++ Crc.le (m - j) u = Crc.le m n ∧ Made w0 b (zs ++ pre) wr) (fun _ _ i _ => m - (intOf i).toNat)
  case atStart => exact ⟨0, n, Nat.zero_le _, rfl, rfl, hn, [], rfl, rfl, by simpa using HW.out⟩
  case round =>
    obtain ⟨j, u, hj, rfl, rfl, hu, pre, hpl, hpre, hmd⟩ := hrel
    have HPL := hide hpl
    have HPre := hide hpre
    have HMd := hide hmd
    obtain ⟨a1, n1, c1, rfl, -⟩ := hmd.1.shape2
    clear hpl hpre hmd
    by_cases hlt : j < m
    · have HL : Hid ((zs ++ pre).length + 1 ≤ 140737488355328) := by
        have := HPL.out
        rw [Hid, List.length_append]
        omega
      have HE : Hid (Crc.le (m - j) u = [((u % 256 : Nat) : Int)] ++ Crc.le (m - (j + 1)) (u / 256)) := by
        have e : m - j = (m - (j + 1)) + 1 := by omega
        rw [Hid, e]; rfl
      go_wp2_with (at_builtin; refine wpList_append_src (by rfl) (.tmp 13) (.tmp 17) 23 23 (by rfl) i0 Try.underlying23 hi hz0 hz1 hz2 (.slice a1 n1 c1) (zs ++ pre) (by rfl) (HMd.out.1.alloc _) (.slice (some ⟨wr.heap.size, 0, none⟩) 1 1) 1 [((u % 256 : Nat) : Int)] (by rfl) (src_one _ _) HL.out ?_; intro v' w1 hown1 hg1 hf1; obtain ⟨a2, n2, c2, rfl, HN2⟩ := hown1.shape2; have HR := hide (HMd.out.append (below_alloc _ _) hown1 hg1 hf1); clear hown1 hg1 hf1)
      go_roundw
      case rel => exact ⟨j + 1, u / 256, by omega, by go_num, by go_num, by omega, pre ++ [((u % 256 : Nat) : Int)], by rw [List.length_append, HPL.out]; rfl, by rw [List.append_assoc, ← HE.out]; exact HPre.out, by rw [← List.append_assoc]; exact HR.out⟩
      case measure => simp [intOf]; omega
    · obtain rfl : j = m := by omega
      go_wp2
      go_ret
      have e : pre = Crc.le j n := by have := HPre.out; rw [Nat.sub_self] at this; rw [← this]; simp [Crc.le]
      exact ⟨_, rfl, by rw [← e]; exact HMd.out⟩

set_option maxHeartbeats 1600000 in
set_option maxRecDepth 1000000 in
theorem filled_made (w0 : World) (v : Value) (m : Nat) (mi : Int) (hmi : mi = (m : Int)) (zs : List Int) (W : World) (h : Made w0 v zs W) (h8 : Byts zs) (hm : m ≤ 5000) (hb : zs.length ≤ m) :
    Calls Try.prog 34 #[v, .int .i64 mi] W fun e W' => ∃ v', e = .returned v' ∧ Made w0 v' (Pg.sl (m + 4) zs) W' := by
  subst hmi
  obtain ⟨i0, hi, hz0, hz1, hz2⟩ := info_parts Try.info5
  obtain ⟨a0, n0, c0, rfl, -⟩ := h.1.shape2
  have HW := hide h
  have HF : Hid (Pg.fill (m + 4) zs = zs ++ List.replicate (m - zs.length) 0) := by rw [Hid, Pg.fill]; congr 2
  have HFl : Hid ((Pg.fill (m + 4) zs).length = m) := hide (by rw [Pg.fill_length _ _ (by omega)]; omega)
  have HF8 : Hid (Byts (Pg.fill (m + 4) zs)) := hide (Pg.fill_b8 _ _ h8)
  have HSum : Hid (∀ (W : World) a n c, Inn W a n c (Pg.fill (m + 4) zs) → Calls Try.prog 70 #[.slice a n c] W fun e w' => e = .returned (.int .u32 ((Crc.more 0 (Pg.fill (m + 4) zs) : Nat) : Int)) ∧ w' = W) :=
    hide fun W a n c hr => ref_sum_any a n c _ W hr.len (by have := hr.cap; have := hr.max; omega) hr.row hr.byts
  have HPut : Hid (∀ (W : World) v, Made w0 v (Pg.fill (m + 4) zs) W → Calls Try.prog 33 #[v, .int .u64 ((Crc.more 0 (Pg.fill (m + 4) zs) : Nat) : Int), .int .i64 4] W fun e w' => ∃ v', e = .returned v' ∧ Made w0 v' (Pg.sl (m + 4) zs) w') :=
    hide fun W v hv => put_made w0 v _ 4 4 _ rfl rfl _ W hv (by have := Crc.more_lt 0 _ (by omega) HF8.out; omega) (by omega) (by rw [HFl.out]; omega)
  have hM := Crc.more_lt 0 _ (by omega) HF8.out
  generalize Pg.sl (m + 4) zs = RR at *
  generalize Crc.more 0 (Pg.fill (m + 4) zs) = MM at *
  generalize Pg.fill (m + 4) zs = FF at *
  clear h h8
  go_enter Try.func34, Try.ntmps34
  go_wp2
  go_loopw [0] (fun b wr => ∃ (j n1 c1 : Nat) (a1 : Option Addr), b = .slice a1 n1 c1 ∧ n1 = zs.length + j ∧ n1 ≤ m ∧ Made w0 b (zs ++ List.replicate j 0) wr) (fun b _ => m - sliceLen b)
  case atStart =>
    obtain ⟨a', c', e, -⟩ := HW.out.1.shape
    cases e
    exact ⟨0, _, _, _, rfl, rfl, hb, by simpa using HW.out⟩
  case round =>
    obtain ⟨j, n1, c1, a1, rfl, hn1, hnm, hmd⟩ := hrel
    have HMd := hide hmd
    have HN1 := hide hn1
    clear hmd hn1
    by_cases hlt : n1 < m
    · have HL : Hid ((zs ++ List.replicate j 0).length + 1 ≤ 140737488355328) := by
        have := HN1.out
        rw [Hid, List.length_append, List.length_replicate]
        omega
      have dlt : (n1 : Int) < (m : Int) := by omega
      go_wp2_with (at_builtin; refine wpList_append_src (by rfl) (.tmp 10) (.tmp 11) 23 23 (by rfl) i0 Try.underlying23 hi hz0 hz1 hz2 (.slice a1 n1 c1) (zs ++ List.replicate j 0) (by rfl) (HMd.out.1.alloc _) (.slice (some ⟨wr.heap.size, 0, none⟩) 1 1) 1 [0] (by rfl) (src_one _ _) HL.out ?_; intro v' w1 hown1 hg1 hf1; obtain ⟨a2, n2, c2, rfl, HN2⟩ := hown1.shape2; have HR := hide (HMd.out.append (below_alloc _ _) hown1 hg1 hf1); clear hown1 hg1 hf1)
      have hn2 : n2 = n1 + 1 := by have := HN2.out; have := HN1.out; simp at *; omega
      go_roundw
      case rel => exact ⟨j + 1, _, _, _, rfl, by have := HN1.out; omega, by omega, by rw [List.replicate_succ', ← List.append_assoc]; exact HR.out⟩
      case measure => simp [sliceLen]; omega
    · obtain rfl : n1 = m := by omega
      have HMf : Hid (Made w0 (.slice a1 n1 c1) FF wr) := by
        have e : n1 - zs.length = j := by have := HN1.out; omega
        have := HMd.out
        rw [HF.out, e]
        exact this
      obtain ⟨hin, -⟩ := HMf.out.inn HF8.out
      have HIn := hide hin
      clear hin
      go_wp2_with fail
      refine (HSum.out _ a1 n1 c1 HIn.out).mono ?_
      rintro e w1 ⟨rfl, rfl⟩
      go_wp2_with fail
      refine (HPut.out _ _ HMf.out).mono ?_
      rintro e w2 ⟨v2, rfl, hm2⟩
      have HM2 := hide hm2
      obtain ⟨a2, n2, c2, rfl, -⟩ := hm2.1.shape2
      clear hm2
      go_wp2
      go_ret
      exact ⟨_, rfl, HM2.out⟩
end Go.Proofs.Ytfbkcolcdkglbaa
