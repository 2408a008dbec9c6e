/- The document's own: whether a node may be a page; a number in so many bytes. -/
import Derived.Test.YtfpojfohlmhklaaZD
import Derived.Test.YtfpojfohlmhklaaW
namespace Go.Proofs.Ytfpojfohlmhklaa
open Go.RowKit
set_option linter.unusedVariables false

set_option maxHeartbeats 800000 in
set_option maxRecDepth 1000000 in
theorem rmay_none (leaf : Bool) (a : Option Addr) (c : Nat) (w : World) :
    Calls Try.prog 32 #[.agg #[.bool leaf, .slice a 0 c]] w fun e w' => e = .returned (.bool (mayB leaf [])) ∧ Below w.heap.size w w' := by
  obtain ⟨n0, n1, -⟩ := cells_two (heap_alloc_new w (.cells #[.bool leaf, .slice a 0 c] 24))
  go_enter Try.func32, Try.ntmps32
  go_wp2
  go_ret
  exact ⟨rfl, below_alloc _ _⟩
theorem rmay_all (leaf : Bool) (a : Option Addr) (n c : Nat) (xs : List En) (w : World) (h : Ens w a n c xs) (hn : n ≤ 1000000) :
    Calls Try.prog 32 #[.agg #[.bool leaf, .slice a n c]] w fun e w' => e = .returned (.bool (mayB leaf (ers xs))) ∧ Below w.heap.size w w' := by
  cases xs with
  | nil =>
    have hl := h.len
    simp at hl
    subst hl
    exact rmay_none leaf a c w
  | cons x xs => exact rmay_any leaf a n c (x :: xs) w h hn (by have := h.len; simp at this; omega)
set_option maxHeartbeats 1600000 in
set_option maxRecDepth 1000000 in
theorem rcheck_any (leaf : Bool) (a : Option Addr) (n c : Nat) (xs : List En) (w : World) (h : Ens w a n c xs) (hn : n ≤ 1000000) (hw : wts (ers xs) ≤ 1000000) :
    Calls Try.prog 14 #[.agg #[.bool leaf, .slice a n c]] w fun e w' => e = .returned (.int .u16 ((chk leaf (ers xs) : Nat) : Int)) ∧ Below w.heap.size w w' := by
  have hb := heap_alloc_new w (.cells #[.bool leaf, .slice a n c] 24)
  obtain ⟨n0, n1, -⟩ := cells_two hb
  have hB0 := below_alloc w (.cells #[.bool leaf, .slice a n c] 24)
  have HB0 := hide hB0
  have HE := hide (h.below hB0)
  have HB := hide hb
  have HM := hide (rmay_all leaf a n c xs _ HE.out hn)
  have HS := hide (fun (W : World) (e : Ens W a n c xs) => rsize_any leaf a n c xs W e hn hw)
  have HD : Hid (chk leaf (ers xs) = if mayB leaf (ers xs) then (if nsz leaf (ers xs) ≤ 1008 then 0 else 91) else 90) := hide rfl
  have hz : nsz leaf (ers xs) ≤ 11000002 := by have := esum_le leaf (ers xs); rw [ers_len, h.len] at this; unfold nsz; omega
  clear h hB0 hb
  generalize chk leaf (ers xs) = C at *
  generalize mayB leaf (ers xs) = M at *
  generalize nsz leaf (ers xs) = Z at *
  cases M with
  | false =>
    go_enter Try.func14, Try.ntmps14
    go_wp2_with (go_at_call 32; refine HM.out.mono ?_; rintro e w2 ⟨rfl, hb2⟩)
    go_ret
    exact ⟨by rw [HD.out]; rfl, HB0.out.trans (hb2.mono HB0.out.size)⟩
  | true =>
    go_enter Try.func14, Try.ntmps14
    go_wp2_with fail
    refine HM.out.mono ?_
    rintro e w2 ⟨rfl, hb2⟩
    have hbk := (hb2.block _ (lt_of_block HB.out)).trans HB.out
    obtain ⟨m0, m1, -⟩ := cells_two hbk
    have HE2 := hide (HE.out.below hb2)
    have HB2 := hide (HB0.out.trans (hb2.mono HB0.out.size))
    clear hb2 hbk HM
    by_cases hl : Z ≤ 1008
    · have d1 : ¬ (1008 : Int) < (Z : Int) := by omega
      have HL := hide hl
      clear hl
      go_wp2_with (go_at_call 15; refine (HS.out _ HE2.out).mono ?_; rintro e w3 ⟨rfl, hb3⟩)
      go_ret
      exact ⟨by rw [HD.out, if_pos trivial, if_pos HL.out]; rfl, HB2.out.trans (hb3.mono HB2.out.size)⟩
    · have d1 : (1008 : Int) < (Z : Int) := by omega
      have HL := hide hl
      clear hl
      go_wp2_with (go_at_call 15; refine (HS.out _ HE2.out).mono ?_; rintro e w3 ⟨rfl, hb3⟩)
      go_ret
      exact ⟨by rw [HD.out, if_pos trivial, if_neg HL.out]; rfl, HB2.out.trans (hb3.mono HB2.out.size)⟩

theorem le_snoc (j N : Nat) : Crc.le (j + 1) N = Crc.le j N ++ [((N / 256 ^ j % 256 : Nat) : Int)] := by
  induction j generalizing N with
  | zero => simp [Crc.le]
  | succ j ih =>
    rw [Crc.le, ih, Crc.le, Nat.div_div_eq_div_mul, Nat.pow_succ, Nat.mul_comm 256]
    rfl
theorem grown_next {a b c : World} {r r' : Option Nat} (h : a.grownBy b r) (k : b.grownBy c r') (hr : ∀ x, r' = some x → r = some x ∨ a.heap.size ≤ x) : a.grownBy c r :=
  ⟨k.os.trans h.os, k.tape.trans h.tape, k.output.trans h.output, Nat.le_trans h.size k.size, fun i hi hn => (k.block i (Nat.lt_of_lt_of_le hi h.size) (fun e => by rcases hr i e.symm with g | g; exact hn g.symm; omega)).trans (h.block i hi hn)⟩
set_option maxHeartbeats 1600000 in
set_option maxRecDepth 1000000 in
theorem rput_any (v : Value) (zs : List Int) (N k : Nat) (w : World) (hv : Own w v zs) (hN : N ≤ 18446744073709551615) (hk : k ≤ 8) (hl : zs.length ≤ 1000000) :
    Calls Try.prog 26 #[v, .int .u64 (N : Int), .int .i64 (k : Int)] w fun e w' => ∃ v', e = .returned v' ∧ Own w' v' (zs ++ Crc.le k N) ∧ w.grownBy w' v.ownBlock ∧ ∀ b, v'.ownBlock = some b → v.ownBlock = some b ∨ w.heap.size ≤ b := by
  obtain ⟨i0, hi, hz0, hz1, hz2⟩ := info_parts Try.info5
  have HV := hide hv
  have HL := hide hl
  clear hv hl
  go_enter Try.func26, Try.ntmps26
  go_wp2
  go_loopw [0, 1, 7] (fun b n i wr => ∃ (j : Nat) (v' : Value), j ≤ k ∧ i = .int .i64 (j : Int) ∧ n = .int .u64 ((N / 256 ^ j : Nat) : Int) ∧ b = v' ∧ Own wr v' (zs ++ Crc.le j N) ∧ w.grownBy wr v.ownBlock ∧ ∀ b, v'.ownBlock = some b → v.ownBlock = some b ∨ w.heap.size ≤ b) (fun _ _ i _ => k - (intOf i).toNat)
  case atStart => exact ⟨0, v, Nat.zero_le _, rfl, by simp, rfl, by simpa [Crc.le] using HV.out, ⟨rfl, rfl, rfl, Nat.le_refl _, fun _ _ _ => rfl⟩, fun b hb => .inl hb⟩
  case round =>
    obtain ⟨j, v', hj, rfl, rfl, rfl, ho, hg, hf⟩ := hrel
    have HG := hide hg
    have HF := hide hf
    have HO := hide ho
    have hM : N / 256 ^ j ≤ 18446744073709551615 := Nat.le_trans (Nat.div_le_self _ _) hN
    have HLe := hide (le_snoc j N)
    have HDv : Hid (N / 256 ^ (j + 1) = N / 256 ^ j / 256) := by rw [Hid, Nat.pow_succ, Nat.div_div_eq_div_mul]
    have HLl : Hid ((zs ++ Crc.le j N).length + 1 ≤ 140737488355328) := by rw [Hid, List.length_append, Crc.le_length]; have := HL.out; omega
    obtain ⟨a1, n1, c1, rfl, -⟩ := ho.shape2
    generalize hMM : N / 256 ^ j = M at *
    clear hg hf ho hMM
    by_cases hlt : j < k
    · go_wp2_with (at_builtin; refine wpList_append_src (by rfl) (.tmp 13) (.tmp 17) 27 27 (by rfl) i0 Try.underlying27 hi hz0 hz1 hz2 (.slice a1 n1 c1) (zs ++ Crc.le j N) (by rfl) (HO.out.alloc _) (.slice (some ⟨wr.heap.size, 0, none⟩) 1 1) 1 [(M : Int) % 256] (by rfl) (src_one wr _) HLl.out ?_; intro v2 w1 ho1 hg1 hf1; obtain ⟨a2, n2, c2, rfl, -⟩ := ho1.shape2; have HO1 := hide ho1; have HG1 := hide hg1; have HF1 := hide hf1; clear ho1 hg1 hf1)
      go_roundw
      case rel =>
        refine ⟨j + 1, _, by omega, by go_num, by rw [HDv.out]; simp, rfl, ?_, grown_next (grown_next HG.out (World.grownBy_alloc wr _ none) (fun x hx => by cases hx)) HG1.out HF.out, fun b hb => ?_⟩
        · have := HO1.out
          rw [HLe.out, ← List.append_assoc]
          simpa using this
        · rcases HF1.out b hb with h | h
          · exact HF.out b h
          · simp at h
            have := HG.out.size
            exact .inr (by omega)
      case measure => simp [intOf]; omega
    · have HJ : Hid (j = k) := hide (by omega)
      go_wp2
      go_ret
      refine ⟨_, rfl, ?_, HG.out, HF.out⟩
      have := HO.out
      rw [HJ.out] at this
      exact this
end Go.Proofs.Ytfpojfohlmhklaa
