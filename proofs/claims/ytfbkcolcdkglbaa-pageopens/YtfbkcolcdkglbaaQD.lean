/- The document's own GetMeta. -/
import Derived.Test.YtfbkcolcdkglbaaQC
namespace Go.Proofs.Ytfbkcolcdkglbaa
open Go.RowKit
set_option linter.unusedVariables false

theorem leV_drop (L : List Int) (j : Nat) (h : j < L.length) : Crc.leV (L.drop j) = (L.getD j 0).toNat + 256 * Crc.leV (L.drop (j + 1)) := by
  rw [List.drop_eq_getElem_cons h, Crc.leV, List.getD_eq_getElem?_getD, List.getElem?_eq_getElem h]
  rfl
set_option maxHeartbeats 1600000 in
set_option maxRecDepth 1000000 in
theorem rget_any (a : Option Addr) (n c : Nat) (zs : List Int) (at1 k : Nat) (ai ki : Int) (hai : ai = (at1 : Int)) (hki : ki = (k : Int)) (w : World) (h : Inn w a n c zs) (hk : k ≤ 8) (hat : at1 + k ≤ n) :
    Calls Try.prog 61 #[.slice a n c, .int .i64 ai, .int .i64 ki] w fun e w' => e = .returned (.int .u64 ((Crc.leV ((zs.drop at1).take k) : Nat) : Int)) ∧ Below w.heap.size w w' := by
  subst hai
  subst hki
  have hcap := h.cap
  have hmax := h.max
  have HI := hide h
  have hLl : ((zs.drop at1).take k).length = k := by rw [List.length_take, List.length_drop, h.len]; omega
  have HL8 : Hid (Byts ((zs.drop at1).take k)) := hide ((h.byts.drop at1).take k)
  have HC : Hid (∀ i, i < k → ∃ b off, a = some ⟨b, off, none⟩ ∧ w.cell? ⟨b, off + (at1 + i), none⟩ = some (.int .u8 (((zs.drop at1).take k).getD i 0))) := by
    intro i hi
    rcases h.row with h0 | ⟨b, off, h1, _, h2⟩
    · have := h.len; rw [h0] at this; simp at this; omega
    · refine ⟨b, off, h1, ?_⟩
      rw [h2 (at1 + i) (by rw [h.len]; omega)]
      simp [hi]
  have HLl := hide hLl
  clear h hLl
  generalize (zs.drop at1).take k = L at *
  go_enter Try.func61, Try.ntmps61
  go_wp2
  go_loopw [7, 8] (fun x i wr => ∃ j : Nat, j ≤ k ∧ i = .int .i64 ((j : Int) - 1) ∧ x = .int .u64 ((Crc.leV (L.drop j) : Nat) : Int) ∧ wr = w) (fun _ i _ => ((intOf i) + 1).toNat)
  case atStart => exact ⟨k, Nat.le_refl _, rfl, by rw [List.drop_of_length_le (by rw [HLl.out]; exact Nat.le_refl _)]; rfl, rfl⟩
  case round =>
    obtain ⟨j, hj, rfl, rfl, rfl⟩ := hrel
    cases j with
    | succ q =>
      have e1 : ((q + 1 : Nat) : Int) - 1 = (q : Int) := by omega
      rw [e1]
      obtain ⟨b, off, rfl, hcell⟩ := HC.out q (by omega)
      have hcb := HL8.out.at q
      have HD := hide (leV_drop L q (by rw [HLl.out]; omega))
      have HLt : Hid (Crc.leV (L.drop (q + 1)) < 256 ^ 7) := by
        have h1 := Crc.leV_lt (L.drop (q + 1)) (HL8.out.drop (q + 1))
        rw [List.length_drop, HLl.out] at h1
        have h2 : (256 : Nat) ^ (k - (q + 1)) ≤ 256 ^ 7 := Nat.pow_le_pow_right (by omega) (by omega)
        exact Nat.lt_of_lt_of_le h1 h2
      have hN : Crc.leV (L.drop (q + 1)) < 72057594037927936 := by
        have h2 : (256 : Nat) ^ 7 = 72057594037927936 := by decide
        have := HLt.out
        omega
      generalize Crc.leV (L.drop (q + 1)) = N at *
      generalize L.getD q 0 = cc at *
      obtain ⟨C, rfl⟩ := Int.eq_ofNat_of_zero_le hcb.1
      have hidx : decide (at1 + q < n) = true := by simp; omega
      clear e1
      go_wp2
      go_roundw
      case rel => exact ⟨q, by omega, by go_num, by rw [HD.out]; go_num, trivial⟩
      case measure => simp [intOf]
    | zero =>
      go_wp2
      go_ret
      exact ⟨by rw [List.drop_zero]; rfl, Below.refl _ _⟩
end Go.Proofs.Ytfbkcolcdkglbaa
