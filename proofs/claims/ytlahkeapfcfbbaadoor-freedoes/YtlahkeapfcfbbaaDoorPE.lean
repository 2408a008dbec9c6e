/- A heap: what was laid last goes up, what was laid first goes down. -/
import Derived.Test.YtlahkeapfcfbbaaDoorPD
namespace Go.Proofs.YtlahkeapfcfbbaaDoor
open Go.RowKit Go.Maps
set_option linter.unusedVariables false
variable {w w' : World} {p : Nat} {b : Bool} {v : Value} {xs : List Pg}
/-- a pile as what a heap asks for. -/
def hi (p : Nat) : Value := .iface 73 (.pointer (some ⟨p, 0, none⟩))
theorem mLess (p : Nat) (w : World) : (method 294 73 (.pointer (some ⟨p, 0, none⟩)) "Less").run Tryd.prog w = .ok (90, .pointer (some ⟨p, 0, none⟩)) w := by kernel_rfl
theorem mSwap (p : Nat) (w : World) : (method 294 73 (.pointer (some ⟨p, 0, none⟩)) "Swap").run Tryd.prog w = .ok (93, .pointer (some ⟨p, 0, none⟩)) w := by kernel_rfl
theorem mLen (p : Nat) (w : World) : (method 294 73 (.pointer (some ⟨p, 0, none⟩)) "Len").run Tryd.prog w = .ok (29, .pointer (some ⟨p, 0, none⟩)) w := by kernel_rfl
theorem mPush (p : Nat) (w : World) : (method 294 73 (.pointer (some ⟨p, 0, none⟩)) "Push").run Tryd.prog w = .ok (92, .pointer (some ⟨p, 0, none⟩)) w := by kernel_rfl
theorem mPop (p : Nat) (w : World) : (method 294 73 (.pointer (some ⟨p, 0, none⟩)) "Pop").run Tryd.prog w = .ok (91, .pointer (some ⟨p, 0, none⟩)) w := by kernel_rfl
theorem Pl.stays (h : Pl w p b v xs) {O : Nat → Prop} (hm : Mv O w w') (h1 : ¬ O p) (h2 : ∀ k, v.ownBlock = some k → ¬ O k) : Pl w' p b v xs :=
  h.of_blocks (hm.block p h.lt h1) (fun k hk => hm.block k (h.vlt hk) (h2 k hk))
set_option maxHeartbeats 1600000 in
set_option maxRecDepth 1000000 in
theorem up_any (h : Pl w p b v xs) (j : Nat) (hu : HeapUp (key b) xs j) (hf : xs.length ≤ 1000000) :
    Calls Tryd.prog 72 #[hi p, .int .i64 (j : Int)] w fun e w' => e = .returned (.tuple #[]) ∧ ∃ ys, Pl w' p b v ys ∧ ys.Perm xs ∧ Heap (key b) ys ∧ Mv (fun k => v.ownBlock = some k) w w' := by
  have HU := hide hu
  have HP := hide h
  clear hu h
  have hmL := mLess
  have hmS := mSwap
  unfold hi
  go_enter Tryd.func72, Tryd.ntmps72
  go_wp2
  go_loopw [1] (fun j wr => ∃ (k : Nat) (ys : List Pg), j = .int .i64 k ∧ HeapUp (key b) ys k ∧ ys.Perm xs ∧ Pl wr p b v ys ∧ Mv (fun k => v.ownBlock = some k) w wr) (fun j _ => (intOf j).toNat)
  case atStart => exact ⟨j, xs, rfl, HU.out, List.Perm.refl _, HP.out, Mv.refl _ _⟩
  case round =>
    obtain ⟨k, ys, rfl, hk, hpe, hpl, hmv⟩ := hrel
    have HK := hide hk
    have HPe := hide hpe
    have HPl := hide hpl
    have HM := hide hmv
    have hkl := hk.lt
    have hyl : ys.length = xs.length := hpe.length_eq
    clear hk hpe hpl hmv
    by_cases h0 : k = 0
    · subst h0
      go_wp2
      go_end0
      exact ⟨rfl, ys, HPl.out, HPe.out, HK.out.done (.inl rfl), HM.out⟩
    · have hP : ((k : Int) - 1) / 2 = (((k - 1) / 2 : Nat) : Int) := by omega
      have hq : (((k : Int) - 1) / 2 == (k : Int)) = false := by rw [beq_eq_false_iff_ne]; omega
      have HL : Hid (Calls Tryd.prog 90 #[.pointer (some ⟨p, 0, none⟩), .int .i64 (k : Int), .int .i64 (((k : Int) - 1) / 2)] wr fun e w' => e = .returned (.bool (decide (key b (pat ys k) < key b (pat ys ((k - 1) / 2))))) ∧ Same wr w') := by
        rw [Hid, hP]; exact less_any HPl.out k ((k - 1) / 2) hkl (by omega)
      have HS : ∀ W, Same wr W → Hid (Calls Tryd.prog 93 #[.pointer (some ⟨p, 0, none⟩), .int .i64 (((k : Int) - 1) / 2), .int .i64 (k : Int)] W fun e w' => e = .returned (.tuple #[]) ∧ Pl w' p b v (sw ys ((k - 1) / 2) k) ∧ w'.heap.size = W.heap.size ∧ Mv (fun k => v.ownBlock = some k) W w') := by
        intro W hW
        rw [Hid, hP]; exact swap_any (HPl.out.same hW) ((k - 1) / 2) k (by omega) hkl
      have HS' := hide HS
      have HPP := hide hP
      clear HS hP
      by_cases hl : key b (pat ys k) < key b (pat ys ((k - 1) / 2))
      · have hd : decide (key b (pat ys k) < key b (pat ys ((k - 1) / 2))) = true := decide_eq_true hl
        have HLL := hide hl
        clear hl
        rw [hd] at HL
        clear hd
        go_wp2_with (first
          | (go_at_call 90; refine HL.out.mono ?_; rintro e w1 ⟨rfl, hs1⟩; have HS1 := hide hs1; clear hs1)
          | (go_at_call 93; refine (HS'.out _ HS1.out).out.mono ?_; rintro e w2 ⟨rfl, hp2, hz2, hm2⟩; have HP2 := hide hp2; have HM2 := hide hm2; clear hp2 hm2 hz2))
        go_roundw
        case rel => exact ⟨(k - 1) / 2, sw ys ((k - 1) / 2) k, by rw [HPP.out], HK.out.step (by omega) HLL.out, (sw_perm (by omega) hkl).trans HPe.out, HP2.out, (HM.out.trans' HS1.out.mv).trans' HM2.out⟩
        case measure => simp [intOf]; omega
      · have hd : decide (key b (pat ys k) < key b (pat ys ((k - 1) / 2))) = false := decide_eq_false hl
        have HLL := hide (Int.not_lt.1 hl)
        clear hl
        rw [hd] at HL
        clear hd
        go_wp2_with (go_at_call 90; refine HL.out.mono ?_; rintro e w1 ⟨rfl, hs1⟩; have HS1 := hide hs1; clear hs1)
        go_end0
        exact ⟨rfl, ys, HPl.out.same HS1.out, HPe.out, HK.out.done (.inr HLL.out), HM.out.trans' HS1.out.mv⟩
end Go.Proofs.YtlahkeapfcfbbaaDoor
