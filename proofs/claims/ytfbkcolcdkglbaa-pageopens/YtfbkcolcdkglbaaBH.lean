/- Both Opens of some bytes. -/
import Derived.Test.YtfbkcolcdkglbaaBG
import Derived.Test.YtfbkcolcdkglbaaQT
namespace Go.Proofs.Ytfbkcolcdkglbaa
open Go.RowKit
set_option linter.unusedVariables false

theorem open_both (number n : Nat) (zs : List Int) (hn : number < 4294967296) (h8 : Byts zs) : ∃ (kd er : Nat) (P : List Int), Byts P ∧ P.length ≤ 20000 ∧ kd ≤ 255 ∧
    (∀ W a c, Inn W a n c zs → Calls Try.prog 18 #[.int .u32 (number : Int), .slice a n c] W fun e w' => ∃ v, e = .returned (.tuple #[.int .u8 (kd : Int), v, .int .u16 (er : Int)]) ∧ Made W v P w') ∧
    (∀ W a c, Inn W a n c zs → Calls Try.prog 19 #[.int .u32 (number : Int), .slice a n c] W fun e w' => ∃ v, e = .returned (.tuple #[.int .u8 (kd : Int), v, .int .u16 (er : Int)]) ∧ Made W v P w') := by
  cases hO : Pg.opn number zs with
  | none =>
    refine ⟨0, 80, [], by intro c hc; simp at hc, by simp, by omega, fun W a c hi => ?_, fun W a c hi => ?_⟩
    · refine (open_inn number _ rfl hn hi).mono ?_
      rintro e w' ⟨-, hno⟩
      obtain ⟨rfl, hb⟩ := hno hO
      exact ⟨_, rfl, Own.nil _, fun k hk => by (simp [Value.ownBlock] at hk), hb⟩
    · refine (ropen_any hn hi).mono ?_
      rintro e w' ⟨-, hno⟩
      obtain ⟨rfl, hb⟩ := hno hO
      exact ⟨_, rfl, Own.nil _, fun k hk => by (simp [Value.ownBlock] at hk), hb⟩
  | some x =>
    obtain ⟨kd, pl⟩ := x
    have hcond : zs.length = 1024 ∧ kd ≤ 4 ∧ pl = (zs.drop 12).take (Crc.leV ((zs.drop 8).take 2)) := by
      unfold Pg.opn at hO
      split at hO
      · rename_i hc
        cases hO
        exact ⟨hc.1, hc.2.2.2.1, rfl⟩
      · cases hO
    refine ⟨kd, 0, pl, ?_, ?_, by omega, fun W a c hi => ?_, fun W a c hi => ?_⟩
    · rw [hcond.2.2]; exact (h8.drop 12).take _
    · rw [hcond.2.2, List.length_take, List.length_drop]; omega
    · refine (open_inn number _ rfl hn hi).mono ?_
      rintro e w' ⟨hy, -⟩
      exact hy _ _ hO
    · refine (ropen_any hn hi).mono ?_
      rintro e w' ⟨hy, -⟩
      exact hy _ _ hO
end Go.Proofs.Ytfbkcolcdkglbaa
