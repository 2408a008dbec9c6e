/- Contract of the known examples: they come out as the chapter has them. -/
import Derived.Test.YtahimokgidnbcaaB
import Derived.Lib.SlBytesConst
namespace Go.Proofs.Ytahimokgidnbcaa
open Go.RowKit
set_option linter.unusedVariables false

theorem known1 : Crc.more 0 [49, 50, 51, 52, 53, 54, 55, 56, 57] = 3808858755 := by decide +kernel
theorem known2 : Crc.more 0 [0] = 1383945041 := by decide +kernel
theorem known3 : Crc.more 0 [] = 0 := by decide +kernel

theorem row_new (w : World) (zs : List Int) (cs : Array Value) (f : Nat × Nat) (h : cs = (zs.map (Value.int .u8)).toArray) : Row (w.alloc (.cells cs 5 f)) (some ⟨w.heap.size, 0, none⟩) zs := by
  refine .inr ⟨_, _, rfl, by simp, fun i hi => ?_⟩
  rw [World.cell?_alloc_mark, h]
  simp [hi]

set_option maxHeartbeats 400000 in
theorem known_any (w : World) : Calls Try.prog 11 #[] w fun e w' => e = .returned (.bool true) ∧ Below w.heap.size w w' := by
  have kc := fun (w : World) (C : Array Value) (n c : Nat) => Lib.run_convert_bytes_const (P := Try.prog) w 23 5 C n c Try.underlying23 Try.underlying5
  go_enter Try.func11, Try.ntmps11
  go_wp2_with fail
  refine (sum_any _ 9 9 [49, 50, 51, 52, 53, 54, 55, 56, 57] _ rfl (by omega) (row_new _ _ _ _ rfl) (by unfold Byts; decide)).mono ?_
  rintro e w1 ⟨rfl, hb1⟩
  rw [known1]
  go_wp2_with fail
  refine (sum_any _ 1 1 [0] _ rfl (by omega) (row_new _ _ _ _ rfl) (by unfold Byts; decide)).mono ?_
  rintro e w2 ⟨rfl, hb2⟩
  rw [known2]
  go_wp2_with fail
  refine (sum_any _ 0 0 [] _ rfl (by omega) (.inl rfl) (by unfold Byts; decide)).mono ?_
  rintro e w3 ⟨rfl, hb3⟩
  rw [known3]
  go_wp2
  go_ret
  refine ⟨rfl, ?_⟩
  have h1 := (((Below.refl w.heap.size w).alloc (Nat.le_refl _) _).trans (hb1.mono (by simp)))
  have h2 := (h1.alloc h1.size _).trans (hb2.mono (by have := h1.size; simp; omega))
  exact h2.trans (hb3.mono h2.size)
end Go.Proofs.Ytahimokgidnbcaa
