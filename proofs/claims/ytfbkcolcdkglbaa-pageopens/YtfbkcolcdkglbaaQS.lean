/- The document's own Seal. -/
import Derived.Test.YtfbkcolcdkglbaaQC
namespace Go.Proofs.Ytfbkcolcdkglbaa
open Go.RowKit
set_option linter.unusedVariables false

theorem own_four (w : World) (x y z u : Int) : Own (w.alloc (.cells #[.int .u8 x, .int .u8 y, .int .u8 z, .int .u8 u] 5)) (.slice (some ⟨w.heap.size, 0, none⟩) 4 4) [x, y, z, u] :=
  ⟨rfl, .inr ⟨w.heap.size, 4, _, rfl, Nat.zero_le _, heap_alloc_new w _, Nat.le_refl _, by decide, rfl, rfl⟩⟩
theorem made_four (w : World) (x y z u : Int) : Made w (.slice (some ⟨w.heap.size, 0, none⟩) 4 4) [x, y, z, u] (w.alloc (.cells #[.int .u8 x, .int .u8 y, .int .u8 z, .int .u8 u] 5)) :=
  ⟨own_four w x y z u, fun k hk => by (simp [Value.ownBlock] at hk; omega), below_alloc _ _⟩
set_option maxHeartbeats 1600000 in
set_option maxRecDepth 1000000 in
theorem rseal_no (kind number : Nat) (a : Option Addr) (n c : Nat) (w : World) (h : ¬ (1 ≤ kind ∧ kind ≤ 4 ∧ n ≤ 1008)) :
    Calls Try.prog 13 #[.int .u8 (kind : Int), .int .u32 (number : Int), .slice a n c] w fun e w' => e = .returned (.tuple #[.slice none 0 0, .int .u16 80]) ∧ w' = w := by
  by_cases h1 : 1 ≤ kind
  · have d1 : decide ((kind : Int) < 1) = false := by simp; omega
    by_cases h4 : kind ≤ 4
    · have d2 : decide ((4 : Int) < (kind : Int)) = false := by simp; omega
      have d3 : decide ((1008 : Int) < (n : Int)) = true := by simp; omega
      clear h h1 h4
      go_enter Try.func13, Try.ntmps13
      go_wp2
      go_ret2
      exact ⟨rfl, rfl⟩
    · have d2 : decide ((4 : Int) < (kind : Int)) = true := by simp; omega
      clear h h1 h4
      go_enter Try.func13, Try.ntmps13
      go_wp2
      go_ret2
      exact ⟨rfl, rfl⟩
  · have d1 : decide ((kind : Int) < 1) = true := by simp; omega
    clear h h1
    go_enter Try.func13, Try.ntmps13
    go_wp2
    go_ret2
    exact ⟨rfl, rfl⟩
set_option maxHeartbeats 3200000 in
set_option maxRecDepth 1000000 in
theorem rseal_ok (kind number : Nat) (a : Option Addr) (n c : Nat) (pl : List Int) (w : World) (h1 : 1 ≤ kind) (h4 : kind ≤ 4) (hnum : number < 4294967296) (hl : pl.length = n) (hn : a = none → n = 0 ∧ c = 0) (hr : Row w a pl) (h8 : Byts pl) (hlen : n ≤ 1008) :
    Calls Try.prog 13 #[.int .u8 (kind : Int), .int .u32 (number : Int), .slice a n c] w fun e w' => ∃ v, e = .returned (.tuple #[v, .int .u16 0]) ∧ Made w v (Pg.pg kind number pl) w' := by
  obtain ⟨i0, hi, hz0, hz1, hz2⟩ := info_parts Try.info5
  have HR := hide hr
  have HL := hide hl
  have HN := hide hn
  have HG : Hid (Pg.pg kind number pl = Pg.sl 1024 (([67, 80, (kind : Int), 0] ++ Crc.le 4 number ++ Crc.le 2 n ++ Crc.le 2 0) ++ pl)) := by
    have e1 : Crc.le 1 kind = [(kind : Int)] := by simp [Crc.le]; omega
    have e2 : Crc.le 1 0 = [0] := by simp [Crc.le]
    rw [Hid, Pg.pg, Pg.ph, HL.out, e1, e2]; rfl
  have HH : Hid (Byts (([67, 80, (kind : Int), 0] ++ Crc.le 4 number ++ Crc.le 2 n ++ Crc.le 2 0) ++ pl)) := by
    have := Pg.ph_b8 kind number pl h8
    have e1 : Crc.le 1 kind = [(kind : Int)] := by simp [Crc.le]; omega
    have e2 : Crc.le 1 0 = [0] := by simp [Crc.le]
    rw [Pg.ph, HL.out, e1, e2] at this
    exact this
  have d1 : decide ((kind : Int) < 1) = false := by simp; omega
  have d2 : decide ((4 : Int) < (kind : Int)) = false := by simp; omega
  have d3 : decide ((1008 : Int) < (n : Int)) = false := by simp; omega
  have HM1 := hide (made_four w 67 80 (kind : Int) 0)
  clear h1 h4 hr hl hn h8
  generalize Pg.pg kind number pl = G at *
  go_enter Try.func13, Try.ntmps13
  go_wp2_with fail
  refine (rput_made w _ number 4 _ _ rfl rfl _ _ HM1.out (by omega) (by omega) (by simp)).mono ?_
  rintro e w3 ⟨a3, n3, c3, rfl, hm3⟩
  have HM3 := hide hm3
  clear hm3
  go_wp2_with fail
  refine (rput_made w _ n 2 _ _ rfl rfl _ _ HM3.out (by omega) (by omega) (by simp [Crc.le_length])).mono ?_
  rintro e w4 ⟨a4, n4, c4, rfl, hm4⟩
  have HM4 := hide hm4
  clear hm4
  go_wp2_with fail
  refine (rput_made w _ 0 2 _ _ rfl rfl _ _ HM4.out (by omega) (by omega) (by simp [Crc.le_length])).mono ?_
  rintro e w5 ⟨a5, n5, c5, rfl, hm5⟩
  have HM5 := hide hm5
  have HSrc := hide (src_row w5 a n c pl HL.out HN.out (HR.out.below hm5.2.2))
  have HLn : Hid (([67, 80, (kind : Int), 0] ++ Crc.le 4 number ++ Crc.le 2 n ++ Crc.le 2 0).length + n ≤ 140737488355328) := by rw [Hid]; simp [Crc.le_length]; omega
  clear hm5
  go_wp2_with (at_builtin; refine wpList_append_src (by rfl) (.tmp 33) (.tmp 34) 23 23 (by rfl) i0 Try.underlying23 hi hz0 hz1 hz2 (.slice a5 n5 c5) _ (by rfl) HM5.out.1 (.slice a n c) n pl (by rfl) HSrc.out HLn.out ?_; intro v' w6 hown1 hg1 hf1; obtain ⟨a6, n6, c6, rfl, HN6⟩ := hown1.shape2; have HM6 := hide (HM5.out.append (Below.refl _ _) hown1 hg1 hf1); clear hown1 hg1 hf1)
  skip
  refine (filled_made w _ 1020 _ rfl _ _ HM6.out HH.out (by omega) (by have := HL.out; simp [Crc.le_length]; omega)).mono ?_
  rintro e w9 ⟨v, rfl, hm9⟩
  rw [show 1020 + 4 = 1024 from rfl, ← HG.out] at hm9
  have HM9 := hide hm9
  clear hm9
  obtain ⟨a9, n9, c9, rfl, -⟩ := HM9.out.1.shape2
  go_wp2
  go_ret2
  exact ⟨_, rfl, HM9.out⟩
end Go.Proofs.Ytfbkcolcdkglbaa
