/- The Go function CrcSums answers true for every sum and every bytes that are handed in, and leaves them as they were: checksums are what the reckoning by definition gives, asked twice, and the bytes lent out stay whole. No condition. -/
import Derived.Test.YtahimokgidnbcaaC
import Derived.Test.YtahimokgidnbcaaF
namespace Go.Proofs.Ytahimokgidnbcaa.Sums
open Go.ChangeShapes Go.WideShapes Go.ChangeAt Go.RowKit
open Go.ChangeMaps (open_string shut_string)
set_option linter.unusedVariables false

set_option maxHeartbeats 800000 in
theorem walk (a0 : Int) (a1 : Option Addr) (len1 cap1 : Nat) (z1 : List Int) (w : World) (w0 : (Lit.int .u32 a0).wf = true) (w1 : IsRow .u8 w a1 len1 cap1 z1) :
    Calls Try.prog 3 #[.int .u32 a0, .slice a1 len1 cap1] w fun e w' => e = .returned (.bool true) ∧ Below w.heap.size w w' := by
  have hb0 := bounds_u32 w0
  obtain ⟨s, rfl⟩ := Int.eq_ofNat_of_zero_le hb0.1
  obtain ⟨hrow, hbyt, hlen, hlc, hcm, hnil⟩ := isrow_row w1
  generalize z1.take len1 = zs at *
  clear w1 w0
  unfold maxLen at hcm
  have HR := hide hrow
  have HB := hide hbyt
  have HL := hide hlen
  have HN := hide hnil
  clear hrow hbyt hlen hnil
  by_cases hbig : len1 ≤ 100000
  · go_enter Try.func3, Try.ntmps3
    go_wp2_with fail
    refine (lent_any a1 len1 cap1 zs _ HL.out hbig HN.out HR.out).mono ?_
    rintro e W1 ⟨rfl, hrow1, hb1⟩
    have R1 := hide hrow1
    have B1 := hide hb1
    have L1 := hide (HR.out.below hb1)
    clear hrow1 hb1
    go_wp2_with fail
    refine (sum_any _ len1 (len1 + 2) zs _ HL.out (by omega) R1.out.left HB.out).mono ?_
    rintro e W2 ⟨rfl, hb2⟩
    have R2 := hide (R1.out.below hb2)
    have L2 := hide (L1.out.below hb2)
    have B2 := hide (B1.out.trans (hb2.mono B1.out.size))
    clear hb2
    go_wp2_with fail
    refine (more_any s (by omega) _ len1 (len1 + 2) zs _ HL.out (by omega) R2.out.left HB.out).mono ?_
    rintro e W3 ⟨rfl, hb3⟩
    have R3 := hide (R2.out.below hb3)
    have L3 := hide (L2.out.below hb3)
    have B3 := hide (B2.out.trans (hb3.mono B2.out.size))
    clear hb3
    go_wp2_with fail
    refine (more_any s (by omega) _ len1 (len1 + 2) zs _ HL.out (by omega) R3.out.left HB.out).mono ?_
    rintro e W4 ⟨rfl, hb4⟩
    have R4 := hide (R3.out.below hb4)
    have L4 := hide (L3.out.below hb4)
    have B4 := hide (B3.out.trans (hb4.mono B3.out.size))
    clear hb4
    go_wp2_with fail
    refine (whole_any _ a1 len1 cap1 zs _ HL.out hbig R4.out L4.out).mono ?_
    rintro e W5 ⟨rfl, hb5⟩
    have L5 := hide (L4.out.below hb5)
    have B5 := hide (B4.out.trans (hb5.mono B4.out.size))
    clear hb5
    go_wp2_with fail
    refine (known_any _).mono ?_
    rintro e W6 ⟨rfl, hb6⟩
    have L6 := hide (L5.out.below hb6)
    have B6 := hide (B5.out.trans (hb6.mono B5.out.size))
    clear hb6
    go_wp2_with fail
    refine (ref_sum_any a1 len1 cap1 zs _ HL.out (by omega) L6.out HB.out).mono ?_
    rintro e W7 ⟨rfl, rfl⟩
    go_wp2_with fail
    refine (ref_more_any s (by omega) a1 len1 cap1 zs _ HL.out (by omega) L6.out HB.out).mono ?_
    rintro e W8 ⟨rfl, rfl⟩
    go_wp2
    go_ret
    exact ⟨rfl, B6.out⟩
  · go_enter Try.func3, Try.ntmps3
    go_wp2
    go_ret
    exact ⟨rfl, Below.refl _ _⟩

set_option maxRecDepth 100000 in
theorem lifted (os : Os) (started : os.Started) (H : Type) (enc : TypeId × Value → H) :
    ReturnsInHanded {} Try.checked os 3 .any (Rows.crcSumsSpec.pre6 enc Try.prog Try.f3 Rows.crcSumsRow.domain false) (Rows.crcSumsSpec.post enc Try.prog Try.f3 false true false false) := by
  refine returnsInHanded_of_change (C := Try.checked) own started (by kernel_rfl) Try.func3
    (ChangeSpec.witness6 (enc := enc) (C := Try.checked) false ⟨#[], #[.int .u32 0, .slice none 0 0], []⟩ 8 (by kernel_rfl) (by kernel_rfl) (by kernel_rfl) (by kernel_rfl)) ?_
  intro W base args ds gs before hval0 hW hcnd _
  have hval : ∀ (j : Nat) t v, Try.f3.params[j]? = some t → args[j]? = some v → Value.okWide Try.prog W .any base t v := hval0
  have hW' := hW
  obtain ⟨p, q, hA0, hV, rfl, hfz, hnd⟩ := hW
  have hA : DataW.TrodAll enc Try.prog W 0 (fun _ => true) true Try.f3.params.toList args.toList ds p := hA0
  rw [Try.params3] at hA hval
  obtain ⟨v0, vs0, d0, ds0, p0, q0, hargs, rfl, rfl, h0, r0⟩ := trodAll_cons hA
  obtain ⟨v1, vs1, d1, ds1, p1, q1, rfl, rfl, rfl, h1, r1⟩ := trodAll_cons r0
  obtain ⟨rfl, rfl, rfl⟩ := trodAll_nil r1
  obtain rfl : args = #[v0, v1] := by cases args; simp_all
  obtain ⟨rfl, rfl⟩ := trodVars_none hV
  obtain ⟨a0, rfl, rfl, rfl, w0⟩ := open_int Try.underlying22 (hval 0 22 v0 rfl rfl) h0
  obtain ⟨a1, len1, cap1, rfl⟩ := okWide_slice Try.underlying23 (hval 1 23 v1 rfl rfl)
  have k1 := h1
  have lt1 : ∀ x ∈ p1, x.block < W.heap.size := by obtain ⟨m, hm⟩ := k1; exact DataW.trod_lt m _ _ _ hm
  obtain ⟨z1, w1⟩ : ∃ zs, IsRow .u8 W a1 len1 cap1 zs := by
    obtain ⟨fuel, hf⟩ := h1
    rcases open_ints Try.underlying23 Try.underlying5 (by kernel_rfl) hf with ⟨hcs, _⟩ | ⟨x, l, c, zs, hcs, _, hl, hm, hz, _, hcell, hwz⟩
    · simp [Value.cells] at hcs
      obtain ⟨rfl, rfl, rfl⟩ := hcs
      exact ⟨[], .inl ⟨rfl, rfl, rfl, rfl⟩⟩
    · simp [Value.cells] at hcs
      obtain ⟨rfl, rfl, rfl⟩ := hcs
      exact ⟨zs, .inr ⟨_, rfl, hl, hm, by simpa using hz, hcell, hwz⟩⟩
  clear hA0 hval0
  refine (walk a0 a1 len1 cap1 z1 W w0 w1).mono fun e W' ⟨he, bel⟩ => ?_
  subst he
  exact ⟨_, rfl, _, _, _, [], _, [], hW', trodAll_mk1 (shut_bool Try.underlying4 _), (trodAll_cons_mk (shut_int Try.underlying22 w0) (trodAll_cons_mk (Below.trod laidOut (by kernel_rfl) (of_decide_eq_true (by kernel_rfl)) k1 bel lt1) trodAll_mk0)), rfl, bel.frame _, fun h => by cases h⟩

theorem over : Rows.crcSumsRow.holds Try.pinned (OpenSpec.ofChange Rows.crcSumsSpec) :=
  OpenClaim.holds_of_wide 3 Try.f3 rfl rfl rfl rfl rfl rfl rfl ⟨rfl, rfl, rfl, rfl, rfl⟩ rfl rfl rfl rfl rfl (by kernel_rfl) Try.func3 (by kernel_rfl)
    (of_decide_eq_true (by kernel_rfl)) (by unfold Func.isWrapper; first | (rw [if_pos (by decide +kernel)]; kernel_rfl) | (rw [if_neg (by decide +kernel)]; exact ⟨rfl, rfl⟩))
    (fun os started H enc _ => lifted os started H enc)

end Go.Proofs.Ytahimokgidnbcaa.Sums
namespace Go.Proofs.Ytahimokgidnbcaa
theorem crcSums_holds : Rows.CrcSumsSaid := Sums.over
#print axioms crcSums_holds
end Go.Proofs.Ytahimokgidnbcaa
