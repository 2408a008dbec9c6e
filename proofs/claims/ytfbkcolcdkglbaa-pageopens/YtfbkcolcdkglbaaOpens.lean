/- The Go function PageOpens answers true for every number and bytes that are handed in, and leaves the bytes as they were: they are a page of that number, and which one, or refused, as the chapter says. No condition. -/
import Derived.Test.YtfbkcolcdkglbaaBH
namespace Go.Proofs.Ytfbkcolcdkglbaa.Opens
open Go.ChangeShapes Go.WideShapes Go.ChangeAt Go.RowKit
set_option linter.unusedVariables false

set_option maxHeartbeats 6400000 in
set_option maxRecDepth 1000000 in
theorem walk_in (number : Nat) (a : Option Addr) (n c : Nat) (xs : List Int) (w : World) (hx : Inn w a n c xs) (h1 : n ≤ 20000) (kd er : Nat) (P : List Int) (hP8 : Byts P) (hPl : P.length ≤ 20000) (hkd : kd ≤ 255)
    (HS : ∀ W a' c', Inn W a' n c' xs → Calls Try.prog 18 #[.int .u32 (number : Int), .slice a' n c'] W fun e w' => ∃ v, e = .returned (.tuple #[.int .u8 (kd : Int), v, .int .u16 (er : Int)]) ∧ Made W v P w')
    (HS' : ∀ W a' c', Inn W a' n c' xs → Calls Try.prog 19 #[.int .u32 (number : Int), .slice a' n c'] W fun e w' => ∃ v, e = .returned (.tuple #[.int .u8 (kd : Int), v, .int .u16 (er : Int)]) ∧ Made W v P w') :
    Calls Try.prog 4 #[.int .u32 (number : Int), .slice a n c] w fun e w' => e = .returned (.bool true) ∧ Below w.heap.size w w' := by
  have d1 : (n : Int) ≤ 20000 := by omega
  have hcap := hx.cap
  have HS := hide HS
  have HS' := hide HS'
  have H8 := hide hP8
  have HPl := hide hPl
  have hSm : sameB P P = true := by unfold sameB; simp
  have HI := hide hx
  clear hx hP8 hPl
  go_enter Try.func4, Try.ntmps4
  go_wp2_with fail
  refine (lent_made HI.out (by omega)).mono ?_
  rintro e w1 ⟨rfl, how, hb⟩
  have HB := hide hb
  have HLe := hide how
  have hg1 : w.heap.size < w1.heap.size := HLe.out.lt rfl
  clear hb how
  go_wp2_with fail
  refine (HS.out _ _ _ (lent_inn HLe.out HI.out.len HI.out.byts (by omega))).mono ?_
  rintro e w2 ⟨v2, rfl, hm2⟩
  obtain ⟨a2, n2, c2, rfl, HN2⟩ := hm2.1.shape2
  have hb := hm2.2.2
  have HB := hide (HB.out.trans (hb.mono HB.out.size))
  have HLe := hide (HLe.out.below hb)
  have HA := hide hm2.1
  have HAn : Hid (∀ k, blks (.slice a2 n2 c2) k → w.heap.size < k) := fun k hk => Nat.lt_of_lt_of_le hg1 (hm2.2.1 k hk)
  clear hb hm2
  go_wp2_with fail
  refine (HS.out _ _ _ (lent_inn HLe.out HI.out.len HI.out.byts (by omega))).mono ?_
  rintro e w3 ⟨v3, rfl, hm3⟩
  obtain ⟨a3, n3, c3, rfl, HN3⟩ := hm3.1.shape2
  have hb := hm3.2.2
  have hsz := hb.size
  have HAB : Hid (∀ k, blks (.slice a2 n2 c2) k → ¬ blks (.slice a3 n3 c3) k) := fun k h1 h2 => by have := HA.out.lt h1; have := hm3.2.1 k h2; omega
  have HBn : Hid (∀ k, blks (.slice a3 n3 c3) k → w.heap.size < k) := fun k hk => Nat.lt_of_lt_of_le (HLe.out.lt rfl) (hm3.2.1 k hk)
  have HB := hide (HB.out.trans (hb.mono HB.out.size))
  have HLe := hide (HLe.out.below hb)
  have HA := hide (HA.out.below hb)
  have HD := hide hm3.1
  clear hb hm3 hsz
  go_wp2_with fail
  refine (whole_any w.heap.size a n c xs _ HI.out.len (by omega) (lent_row HLe.out) (HI.out.below HB.out).row).mono ?_
  rintro e w4 ⟨rfl, hb⟩
  have HB := hide (HB.out.trans (hb.mono HB.out.size))
  have HLe := hide (HLe.out.below hb)
  have HA := hide (HA.out.below hb)
  have HD := hide (HD.out.below hb)
  clear hb
  go_wp2_with fail
  refine (spoil_any w.heap.size n (n + 2) _ HLe.out.blk (by omega) (by omega)).mono ?_
  rintro e w5 ⟨rfl, hg⟩
  have HA := hide (own_grown HA.out hg (fun e => by have := HAn.out w.heap.size e; omega))
  have HD := hide (own_grown HD.out hg (fun e => by have := HBn.out w.heap.size e; omega))
  have HB := hide (HB.out.grown hg HB.out.size (fun k hk => by cases hk; exact Nat.le_refl _))
  clear hg HLe
  go_wp2_with fail
  refine (HS'.out _ _ _ (HI.out.below HB.out)).mono ?_
  rintro e w6 ⟨v6, rfl, hm6⟩
  obtain ⟨a6, n6, c6, rfl, HN6⟩ := hm6.1.shape2
  have hb := hm6.2.2
  have HB := hide (HB.out.trans (hb.mono HB.out.size))
  have HA := hide (HA.out.below hb)
  have HD := hide (HD.out.below hb)
  have HE := hide hm6.1
  clear hb hm6
  go_wp2_with fail
  refine (book_any w6.heap.size (.slice none 0 0) 0 (fun _ => none) (fun _ => 0) (fun _ => []) a2 c2 P n2 HN2.out.symm _ (book_new w6) (fam_none _) (HA.out.below (below_alloc w6 _)) (fun k hk => by (obtain ⟨i, hi, _⟩ := hk; omega)) (by omega)).mono ?_
  rintro e w7 ⟨rfl, v7, hbk, hfam, hkp, hvl⟩
  have HQ : Hid (w.heap.size ≤ w6.heap.size) := HB.out.size
  have ha := below_alloc w6 (.cells #[.slice none 0 0, .slice none 0 0, .slice none 0 0, .slice none 0 0, .slice none 0 0, .slice none 0 0, .slice none 0 0, .slice none 0 0, .slice none 0 0, .slice none 0 0, .slice none 0 0, .slice none 0 0, .slice none 0 0, .slice none 0 0, .slice none 0 0, .slice none 0 0, .slice none 0 0, .slice none 0 0, .slice none 0 0, .slice none 0 0, .slice none 0 0, .slice none 0 0, .slice none 0 0] 56)
  have HB := hide (HB.out.trans (ha.mono HB.out.size))
  have HA := hide (HA.out.below ha)
  have HD := hide (HD.out.below ha)
  have HE := hide (HE.out.below ha)
  have HA := hide (keep_book (book_new w6) (fam_none _) hkp HA.out)
  have HD := hide (keep_book (book_new w6) (fam_none _) hkp HD.out)
  have HE := hide (keep_book (book_new w6) (fam_none _) hkp HE.out)
  have HV : Hid (∀ k, blks v7 k → w.heap.size ≤ k) := fun k hk => by
    rcases hvl k hk with h | h
    · cases h
    · exact Nat.le_trans HB.out.size h
  have HB := hide (HB.out.trans (hkp.below (fun k hk => by
    rcases hk with rfl | hk
    · exact HQ.out
    · cases hk) HB.out.size))
  have HBk := hide hbk
  have HF := hide hfam
  generalize w6.heap.size = qq at *
  clear hbk hfam hkp hvl ha
  go_wp2_with fail
  refine (book_any qq v7 1 _ _ _ a3 c3 P n3 HN3.out.symm _ HBk.out HF.out HD.out (fun k hk h2 => HAB.out k (rft_one hk) ((by obtain ⟨ad, rfl, rfl⟩ := h2; rfl))) (by omega)).mono ?_
  rintro e w8 ⟨rfl, v8, hbk, hfam, hkp, hvl⟩
  have HA := hide (keep_book HBk.out HF.out hkp HA.out)
  have HD := hide (keep_book HBk.out HF.out hkp HD.out)
  have HE := hide (keep_book HBk.out HF.out hkp HE.out)
  have HB := hide (HB.out.trans (hkp.below (fun k hk => by
    rcases hk with rfl | hk
    · exact HQ.out
    · exact HV.out k hk) HB.out.size))
  have HBk := hide hbk
  have HF := hide hfam
  clear hbk hfam hkp hvl HV
  go_wp2_with fail
  refine (known_any _).mono ?_
  rintro e w9 ⟨rfl, hb⟩
  have HB := hide (HB.out.trans (hb.mono HB.out.size))
  have HA := hide (HA.out.below hb)
  have HD := hide (HD.out.below hb)
  have HE := hide (HE.out.below hb)
  have HBk := hide (HBk.out.below hb)
  have HF := hide (HF.out.below hb)
  clear hb
  go_wp2_with fail
  refine (same_own HA.out HE.out H8.out).mono ?_
  rintro e w10 ⟨rfl, hb⟩
  have HB := hide (HB.out.trans (hb.mono HB.out.size))
  have HD := hide (HD.out.below hb)
  have HE := hide (HE.out.below hb)
  have HBk := hide (HBk.out.below hb)
  have HF := hide (HF.out.below hb)
  clear hb
  go_wp2_with fail
  refine (same_own HD.out HE.out H8.out).mono ?_
  rintro e w11 ⟨rfl, hb⟩
  have HB := hide (HB.out.trans (hb.mono HB.out.size))
  have HBk := hide (HBk.out.below hb)
  have HF := hide (HF.out.below hb)
  clear hb
  go_wp2_with fail
  refine (own_any qq v8 2 _ _ _ _ HBk.out HF.out (by omega) (fun i hi => ?_)).mono ?_
  · have := HPl.out
    match i, hi with
    | 0, _ => simp [put]; omega
    | 1, _ => simp [put]; omega
  rintro e w12 ⟨rfl, hkp⟩
  have HB := hide (HB.out.trans (hkp.below (fun k hk => by
    rcases rft_two (n := n2) (c := c2) (m := n3) (d := c3) hk with h | h
    · exact Nat.le_of_lt (HAn.out k h)
    · exact Nat.le_of_lt (HBn.out k h)) HB.out.size))
  clear hkp
  go_wp2
  go_ret
  exact ⟨rfl, HB.out⟩

set_option maxHeartbeats 1600000 in
set_option maxRecDepth 1000000 in
theorem walk_big (number : Nat) (a : Option Addr) (n c : Nat) (w : World) (h1 : n ≤ 9223372036854775807) (h : (20000 : Int) < (n : Int)) :
    Calls Try.prog 4 #[.int .u32 (number : Int), .slice a n c] w fun e w' => e = .returned (.bool true) ∧ Below w.heap.size w w' := by
  go_enter Try.func4, Try.ntmps4
  go_wp2
  go_ret
  exact ⟨rfl, Below.refl _ _⟩

theorem walk (a0 : Int) (a1 : Option Addr) (len1 cap1 : Nat) (z1 : List Int) (w : World) (w0 : (Lit.int .u32 a0).wf = true) (w1 : IsRow .u8 w a1 len1 cap1 z1) :
    Calls Try.prog 4 #[.int .u32 a0, .slice a1 len1 cap1] w fun e w' => e = .returned (.bool true) ∧ Below w.heap.size w w' := by
  have b0 := bounds_u32 w0
  obtain ⟨number, rfl⟩ := Int.eq_ofNat_of_zero_le b0.1
  have hx := isrow_inn w1
  by_cases h1 : len1 ≤ 20000
  · obtain ⟨kd, er, P, h8, hl, hkd, HS, HS'⟩ := open_both number len1 (z1.take len1) (by omega) hx.byts
    exact walk_in number a1 len1 cap1 _ w hx h1 kd er P h8 hl hkd HS HS'
  · exact walk_big number a1 len1 cap1 w (by have := hx.cap; have := hx.max; omega) (by omega)

set_option maxHeartbeats 1600000 in
set_option maxRecDepth 100000 in
theorem lifted (os : Os) (started : os.Started) (H : Type) (enc : TypeId × Value → H) :
    ReturnsInHanded {} Try.checked os 4 .any (Rows.pageOpensSpec.pre6 enc Try.prog Try.f4 Rows.pageOpensRow.domain false) (Rows.pageOpensSpec.post enc Try.prog Try.f4 false true false false) := by
  refine returnsInHanded_of_change (C := Try.checked) own started (by kernel_rfl) Try.func4
    (ChangeSpec.witness6 (enc := enc) (C := Try.checked) false ⟨#[], #[.int .u32 0, .slice none 0 0], []⟩ 8 (by kernel_rfl) (by kernel_rfl) (by kernel_rfl) (by kernel_rfl)) ?_
  intro W base args ds gs before hval0 hW hcnd _
  have hval : ∀ (j : Nat) t v, Try.f4.params[j]? = some t → args[j]? = some v → Value.okWide Try.prog W .any base t v := hval0
  have hW' := hW
  obtain ⟨p, q, hA0, hV, rfl, hfz, hnd⟩ := hW
  have hA : DataW.TrodAll enc Try.prog W 0 (fun _ => true) true Try.f4.params.toList args.toList ds p := hA0
  rw [Try.params4] at hA hval
  obtain ⟨v0, vs0, d0, ds0, p0, q0, hargs, rfl, rfl, h0, r0⟩ := trodAll_cons hA
  obtain ⟨v1, vs1, d1, ds1, p1, q1, rfl, rfl, rfl, h1, r1⟩ := trodAll_cons r0
  obtain ⟨rfl, rfl, rfl⟩ := trodAll_nil r1
  obtain rfl : args = #[v0, v1] := by cases args; simp_all
  obtain ⟨rfl, rfl⟩ := trodVars_none hV
  obtain ⟨a0, rfl, rfl, rfl, w0⟩ := open_int Try.underlying22 (hval 0 22 v0 rfl rfl) h0
  obtain ⟨a1, len1, cap1, rfl⟩ := okWide_slice Try.underlying23 (hval 1 23 v1 rfl rfl)
  have k1 := h1
  have lt1 : ∀ x ∈ p1, x.block < W.heap.size := by obtain ⟨m, hm⟩ := k1; exact DataW.trod_lt m _ _ _ hm
  obtain ⟨z1, w1⟩ : ∃ zs, IsRow .u8 W a1 len1 cap1 zs := by
    obtain ⟨fuel, hf⟩ := h1
    rcases open_ints Try.underlying23 Try.underlying5 (by kernel_rfl) hf with ⟨hcs, _⟩ | ⟨x, l, c, zs, hcs, _, hl, hm, hz, _, hcell, hwz⟩
    · simp [Value.cells] at hcs
      obtain ⟨rfl, rfl, rfl⟩ := hcs
      exact ⟨[], .inl ⟨rfl, rfl, rfl, rfl⟩⟩
    · simp [Value.cells] at hcs
      obtain ⟨rfl, rfl, rfl⟩ := hcs
      exact ⟨zs, .inr ⟨_, rfl, hl, hm, by simpa using hz, hcell, hwz⟩⟩
  clear hA0 hval0
  have hwk := walk a0 a1 len1 cap1 z1 W w0 w1
  refine hwk.mono fun e W' ⟨he, bel⟩ => ?_
  subst he
  exact ⟨_, rfl, _, _, _, [], _, [], hW', trodAll_mk1 (shut_bool Try.underlying4 _), (trodAll_cons_mk (shut_int Try.underlying22 w0) (trodAll_cons_mk (Below.trod laidOut (by kernel_rfl) (of_decide_eq_true (by kernel_rfl)) k1 bel lt1) trodAll_mk0)), rfl, bel.frame _, fun h => by cases h⟩

theorem over : Rows.pageOpensRow.holds Try.pinned (OpenSpec.ofChange Rows.pageOpensSpec) :=
  OpenClaim.holds_of_wide 4 Try.f4 rfl rfl rfl rfl rfl rfl rfl ⟨rfl, rfl, rfl, rfl, rfl⟩ rfl rfl rfl rfl rfl (by kernel_rfl) Try.func4 (by kernel_rfl)
    (of_decide_eq_true (by kernel_rfl)) (by unfold Func.isWrapper; first | (rw [if_pos (by decide +kernel)]; kernel_rfl) | (rw [if_neg (by decide +kernel)]; exact ⟨rfl, rfl⟩))
    (fun os started H enc _ => lifted os started H enc)

end Go.Proofs.Ytfbkcolcdkglbaa.Opens
namespace Go.Proofs.Ytfbkcolcdkglbaa
theorem pageOpens_holds : Rows.PageOpensSaid := Opens.over
#print axioms pageOpens_holds
end Go.Proofs.Ytfbkcolcdkglbaa
