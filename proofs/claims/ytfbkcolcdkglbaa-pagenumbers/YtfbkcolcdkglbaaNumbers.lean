/- The Go function PageNumbers answers true for every kinds, numbers and payloads that are handed in, and leaves the payloads as they were: a page is opened by its own number alone, and sealed anew it is the same; two pages of unlike kinds, numbers or payloads are unlike. No condition. -/
import Derived.Test.YtfbkcolcdkglbaaFR
namespace Go.Proofs.Ytfbkcolcdkglbaa.Numbers
open Go.ChangeShapes Go.WideShapes Go.ChangeAt Go.RowKit
set_option linter.unusedVariables false

/-- one page twice: what comes out. -/
theorem beq_nat (a b : Nat) : ((a : Int) == (b : Int)) = decide (a = b) := by
  by_cases h : a = b
  · subst h; simp
  · have : ¬ (a : Int) = (b : Int) := by omega
    simp [h, this]

set_option maxHeartbeats 3200000 in
set_option maxRecDepth 1000000 in
theorem walk_big (k1 n1 k2 n2 : Nat) (a b : Option Addr) (l1 c1 l2 c2 : Nat) (w : World) (hl1 : l1 ≤ 9223372036854775807) (hl2 : l2 ≤ 9223372036854775807) (h : (20000 : Int) < (l1 : Int) ∨ ((l1 : Int) ≤ 20000 ∧ (20000 : Int) < (l2 : Int))) :
    Calls Try.prog 8 #[.int .u8 (k1 : Int), .int .u32 (n1 : Int), .slice a l1 c1, .int .u8 (k2 : Int), .int .u32 (n2 : Int), .slice b l2 c2] w fun e w' => e = .returned (.bool true) ∧ Below w.heap.size w w' := by
  have HK := hide (known_any w)
  rcases h with h | ⟨h, h'⟩
  all_goals
    go_enter Try.func8, Try.ntmps8
    go_wp2_with fail
    refine HK.out.mono ?_
    rintro e w1 ⟨rfl, hb1⟩
    go_wp2
    go_ret
    exact ⟨rfl, hb1⟩

set_option maxHeartbeats 3200000 in
set_option maxRecDepth 1000000 in
theorem walk_no1 (k1 n1 k2 n2 : Nat) (a b : Option Addr) (l1 c1 l2 c2 : Nat) (xs ys : List Int) (w : World) (hx : Inn w a l1 c1 xs) (hy : Inn w b l2 c2 ys) (h1 : l1 ≤ 20000) (h2 : l2 ≤ 20000) (hn1 : n1 < 4294967296) (hn2 : n2 < 4294967296) (hno : ¬ sOk k1 l1 ∨ ¬ sOk k2 l2) :
    Calls Try.prog 8 #[.int .u8 (k1 : Int), .int .u32 (n1 : Int), .slice a l1 c1, .int .u8 (k2 : Int), .int .u32 (n2 : Int), .slice b l2 c2] w fun e w' => e = .returned (.bool true) ∧ Below w.heap.size w w' := by
  have d1 : (l1 : Int) ≤ 20000 := by omega
  have d2 : (l2 : Int) ≤ 20000 := by omega
  have HK := hide (known_any w)
  have HX := hide hx
  have HY := hide hy
  have HNo := hide hno
  clear hx hy hno
  by_cases s1 : sOk k1 l1 <;> by_cases s2 : sOk k2 l2
  · exact absurd HNo.out (by simp [s1, s2])
  all_goals
    have HS1 := hide s1
    have HS2 := hide s2
    clear s1 s2
    go_enter Try.func8, Try.ntmps8
    go_wp2_with fail
    refine HK.out.mono ?_
    rintro e w1 ⟨rfl, hb1⟩
    have HB1 := hide hb1
    clear hb1
    go_wp2_with fail
    first
    | (refine (seal_yes (HX.out.below HB1.out) HS1.out hn1).mono ?_
       rintro e w2 ⟨v2, rfl, hm2⟩
       obtain ⟨a2, m2, c2', rfl, -⟩ := hm2.1.shape2
       have HB2 := hide (HB1.out.trans (hm2.2.2.mono HB1.out.size))
       clear hm2)
    | (refine (seal_not HS1.out).mono ?_
       rintro e w2 ⟨rfl, hb2⟩
       have HB2 := hide (HB1.out.trans (hb2.mono HB1.out.size))
       clear hb2)
    go_wp2_with fail
    first
    | (refine (seal_yes (HY.out.below HB2.out) HS2.out hn2).mono ?_
       rintro e w3 ⟨v3, rfl, hm3⟩
       obtain ⟨a3, m3, c3', rfl, -⟩ := hm3.1.shape2
       have HB3 := hide (HB2.out.trans (hm3.2.2.mono HB2.out.size))
       clear hm3)
    | (refine (seal_not HS2.out).mono ?_
       rintro e w3 ⟨rfl, hb3⟩
       have HB3 := hide (HB2.out.trans (hb3.mono HB2.out.size))
       clear hb3)
    go_wp2
    go_ret
    exact ⟨rfl, HB3.out⟩

set_option maxHeartbeats 3200000 in
set_option maxRecDepth 1000000 in
theorem walk_yes (k1 n1 k2 n2 : Nat) (a b : Option Addr) (l1 c1 l2 c2 : Nat) (xs ys : List Int) (w : World) (hx : Inn w a l1 c1 xs) (hy : Inn w b l2 c2 ys) (s1 : sOk k1 l1) (s2 : sOk k2 l2) (hn1 : n1 < 4294967296) (hn2 : n2 < 4294967296) :
    Calls Try.prog 8 #[.int .u8 (k1 : Int), .int .u32 (n1 : Int), .slice a l1 c1, .int .u8 (k2 : Int), .int .u32 (n2 : Int), .slice b l2 c2] w fun e w' => e = .returned (.bool true) ∧ Below w.heap.size w w' := by
  have d1 : (l1 : Int) ≤ 20000 := by have := s1.2.2; omega
  have d2 : (l2 : Int) ≤ 20000 := by have := s2.2.2; omega
  have hxl : xs.length ≤ 1008 := by rw [hx.len]; exact s1.2.2
  have hyl : ys.length ≤ 1008 := by rw [hy.len]; exact s2.2.2
  have HK := hide (known_any w)
  have HX := hide hx
  have HY := hide hy
  have HP8 := hide (Pg.pg_b8 k1 n1 xs hx.byts)
  have HQ8 := hide (Pg.pg_b8 k2 n2 ys hy.byts)
  have HPl := hide (Pg.pg_length k1 n1 xs hxl)
  have HQl := hide (Pg.pg_length k2 n2 ys hyl)
  have HO := hide (Pg.opn_pg k1 n1 xs s1.1 s1.2.1 hxl)
  have HS1 := hide s1
  have HS2 := hide s2
  have HEq : Hid (Pg.pg k1 n1 xs = Pg.pg k2 n2 ys ↔ (k1 = k2 ∧ n1 = n2 ∧ xs = ys)) := hide ⟨fun h => Pg.pg_inj (by have := s1.2.1; omega) (by have := s2.2.1; omega) hn1 hn2 hxl hyl h, fun h => by rw [h.1, h.2.1, h.2.2]⟩
  have HSe := hide (fun (W : World) a n c (h : Inn W a n c xs) (hk : sOk k1 n) => seal_yes (number := n1) h hk hn1)
  have HSf := hide (fun (W : World) (h : Inn W b l2 c2 ys) => seal_yes (number := n2) h s2 hn2)
  have f1 : ((k1 : Int) == (k2 : Int)) = decide (k1 = k2) := beq_nat k1 k2
  have f2 : ((n1 : Int) == (n2 : Int)) = decide (n1 = n2) := beq_nat n1 n2
  have f3 : ((bk xs).toList == (bk ys).toList) = decide (xs = ys) := by
    by_cases h : xs = ys
    · subst h; rw [ba_leq]; simp
    · rw [bk_ne xs ys hx.byts hy.byts h]; simp [h]
  have f4 : ((bk (Pg.pg k1 n1 xs)).toList == (bk (Pg.pg k2 n2 ys)).toList) = decide (k1 = k2 ∧ n1 = n2 ∧ xs = ys) := by
    by_cases h : k1 = k2 ∧ n1 = n2 ∧ xs = ys
    · rw [HEq.out.2 h, ba_leq, decide_eq_true h]
    · rw [bk_ne _ _ HP8.out HQ8.out (fun e => h (HEq.out.1 e)), decide_eq_false h]
  have f5 : ((bk (Pg.pg k1 n1 xs)).toList == (bk (Pg.pg k1 n1 xs)).toList) = true := ba_leq _
  have HF : Hid (decide (k1 = k2 ∧ n1 = n2 ∧ xs = ys) = (decide (k1 = k2) && (decide (n1 = n2) && decide (xs = ys)))) := by rw [Hid, Bool.decide_and, Bool.decide_and]
  rw [HF.out] at f4
  clear HEq HF hx hy s1 s2 hxl hyl
  generalize Pg.pg k1 n1 xs = P at *
  generalize Pg.pg k2 n2 ys = Q at *
  generalize decide (k1 = k2) = B1 at *
  generalize decide (n1 = n2) = B2 at *
  generalize decide (xs = ys) = B3 at *
  cases B1 <;> cases B2 <;> cases B3
  all_goals
    simp only [Bool.and_true, Bool.and_false, Bool.and_self] at f4
    go_enter Try.func8, Try.ntmps8
    go_wp2_with fail
    refine HK.out.mono ?_
    rintro e w1 ⟨rfl, hb1⟩
    have HB1 := hide hb1
    have HX1 := hide (HX.out.below hb1)
    have HY1 := hide (HY.out.below hb1)
    clear hb1
    go_wp2_with fail
    refine (HSe.out _ a l1 c1 HX1.out HS1.out).mono ?_
    rintro e w2 ⟨v2, rfl, hm2⟩
    obtain ⟨a2, m2, e2, rfl, -⟩ := hm2.1.shape2
    obtain ⟨hi2, hn2'⟩ := hm2.inn HP8.out
    have HA2 := hide hi2
    have HX2 := hide (HX1.out.below hm2.2.2)
    have HY2 := hide (HY1.out.below hm2.2.2)
    have HB2 := hide (HB1.out.trans (hm2.2.2.mono HB1.out.size))
    clear hm2 hi2 hn2'
    go_wp2_with fail
    refine (HSf.out _ HY2.out).mono ?_
    rintro e w3 ⟨v3, rfl, hm3⟩
    obtain ⟨a3, m3, e3, rfl, -⟩ := hm3.1.shape2
    obtain ⟨hi3, hn3'⟩ := hm3.inn HQ8.out
    have HC3 := hide hi3
    have HA3 := hide (HA2.out.below hm3.2.2)
    have HX3 := hide (HX2.out.below hm3.2.2)
    have HY3 := hide (HY2.out.below hm3.2.2)
    have HB3 := hide (HB2.out.trans (hm3.2.2.mono HB2.out.size))
    clear hm3 hi3 hn3'
    go_wp2_with fail
    refine (open_inn n1 _ rfl hn1 HA3.out).mono ?_
    rintro e w4 ⟨hyy, -⟩
    obtain ⟨v4, rfl, hm4⟩ := hyy _ _ HO.out
    obtain ⟨a4, m4, e4, rfl, -⟩ := hm4.1.shape2
    obtain ⟨hi4, hn4'⟩ := hm4.inn HX.out.byts
    have HD4 := hide hi4
    have HM4 : Hid (sOk k1 m4) := by rw [Hid, hn4'.out, HX.out.len]; exact HS1.out
    have HA4 := hide (HA3.out.below hm4.2.2)
    have HC4 := hide (HC3.out.below hm4.2.2)
    have HX4 := hide (HX3.out.below hm4.2.2)
    have HY4 := hide (HY3.out.below hm4.2.2)
    have HB4 := hide (HB3.out.trans (hm4.2.2.mono HB3.out.size))
    clear hm4 hi4 hn4' hyy
    go_wp2_with fail
    refine (HSe.out _ a4 m4 e4 HD4.out HM4.out).mono ?_
    rintro e w5 ⟨v5, rfl, hm5⟩
    obtain ⟨a5, m5, e5, rfl, -⟩ := hm5.1.shape2
    obtain ⟨hi5, hn5'⟩ := hm5.inn HP8.out
    have HB5 := hide (HB4.out.trans (hm5.2.2.mono HB4.out.size))
    have t1 := text_inn hi5
    have t2 := text_inn (HA4.out.below hm5.2.2)
    have t3 := text_inn (HC4.out.below hm5.2.2)
    have t4 := text_inn (HX4.out.below hm5.2.2)
    have t5 := text_inn (HY4.out.below hm5.2.2)
    clear hm5 hi5 hn5'
    go_wp2
    go_ret
    exact ⟨rfl, HB5.out⟩

theorem walk (a0 : Int) (a1 : Int) (a2 : Option Addr) (len2 cap2 : Nat) (z2 : List Int) (a3 a4 : Int) (a5 : Option Addr) (len5 cap5 : Nat) (z5 : List Int) (w : World)
    (w0 : (Lit.int .u8 a0).wf = true) (w1 : (Lit.int .u32 a1).wf = true) (w2 : IsRow .u8 w a2 len2 cap2 z2) (w3 : (Lit.int .u8 a3).wf = true) (w4 : (Lit.int .u32 a4).wf = true) (w5 : IsRow .u8 w a5 len5 cap5 z5) :
    Calls Try.prog 8 #[.int .u8 a0, .int .u32 a1, .slice a2 len2 cap2, .int .u8 a3, .int .u32 a4, .slice a5 len5 cap5] w fun e w' => e = .returned (.bool true) ∧ Below w.heap.size w w' := by
  have b0 := bounds_u8 w0
  have b1 := bounds_u32 w1
  have b3 := bounds_u8 w3
  have b4 := bounds_u32 w4
  obtain ⟨k1, rfl⟩ := Int.eq_ofNat_of_zero_le b0.1
  obtain ⟨n1, rfl⟩ := Int.eq_ofNat_of_zero_le b1.1
  obtain ⟨k2, rfl⟩ := Int.eq_ofNat_of_zero_le b3.1
  obtain ⟨n2, rfl⟩ := Int.eq_ofNat_of_zero_le b4.1
  have hx := isrow_inn w2
  have hy := isrow_inn w5
  by_cases h1 : len2 ≤ 20000
  · by_cases h2 : len5 ≤ 20000
    · by_cases hs : sOk k1 len2 ∧ sOk k2 len5
      · exact walk_yes k1 n1 k2 n2 a2 a5 len2 cap2 len5 cap5 _ _ w hx hy hs.1 hs.2 (by omega) (by omega)
      · exact walk_no1 k1 n1 k2 n2 a2 a5 len2 cap2 len5 cap5 _ _ w hx hy h1 h2 (by omega) (by omega) (by by_cases h : sOk k1 len2; exact .inr (fun h' => hs ⟨h, h'⟩); exact .inl h)
    · exact walk_big k1 n1 k2 n2 a2 a5 len2 cap2 len5 cap5 w (by have := hx.cap; have := hx.max; omega) (by have := hy.cap; have := hy.max; omega) (.inr ⟨by omega, by omega⟩)
  · exact walk_big k1 n1 k2 n2 a2 a5 len2 cap2 len5 cap5 w (by have := hx.cap; have := hx.max; omega) (by have := hy.cap; have := hy.max; omega) (.inl (by omega))

set_option maxHeartbeats 1600000 in
set_option maxRecDepth 100000 in
theorem lifted (os : Os) (started : os.Started) (H : Type) (enc : TypeId × Value → H) :
    ReturnsInHanded {} Try.checked os 8 .any (Rows.pageNumbersSpec.pre6 enc Try.prog Try.f8 Rows.pageNumbersRow.domain false) (Rows.pageNumbersSpec.post enc Try.prog Try.f8 false true false false) := by
  refine returnsInHanded_of_change (C := Try.checked) own started (by kernel_rfl) Try.func8
    (ChangeSpec.witness6 (enc := enc) (C := Try.checked) false ⟨#[], #[.int .u8 0, .int .u32 0, .slice none 0 0, .int .u8 0, .int .u32 0, .slice none 0 0], []⟩ 8 (by kernel_rfl) (by kernel_rfl) (by kernel_rfl) (by kernel_rfl)) ?_
  intro W base args ds gs before hval0 hW hcnd _
  have hval : ∀ (j : Nat) t v, Try.f8.params[j]? = some t → args[j]? = some v → Value.okWide Try.prog W .any base t v := hval0
  have hW' := hW
  obtain ⟨p, q, hA0, hV, rfl, hfz, hnd⟩ := hW
  have hA : DataW.TrodAll enc Try.prog W 0 (fun _ => true) true Try.f8.params.toList args.toList ds p := hA0
  rw [Try.params8] at hA hval
  obtain ⟨v0, vs0, d0, ds0, p0, q0, hargs, rfl, rfl, h0, r0⟩ := trodAll_cons hA
  obtain ⟨v1, vs1, d1, ds1, p1, q1, rfl, rfl, rfl, h1, r1⟩ := trodAll_cons r0
  obtain ⟨v2, vs2, d2, ds2, p2, q2, rfl, rfl, rfl, h2, r2⟩ := trodAll_cons r1
  obtain ⟨v3, vs3, d3, ds3, p3, q3, rfl, rfl, rfl, h3, r3⟩ := trodAll_cons r2
  obtain ⟨v4, vs4, d4, ds4, p4, q4, rfl, rfl, rfl, h4, r4⟩ := trodAll_cons r3
  obtain ⟨v5, vs5, d5, ds5, p5, q5, rfl, rfl, rfl, h5, r5⟩ := trodAll_cons r4
  obtain ⟨rfl, rfl, rfl⟩ := trodAll_nil r5
  obtain rfl : args = #[v0, v1, v2, v3, v4, v5] := by cases args; simp_all
  obtain ⟨rfl, rfl⟩ := trodVars_none hV
  obtain ⟨a0, rfl, rfl, rfl, w0⟩ := open_int Try.underlying5 (hval 0 5 v0 rfl rfl) h0
  obtain ⟨a1, rfl, rfl, rfl, w1⟩ := open_int Try.underlying22 (hval 1 22 v1 rfl rfl) h1
  obtain ⟨a2, len2, cap2, rfl⟩ := okWide_slice Try.underlying23 (hval 2 23 v2 rfl rfl)
  have k2 := h2
  have lt2 : ∀ x ∈ p2, x.block < W.heap.size := by obtain ⟨m, hm⟩ := k2; exact DataW.trod_lt m _ _ _ hm
  obtain ⟨z2, w2⟩ : ∃ zs, IsRow .u8 W a2 len2 cap2 zs := by
    obtain ⟨fuel, hf⟩ := h2
    rcases open_ints Try.underlying23 Try.underlying5 (by kernel_rfl) hf with ⟨hcs, _⟩ | ⟨x, l, c, zs, hcs, _, hl, hm, hz, _, hcell, hwz⟩
    · simp [Value.cells] at hcs
      obtain ⟨rfl, rfl, rfl⟩ := hcs
      exact ⟨[], .inl ⟨rfl, rfl, rfl, rfl⟩⟩
    · simp [Value.cells] at hcs
      obtain ⟨rfl, rfl, rfl⟩ := hcs
      exact ⟨zs, .inr ⟨_, rfl, hl, hm, by simpa using hz, hcell, hwz⟩⟩
  obtain ⟨a3, rfl, rfl, rfl, w3⟩ := open_int Try.underlying5 (hval 3 5 v3 rfl rfl) h3
  obtain ⟨a4, rfl, rfl, rfl, w4⟩ := open_int Try.underlying22 (hval 4 22 v4 rfl rfl) h4
  obtain ⟨a5, len5, cap5, rfl⟩ := okWide_slice Try.underlying23 (hval 5 23 v5 rfl rfl)
  have k5 := h5
  have lt5 : ∀ x ∈ p5, x.block < W.heap.size := by obtain ⟨m, hm⟩ := k5; exact DataW.trod_lt m _ _ _ hm
  obtain ⟨z5, w5⟩ : ∃ zs, IsRow .u8 W a5 len5 cap5 zs := by
    obtain ⟨fuel, hf⟩ := h5
    rcases open_ints Try.underlying23 Try.underlying5 (by kernel_rfl) hf with ⟨hcs, _⟩ | ⟨x, l, c, zs, hcs, _, hl, hm, hz, _, hcell, hwz⟩
    · simp [Value.cells] at hcs
      obtain ⟨rfl, rfl, rfl⟩ := hcs
      exact ⟨[], .inl ⟨rfl, rfl, rfl, rfl⟩⟩
    · simp [Value.cells] at hcs
      obtain ⟨rfl, rfl, rfl⟩ := hcs
      exact ⟨zs, .inr ⟨_, rfl, hl, hm, by simpa using hz, hcell, hwz⟩⟩
  clear hA0 hval0
  have hwk := walk a0 a1 a2 len2 cap2 z2 a3 a4 a5 len5 cap5 z5 W w0 w1 w2 w3 w4 w5
  refine hwk.mono fun e W' ⟨he, bel⟩ => ?_
  subst he
  exact ⟨_, rfl, _, _, _, [], _, [], hW', trodAll_mk1 (shut_bool Try.underlying4 _), (trodAll_cons_mk (shut_int Try.underlying5 w0) (trodAll_cons_mk (shut_int Try.underlying22 w1) (trodAll_cons_mk (Below.trod laidOut (by kernel_rfl) (of_decide_eq_true (by kernel_rfl)) k2 bel lt2) (trodAll_cons_mk (shut_int Try.underlying5 w3) (trodAll_cons_mk (shut_int Try.underlying22 w4) (trodAll_cons_mk (Below.trod laidOut (by kernel_rfl) (of_decide_eq_true (by kernel_rfl)) k5 bel lt5) trodAll_mk0)))))), rfl, bel.frame _, fun h => by cases h⟩

theorem over : Rows.pageNumbersRow.holds Try.pinned (OpenSpec.ofChange Rows.pageNumbersSpec) :=
  OpenClaim.holds_of_wide 8 Try.f8 rfl rfl rfl rfl rfl rfl rfl ⟨rfl, rfl, rfl, rfl, rfl⟩ rfl rfl rfl rfl rfl (by kernel_rfl) Try.func8 (by kernel_rfl)
    (of_decide_eq_true (by kernel_rfl)) (by unfold Func.isWrapper; first | (rw [if_pos (by decide +kernel)]; kernel_rfl) | (rw [if_neg (by decide +kernel)]; exact ⟨rfl, rfl⟩))
    (fun os started H enc _ => lifted os started H enc)

end Go.Proofs.Ytfbkcolcdkglbaa.Numbers
namespace Go.Proofs.Ytfbkcolcdkglbaa
theorem pageNumbers_holds : Rows.PageNumbersSaid := Numbers.over
#print axioms pageNumbers_holds
end Go.Proofs.Ytfbkcolcdkglbaa
