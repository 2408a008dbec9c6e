/- BufferErrors: the walk. -/
import Derived.Test.YtfcebpenjdhgbaaSP
import Derived.Test.YtfcebpenjdhgbaaPO
import Derived.Test.YtfcebpenjdhgbaaEQ
import Derived.Test.YtfcebpenjdhgbaaPJ
namespace Go.Proofs.Ytfcebpenjdhgbaa
open Go.RowKit Go.Maps
set_option linter.unusedVariables false

theorem Bl.make {w5 W : World} {q n c wr : Nat} {a : Option Addr} {us : List En} (h : Prs w5 a n c us) (hb : Below w5.heap.size w5 W) (hq : w5.heap.size ≤ q) (hc : W.heap[q]? = some (.cells #[.slice a n c, .int .i64 (wr : Int)] 48 (0, 0))) : Bl W q a n c us wr := ⟨hc, w5, h, hq, hb⟩
/-- a pair in a box of its own is a list of one. -/
theorem prs_box {W W0 : World} {y : En} (h : y.Ok W0) (hb : Below W0.heap.size W0 W) : Prs (W.alloc (.cells #[.slice y.ka y.e.key.length y.kc, .slice y.va y.e.val.length y.vc] 40)) (some ⟨W.heap.size, 0, none⟩) 1 1 [y] := by
  have hb' := hb.trans ((below_alloc W (.cells #[.slice y.ka y.e.key.length y.kc, .slice y.va y.e.val.length y.vc] 40)).mono hb.size)
  refine ⟨rfl, (by intro e; cases e), Nat.le_refl _, by omega, .inr ⟨W.heap.size, 0, rfl, by simp, fun k x hx => ?_⟩, fun z hz => ?_⟩
  · have hk : k = 0 := by
      have := (List.getElem?_eq_some_iff.1 hx).1
      simp at this; omega
    subst hk
    simp at hx
    subst hx
    have h0 := pbox_news W y 0 _ rfl
    have h1 := pbox_news W y 1 _ rfl
    rw [Addr.add_lit] at h0 h1
    exact ⟨h0, h1⟩
  · simp at hz; subst hz
    exact h.below hb'
theorem zero_ok (w : World) : (⟨zeE, none, 0, none, 0⟩ : En).Ok w := ⟨inn_nil w, inn_nil w⟩
/-- a pair beside what is turned. -/
theorem en_mv {w w' : World} {q n c wr : Nat} {a : Option Addr} {y : En} (h : y.Ok w) (hb : w.heap[q]? = some (.cells #[.slice a n c, .int .i64 (wr : Int)] 48 (0, 0))) (hm : Mv (fun k => k = q) w w') : y.Ok w' := ⟨inn_mv hb h.key hm, inn_mv hb h.val hm⟩
theorem Cl.ens2 {C q : Nat} {w : World} {es : List Ee} {ys : List En} (h : Cl C w (.slice (some ⟨q, 0, none⟩) es.length es.length) ys) (he : ers ys = es) : Ens w (some ⟨q, 0, none⟩) es.length es.length ys := by
  obtain ⟨a4, c4, e4, hE4⟩ := h.ens
  have hyl : ys.length = es.length := by have := congrArg List.length he; rwa [ers_len] at this
  rw [hyl] at e4 hE4
  cases e4
  exact hE4
set_option maxHeartbeats 12800000 in
set_option maxRecDepth 1000000 in
theorem errors_walk (a : Option Addr) (n c : Nat) (us : List En) (b : Option Addr) (m d : Nat) (xs : List Ac) (fa : Option Addr) (fn fc : Nat) (frm : List Int) (inn : Bool) (wv : Nat) (w : World) (hU : Prs w a n c us) (hL : Acs w b m d xs) (hF : Inn w fa fn fc frm) (su : Szp us) (sl : Sza xs) (hwv : wv < 256) :
    Calls Try.prog 4 #[.slice a n c, .slice b m d, .slice fa fn fc, .bool inn, .int .u8 (wv : Int)] w fun e w' => e = .returned (.bool true) ∧ Below w.heap.size w w' := by
  have HU := hide hU
  have HL := hide hL
  have HF := hide hF
  have SU := hide su
  have HMu := hide (much_any b m d xs w hL sl)
  clear hU hL hF su sl
  go_enter Try.func4, Try.ntmps4
  go_wp2_with fail
  refine HMu.out.mono ?_
  rintro e w1 ⟨hmu, hb1⟩
  have HB1 := hide hb1
  clear hb1 HMu
  rcases hmu with rfl | ⟨rfl, hn, hsm⟩
  · go_wp2
    go_ret
    exact ⟨rfl, HB1.out⟩
  by_cases h200 : 200 < n
  · have d1 : (200 : Int) < (n : Int) := by omega
    go_wp2
    go_ret
    exact ⟨rfl, HB1.out⟩
  have d1 : ¬ (200 : Int) < (n : Int) := by omega
  by_cases h3000 : 3000 < fn
  · have d2 : (3000 : Int) < (fn : Int) := by omega
    go_wp2
    go_ret
    exact ⟨rfl, HB1.out⟩
  have d2 : ¬ (3000 : Int) < (fn : Int) := by omega
  have hxl := HL.out.len
  have hul := HU.out.len
  go_wp2_with fail
  refine (filled_any b m d xs w1 (HL.out.below HB1.out) (by omega) hsm).mono ?_
  rintro e w2 ⟨rfl, hs, O, hst, hb2⟩
  have hsmall := foldA_small hsm
  have hfl := foldA_len xs
  have hsl := sayN_le xs
  obtain ⟨es, hes⟩ : ∃ es, es = foldA xs := ⟨_, rfl⟩
  rw [← hes] at hst hfl hsmall
  have hel : es.length ≤ 300 := by omega
  have HB2 := hide (HB1.out.trans (hb2.mono HB1.out.size))
  have HST := hide hst
  have HES := hide (fun e (he : e ∈ es) => (⟨Nat.le_trans (hsmall e he).1 (by omega), Nat.le_trans (hsmall e he).2 (by omega)⟩ : e.key.length ≤ 140737488351232 ∧ e.val.length ≤ 140737488351232))
  obtain ⟨p, hp⟩ : ∃ p, p = w1.heap.size := ⟨_, rfl⟩
  rw [← hp] at HST ⊢
  clear hb2 hst hsmall hsm hes hfl hsl hp
  go_wp2_with fail
  refine (known_any w2).mono ?_
  rintro e w3 ⟨rfl, hb3⟩
  have HB3 := hide (HB2.out.trans (hb3.mono HB2.out.size))
  have HST3 := hide (HST.out.below hb3)
  clear hb3
  go_wp2_with fail
  refine (rising_any (HU.out.below HB3.out) (by omega) SU.out.2).mono ?_
  rintro e w4 ⟨ra, rn, rc, rs, rfl, hprs, hers, hrn, hb4⟩
  have HB4 := hide (HB3.out.trans (hb4.mono HB3.out.size))
  have HST4 := hide (HST3.out.below hb4)
  have hrn2 : rn ≤ 200 := by omega
  have HRS : Hid (∀ x ∈ rs, x.e.key.length ≤ 140737488351232 ∧ x.e.val.length ≤ 140737488351232) := fun x hx => by
    have h1 : x.e ∈ ers rs := List.mem_map.2 ⟨x, hx, rfl⟩
    rw [hers] at h1
    obtain ⟨_, u, hu, he⟩ := risE_mem h1
    obtain ⟨z, hz, rfl⟩ := List.mem_map.1 hu
    have := SU.out.2 z hz
    rw [he]; exact this
  have HP4 := hide hprs
  clear hb4 hprs hers hrn
  go_wp2_with fail
  refine (changes_st HST4.out (by omega) HES.out).mono ?_
  rintro e w5 ⟨cs, rfl, hey, hcl, hb5⟩
  have HEy := hide hey
  have HCl := hide hcl
  have HB5 := hide (HB4.out.trans (hb5.mono HB4.out.size))
  have HST5 := hide (HST4.out.below hb5)
  have HP5 := hide (HP4.out.below hb5)
  obtain ⟨q, hq⟩ : ∃ q, q = w4.heap.size := ⟨_, rfl⟩
  rw [← hq] at HCl ⊢
  clear hey hcl hb5 hq
  obtain ⟨k0, hk0⟩ : ∃ k0, k0 = wv % 8 := ⟨_, rfl⟩
  have hk1 : (wv : Int) % 8 = (k0 : Int) := by omega
  have hk8 : k0 ≤ 7 := by omega
  clear hk0
  go_wp2_with fail
  obtain ⟨w6, hw6⟩ : ∃ w6, w6 = ((w5.alloc (.cells #[.slice ra rn rc, .int .i64 (k0 : Int)] 48)).alloc (.cells #[.slice ra rn rc, .int .i64 1000000] 48)) := ⟨_, rfl⟩
  rw [← hw6]
  have hb6 : Below w5.heap.size w5 w6 := by rw [hw6]; exact two_alloc _ _
  have hs6 : w6.heap.size = w5.heap.size + 2 := by rw [hw6]; simp
  have hx6 : w6.heap[w5.heap.size]? = some (.cells #[.slice ra rn rc, .int .i64 (k0 : Int)] 48 (0, 0)) := by rw [hw6]; exact (Below.heap_alloc _ _ _ (by simp)).trans (heap_alloc_new w5 _)
  have hy6 : w6.heap[w5.heap.size + 1]? = some (.cells #[.slice ra rn rc, .int .i64 ((1000000 : Nat) : Int)] 48 (0, 0)) := by
    rw [hw6]
    have := heap_alloc_new (w5.alloc (.cells #[.slice ra rn rc, .int .i64 (k0 : Int)] 48)) (.cells #[.slice ra rn rc, .int .i64 1000000] 48)
    rwa [World.size_alloc] at this
  clear hw6
  obtain ⟨sv, uv, ys, vs, hh, hbh, hers5, -, -, -, hris, -⟩ := HST5.out
  have HBf := hide hbh.bf
  have hris' : Ris (ers ys) := by rw [hers5]; exact hris
  have hyl : ys.length = es.length := by have := congrArg List.length hers5; rwa [ers_len] at this
  have HW : Hid (∀ x ∈ ys, x.e.key.length ≤ 140737488351232 ∧ x.e.val.length ≤ 140737488351232) := fun x hx => HES.out x.e (by rw [← hers5]; exact List.mem_map.2 ⟨x, hx, rfl⟩)
  have hrl : (ers rs).length = rn := by rw [ers_len]; exact HP5.out.len
  obtain ⟨r, dd, hd1, hd2, hR, hRn⟩ := firstU_asks es (ers rs) (ers rs).length frm inn (cntU_le _ _ _)
  rw [hrl] at hd2
  rw [← hers5] at hR hRn
  have HR := hide hR
  have HRn := hide hRn
  have HRis := hide hris'
  have HE5 := hide hers5
  have HB6 := hide hb6
  have HX6 := hide hx6
  have HY6 := hide hy6
  have HFr := hide (HF.out.below (HB5.out))
  have Hr5 : Hid (w.heap.size ≤ w5.heap.size) := HB5.out.size
  obtain ⟨B5, hB5⟩ : ∃ B5, B5 = w5.heap.size := ⟨_, rfl⟩
  have HBs := hide hB5
  rw [← hB5] at HX6 HY6 hs6 ⊢
  have HIx := hide (Bl.make HP5.out HB6.out (Nat.le_of_eq HBs.out.symm) HX6.out)
  clear hbh hris hris' hR hRn hb6 hx6 hy6 hers5 hB5
  by_cases hdk : dd ≤ k0
  · obtain ⟨m1, hm1⟩ : ∃ m1, m1 = k0 - dd := ⟨_, rfl⟩
    have hR1 := (HR.out k0 hdk).symm
    rw [← hm1] at hR1
    clear hm1
    refine (seenU_any (HBf.out.below HB6.out) HRis.out HIx.out (by omega) fa fn fc frm inn (HFr.out.below HB6.out) (by omega) (by omega) (by omega) HW.out HRS.out (r, 0, m1) hR1).mono ?_
    rintro e w7 ⟨y1, rfl, hk1', hv1', ho1, hm7, hbl7⟩
    have HK1 := hide hk1'
    have HV1 := hide hv1'
    have hb7 := mv_low hm7 HB6.out (Nat.le_of_eq HBs.out.symm)
    have HB7 := hide hb7
    have hs7 : B5 + 2 ≤ w7.heap.size := by have := hm7.size; omega
    have hY7 := (hm7.block (B5 + 1) (by omega) (by omega)).trans HY6.out
    have HY7 := hide hY7
    have HX7 := hide hbl7.blk
    have HO1 := hide ho1.ok
    clear hk1' hv1' hb7 hY7 ho1 hm7 hbl7 hR1
    go_wp2_with fail
    obtain ⟨w8, hw8⟩ : ∃ w8, w8 = w7.alloc (.cells #[.slice y1.ka y1.e.key.length y1.kc, .slice y1.va y1.e.val.length y1.vc] 40) := ⟨_, rfl⟩
    rw [← hw8]
    have hb8 : Below w7.heap.size w7 w8 := by rw [hw8]; exact below_alloc _ _
    have hp8 : w8.heap[w7.heap.size]? = some (.cells #[.slice y1.ka y1.e.key.length y1.kc, .slice y1.va y1.e.val.length y1.vc] 40 (0, 0)) := by rw [hw8]; exact heap_alloc_new w7 _
    have hs8 : w8.heap.size = w7.heap.size + 1 := by rw [hw8]; simp
    clear hw8
    have HB58 := hide (HB7.out.trans (hb8.mono HB7.out.size))
    have HX8 := hide ((hb8.block B5 (by omega)).trans HX7.out)
    have HIy := hide (Bl.make (q := B5 + 1) HP5.out HB58.out (by have := HBs.out; omega) ((hb8.block (B5 + 1) (by omega)).trans HY7.out))
    have HP8 := hide hp8
    obtain ⟨p1, hp1⟩ : ∃ p1, p1 = w7.heap.size := ⟨_, rfl⟩
    rw [← hp1] at HP8 hs7 hs8 ⊢
    have HO18 := hide (HO1.out.below hb8)
    obtain ⟨m2, hm2⟩ : ∃ m2, m2 = 1000000 - dd := ⟨_, rfl⟩
    have hR2 := (HR.out 1000000 (by omega)).symm
    rw [← hm2] at hR2
    have hsub : IntKind.i64.wrap (1000000 - (m2 : Int)) = (dd : Int) := by rw [IntKind.wrap_i64] <;> omega
    clear hb8 hp8 hp1 hm2
    refine (seenU_any (HBf.out.below HB58.out) HRis.out HIy.out (by omega) fa fn fc frm inn (HFr.out.below HB58.out) (by omega) (by omega) (by omega) HW.out HRS.out (r, 0, m2) hR2).mono ?_
    rintro e w9 ⟨y2, rfl, hk2', hv2', ho2, hm9, hbl9⟩
    have HK2 := hide hk2'
    have HV2 := hide hv2'
    have HB9 := hide (mv_low hm9 HB58.out (by have := HBs.out; omega))
    have HX9 := hide ((hm9.block B5 (by omega) (by omega)).trans HX8.out)
    have HP9 := hide ((hm9.block p1 (by omega) (by omega)).trans HP8.out)
    have HY9 := hide hbl9.blk
    have HO2 := hide ho2.ok
    have HB89 := hide (show Below w8.heap.size w8 w9 ∨ True from .inr trivial)
    have HO19 := hide (en_mv HO18.out HIy.out.blk hm9)
    have hs9 := hm9.size
    clear hk2' hv2' ho2 hm9 hbl9 hR2 HB89
    have hY10 := ((below_alloc w9 (.cells #[.slice y2.ka y2.e.key.length y2.kc, .slice y2.va y2.e.val.length y2.vc] 40)).block (B5 + 1) (by omega)).trans HY9.out
    obtain ⟨-, cY, -⟩ := cells_two hY10
    clear hY10
    go_wp2_with fail
    clear cY
    obtain ⟨w10, hw10⟩ : ∃ w10, w10 = w9.alloc (.cells #[.slice y2.ka y2.e.key.length y2.kc, .slice y2.va y2.e.val.length y2.vc] 40) := ⟨_, rfl⟩
    rw [← hw10]
    have hb10 : Below w9.heap.size w9 w10 := by rw [hw10]; exact below_alloc _ _
    have hp10 : w10.heap[w9.heap.size]? = some (.cells #[.slice y2.ka y2.e.key.length y2.kc, .slice y2.va y2.e.val.length y2.vc] 40 (0, 0)) := by rw [hw10]; exact heap_alloc_new w9 _
    clear hw10
    refine (changes_in (HBf.out.below (HB9.out.trans (hb10.mono HB9.out.size))) (by omega) HW.out).mono ?_
    rintro e w11 ⟨cs2, rfl, hey2, hcl2, hb11⟩
    have hb911 := hb10.trans (hb11.mono hb10.size)
    have HB11 := hide (HB9.out.trans (hb911.mono HB9.out.size))
    have HX11 := hide ((hb911.block B5 (by omega)).trans HX9.out)
    have HP11 := hide ((hb911.block p1 (by omega)).trans HP9.out)
    have HQ11 := hide ((hb11.block w9.heap.size (lt_of_block hp10)).trans hp10)
    have HO111 := hide (HO19.out.below hb911)
    have HO211 := hide (HO2.out.below hb911)
    rw [hyl] at hcl2 ⊢
    obtain ⟨q2, hq2⟩ : ∃ q2, q2 = w10.heap.size := ⟨_, rfl⟩
    rw [← hq2] at hcl2 ⊢
    obtain ⟨p2, hp2⟩ : ∃ p2, p2 = w9.heap.size := ⟨_, rfl⟩
    rw [← hp2] at HQ11 ⊢
    have hse : ers cs2 = es := by rw [hey2]; exact HE5.out
    have HS := hide (samec_yes _ _ _ _ _ cs cs2 w11 ((HCl.out.below HB11.out).ens2 HEy.out) (hcl2.ens2 hse) (HEy.out.trans hse.symm) (by omega))
    have t1 : ¬ (dd : Int) < 1 := by omega
    have t2 : (((0 : Int) != 0) : Bool) = false := by simp
    clear hp10 hb10 hey2 hcl2 hb11 hb911 hq2 hp2 hse
    go_wp2_with fail
    refine HS.out.mono ?_
    rintro e w12 ⟨rfl, hb12⟩
    have HB12 := hide (HB11.out.trans (hb12.mono HB11.out.size))
    have HX12 := hide ((hb12.block B5 (lt_of_block HX11.out)).trans HX11.out)
    have hP12 := (hb12.block p1 (lt_of_block HP11.out)).trans HP11.out
    have hQ12 := (hb12.block p2 (lt_of_block HQ11.out)).trans HQ11.out
    have HO112 := hide (HO111.out.below hb12)
    have HO212 := hide (HO211.out.below hb12)
    obtain ⟨v0, v1, -⟩ := cells_two hP12
    obtain ⟨u0, u1, -⟩ := cells_two hQ12
    have HbP := hide ((below_alloc w12 (.cells #[.slice y1.ka y1.e.key.length y1.kc, .slice y1.va y1.e.val.length y1.vc] 40)))
    have gt : ¬ (k0 : Int) < (dd : Int) := by omega
    have hbb : (r.isSome == r.isSome) = true := by simp
    have hQ13 := (HbP.out.block p2 (lt_of_block hQ12)).trans hQ12
    obtain ⟨g0, g1, -⟩ := cells_two hQ13
    have hlo : Prs ((w12.alloc (.cells #[.slice y1.ka y1.e.key.length y1.kc, .slice y1.va y1.e.val.length y1.vc] 40)).alloc (.cells #[.slice y2.ka y2.e.key.length y2.kc, .slice y2.va y2.e.val.length y2.vc] 40)) (some ⟨w12.heap.size, 0, none⟩) 1 1 [y1] := (prs_box HO112.out (Below.refl _ _)).below (below_alloc _ _)
    have hhi := prs_box (W := w12.alloc (.cells #[.slice y1.ka y1.e.key.length y1.kc, .slice y1.va y1.e.val.length y1.vc] 40)) (HO212.out) HbP.out
    rw [World.size_alloc] at hhi
    have HS2 := hide (samep_yes _ _ _ _ _ [y1] [y2] _ hlo hhi (by simp [ers, cle, HK1.out, HK2.out, HV1.out, HV2.out]) (by omega))
    have HBf2 := hide (HB12.out.trans ((two_alloc (w := w12) (.cells #[.slice y1.ka y1.e.key.length y1.kc, .slice y1.va y1.e.val.length y1.vc] 40) (.cells #[.slice y2.ka y2.e.key.length y2.kc, .slice y2.va y2.e.val.length y2.vc] 40)).mono HB12.out.size))
    clear hP12 hQ12 hQ13 hlo hhi hb12
    go_wp2_with fail
    refine HS2.out.mono ?_
    rintro e w13 ⟨rfl, hb13⟩
    have HBz := hide (HB5.out.trans ((HBf2.out.trans (hb13.mono HBf2.out.size)).mono HB5.out.size))
    clear hb13
    go_wp2
    go_ret
    exact ⟨rfl, HBz.out⟩
  · have hR1 := (HRn.out k0 (by omega)).symm
    refine (seenU_any (HBf.out.below HB6.out) HRis.out HIx.out (by omega) fa fn fc frm inn (HFr.out.below HB6.out) (by omega) (by omega) (by omega) HW.out HRS.out (none, 6, 0) hR1).mono ?_
    rintro e w7 ⟨y1, rfl, hk1', hv1', ho1, hm7, hbl7⟩
    have HK1 := hide hk1'
    have HV1 := hide hv1'
    have hb7 := mv_low hm7 HB6.out (Nat.le_of_eq HBs.out.symm)
    have HB7 := hide hb7
    have hs7 : B5 + 2 ≤ w7.heap.size := by have := hm7.size; omega
    have hY7 := (hm7.block (B5 + 1) (by omega) (by omega)).trans HY6.out
    have HY7 := hide hY7
    have HX7 := hide hbl7.blk
    have HO1 := hide ho1.ok
    clear hk1' hv1' hb7 hY7 ho1 hm7 hbl7 hR1
    go_wp2_with fail
    obtain ⟨w8, hw8⟩ : ∃ w8, w8 = w7.alloc (.cells #[.slice y1.ka y1.e.key.length y1.kc, .slice y1.va y1.e.val.length y1.vc] 40) := ⟨_, rfl⟩
    rw [← hw8]
    have hb8 : Below w7.heap.size w7 w8 := by rw [hw8]; exact below_alloc _ _
    have hp8 : w8.heap[w7.heap.size]? = some (.cells #[.slice y1.ka y1.e.key.length y1.kc, .slice y1.va y1.e.val.length y1.vc] 40 (0, 0)) := by rw [hw8]; exact heap_alloc_new w7 _
    have hs8 : w8.heap.size = w7.heap.size + 1 := by rw [hw8]; simp
    clear hw8
    have HB58 := hide (HB7.out.trans (hb8.mono HB7.out.size))
    have HX8 := hide ((hb8.block B5 (by omega)).trans HX7.out)
    have HIy := hide (Bl.make (q := B5 + 1) HP5.out HB58.out (by have := HBs.out; omega) ((hb8.block (B5 + 1) (by omega)).trans HY7.out))
    have HP8 := hide hp8
    obtain ⟨p1, hp1⟩ : ∃ p1, p1 = w7.heap.size := ⟨_, rfl⟩
    rw [← hp1] at HP8 hs7 hs8 ⊢
    have HO18 := hide (HO1.out.below hb8)
    obtain ⟨m2, hm2⟩ : ∃ m2, m2 = 1000000 - dd := ⟨_, rfl⟩
    have hR2 := (HR.out 1000000 (by omega)).symm
    rw [← hm2] at hR2
    have hsub : IntKind.i64.wrap (1000000 - (m2 : Int)) = (dd : Int) := by rw [IntKind.wrap_i64] <;> omega
    clear hb8 hp8 hp1 hm2
    refine (seenU_any (HBf.out.below HB58.out) HRis.out HIy.out (by omega) fa fn fc frm inn (HFr.out.below HB58.out) (by omega) (by omega) (by omega) HW.out HRS.out (r, 0, m2) hR2).mono ?_
    rintro e w9 ⟨y2, rfl, hk2', hv2', ho2, hm9, hbl9⟩
    have HK2 := hide hk2'
    have HV2 := hide hv2'
    have HB9 := hide (mv_low hm9 HB58.out (by have := HBs.out; omega))
    have HX9 := hide ((hm9.block B5 (by omega) (by omega)).trans HX8.out)
    have HP9 := hide ((hm9.block p1 (by omega) (by omega)).trans HP8.out)
    have HY9 := hide hbl9.blk
    have HO2 := hide ho2.ok
    have HB89 := hide (show Below w8.heap.size w8 w9 ∨ True from .inr trivial)
    have HO19 := hide (en_mv HO18.out HIy.out.blk hm9)
    have hs9 := hm9.size
    clear hk2' hv2' ho2 hm9 hbl9 hR2 HB89
    have hY10 := ((below_alloc w9 (.cells #[.slice y2.ka y2.e.key.length y2.kc, .slice y2.va y2.e.val.length y2.vc] 40)).block (B5 + 1) (by omega)).trans HY9.out
    obtain ⟨-, cY, -⟩ := cells_two hY10
    clear hY10
    go_wp2_with fail
    clear cY
    obtain ⟨w10, hw10⟩ : ∃ w10, w10 = w9.alloc (.cells #[.slice y2.ka y2.e.key.length y2.kc, .slice y2.va y2.e.val.length y2.vc] 40) := ⟨_, rfl⟩
    rw [← hw10]
    have hb10 : Below w9.heap.size w9 w10 := by rw [hw10]; exact below_alloc _ _
    have hp10 : w10.heap[w9.heap.size]? = some (.cells #[.slice y2.ka y2.e.key.length y2.kc, .slice y2.va y2.e.val.length y2.vc] 40 (0, 0)) := by rw [hw10]; exact heap_alloc_new w9 _
    clear hw10
    refine (changes_in (HBf.out.below (HB9.out.trans (hb10.mono HB9.out.size))) (by omega) HW.out).mono ?_
    rintro e w11 ⟨cs2, rfl, hey2, hcl2, hb11⟩
    have hb911 := hb10.trans (hb11.mono hb10.size)
    have HB11 := hide (HB9.out.trans (hb911.mono HB9.out.size))
    have HX11 := hide ((hb911.block B5 (by omega)).trans HX9.out)
    have HP11 := hide ((hb911.block p1 (by omega)).trans HP9.out)
    have HQ11 := hide ((hb11.block w9.heap.size (lt_of_block hp10)).trans hp10)
    have HO111 := hide (HO19.out.below hb911)
    have HO211 := hide (HO2.out.below hb911)
    rw [hyl] at hcl2 ⊢
    obtain ⟨q2, hq2⟩ : ∃ q2, q2 = w10.heap.size := ⟨_, rfl⟩
    rw [← hq2] at hcl2 ⊢
    obtain ⟨p2, hp2⟩ : ∃ p2, p2 = w9.heap.size := ⟨_, rfl⟩
    rw [← hp2] at HQ11 ⊢
    have hse : ers cs2 = es := by rw [hey2]; exact HE5.out
    have HS := hide (samec_yes _ _ _ _ _ cs cs2 w11 ((HCl.out.below HB11.out).ens2 HEy.out) (hcl2.ens2 hse) (HEy.out.trans hse.symm) (by omega))
    have t1 : ¬ (dd : Int) < 1 := by omega
    have t2 : (((0 : Int) != 0) : Bool) = false := by simp
    clear hp10 hb10 hey2 hcl2 hb11 hb911 hq2 hp2 hse
    go_wp2_with fail
    refine HS.out.mono ?_
    rintro e w12 ⟨rfl, hb12⟩
    have HB12 := hide (HB11.out.trans (hb12.mono HB11.out.size))
    have HX12 := hide ((hb12.block B5 (lt_of_block HX11.out)).trans HX11.out)
    have hP12 := (hb12.block p1 (lt_of_block HP11.out)).trans HP11.out
    have hQ12 := (hb12.block p2 (lt_of_block HQ11.out)).trans HQ11.out
    have HO112 := hide (HO111.out.below hb12)
    have HO212 := hide (HO211.out.below hb12)
    obtain ⟨v0, v1, -⟩ := cells_two hP12
    obtain ⟨u0, u1, -⟩ := cells_two hQ12
    have HbP := hide ((below_alloc w12 (.cells #[.slice y1.ka y1.e.key.length y1.kc, .slice y1.va y1.e.val.length y1.vc] 40)))
    have gt : (k0 : Int) < (dd : Int) := by omega
    have hlo : Prs ((w12.alloc (.cells #[.slice y1.ka y1.e.key.length y1.kc, .slice y1.va y1.e.val.length y1.vc] 40)).alloc (.cells #[.slice none 0 0, .slice none 0 0] 40)) (some ⟨w12.heap.size, 0, none⟩) 1 1 [y1] := (prs_box HO112.out (Below.refl _ _)).below (below_alloc _ _)
    have hhi := prs_box (W := w12.alloc (.cells #[.slice y1.ka y1.e.key.length y1.kc, .slice y1.va y1.e.val.length y1.vc] 40)) (zero_ok w12) HbP.out
    rw [World.size_alloc] at hhi
    have HS2 := hide (samep_yes _ _ _ _ _ [y1] [⟨zeE, none, 0, none, 0⟩] _ hlo hhi (by simp [ers, cle, HK1.out, HV1.out]) (by omega))
    have hbz := two_alloc (w := w12) (.cells #[.slice y1.ka y1.e.key.length y1.kc, .slice y1.va y1.e.val.length y1.vc] 40) (.cells #[.slice none 0 0, .slice none 0 0] 40)
    have HBf2 := hide (HB12.out.trans (hbz.mono HB12.out.size))
    have HX13 := hide ((hbz.block B5 (lt_of_block HX12.out)).trans HX12.out)
    clear hP12 hQ12 hlo hhi hb12 hbz
    go_wp2_with fail
    refine HS2.out.mono ?_
    rintro e w13 ⟨rfl, hb13⟩
    have HBz := hide (HB5.out.trans ((HBf2.out.trans (hb13.mono HBf2.out.size)).mono HB5.out.size))
    obtain ⟨-, x1, -⟩ := cells_two ((hb13.block B5 (lt_of_block HX13.out)).trans HX13.out)
    clear hb13
    go_wp2
    go_ret
    exact ⟨rfl, HBz.out⟩
end Go.Proofs.Ytfcebpenjdhgbaa
