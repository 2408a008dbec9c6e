/- The walk of NodeReads. -/
import Derived.Test.YtjojpohnmfkanaaNQ
import Derived.Test.YtjojpohnmfkanaaKN
import Derived.Test.YtjojpohnmfkanaaMU
import Derived.Test.YtjojpohnmfkanaaLE
import Derived.Deep.RegionHeld3
namespace Go.Proofs.Ytjojpohnmfkanaa
open Go.RowKit
set_option linter.unusedVariables false

set_option maxHeartbeats 6400000 in
set_option maxRecDepth 1000000 in
theorem reads_walk (kind : Nat) (pa : Option Addr) (pn pc : Nat) (zs : List Int) (leaf : Bool) (a : Option Addr) (n c : Nat) (xs : List En) (w : World) (hk : kind < 256) (hp : Inn w pa pn pc zs) (h : Ens w a n c xs) (hs : Szd xs) :
    Calls Try.prog 3 #[.int .u8 (kind : Int), .slice pa pn pc, .agg #[.bool leaf, .slice a n c]] w fun e w' => e = .returned (.bool true) ∧ Below w.heap.size w w' := by
  have hb0 := heap_alloc_new w (.cells #[.bool leaf, .slice a n c] 25)
  have HB := hide (below_alloc w (.cells #[.bool leaf, .slice a n c] 25))
  have HB0 := hide hb0
  have HE0 := hide h
  have HP0 := hide hp
  have HE := hide (h.below HB.out)
  have HP := hide (hp.below HB.out)
  have HSz := hide hs
  obtain ⟨n0, n1, -⟩ := cells_two hb0
  clear hb0 h hp hs
  by_cases hl : pn ≤ 20000
  rotate_left
  · have d1 : (20000 : Int) < (pn : Int) := by omega
    go_enter Try.func3, Try.ntmps3
    go_wp2
    go_ret
    exact ⟨rfl, HB.out⟩
  · have d1 : ¬ (20000 : Int) < (pn : Int) := by omega
    have HM := hide (much_any leaf a n c xs _ HE.out HSz.out)
    go_enter Try.func3, Try.ntmps3
    go_wp2_with fail
    refine HM.out.mono ?_
    rintro e w2 ⟨b, rfl, hb, hb2⟩
    have HBb := hide hb
    have HN2 := hide ((hb2.block _ (lt_of_block HB0.out)).trans HB0.out)
    have HB2 := hide (HB.out.trans (hb2.mono HB.out.size))
    have HP2 := hide (HP.out.below hb2)
    have HE2 := hide (HE.out.below hb2)
    clear hb hb2 HM n0 n1 HB HB0 HP HE HSz
    cases b with
    | true =>
      go_wp2
      go_ret
      exact ⟨rfl, HB2.out⟩
    | false =>
      have HBd := hide (HBb.out rfl)
      clear HBb
      go_wp2_with fail
      refine (Le.lent_any pa pn pc zs w2 HP2.out.len (by omega) HP2.out.bare HP2.out.row).mono ?_
      rintro e w3 ⟨rfl, ho3, hb3⟩
      have HN3 := hide ((hb3.block _ (lt_of_block HN2.out)).trans HN2.out)
      have HB3 := hide (HB2.out.trans (hb3.mono HB2.out.size))
      have HP3 := hide (HP2.out.below hb3)
      have HE3 := hide (HE2.out.below hb3)
      have HO3 := hide ho3
      have hg : w.heap.size < w2.heap.size := by have := lt_of_block HN2.out; omega
      have HG := hide hg
      clear ho3 hb3 HN2 HB2 HP2 HE2 hg
      generalize w2.heap.size = g at *
      clear w2
      have hlen := HP3.out.len
      have HIn : Hid (Inn w3 (some ⟨g, 0, none⟩) pn (pn + 2) zs) := ⟨hlen, by omega, by omega, by (intro e; cases e), Le.row_left (own_row HO3.out), HP3.out.byts⟩
      go_wp2_with fail
      refine (decode_any kind (some ⟨g, 0, none⟩) pn (pn + 2) zs w3 hk HIn.out (by omega)).mono ?_
      intro e w4 hd
      obtain ⟨hb4, lf, a2, m2, c2, ys, er, rfl, hm2, hdu, hcl⟩ := dout_u hd
      have hg3 : g < w3.heap.size := HO3.out.lt (k := g) rfl
      have hn3 : n ≤ 500 := HBd.out.1
      have HWt : Hid (wts (ers xs) ≤ 20000) := HBd.out.2
      have HDu := hide hdu
      obtain ⟨W5, hW5⟩ : ∃ W, W = w4.alloc (.cells #[.bool lf, .slice a2 m2 c2] 25) := ⟨_, rfl⟩
      have hb5 : Below w3.heap.size w3 W5 := by rw [hW5]; exact hb4.alloc hb4.size _
      have HX5 : Hid (W5.heap[w4.heap.size]? = some (.cells #[.bool lf, .slice a2 m2 c2] 25 (0, 0))) := by rw [hW5]; exact heap_alloc_new w4 _
      have HC5 : Hid (Cl w3.heap.size W5 (.slice a2 m2 c2) ys) := hcl.below (by rw [hW5]; exact below_alloc w4 _)
      have HN5 := hide ((hb5.block _ (lt_of_block HN3.out)).trans HN3.out)
      have HB5 := hide (HB3.out.trans (hb5.mono HB3.out.size))
      have HO5 := hide (HO3.out.below hb5)
      have HP4 := hide hb4.size
      have HM2 := hide hm2
      have HW3 := hide hg3
      clear hb4 hb5 hcl hdu hm2 hd HN3 HP3 HE3 HO3 HIn hlen
      go_wp2_with fail
      rw [← hW5]
      clear hW5
      obtain ⟨px, hpx⟩ : ∃ px, px = w4.heap.size := ⟨_, rfl⟩
      rw [← hpx] at HX5 HP4 ⊢
      clear hpx w4
      refine (Le.whole_any g pa pn pc zs W5 (by omega) (own_row HO5.out) (HP0.out.below HB5.out)).mono ?_
      rintro e w6 ⟨rfl, hb6⟩
      have HX6 := hide ((hb6.block _ (lt_of_block HX5.out)).trans HX5.out)
      have HN6 := hide ((hb6.block _ (lt_of_block HN5.out)).trans HN5.out)
      have HC6 := hide (HC5.out.below hb6)
      have HB6 := hide (HB5.out.trans (hb6.mono HB5.out.size))
      have HO6 := hide (HO5.out.below hb6)
      clear hb6 HX5 HN5 HC5 HB5 HO5 W5
      go_wp2_with fail
      refine (Le.spoil_any g pn (pn + 2) w6 (Le.own_blk HO6.out) (by omega) (by omega)).mono ?_
      rintro e w7 ⟨rfl, hg7⟩
      have hB7 : Below g w6 w7 := ⟨hg7.os, hg7.tape, hg7.output, hg7.size, fun k hk => hg7.block k (by have := HO6.out.lt (k := g) rfl; omega) (by simp; omega)⟩
      have HX7 := hide ((hg7.block px (lt_of_block HX6.out) (by have := HP4.out; have := HW3.out; simp; omega)).trans HX6.out)
      have HN7 := hide ((hB7.block _ HG.out).trans HN6.out)
      have HC7 : Hid (Cl w3.heap.size w7 (.slice a2 m2 c2) ys) := HC6.out.of_block (fun k hk => hg7.block k (HC6.out.block hk).2.1 (by have := (HC6.out.block hk).1; have := HW3.out; simp; omega)) (fun y hy k hk => hg7.block k ((HC6.out.each y hy).lt hk) (by have := (HC6.out.each y hy).ge hk; have := HW3.out; simp; omega))
      have HB7 : Hid (Below w.heap.size w w7) := HB6.out.trans (hB7.mono (by have := HG.out; omega))
      have HS3 : Hid (w.heap.size ≤ w3.heap.size) := by have := HG.out; have := HW3.out; show _ ≤ _; omega
      clear hB7 hg7 HX6 HN6 HC6 HB6 HO6 w6 HP4 HB3 hg3
      go_wp2_with fail
      refine (rdecode_any kind pa pn pc zs w7 (HP0.out.below HB7.out) (by omega)).mono ?_
      intro e w8 hd
      obtain ⟨hb8, lf', a3, m3, c3, ys3, er', rfl, hm3, hdu3, hens⟩ := rdo_u hd
      obtain ⟨e1, e2, e3⟩ := decU_one HDu.out hdu3
      have e4 : m3 = m2 := by have h1 := congrArg List.length e2; rw [ers_len, ers_len] at h1; have := HM2.out; omega
      subst e1
      subst e3
      subst e4
      have HEq := hide e2
      have HX8 := hide ((hb8.block _ (lt_of_block HX7.out)).trans HX7.out)
      have HN8 := hide ((hb8.block _ (lt_of_block HN7.out)).trans HN7.out)
      have HC8 := hide (HC7.out.below hb8)
      have HB8 := hide (HB7.out.trans (hb8.mono HB7.out.size))
      have HE8 := hide hens
      clear hb8 hdu3 hens hd e2 hm3 HX7 HN7 HC7 HB7 w7
      obtain ⟨W9, hW9⟩ : ∃ W, W = w8.alloc (.cells #[.bool lf, .slice a3 m3 c3] 25) := ⟨_, rfl⟩
      have hb9 : Below w8.heap.size w8 W9 := by rw [hW9]; exact below_alloc w8 _
      have HR9 : Hid (W9.heap[w8.heap.size]? = some (.cells #[.bool lf, .slice a3 m3 c3] 25 (0, 0))) := by rw [hW9]; exact heap_alloc_new w8 _
      have HX9 := hide ((hb9.block _ (lt_of_block HX8.out)).trans HX8.out)
      have HN9 := hide ((hb9.block _ (lt_of_block HN8.out)).trans HN8.out)
      have HC9 := hide (HC8.out.below hb9)
      have HB9 := hide (HB8.out.trans (hb9.mono HB8.out.size))
      have HE9 := hide (HE8.out.below hb9)
      have hbk := Bo.book_new W9
      have hbl := below_alloc W9 (.cells #[.slice none 0 0, .slice none 0 0, .slice none 0 0, .slice none 0 0, .slice none 0 0, .slice none 0 0, .slice none 0 0, .slice none 0 0, .slice none 0 0, .slice none 0 0, .slice none 0 0, .slice none 0 0, .slice none 0 0, .slice none 0 0, .slice none 0 0, .slice none 0 0, .slice none 0 0, .slice none 0 0, .slice none 0 0, .slice none 0 0, .slice none 0 0, .slice none 0 0, .slice none 0 0] 59)
      have HXa := hide ((hbl.block _ (lt_of_block HX9.out)).trans HX9.out)
      obtain ⟨x0, x1, -⟩ := cells_two HXa.out
      have HBn := hide (bks_new w.heap.size W9 HB9.out.size _ hbk)
      have HCa := hide (HC9.out.below hbl)
      have HBl := hide hbl
      clear hb9 hbk hbl HX8 HN8 HC8 HB8 HE8
      rw [hW9] at x0 x1
      go_wp2_with fail
      have hq : W9.heap.size = w8.heap.size + 1 := by rw [hW9]; simp
      rw [← hW9, ← hq]
      obtain ⟨pw, hpw⟩ : ∃ pw, pw = w8.heap.size := ⟨_, rfl⟩
      rw [← hpw] at HR9 hq ⊢
      have HQ := hide hq
      have HRa := hide ((HBl.out.block _ (lt_of_block HR9.out)).trans HR9.out)
      have HNa := hide ((HBl.out.block _ (lt_of_block HN9.out)).trans HN9.out)
      clear hW9 hpw hq x0 x1 w8
      refine (bks_first w.heap.size w3.heap.size W9.heap.size _ HBn.out a2 m3 c2 ys HM2.out (by have := (decU_small HDu.out).1; rw [ers_len] at this; have := HM2.out; omega) HCa.out HS3.out (Nat.le_trans HB9.out.size HBl.out.size) HBl.out.size (decU_small HDu.out).2.1).mono ?_
      rintro e w11 ⟨rfl, hbs, hq11, hb11, hnb, hcl⟩
      have h911 : Below W9.heap.size W9 w11 := HBl.out.trans hq11
      have HX11 := hide (hnb _ _ HXa.out)
      have HN11 := hide (hnb _ _ HNa.out)
      have HR11 := hide (hnb _ _ HRa.out)
      have HC11 := hide hcl
      have HE11 := hide (HE9.out.below h911)
      have HB11 := hide (HB9.out.trans (h911.mono HB9.out.size))
      have HS11 := hide hbs
      have hm3 : m3 ≤ 1008 := by have := (decU_small HDu.out).1; rw [ers_len] at this; have := HM2.out; omega
      have her : er < 65536 := (decU_small HDu.out).2.2
      clear hbs hq11 hb11 hnb hcl h911 HXa HNa HRa HBn HCa HBl HC9 HE9 HB9 HX9 HN9 HR9
      generalize W9.heap.size = q at *
      clear W9
      go_wp2_with (go_at_call 11; refine (known_any _).mono ?_; rintro e w12 ⟨rfl, hb12⟩; have HX12 := hide ((hb12.block _ (lt_of_block HX11.out)).trans HX11.out); have HN12 := hide ((hb12.block _ (lt_of_block HN11.out)).trans HN11.out); have HR12 := hide ((hb12.block _ (lt_of_block HR11.out)).trans HR11.out); have HC12 := hide (HC11.out.below hb12); have HE12 := hide (HE11.out.below hb12); have HB12 := hide (HB11.out.trans (hb12.mono HB11.out.size)); have HS12 := hide (HS11.out.below hb12); clear hb12; obtain ⟨x0, x1, -⟩ := cells_two HX12.out; obtain ⟨r0, r1, -⟩ := cells_two HR12.out)
      -- TAIL
      obtain ⟨ax, cx, ex, hens⟩ := HC12.out.ens
      have ex2 := HM2.out
      rw [ex2] at ex hens
      cases ex
      refine (same_any lf a2 a3 m3 c2 c3 ys ys3 w12 hens HE12.out HEq.out (by omega)).mono ?_
      rintro e w13 ⟨rfl, hb13⟩
      have HN13 := hide ((hb13.block _ (lt_of_block HN12.out)).trans HN12.out)
      have HB13 := hide (HB12.out.trans (hb13.mono HB12.out.size))
      have HS13 := hide (HS12.out.below hb13)
      clear hb13 hens ex2 x0 x1 r0 r1 HX12 HN12 HR12 HC12 HE12 HB12 HS12 HX11 HN11 HR11 HC11 HE11 HB11 HS11 w12 w11
      obtain ⟨m0, m1, -⟩ := cells_two HN13.out
      go_wp2_with fail
      refine (encode_all leaf a n c xs w13 (HE0.out.below HB13.out) (by omega) (by have := HWt.out; omega)).mono ?_
      rintro e w14 ⟨a5, c5, rfl, henc⟩
      have HO14 := hide henc.own
      have HN14 := hide ((henc.bel.block _ (lt_of_block HN13.out)).trans HN13.out)
      have HB14 := hide (HB13.out.trans (henc.bel.mono HB13.out.size))
      have HS14 := hide (HS13.out.below henc.bel)
      have HLn := hide (eb_len leaf (ers xs))
      clear henc m0 m1 HN13 HB13 HS13 w13
      by_cases hc : chk leaf (ers xs) = 0
      rotate_left
      · obtain ⟨K, hK⟩ : ∃ K, K = chk leaf (ers xs) := ⟨_, rfl⟩
        rw [← hK] at hc ⊢
        have d2 : ((K : Int) == 0) = false := by simp; omega
        have d3 : ¬ (K : Int) = 0 := by omega
        clear hK
        obtain ⟨EL, hEL⟩ : ∃ EL, EL = (eb leaf (ers xs)).length := ⟨_, rfl⟩
        rw [← hEL]
        clear hEL
        go_wp2_with (go_at_call 14; refine (bks_own w.heap.size q (2 * m3) 1 w14 HS14.out HB14.out.size (by omega) (by omega)).mono ?_; rintro e w15 ⟨rfl, hb15⟩)
        go_ret
        exact ⟨rfl, HB14.out.trans hb15⟩
      · have HNd : Hid (IsNode leaf (eb leaf (ers xs)) (ers xs)) := eb_isnode hc (fun e he => by obtain ⟨y, hy, rfl⟩ := List.mem_map.1 he; exact ⟨((HE0.out.each y hy).key).byts, ((HE0.out.each y hy).val).byts⟩)
        rw [hc]
        clear hc
        have HIn : Hid (Inn w14 a5 (eb leaf (ers xs)).length c5 (eb leaf (ers xs))) := own_inn HO14.out (eb_byts leaf (ers xs) HNd.out.2.2)
        clear HO14
        generalize eb leaf (ers xs) = E at *
        obtain ⟨EL, hEL⟩ : ∃ EL, EL = E.length := ⟨_, rfl⟩
        rw [← hEL] at HIn HLn ⊢
        have HEL := hide hEL
        clear hEL
        have hEl : EL ≤ 1008 := HLn.out
        obtain ⟨m0, m1, -⟩ := cells_two HN14.out
        cases leaf with
        | true =>
          go_wp2_with fail
          refine (decode_any 1 a5 EL c5 E w14 (by omega) HIn.out (by omega)).mono ?_
          intro e w15 hd
          obtain ⟨hb15, lf2, a6, m6, c6, ys6, er6, rfl, hm6, hdu6, hcl6⟩ := dout_u hd
          obtain ⟨rfl, e6, rfl⟩ := decU_one (.inl ⟨rfl, .inl ⟨rfl, rfl⟩, HNd.out⟩) hdu6
          have HEq6 := hide e6
          have HM6 := hide hm6
          have hm6n : m6 = n := by have h1 := congrArg List.length e6; rw [ers_len, ers_len] at h1; have := HE0.out.len; omega
          have hBk := below_alloc w15 (.cells #[.bool true, .slice a6 m6 c6] 25)
          have hb16 : Below w14.heap.size w14 (w15.alloc (.cells #[.bool true, .slice a6 m6 c6] 25)) := hb15.alloc hb15.size _
          have HI16 := hide (HIn.out.below hb16)
          have HC16 := hide (hcl6.below hBk)
          have HN16 := hide ((hb16.block _ (lt_of_block HN14.out)).trans HN14.out)
          have HB16 := hide hb16
          have HY16 := hide (heap_alloc_new w15 (.cells #[.bool true, .slice a6 m6 c6] 25))
          clear hd hb15 hdu6 hcl6 e6 hm6 hBk hb16 m0 m1
          subst hm6n
          go_wp2_with fail
          generalize w15.alloc (.cells #[.bool true, .slice a6 m6 c6] 25) = W16 at *
          obtain ⟨py, hpy⟩ : ∃ py, py = w15.heap.size := ⟨_, rfl⟩
          rw [← hpy] at HY16 ⊢
          clear hpy
          refine (decode_any 2 a5 EL c5 E W16 (by omega) HI16.out (by omega)).mono ?_
          intro e w17 hd
          obtain ⟨hb17, lf7, a7, m7, c7, ys7, er7, rfl, hm7, hdu7, hcl7⟩ := dout_u hd
          have he7 : er7 = 90 := by
            rcases hdu7 with ⟨_, hk7⟩ | ⟨h7, _⟩
            · exact absurd hk7 (isk_other HNd.out _ _)
            · exact h7
          subst he7
          have hb17 : Below W16.heap.size W16 (w17.alloc (.cells #[.bool lf7, .slice a7 m7 c7] 25)) := hb17.alloc hb17.size _
          have HC17 := hide (HC16.out.below hb17)
          have HN17 := hide ((hb17.block _ (lt_of_block HN16.out)).trans HN16.out)
          have HY17 := hide ((hb17.block _ (lt_of_block HY16.out)).trans HY16.out)
          have HB17 : Hid (Below w14.heap.size w14 (w17.alloc (.cells #[.bool lf7, .slice a7 m7 c7] 25))) := HB16.out.trans (hb17.mono HB16.out.size)
          obtain ⟨y0, y1, -⟩ := cells_two HY17.out
          clear hd hb17 hdu7 hcl7 hm7 HI16 HC16 HN16 HB16 HY16
          go_wp2_with fail
          generalize w17.alloc (.cells #[.bool lf7, .slice a7 m7 c7] 25) = W17 at *
          have HBw17 := hide (HB14.out.trans (HB17.out.mono HB14.out.size))
          refine (bks_put w.heap.size w14.heap.size q (2 * m3) 1 w14 W17 HS14.out HB17.out (Nat.le_refl _) a6 m6 c6 ys6 HM6.out (by omega) (by omega) (by omega) HC17.out HB14.out.size HBw17.out.size (by rw [← HEq6.out]; exact (isnode_small HNd.out).2)).mono ?_
          rintro e w18 ⟨rfl, hbs, hb18, hnb, hcl⟩
          have HN18 := hide (hnb _ _ HN17.out)
          have HY18 := hide (hnb _ _ HY17.out)
          have HC18 := hide hcl
          have HS18 := hide hbs
          have HB18 := hide (HBw17.out.trans hb18)
          clear hbs hb18 hnb hcl y0 y1 HC17 HN17 HY17 HB17 HBw17 HN14 HB14 HS14
          obtain ⟨y0, y1, -⟩ := cells_two HY18.out
          obtain ⟨m0, m1, -⟩ := cells_two HN18.out
          obtain ⟨ax, cx, ex, hens⟩ := HC18.out.ens
          have ex2 := HM6.out
          rw [ex2] at ex hens
          cases ex
          have HEn := hide hens
          clear hens ex2
          go_wp2_with (first | (go_at_call 12; refine (same_any true a6 a m6 c6 c ys6 xs w18 HEn.out (HE0.out.below HB18.out) HEq6.out.symm (by omega)).mono ?_; rintro e w19 ⟨rfl, hb19⟩; have HS19 := hide (HS18.out.below hb19); have HB19 := hide (HB18.out.trans (hb19.mono HB18.out.size)); clear hb19) | (go_at_call 14; refine (bks_own w.heap.size q (2 * m3 + 2 * m6) 2 _ HS19.out HB19.out.size (by omega) (by omega)).mono ?_; rintro e w20 ⟨rfl, hb20⟩))
          go_ret
          exact ⟨rfl, HB19.out.trans hb20⟩
        | false =>
          go_wp2_with fail
          refine (decode_any 2 a5 EL c5 E w14 (by omega) HIn.out (by omega)).mono ?_
          intro e w15 hd
          obtain ⟨hb15, lf2, a6, m6, c6, ys6, er6, rfl, hm6, hdu6, hcl6⟩ := dout_u hd
          obtain ⟨rfl, e6, rfl⟩ := decU_one (.inl ⟨rfl, .inr ⟨rfl, rfl⟩, HNd.out⟩) hdu6
          have HEq6 := hide e6
          have HM6 := hide hm6
          have hm6n : m6 = n := by have h1 := congrArg List.length e6; rw [ers_len, ers_len] at h1; have := HE0.out.len; omega
          have hBk := below_alloc w15 (.cells #[.bool false, .slice a6 m6 c6] 25)
          have hb16 : Below w14.heap.size w14 (w15.alloc (.cells #[.bool false, .slice a6 m6 c6] 25)) := hb15.alloc hb15.size _
          have HI16 := hide (HIn.out.below hb16)
          have HC16 := hide (hcl6.below hBk)
          have HN16 := hide ((hb16.block _ (lt_of_block HN14.out)).trans HN14.out)
          have HB16 := hide hb16
          have HY16 := hide (heap_alloc_new w15 (.cells #[.bool false, .slice a6 m6 c6] 25))
          clear hd hb15 hdu6 hcl6 e6 hm6 hBk hb16 m0 m1
          subst hm6n
          go_wp2_with fail
          generalize w15.alloc (.cells #[.bool false, .slice a6 m6 c6] 25) = W16 at *
          obtain ⟨py, hpy⟩ : ∃ py, py = w15.heap.size := ⟨_, rfl⟩
          rw [← hpy] at HY16 ⊢
          clear hpy
          refine (decode_any 1 a5 EL c5 E W16 (by omega) HI16.out (by omega)).mono ?_
          intro e w17 hd
          obtain ⟨hb17, lf7, a7, m7, c7, ys7, er7, rfl, hm7, hdu7, hcl7⟩ := dout_u hd
          have he7 : er7 = 90 := by
            rcases hdu7 with ⟨_, hk7⟩ | ⟨h7, _⟩
            · exact absurd hk7 (isk_other HNd.out _ _)
            · exact h7
          subst he7
          have hb17 : Below W16.heap.size W16 (w17.alloc (.cells #[.bool lf7, .slice a7 m7 c7] 25)) := hb17.alloc hb17.size _
          have HC17 := hide (HC16.out.below hb17)
          have HN17 := hide ((hb17.block _ (lt_of_block HN16.out)).trans HN16.out)
          have HY17 := hide ((hb17.block _ (lt_of_block HY16.out)).trans HY16.out)
          have HB17 : Hid (Below w14.heap.size w14 (w17.alloc (.cells #[.bool lf7, .slice a7 m7 c7] 25))) := HB16.out.trans (hb17.mono HB16.out.size)
          obtain ⟨y0, y1, -⟩ := cells_two HY17.out
          clear hd hb17 hdu7 hcl7 hm7 HI16 HC16 HN16 HB16 HY16
          go_wp2_with fail
          generalize w17.alloc (.cells #[.bool lf7, .slice a7 m7 c7] 25) = W17 at *
          have HBw17 := hide (HB14.out.trans (HB17.out.mono HB14.out.size))
          refine (bks_put w.heap.size w14.heap.size q (2 * m3) 1 w14 W17 HS14.out HB17.out (Nat.le_refl _) a6 m6 c6 ys6 HM6.out (by omega) (by omega) (by omega) HC17.out HB14.out.size HBw17.out.size (by rw [← HEq6.out]; exact (isnode_small HNd.out).2)).mono ?_
          rintro e w18 ⟨rfl, hbs, hb18, hnb, hcl⟩
          have HN18 := hide (hnb _ _ HN17.out)
          have HY18 := hide (hnb _ _ HY17.out)
          have HC18 := hide hcl
          have HS18 := hide hbs
          have HB18 := hide (HBw17.out.trans hb18)
          clear hbs hb18 hnb hcl y0 y1 HC17 HN17 HY17 HB17 HBw17 HN14 HB14 HS14
          obtain ⟨y0, y1, -⟩ := cells_two HY18.out
          obtain ⟨m0, m1, -⟩ := cells_two HN18.out
          obtain ⟨ax, cx, ex, hens⟩ := HC18.out.ens
          have ex2 := HM6.out
          rw [ex2] at ex hens
          cases ex
          have HEn := hide hens
          clear hens ex2
          go_wp2_with (first | (go_at_call 12; refine (same_any false a6 a m6 c6 c ys6 xs w18 HEn.out (HE0.out.below HB18.out) HEq6.out.symm (by omega)).mono ?_; rintro e w19 ⟨rfl, hb19⟩; have HS19 := hide (HS18.out.below hb19); have HB19 := hide (HB18.out.trans (hb19.mono HB18.out.size)); clear hb19) | (go_at_call 14; refine (bks_own w.heap.size q (2 * m3 + 2 * m6) 2 _ HS19.out HB19.out.size (by omega) (by omega)).mono ?_; rintro e w20 ⟨rfl, hb20⟩))
          go_ret
          exact ⟨rfl, HB19.out.trans hb20⟩
end Go.Proofs.Ytjojpohnmfkanaa
