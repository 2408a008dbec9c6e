/- The walk of NodeParts. -/
import Derived.Test.YtcflnkepopcofaaJG
import Derived.Test.YtcflnkepopcofaaEO
import Derived.Test.YtcflnkepopcofaaZQ
import Derived.Test.YtcflnkepopcofaaKN
import Derived.Deep.RegionHeld3
namespace Go.Proofs.Ytcflnkepopcofaa
open Go.RowKit
set_option linter.unusedVariables false

theorem parts_boxes (w : World) (a b d e : Value) (x : En) : ∃ W, W = ((w.alloc (.cells #[a, b] 24)).alloc (.cells #[.slice x.ka x.e.key.length x.kc, .slice x.va x.e.val.length x.vc, .int .u32 (x.e.page : Int), .int .u32 (x.e.size : Int)] 28)).alloc (.cells #[d, e] 24) ∧ Below w.heap.size w W ∧ W.heap[w.heap.size]? = some (.cells #[a, b] 24 (0, 0)) ∧ W.heap[w.heap.size + 1]? = some (.cells #[.slice x.ka x.e.key.length x.kc, .slice x.va x.e.val.length x.vc, .int .u32 (x.e.page : Int), .int .u32 (x.e.size : Int)] 28 (0, 0)) ∧ W.heap[w.heap.size + 1 + 1]? = some (.cells #[d, e] 24 (0, 0)) := by
  obtain ⟨w1, hw1, h1, h2, h3, h4⟩ := node_entry w a b x
  rw [← hw1]
  refine ⟨_, rfl, h1.alloc h1.size _, (Below.heap_alloc _ _ _ (lt_of_block h2)).trans h2, (Below.heap_alloc _ _ _ (lt_of_block h3)).trans h3, ?_⟩
  have := heap_alloc_new w1 (.cells #[d, e] 24)
  rwa [h4] at this
theorem ens_one {w : World} {g : Nat} {x : En} (hg : w.heap[g]? = some (.cells #[.slice x.ka x.e.key.length x.kc, .slice x.va x.e.val.length x.vc, .int .u32 (x.e.page : Int), .int .u32 (x.e.size : Int)] 28 (0, 0))) (hx : x.Ok w) : Ens w (some ⟨g, 0, none⟩) 1 1 [x] := by
  refine ⟨rfl, Nat.le_refl _, by omega, by (intro e; cases e), .inr ⟨g, 0, rfl, lt_of_block hg, fun j u hu => ?_⟩, fun y hy => by simp at hy; subst hy; exact hx⟩
  obtain ⟨h0, h1, h2, h3, -⟩ := cells_four hg
  match j, hu with
  | 0, hu => simp [rowc, En.cells] at hu; subst hu; exact h0
  | 1, hu => simp [rowc, En.cells] at hu; subst hu; exact h1
  | 2, hu => simp [rowc, En.cells] at hu; subst hu; exact h2
  | 3, hu => simp [rowc, En.cells] at hu; subst hu; exact h3
  | j + 4, hu => simp [rowc, En.cells] at hu
set_option maxHeartbeats 12800000 in
set_option maxRecDepth 1000000 in
theorem parts_walk (leaf : Bool) (a : Option Addr) (n c : Nat) (xs : List En) (x : En) (w : World) (h : Ens w a n c xs) (hs : Szd xs) (hx : x.Ok w) (hx1 : x.e.key.length ≤ 140737488355328) (hx2 : x.e.val.length ≤ 140737488355328) :
    Calls Try.prog 3 #[.agg #[.bool leaf, .slice a n c], .agg #[.slice x.ka x.e.key.length x.kc, .slice x.va x.e.val.length x.vc, .int .u32 (x.e.page : Int), .int .u32 (x.e.size : Int)]] w fun e w' => e = .returned (.bool true) ∧ Below w.heap.size w w' := by
  obtain ⟨w1, hw1, hB, hb0, hb1, hs1⟩ := node_entry w (.bool leaf) (.slice a n c) x
  have HB := hide hB
  have HB0 := hide hb0
  have HB1 := hide hb1
  have HS1 := hide hs1
  have HE := hide h
  have HX := hide hx
  have HM := hide (much_any leaf a n c xs _ (h.below hB) hs)
  obtain ⟨n0, n1, -⟩ := cells_two hb0
  obtain ⟨y0, y1, y2, y3, -⟩ := cells_four hb1
  have hnl := h.len
  rw [hw1] at n0 n1 y0 y1 y2 y3
  clear h hs hx hB hb0 hb1 hs1
  go_enter Try.func3, Try.ntmps3
  go_wp2_with fail
  rw [← hw1] at *
  clear hw1
  refine HM.out.mono ?_
  rintro e w2 ⟨b, rfl, hb, hb2⟩
  have HW2 := hide hb2
  have HBb := hide hb
  have HN2 := hide ((hb2.block _ (lt_of_block HB0.out)).trans HB0.out)
  have HX2 := hide ((hb2.block _ (lt_of_block HB1.out)).trans HB1.out)
  obtain ⟨m0, m1, -⟩ := cells_two HN2.out
  obtain ⟨z0, z1, z2, z3, -⟩ := cells_four HX2.out
  have HBa := hide (HB.out.trans (hb2.mono HB.out.size))
  clear hb hb2 HM n0 n1 y0 y1 y2 y3
  cases b with
  | true =>
    go_wp2_with (go_at_call 5; refine (known_any _).mono ?_; rintro e w3 ⟨rfl, hb3⟩)
    go_ret
    exact ⟨rfl, HBa.out.trans (hb3.mono HBa.out.size)⟩
  | false =>
    by_cases hk2 : x.e.key.length + x.e.val.length ≤ 20000
    rotate_left
    · have d1 : (20000 : Int) < (x.e.key.length : Int) + (x.e.val.length : Int) := by omega
      go_wp2_with (go_at_call 5; refine (known_any _).mono ?_; rintro e w3 ⟨rfl, hb3⟩)
      go_ret
      exact ⟨rfl, HBa.out.trans (hb3.mono HBa.out.size)⟩
    · have d1 : ¬ (20000 : Int) < (x.e.key.length : Int) + (x.e.val.length : Int) := by omega
      have HBd := hide (HBb.out rfl)
      go_wp2_with (go_at_call 5; refine (known_any _).mono ?_; rintro e w3 ⟨rfl, hb3⟩; have HN3 := hide ((hb3.block _ (lt_of_block HN2.out)).trans HN2.out); have HX3 := hide ((hb3.block _ (lt_of_block HX2.out)).trans HX2.out); have HB3 := hide (HBa.out.trans (hb3.mono HBa.out.size)); clear m0 m1 z0 z1 z2 z3 hb3; obtain ⟨m0, m1, -⟩ := cells_two HN3.out; obtain ⟨z0, z1, z2, z3, -⟩ := cells_four HX3.out)
      have HSt : Hid (∀ V, Below w3.heap.size w3 V → V.cell? ⟨w.heap.size, 0, none⟩ = some (.bool leaf) ∧ V.cell? ⟨w.heap.size, 1, none⟩ = some (.slice a n c) ∧ V.cell? ⟨w.heap.size + 1, 0, none⟩ = some (.slice x.ka x.e.key.length x.kc) ∧ V.cell? ⟨w.heap.size + 1, 1, none⟩ = some (.slice x.va x.e.val.length x.vc) ∧ V.cell? ⟨w.heap.size + 1, 2, none⟩ = some (.int .u32 (x.e.page : Int)) ∧ V.cell? ⟨w.heap.size + 1, 3, none⟩ = some (.int .u32 (x.e.size : Int))) := hide fun V hV => by
        obtain ⟨u0, u1, -⟩ := cells_two ((hV.block _ (lt_of_block HN3.out)).trans HN3.out)
        obtain ⟨v0, v1, v2, v3, -⟩ := cells_four ((hV.block _ (lt_of_block HX3.out)).trans HX3.out)
        exact ⟨u0, u1, v0, v1, v2, v3⟩
      have HE3 := hide (HE.out.below HB3.out)
      have HX3k := hide (HX.out.below HB3.out)
      have hn5 : n ≤ 500 := HBd.out.1
      have HWt : Hid (wts (ers xs) ≤ 20000) := HBd.out.2
      refine (check_any leaf a n c xs w3 HE3.out (by omega) (by have := HWt.out; omega)).mono ?_
      rintro e w4 ⟨rfl, hb4⟩
      have HB4 := hide hb4
      clear hb4 m0 m1 z0 z1 z2 z3
      by_cases hc : chk leaf (ers xs) = 0
      rotate_left
      · obtain ⟨K, hK⟩ : ∃ K, K = chk leaf (ers xs) := ⟨_, rfl⟩
        rw [← hK] at hc ⊢
        have d2 : ((K : Int) != 0) = true := by simp; omega
        have d3 : ¬ (K : Int) = 0 := by omega
        clear hK
        go_wp2
        go_ret
        exact ⟨rfl, HB3.out.trans (HB4.out.mono HB3.out.size)⟩
      · rw [hc]
        have HC0 := hide hc
        have HRs := hide (may_rise (chk_zero hc).1)
        clear hc
        obtain ⟨m0, m1, z0, z1, z2, z3⟩ := HSt.out w4 HB4.out
        go_wp2_with fail
        refine (put_all leaf a n c xs x w4 (HE3.out.below HB4.out) (HX3k.out.below HB4.out) (by omega) (by have := HWt.out; omega) (by omega) HRs.out).mono ?_
        rintro e w5 ⟨ap, np, cp, zs, k, rfl, hpk, hens, hb5⟩
        have HPk := hide hpk
        have HZ5 := hide hens
        have HB5 : Hid (Below w3.heap.size w3 w5) := HB4.out.trans (hb5.mono HB4.out.size)
        clear hpk hens hb5 m0 m1 z0 z1 z2 z3
        obtain ⟨W6, hW6, hb6, hp6, he6, ho6⟩ := parts_boxes w5 (.bool leaf) (.slice ap np cp) (.bool leaf) (.slice (some ⟨w5.heap.size + 1, 0, none⟩) 1 1) x
        have HB6 : Hid (Below w3.heap.size w3 W6) := HB5.out.trans (hb6.mono HB5.out.size)
        have HZ6 := hide (HZ5.out.below hb6)
        have HP6 := hide hp6
        have HE6 := hide he6
        have HO6 := hide ho6
        obtain ⟨m0, m1, z0, z1, z2, z3⟩ := HSt.out _ HB6.out
        obtain ⟨p0, p1, -⟩ := cells_two hp6
        obtain ⟨o0, o1, -⟩ := cells_two ho6
        have hA1 : Below w3.heap.size w3 (w5.alloc (.cells #[.bool leaf, .slice ap np cp] 24)) := HB5.out.trans ((below_alloc _ _).mono HB5.out.size)
        obtain ⟨m0', m1', z0', z1', z2', z3'⟩ := HSt.out _ hA1
        obtain ⟨m0'', m1'', z0'', z1'', z2'', z3''⟩ := HSt.out ((w5.alloc (.cells #[.bool leaf, .slice ap np cp] 24)).alloc (.cells #[.slice x.ka x.e.key.length x.kc, .slice x.va x.e.val.length x.vc, .int .u32 (x.e.page : Int), .int .u32 (x.e.size : Int)] 28)) (hA1.trans ((below_alloc _ _).mono hA1.size))
        clear hA1
        have HXo := hide (ens_one he6 (HX3k.out.below HB6.out))
        clear hb6 hp6 he6 ho6
        rw [hW6] at m0 m1 z0 z1 z2 z3 p0 p1 o0 o1
        cases leaf with
        | true =>
          go_wp2_with fail
          rw [← hW6] at *
          refine (rcheck_any true (some ⟨w5.heap.size + 1, 0, none⟩) 1 1 [x] W6 HXo.out (by omega) (by simp [ers, wts]; omega)).mono ?_
          rintro e V7 ⟨rfl, h7⟩
          have hb7 := h7
          have HB7 : Hid (Below w3.heap.size w3 V7) := HB6.out.trans (h7.mono HB6.out.size)
          have HZ7 := hide (HZ6.out.below h7)
          have HP7 := hide ((h7.block _ (lt_of_block HP6.out)).trans HP6.out)
          clear m0 m1 z0 z1 z2 z3 p0 p1 o0 o1 m0' m1' z0' z1' z2' z3' m0'' m1'' z0'' z1'' z2'' z3'' h7 hb7 hW6
          obtain ⟨K1, hK1⟩ : ∃ K1, K1 = chk true (ers [x]) := ⟨_, rfl⟩
          rw [← hK1]
          by_cases hc1 : K1 = 0
          rotate_left
          · have d2 : ((K1 : Int) != 0) = true := by simp; omega
            have d3 : ¬ (K1 : Int) = 0 := by omega
            clear hK1
            go_wp2
            go_ret
            exact ⟨rfl, HB3.out.trans (HB7.out.mono HB3.out.size)⟩
          · subst hc1
            clear hK1
            obtain ⟨m0, m1, z0, z1, z2, z3⟩ := HSt.out V7 HB7.out
            obtain ⟨p0, p1, -⟩ := cells_two HP7.out
            go_wp2_with fail
            clear m0 m1 z0 z1 z2 z3 p0 p1
            have hkn : k < np := by
              have h1 := (List.getElem?_eq_some_iff.1 HPk.out.at_).1
              rw [ers_len, HZ7.out.len] at h1
              exact h1
            have HNp : Hid (np ≤ 501) := by
              have h1 := HPk.out.len
              rw [ers_len, ers_len, HZ7.out.len, hnl] at h1
              rw [Hid]
              omega
            have hnp := HNp.out
            have HWz : Hid (wts (ers zs) ≤ 40000) := by
              have h1 := HPk.out.wt
              have h2 := HWt.out
              rw [Hid]
              omega
            have HXk : Hid (∀ V, Below V7.heap.size V7 V → Inn V x.ka x.e.key.length x.kc x.e.key) := hide fun V hV => ((HX3k.out.below HB7.out).below hV).key
            have HCt : Hid (∀ V, Below V7.heap.size V7 V → V.cell? ⟨w.heap.size + 1, 0, none⟩ = some (.slice x.ka x.e.key.length x.kc) ∧ V.cell? ⟨w5.heap.size, 0, none⟩ = some (.bool true) ∧ V.cell? ⟨w5.heap.size, 1, none⟩ = some (.slice ap np cp)) := hide fun V hV => by
              obtain ⟨u0, u1, v0, v1, v2, v3⟩ := HSt.out V (HB7.out.trans (hV.mono HB7.out.size))
              obtain ⟨q0, q1, -⟩ := cells_two ((hV.block _ (lt_of_block HP7.out)).trans HP7.out)
              exact ⟨v0, q0, q1⟩
            refine (find_put true x.ka x.e.key.length x.kc x.e.key ap np cp zs V7 (HXk.out _ (Below.refl _ _)) HZ7.out (by omega) HPk.out.rise k x.e HPk.out.at_ rfl).mono ?_
            rintro e w8 ⟨rfl, hb8⟩
            have HB8 := hide hb8
            clear hb8
            obtain ⟨y, hy⟩ : ∃ y, zs[k]? = some y := ⟨_, List.getElem?_eq_getElem (by rw [HZ7.out.len]; exact hkn)⟩
            have hye : y.e = x.e := by
              have h1 := HPk.out.at_
              rw [ers_at hy] at h1
              simpa using h1
            obtain ⟨bz, oz, rfl, hbz, k0, -⟩ := (HZ7.out.below HB8.out).cells hy
            have hyk := ((HZ7.out.below HB8.out).each y (List.mem_of_getElem? hy)).key
            rw [hye] at hyk k0
            have t1 : ∀ q, (convert 25 9 (.slice y.ka x.e.key.length y.kc)).run Try.prog (w8.drewN q) = .ok (.string (bk x.e.key)) (w8.drewN q) := fun q => text_inn (hyk.below (below_drewN (Below.refl _ _) q))
            have t2 : ∀ q, (convert 25 9 (.slice x.ka x.e.key.length x.kc)).run Try.prog (w8.drewN q) = .ok (.string (bk x.e.key)) (w8.drewN q) := fun q => text_inn ((HXk.out w8 HB8.out).below (below_drewN (Below.refl _ _) q))
            have i1 : (0 : Int) ≤ (k : Int) := by omega
            have i2 : (k : Int) < (np : Int) := by omega
            have i3 : ¬ (np : Int) ≤ (k : Int) := by omega
            have i3a : ¬ np ≤ k := by omega
            have i3b : decide (np ≤ k) = false := by simpa using i3a
            have qv : ((bk x.e.key).toList == (bk x.e.key).toList) = true := beq_self_eq_true _
            obtain ⟨z0, q0, q1⟩ := HCt.out w8 HB8.out
            have HY := hide hy
            clear hyk hye hy
            go_wp2
            go_quiet (fail)
            clear t1 t2 i3 i3a i3b qv k0 z0 q0 q1
            generalize hW8 : w8.drewN _ = W8
            have HB8' : Hid (Below V7.heap.size V7 W8) := by rw [← hW8]; exact below_drewN HB8.out _
            clear hW8
            obtain ⟨z0, q0, q1⟩ := HCt.out W8 HB8'.out
            go_wp2_with fail
            refine (drop_put true (some ⟨bz, oz, none⟩) np cp zs x.ka x.e.key.length x.kc x.e.key W8 (HZ7.out.below HB8'.out) (HXk.out W8 HB8'.out) (by omega) (by have := HWz.out; omega) HPk.out.rise k x.e HPk.out.at_ rfl).mono ?_
            rintro e w9 ⟨ad, cd, ds, rfl, hgone, hensd, hb9⟩
            have HGo := hide hgone
            have HB9 : Hid (Below V7.heap.size V7 w9) := HB8'.out.trans (hb9.mono HB8'.out.size)
            have hb10 := below_alloc w9 (.cells #[.bool true, .slice ad (np - 1) cd] 24)
            have hd10 := heap_alloc_new w9 (.cells #[.bool true, .slice ad (np - 1) cd] 24)
            have HB10 : Hid (Below V7.heap.size V7 (w9.alloc (.cells #[.bool true, .slice ad (np - 1) cd] 24))) := HB9.out.trans (hb10.mono HB9.out.size)
            have HD10 := hide hd10
            have HDs := hide (hensd.below hb10)
            clear z0 q0 q1 hgone hensd hb9 hb10
            obtain ⟨z0, q0, q1⟩ := HCt.out w9 HB9.out
            obtain ⟨z0', q0', q1'⟩ := HCt.out _ HB10.out
            obtain ⟨d0, d1, -⟩ := cells_two hd10
            clear hd10
            go_wp2_with fail
            generalize w9.alloc (.cells #[.bool true, .slice ad (np - 1) cd] 24) = W10 at HB10 HD10 HDs z0' q0' q1' d0 d1 ⊢
            refine (find_gone true x.ka x.e.key.length x.kc x.e.key ad (np - 1) cd ds W10 (HXk.out W10 HB10.out) HDs.out (by omega) HGo.out).mono ?_
            rintro e w11 ⟨ig, bg, rfl, hbg, hb11⟩
            have HB11 : Hid (Below V7.heap.size V7 w11) := HB10.out.trans (hb11.mono HB10.out.size)
            have HD11 := hide ((hb11.block _ (lt_of_block HD10.out)).trans HD10.out)
            obtain rfl := hbg.out rfl
            clear z0 q0 q1 z0' q0' q1' d0 d1 hb11 hbg
            obtain ⟨z0, q0, q1⟩ := HCt.out w11 HB11.out
            obtain ⟨d0, d1, -⟩ := cells_two HD11.out
            go_wp2_with fail
            refine (halves_all true (some ⟨bz, oz, none⟩) np cp zs w11 (HZ7.out.below HB11.out) (by omega) (by have := HWz.out; omega)).mono ?_
            rintro e w12 ⟨a1, n1, c1, u1, a2, n2, c2, u2, a3, n3, c3, kk, rfl, hvo, hb12⟩
            have HB12 : Hid (Below V7.heap.size V7 w12) := HB11.out.trans (hb12.mono HB11.out.size)
            have HVo := hide hvo
            clear z0 q0 q1 d0 d1 hb12 hvo
            obtain ⟨z0, q0, q1⟩ := HCt.out w12 HB12.out
            go_wp2_with fail
            obtain ⟨hB13, ha13, hb13, hs13⟩ := pair_boxes w12 (.bool true) (.slice a1 n1 c1) (.bool true) (.slice a2 n2 c2)
            generalize (w12.alloc (.cells #[.bool true, .slice a1 n1 c1] 24)).alloc (.cells #[.bool true, .slice a2 n2 c2] 24) = W13 at hB13 ha13 hb13 hs13 ⊢
            have HB13 : Hid (Below V7.heap.size V7 W13) := HB12.out.trans (hB13.mono HB12.out.size)
            have HV13 := hide (HVo.out.below hB13)
            have HA13 := hide ha13
            have HBb13 := hide hb13
            clear z0 q0 q1 hB13 ha13 hb13 hs13 HVo
            have HS13 : Hid (∀ V, Below W13.heap.size W13 V → (V.cell? ⟨w12.heap.size, 0, none⟩ = some (.bool true) ∧ V.cell? ⟨w12.heap.size, 1, none⟩ = some (.slice a1 n1 c1)) ∧ (V.cell? ⟨w12.heap.size + 1, 0, none⟩ = some (.bool true) ∧ V.cell? ⟨w12.heap.size + 1, 1, none⟩ = some (.slice a2 n2 c2)) ∧ V.cell? ⟨w5.heap.size, 0, none⟩ = some (.bool true) ∧ V.cell? ⟨w5.heap.size, 1, none⟩ = some (.slice (some ⟨bz, oz, none⟩) np cp)) := hide fun V hV => by
              obtain ⟨h1, h2, -⟩ := cells_two ((hV.block _ (lt_of_block HA13.out)).trans HA13.out)
              obtain ⟨h3, h4, -⟩ := cells_two ((hV.block _ (lt_of_block HBb13.out)).trans HBb13.out)
              obtain ⟨-, h5, h6⟩ := HCt.out V (HB13.out.trans (hV.mono HB13.out.size))
              exact ⟨⟨h1, h2⟩, ⟨h3, h4⟩, h5, h6⟩
            have hlz : (ers zs).length = np := by rw [ers_len, HZ7.out.len]
            have HJ := hide (fun V (hV : Below W13.heap.size W13 V) => join_all (HV13.out.below hV) (by rw [hlz]; omega) (by have := HWz.out; omega))
            rw [hlz] at HJ
            refine wp_region_noPanic ?_
            refine wp_region_held_drew (S := (fun V => (V.cell? ⟨w12.heap.size, 0, none⟩ = some (.bool true) ∧ V.cell? ⟨w12.heap.size, 1, none⟩ = some (.slice a1 n1 c1)) ∧ (V.cell? ⟨w12.heap.size + 1, 0, none⟩ = some (.bool true) ∧ V.cell? ⟨w12.heap.size + 1, 1, none⟩ = some (.slice a2 n2 c2)) ∧ V.cell? ⟨w5.heap.size, 0, none⟩ = some (.bool true) ∧ V.cell? ⟨w5.heap.size, 1, none⟩ = some (.slice (some ⟨bz, oz, none⟩) np cp))) (by kernel_rfl) (HS13.out _ (Below.refl _ _).drew) (fun _hS => ?_)
            refine wpAnyH_take (i := 0) (v := ?v0x1true) rfl (by kernel_rfl) (by kernel_rfl) (by kernel_rfl) (fun _ _ _ h => h) (Or.inl ⟨by rfl, ?hy0x1true⟩) (by assumption) ?rest0x1true
            case hy0x1true => (intro w hSw; (try dsimp only at hSw); (first | (go_simp; with_reducible rfl) | go_simp))
            try simp only [Act.put, List.setIfInBounds_toArray]
            refine wpAnyH_take (i := 1) (v := ?v1x2true) rfl (by kernel_rfl) (by kernel_rfl) (by kernel_rfl) (fun _ _ _ h => h) (Or.inl ⟨by rfl, ?hy1x2true⟩) (by assumption) ?rest1x2true
            case hy1x2true => (intro w hSw; (try dsimp only at hSw); (first | (go_simp; with_reducible rfl) | go_simp))
            try simp only [Act.put]
            refine wpAnyH_take (i := 2) (v := ?v2x3true) rfl (by kernel_rfl) (by kernel_rfl) (by kernel_rfl) (fun _ _ _ h => h) (Or.inl ⟨by rfl, ?hy2x3true⟩) (by assumption) ?rest2x3true
            case hy2x3true => (intro w hSw; (try dsimp only at hSw); (first | (go_simp; with_reducible rfl) | go_simp))
            try simp only [Act.put]
            refine wpAnyH_take (i := 4) (v := ?v4x4true) rfl (by kernel_rfl) (by kernel_rfl) (by kernel_rfl) (fun _ _ _ h => h) (Or.inl ⟨by rfl, ?hy4x4true⟩) (by assumption) ?rest4x4true
            case hy4x4true => (intro w hSw; (try dsimp only at hSw); (first | (go_simp; with_reducible rfl) | go_simp))
            try simp only [Act.put]
            refine wpAnyH_ready (rs := [3]) (by kernel_rfl) (by simp) ?_
            refine AllReadyH.cons rfl (fun K' hK => ?_) AllReadyH.nil
            go_simp
            refine (HJ.out W13.drew (Below.refl _ _).drew).mono ?_
            rintro e w14 ⟨aj, cj, uj, rfl, huj, hensj, hb14⟩
            have HB14 : Hid (Below W13.heap.size W13 w14) := (Below.refl _ _).drew.trans hb14
            have HUj := hide huj
            have HEj := hide hensj
            refine hK.out _ _ (by exact HS13.out _ HB14.out) (fun _hS => ?_)
            clear hK K' huj hensj hb14
            try simp only [Act.put, List.setIfInBounds_toArray, List.set_cons_zero, List.set_cons_succ]
            refine wpAnyH_ready (rs := [5]) (by kernel_rfl) (by simp) ?_
            refine AllReadyH.cons rfl (fun K' hK => ?_) AllReadyH.nil
            go_simp
            refine (same_any true aj (some ⟨bz, oz, none⟩) np cj cp uj zs w14 HEj.out (HZ7.out.below (HB13.out.trans (HB14.out.mono HB13.out.size))) HUj.out (by omega)).mono ?_
            rintro e w15 ⟨rfl, hb15⟩
            have HB15 : Hid (Below W13.heap.size W13 w15) := HB14.out.trans (hb15.mono HB14.out.size)
            refine hK.out _ _ (by exact HS13.out _ HB15.out) (fun _hS => ?_)
            clear hK K' hb15
            try simp only [Act.put, List.setIfInBounds_toArray, List.set_cons_zero, List.set_cons_succ]
            refine wpAnyH_take (i := 6) (v := ?v6x5true) rfl (by kernel_rfl) (by kernel_rfl) (by kernel_rfl) (fun _ _ _ h => h) (Or.inl ⟨by rfl, ?hy6x5true⟩) (by assumption) ?rest6x5true
            case hy6x5true => (intro w hSw; (try dsimp only at hSw); (first | (go_simp; with_reducible rfl) | go_simp))
            try simp only [Act.put, List.setIfInBounds_toArray]
            refine wpAnyH_done (by kernel_rfl) ?_ _
            refine NoPanic.normal ?_
            obtain ⟨⟨h1, h2⟩, ⟨h3, h4⟩, q0, q1⟩ := HS13.out w15 HB15.out
            clear _hS
            go_wp2_with fail
            have hb16 := below_alloc w15 (.cells #[.bool true, .slice (some ⟨bz, oz, none⟩) np cp] 24)
            generalize w15.alloc (.cells #[.bool true, .slice (some ⟨bz, oz, none⟩) np cp] 24) = W16 at hb16 ⊢
            have HB16 : Hid (Below W13.heap.size W13 W16) := HB15.out.trans (hb16.mono HB15.out.size)
            clear h1 h2 h3 h4 q0 q1 hb16
            refine (check_any true (some ⟨bz, oz, none⟩) np cp zs W16 (HZ7.out.below (HB13.out.trans (HB16.out.mono HB13.out.size))) (by omega) (by have := HWz.out; omega)).mono ?_
            rintro e w17 ⟨rfl, hb17⟩
            have HB17 : Hid (Below W13.heap.size W13 w17) := HB16.out.trans (hb17.mono HB16.out.size)
            clear hb17
            have HBw7 : Hid (Below w.heap.size w V7) := HB3.out.trans (HB7.out.mono HB3.out.size)
            have HBw : Hid (Below w.heap.size w W13) := HBw7.out.trans (HB13.out.mono HBw7.out.size)
            obtain ⟨⟨h1, h2⟩, ⟨h3, h4⟩, q0, q1⟩ := HS13.out w17 HB17.out
            by_cases hlong : chk true (ers zs) = 91
            rotate_left
            · obtain ⟨K2, hK2⟩ : ∃ K2, K2 = chk true (ers zs) := ⟨_, rfl⟩
              rw [← hK2] at hlong ⊢
              have d6 : ¬ (K2 : Int) = 91 := by omega
              have d7 : ((K2 : Int) == 91) = false := by simp; omega
              clear hK2
              go_wp2
              go_ret
              exact ⟨rfl, HBw.out.trans (HB17.out.mono HBw.out.size)⟩
            · rw [hlong]
              have HLg := hide hlong
              clear hlong
              by_cases hn2 : 2 ≤ np
              · have d6 : (1 : Int) < (np : Int) := by omega
                obtain ⟨f1, f2⟩ := hv_fit HV13.out.hv HC0.out HPk.out HLg.out (by rw [hlz]; exact hn2)
                have b1 := HV13.out.n1
                have b2 := HV13.out.n2
                have b3 := HV13.out.w1
                have b4 := HV13.out.w2
                have b5 := HWz.out
                have HCa := hide (check_any true a1 n1 c1 u1 w17 (HV13.out.e1.below HB17.out) (by omega) (by omega))
                have HCb := hide (fun V (hV : Below W13.heap.size W13 V) => check_any true a2 n2 c2 u2 V (HV13.out.e2.below hV) (by omega) (by omega))
                rw [f1] at HCa
                rw [f2] at HCb
                clear f1 f2 b1 b2 b3 b4 b5
                go_wp2_with fail
                refine HCa.out.mono ?_
                rintro e w18 ⟨rfl, hb18⟩
                have HB18 : Hid (Below W13.heap.size W13 w18) := HB17.out.trans (hb18.mono HB17.out.size)
                clear hb18 h1 h2 h3 h4 q0 q1
                obtain ⟨⟨h1, h2⟩, ⟨h3, h4⟩, q0, q1⟩ := HS13.out w18 HB18.out
                go_wp2_with fail
                refine (HCb.out w18 HB18.out).mono ?_
                rintro e w19 ⟨rfl, hb19⟩
                have HB19 : Hid (Below W13.heap.size W13 w19) := HB18.out.trans (hb19.mono HB18.out.size)
                go_wp2
                go_ret
                exact ⟨rfl, HBw.out.trans (HB19.out.mono HBw.out.size)⟩
              · have d6 : ¬ (1 : Int) < (np : Int) := by omega
                go_wp2
                go_ret
                exact ⟨rfl, HBw.out.trans (HB17.out.mono HBw.out.size)⟩
        | false =>
          have HKe := hide (Nat.eq_zero_or_pos x.e.key.length)
          obtain ⟨L0, hL0⟩ : ∃ L0, L0 = x.e.key.length := ⟨_, rfl⟩
          by_cases hke : x.e.key.length = 0
          · have HKz := hide hke
            have d4 : decide ((x.e.key.length : Int) = 0) = true := decide_eq_true (by omega)
            have d5 : ((x.e.key.length : Int) == 0) = true := by simp; exact List.eq_nil_of_length_eq_zero hke
            clear hke hL0
            go_wp2
            rw [← hW6]
            go_ret
            exact ⟨rfl, HB3.out.trans (HB6.out.mono HB3.out.size)⟩
          · have d4 : ¬ (x.e.key.length : Int) = 0 := by omega
            clear hL0 hke
            go_wp2_with fail
            rw [← hW6] at *
            clear m0 m1 z0 z1 z2 z3 p0 p1 o0 o1 m0' m1' z0' z1' z2' z3' m0'' m1'' z0'' z1'' z2'' z3'' d4 hW6
            obtain ⟨V7, hV7⟩ : ∃ V7, V7 = W6 := ⟨_, rfl⟩
            rw [← hV7] at HB6 HZ6 HP6 ⊢
            have HB7 := HB6
            have HZ7 := HZ6
            have HP7 := HP6
            clear HB6 HZ6 HP6 hV7 HE6 HO6 HXo
            have hkn : k < np := by
              have h1 := (List.getElem?_eq_some_iff.1 HPk.out.at_).1
              rw [ers_len, HZ7.out.len] at h1
              exact h1
            have HNp : Hid (np ≤ 501) := by
              have h1 := HPk.out.len
              rw [ers_len, ers_len, HZ7.out.len, hnl] at h1
              rw [Hid]
              omega
            have hnp := HNp.out
            have HWz : Hid (wts (ers zs) ≤ 40000) := by
              have h1 := HPk.out.wt
              have h2 := HWt.out
              rw [Hid]
              omega
            have HXk : Hid (∀ V, Below V7.heap.size V7 V → Inn V x.ka x.e.key.length x.kc x.e.key) := hide fun V hV => ((HX3k.out.below HB7.out).below hV).key
            have HCt : Hid (∀ V, Below V7.heap.size V7 V → V.cell? ⟨w.heap.size + 1, 0, none⟩ = some (.slice x.ka x.e.key.length x.kc) ∧ V.cell? ⟨w5.heap.size, 0, none⟩ = some (.bool false) ∧ V.cell? ⟨w5.heap.size, 1, none⟩ = some (.slice ap np cp)) := hide fun V hV => by
              obtain ⟨u0, u1, v0, v1, v2, v3⟩ := HSt.out V (HB7.out.trans (hV.mono HB7.out.size))
              obtain ⟨q0, q1, -⟩ := cells_two ((hV.block _ (lt_of_block HP7.out)).trans HP7.out)
              exact ⟨v0, q0, q1⟩
            refine (find_put false x.ka x.e.key.length x.kc x.e.key ap np cp zs V7 (HXk.out _ (Below.refl _ _)) HZ7.out (by omega) HPk.out.rise k x.e HPk.out.at_ rfl).mono ?_
            rintro e w8 ⟨rfl, hb8⟩
            have HB8 := hide hb8
            clear hb8
            obtain ⟨y, hy⟩ : ∃ y, zs[k]? = some y := ⟨_, List.getElem?_eq_getElem (by rw [HZ7.out.len]; exact hkn)⟩
            have hye : y.e = x.e := by
              have h1 := HPk.out.at_
              rw [ers_at hy] at h1
              simpa using h1
            obtain ⟨bz, oz, rfl, hbz, k0, -⟩ := (HZ7.out.below HB8.out).cells hy
            have hyk := ((HZ7.out.below HB8.out).each y (List.mem_of_getElem? hy)).key
            rw [hye] at hyk k0
            have t1 : ∀ q, (convert 25 9 (.slice y.ka x.e.key.length y.kc)).run Try.prog (w8.drewN q) = .ok (.string (bk x.e.key)) (w8.drewN q) := fun q => text_inn (hyk.below (below_drewN (Below.refl _ _) q))
            have t2 : ∀ q, (convert 25 9 (.slice x.ka x.e.key.length x.kc)).run Try.prog (w8.drewN q) = .ok (.string (bk x.e.key)) (w8.drewN q) := fun q => text_inn ((HXk.out w8 HB8.out).below (below_drewN (Below.refl _ _) q))
            have i1 : (0 : Int) ≤ (k : Int) := by omega
            have i2 : (k : Int) < (np : Int) := by omega
            have i3 : ¬ (np : Int) ≤ (k : Int) := by omega
            have i3a : ¬ np ≤ k := by omega
            have i3b : decide (np ≤ k) = false := by simpa using i3a
            have qv : ((bk x.e.key).toList == (bk x.e.key).toList) = true := beq_self_eq_true _
            obtain ⟨z0, q0, q1⟩ := HCt.out w8 HB8.out
            have HY := hide hy
            clear hyk hye hy
            go_wp2
            go_quiet (fail)
            clear t1 t2 i3 i3a i3b qv k0 z0 q0 q1
            generalize hW8 : w8.drewN _ = W8
            have HB8' : Hid (Below V7.heap.size V7 W8) := by rw [← hW8]; exact below_drewN HB8.out _
            clear hW8
            obtain ⟨z0, q0, q1⟩ := HCt.out W8 HB8'.out
            go_wp2_with fail
            refine (drop_put false (some ⟨bz, oz, none⟩) np cp zs x.ka x.e.key.length x.kc x.e.key W8 (HZ7.out.below HB8'.out) (HXk.out W8 HB8'.out) (by omega) (by have := HWz.out; omega) HPk.out.rise k x.e HPk.out.at_ rfl).mono ?_
            rintro e w9 ⟨ad, cd, ds, rfl, hgone, hensd, hb9⟩
            have HGo := hide hgone
            have HB9 : Hid (Below V7.heap.size V7 w9) := HB8'.out.trans (hb9.mono HB8'.out.size)
            have hb10 := below_alloc w9 (.cells #[.bool false, .slice ad (np - 1) cd] 24)
            have hd10 := heap_alloc_new w9 (.cells #[.bool false, .slice ad (np - 1) cd] 24)
            have HB10 : Hid (Below V7.heap.size V7 (w9.alloc (.cells #[.bool false, .slice ad (np - 1) cd] 24))) := HB9.out.trans (hb10.mono HB9.out.size)
            have HD10 := hide hd10
            have HDs := hide (hensd.below hb10)
            clear z0 q0 q1 hgone hensd hb9 hb10
            obtain ⟨z0, q0, q1⟩ := HCt.out w9 HB9.out
            obtain ⟨z0', q0', q1'⟩ := HCt.out _ HB10.out
            obtain ⟨d0, d1, -⟩ := cells_two hd10
            clear hd10
            go_wp2_with fail
            generalize w9.alloc (.cells #[.bool false, .slice ad (np - 1) cd] 24) = W10 at HB10 HD10 HDs z0' q0' q1' d0 d1 ⊢
            refine (find_gone false x.ka x.e.key.length x.kc x.e.key ad (np - 1) cd ds W10 (HXk.out W10 HB10.out) HDs.out (by omega) HGo.out).mono ?_
            rintro e w11 ⟨ig, bg, rfl, hbg, hb11⟩
            have HB11 : Hid (Below V7.heap.size V7 w11) := HB10.out.trans (hb11.mono HB10.out.size)
            have HD11 := hide ((hb11.block _ (lt_of_block HD10.out)).trans HD10.out)
            have hbgx := True.intro
            clear z0 q0 q1 z0' q0' q1' d0 d1 hb11 hbg
            obtain ⟨z0, q0, q1⟩ := HCt.out w11 HB11.out
            obtain ⟨d0, d1, -⟩ := cells_two HD11.out
            go_wp2_with fail
            refine (halves_all false (some ⟨bz, oz, none⟩) np cp zs w11 (HZ7.out.below HB11.out) (by omega) (by have := HWz.out; omega)).mono ?_
            rintro e w12 ⟨a1, n1, c1, u1, a2, n2, c2, u2, a3, n3, c3, kk, rfl, hvo, hb12⟩
            have HB12 : Hid (Below V7.heap.size V7 w12) := HB11.out.trans (hb12.mono HB11.out.size)
            have HVo := hide hvo
            clear z0 q0 q1 d0 d1 hb12 hvo
            obtain ⟨z0, q0, q1⟩ := HCt.out w12 HB12.out
            go_wp2_with fail
            obtain ⟨hB13, ha13, hb13, hs13⟩ := pair_boxes w12 (.bool false) (.slice a1 n1 c1) (.bool false) (.slice a2 n2 c2)
            generalize (w12.alloc (.cells #[.bool false, .slice a1 n1 c1] 24)).alloc (.cells #[.bool false, .slice a2 n2 c2] 24) = W13 at hB13 ha13 hb13 hs13 ⊢
            have HB13 : Hid (Below V7.heap.size V7 W13) := HB12.out.trans (hB13.mono HB12.out.size)
            have HV13 := hide (HVo.out.below hB13)
            have HA13 := hide ha13
            have HBb13 := hide hb13
            clear z0 q0 q1 hB13 ha13 hb13 hs13 HVo
            have HS13 : Hid (∀ V, Below W13.heap.size W13 V → (V.cell? ⟨w12.heap.size, 0, none⟩ = some (.bool false) ∧ V.cell? ⟨w12.heap.size, 1, none⟩ = some (.slice a1 n1 c1)) ∧ (V.cell? ⟨w12.heap.size + 1, 0, none⟩ = some (.bool false) ∧ V.cell? ⟨w12.heap.size + 1, 1, none⟩ = some (.slice a2 n2 c2)) ∧ V.cell? ⟨w5.heap.size, 0, none⟩ = some (.bool false) ∧ V.cell? ⟨w5.heap.size, 1, none⟩ = some (.slice (some ⟨bz, oz, none⟩) np cp)) := hide fun V hV => by
              obtain ⟨h1, h2, -⟩ := cells_two ((hV.block _ (lt_of_block HA13.out)).trans HA13.out)
              obtain ⟨h3, h4, -⟩ := cells_two ((hV.block _ (lt_of_block HBb13.out)).trans HBb13.out)
              obtain ⟨-, h5, h6⟩ := HCt.out V (HB13.out.trans (hV.mono HB13.out.size))
              exact ⟨⟨h1, h2⟩, ⟨h3, h4⟩, h5, h6⟩
            have hlz : (ers zs).length = np := by rw [ers_len, HZ7.out.len]
            have HJ := hide (fun V (hV : Below W13.heap.size W13 V) => join_all (HV13.out.below hV) (by rw [hlz]; omega) (by have := HWz.out; omega))
            rw [hlz] at HJ
            refine wp_region_noPanic ?_
            refine wp_region_held_drew (S := (fun V => (V.cell? ⟨w12.heap.size, 0, none⟩ = some (.bool false) ∧ V.cell? ⟨w12.heap.size, 1, none⟩ = some (.slice a1 n1 c1)) ∧ (V.cell? ⟨w12.heap.size + 1, 0, none⟩ = some (.bool false) ∧ V.cell? ⟨w12.heap.size + 1, 1, none⟩ = some (.slice a2 n2 c2)) ∧ V.cell? ⟨w5.heap.size, 0, none⟩ = some (.bool false) ∧ V.cell? ⟨w5.heap.size, 1, none⟩ = some (.slice (some ⟨bz, oz, none⟩) np cp))) (by kernel_rfl) (HS13.out _ (Below.refl _ _).drew) (fun _hS => ?_)
            refine wpAnyH_take (i := 0) (v := ?v0x6false) rfl (by kernel_rfl) (by kernel_rfl) (by kernel_rfl) (fun _ _ _ h => h) (Or.inl ⟨by rfl, ?hy0x6false⟩) (by assumption) ?rest0x6false
            case hy0x6false => (intro w hSw; (try dsimp only at hSw); (first | (go_simp; with_reducible rfl) | go_simp))
            try simp only [Act.put, List.setIfInBounds_toArray]
            refine wpAnyH_take (i := 1) (v := ?v1x7false) rfl (by kernel_rfl) (by kernel_rfl) (by kernel_rfl) (fun _ _ _ h => h) (Or.inl ⟨by rfl, ?hy1x7false⟩) (by assumption) ?rest1x7false
            case hy1x7false => (intro w hSw; (try dsimp only at hSw); (first | (go_simp; with_reducible rfl) | go_simp))
            try simp only [Act.put]
            refine wpAnyH_take (i := 2) (v := ?v2x8false) rfl (by kernel_rfl) (by kernel_rfl) (by kernel_rfl) (fun _ _ _ h => h) (Or.inl ⟨by rfl, ?hy2x8false⟩) (by assumption) ?rest2x8false
            case hy2x8false => (intro w hSw; (try dsimp only at hSw); (first | (go_simp; with_reducible rfl) | go_simp))
            try simp only [Act.put]
            refine wpAnyH_take (i := 4) (v := ?v4x9false) rfl (by kernel_rfl) (by kernel_rfl) (by kernel_rfl) (fun _ _ _ h => h) (Or.inl ⟨by rfl, ?hy4x9false⟩) (by assumption) ?rest4x9false
            case hy4x9false => (intro w hSw; (try dsimp only at hSw); (first | (go_simp; with_reducible rfl) | go_simp))
            try simp only [Act.put]
            refine wpAnyH_ready (rs := [3]) (by kernel_rfl) (by simp) ?_
            refine AllReadyH.cons rfl (fun K' hK => ?_) AllReadyH.nil
            go_simp
            refine (HJ.out W13.drew (Below.refl _ _).drew).mono ?_
            rintro e w14 ⟨aj, cj, uj, rfl, huj, hensj, hb14⟩
            have HB14 : Hid (Below W13.heap.size W13 w14) := (Below.refl _ _).drew.trans hb14
            have HUj := hide huj
            have HEj := hide hensj
            refine hK.out _ _ (by exact HS13.out _ HB14.out) (fun _hS => ?_)
            clear hK K' huj hensj hb14
            try simp only [Act.put, List.setIfInBounds_toArray, List.set_cons_zero, List.set_cons_succ]
            refine wpAnyH_ready (rs := [5]) (by kernel_rfl) (by simp) ?_
            refine AllReadyH.cons rfl (fun K' hK => ?_) AllReadyH.nil
            go_simp
            refine (same_any false aj (some ⟨bz, oz, none⟩) np cj cp uj zs w14 HEj.out (HZ7.out.below (HB13.out.trans (HB14.out.mono HB13.out.size))) HUj.out (by omega)).mono ?_
            rintro e w15 ⟨rfl, hb15⟩
            have HB15 : Hid (Below W13.heap.size W13 w15) := HB14.out.trans (hb15.mono HB14.out.size)
            refine hK.out _ _ (by exact HS13.out _ HB15.out) (fun _hS => ?_)
            clear hK K' hb15
            try simp only [Act.put, List.setIfInBounds_toArray, List.set_cons_zero, List.set_cons_succ]
            refine wpAnyH_take (i := 6) (v := ?v6x10false) rfl (by kernel_rfl) (by kernel_rfl) (by kernel_rfl) (fun _ _ _ h => h) (Or.inl ⟨by rfl, ?hy6x10false⟩) (by assumption) ?rest6x10false
            case hy6x10false => (intro w hSw; (try dsimp only at hSw); (first | (go_simp; with_reducible rfl) | go_simp))
            try simp only [Act.put, List.setIfInBounds_toArray]
            refine wpAnyH_done (by kernel_rfl) ?_ _
            refine NoPanic.normal ?_
            obtain ⟨⟨h1, h2⟩, ⟨h3, h4⟩, q0, q1⟩ := HS13.out w15 HB15.out
            clear _hS
            go_wp2_with fail
            have hb16 := below_alloc w15 (.cells #[.bool false, .slice (some ⟨bz, oz, none⟩) np cp] 24)
            generalize w15.alloc (.cells #[.bool false, .slice (some ⟨bz, oz, none⟩) np cp] 24) = W16 at hb16 ⊢
            have HB16 : Hid (Below W13.heap.size W13 W16) := HB15.out.trans (hb16.mono HB15.out.size)
            clear h1 h2 h3 h4 q0 q1 hb16
            refine (check_any false (some ⟨bz, oz, none⟩) np cp zs W16 (HZ7.out.below (HB13.out.trans (HB16.out.mono HB13.out.size))) (by omega) (by have := HWz.out; omega)).mono ?_
            rintro e w17 ⟨rfl, hb17⟩
            have HB17 : Hid (Below W13.heap.size W13 w17) := HB16.out.trans (hb17.mono HB16.out.size)
            clear hb17
            have HBw7 : Hid (Below w.heap.size w V7) := HB3.out.trans (HB7.out.mono HB3.out.size)
            have HBw : Hid (Below w.heap.size w W13) := HBw7.out.trans (HB13.out.mono HBw7.out.size)
            obtain ⟨⟨h1, h2⟩, ⟨h3, h4⟩, q0, q1⟩ := HS13.out w17 HB17.out
            by_cases hlong : chk false (ers zs) = 91
            rotate_left
            · obtain ⟨K2, hK2⟩ : ∃ K2, K2 = chk false (ers zs) := ⟨_, rfl⟩
              rw [← hK2] at hlong ⊢
              have d6 : ¬ (K2 : Int) = 91 := by omega
              have d7 : ((K2 : Int) == 91) = false := by simp; omega
              clear hK2
              go_wp2
              go_ret
              exact ⟨rfl, HBw.out.trans (HB17.out.mono HBw.out.size)⟩
            · rw [hlong]
              have HLg := hide hlong
              clear hlong
              by_cases hn2 : 2 ≤ np
              · have d6 : (1 : Int) < (np : Int) := by omega
                obtain ⟨f1, f2⟩ := hv_fit HV13.out.hv HC0.out HPk.out HLg.out (by rw [hlz]; exact hn2)
                have b1 := HV13.out.n1
                have b2 := HV13.out.n2
                have b3 := HV13.out.w1
                have b4 := HV13.out.w2
                have b5 := HWz.out
                have HCa := hide (check_any false a1 n1 c1 u1 w17 (HV13.out.e1.below HB17.out) (by omega) (by omega))
                have HCb := hide (fun V (hV : Below W13.heap.size W13 V) => check_any false a2 n2 c2 u2 V (HV13.out.e2.below hV) (by omega) (by omega))
                rw [f1] at HCa
                rw [f2] at HCb
                clear f1 f2 b1 b2 b3 b4 b5
                go_wp2_with fail
                refine HCa.out.mono ?_
                rintro e w18 ⟨rfl, hb18⟩
                have HB18 : Hid (Below W13.heap.size W13 w18) := HB17.out.trans (hb18.mono HB17.out.size)
                clear hb18 h1 h2 h3 h4 q0 q1
                obtain ⟨⟨h1, h2⟩, ⟨h3, h4⟩, q0, q1⟩ := HS13.out w18 HB18.out
                go_wp2_with fail
                refine (HCb.out w18 HB18.out).mono ?_
                rintro e w19 ⟨rfl, hb19⟩
                have HB19 : Hid (Below W13.heap.size W13 w19) := HB18.out.trans (hb19.mono HB18.out.size)
                go_wp2
                go_ret
                exact ⟨rfl, HBw.out.trans (HB19.out.mono HBw.out.size)⟩
              · have d6 : ¬ (1 : Int) < (np : Int) := by omega
                go_wp2
                go_ret
                exact ⟨rfl, HBw.out.trans (HB17.out.mono HBw.out.size)⟩
end Go.Proofs.Ytcflnkepopcofaa
