/- The walk of NodeWrites. -/
import Derived.Test.YtfpojfohlmhklaaZJ
import Derived.Deep.RegionHeld3
namespace Go.Proofs.Ytfpojfohlmhklaa
open Go.RowKit
set_option linter.unusedVariables false

set_option maxHeartbeats 6400000 in
set_option maxRecDepth 1000000 in
theorem writes_walk (leaf : Bool) (a : Option Addr) (n c : Nat) (xs : List En) (W : World) (h : Ens W a n c xs) (hs : Szd xs) :
    Calls Try.prog 3 #[.agg #[.bool leaf, .slice a n c]] W fun e w' => e = .returned (.bool true) ∧ Below W.heap.size W w' := by
  have hb0 := heap_alloc_new W (.cells #[.bool leaf, .slice a n c] 24)
  obtain ⟨n0, n1, -⟩ := cells_two hb0
  have HB0 := hide (below_alloc W (.cells #[.bool leaf, .slice a n c] 24))
  have HBk := hide hb0
  have HE := hide (h.below HB0.out)
  have HM := hide (much_any leaf a n c xs _ HE.out hs)
  have HBy := hide (eb_byts leaf (ers xs) fun e he => by
    obtain ⟨x, hx, rfl⟩ := List.mem_map.1 he
    exact ⟨(h.each x hx).key.byts, (h.each x hx).val.byts⟩)
  have HEl := hide (eb_len leaf (ers xs))
  clear h hb0 hs
  go_enter Try.func3, Try.ntmps3
  go_wp2_with fail
  refine HM.out.mono ?_
  rintro e w2 ⟨b, rfl, hb, hb2⟩
  have HBk2 := hide ((hb2.block _ (lt_of_block HBk.out)).trans HBk.out)
  have HB2 := hide (HB0.out.trans (hb2.mono HB0.out.size))
  have HE2 := hide (HE.out.below hb2)
  have HBb := hide hb
  clear hb hb2 HM n0 n1 HBk HE HB0
  cases b with
  | true =>
    go_wp2
    go_ret
    exact ⟨rfl, HB2.out⟩
  | false =>
    obtain ⟨hn, hw⟩ := HBb.out rfl
    have HR := hide (rn_of (leaf := leaf) HE2.out hn hw)
    have HL := hide (fun V (hV : Below w2.heap.size w2 V) => lent_all leaf a n c xs w2 V HE2.out hV hn hw)
    have HSt : Hid (∀ V, Below w2.heap.size w2 V → V.cell? ⟨W.heap.size, 0, none⟩ = some (.bool leaf) ∧ V.cell? ⟨W.heap.size, 1, none⟩ = some (.slice a n c)) := hide fun V hV => by
      obtain ⟨m0, m1, -⟩ := cells_two ((hV.block _ (lt_of_block HBk2.out)).trans HBk2.out)
      exact ⟨m0, m1⟩
    have HW2 : Hid (W.heap.size ≤ w2.heap.size) := hide HB2.out.size
    generalize chk leaf (ers xs) = K at HR HL
    generalize nsz leaf (ers xs) = Z at HR HL
    obtain ⟨L, hL⟩ : ∃ L, L = (eb leaf (ers xs)).length := ⟨_, rfl⟩
    rw [← hL] at HR HL
    have HLn := hide hL
    clear hL
    generalize eb leaf (ers xs) = E at HR HL HBy HEl HLn
    clear HBb HE2 HBk2 hw
    go_wp2
    refine wp_region_noPanic ?_
    refine wp_region_held_drew (S := (fun V => V.cell? ⟨W.heap.size, 0, none⟩ = some (.bool leaf) ∧ V.cell? ⟨W.heap.size, 1, none⟩ = some (.slice a n c))) (by kernel_rfl) (HSt.out _ (Below.refl _ _).drew) (fun _hS => ?_)
    refine wpAnyH_take (i := 0) (v := ?v0x1) rfl (by kernel_rfl) (by kernel_rfl) (by kernel_rfl) (fun _ _ _ h => h) (Or.inl ⟨by rfl, ?hy0x1⟩) (by assumption) ?rest0x1
    case hy0x1 => (intro w hSw; (try dsimp only at hSw); (first | (go_simp; with_reducible rfl) | go_simp))
    try simp only [Act.put, List.setIfInBounds_toArray]
    refine wpAnyH_take (i := 1) (v := ?v1x2) rfl (by kernel_rfl) (by kernel_rfl) (by kernel_rfl) (fun _ _ _ h => h) (Or.inl ⟨by rfl, ?hy1x2⟩) (by assumption) ?rest1x2
    case hy1x2 => (intro w hSw; (try dsimp only at hSw); (first | (go_simp; with_reducible rfl) | go_simp))
    try simp only [Act.put]
    refine wpAnyH_take (i := 2) (v := ?v2x3) rfl (by kernel_rfl) (by kernel_rfl) (by kernel_rfl) (fun _ _ _ h => h) (Or.inl ⟨by rfl, ?hy2x3⟩) (by assumption) ?rest2x3
    case hy2x3 => (intro w hSw; (try dsimp only at hSw); (first | (go_simp; with_reducible rfl) | go_simp))
    try simp only [Act.put]
    refine wpAnyH_take (i := 3) (v := ?v3x4) rfl (by kernel_rfl) (by kernel_rfl) (by kernel_rfl) (fun _ _ _ h => h) (Or.inl ⟨by rfl, ?hy3x4⟩) (by assumption) ?rest3x4
    case hy3x4 => (intro w hSw; (try dsimp only at hSw); (first | (go_simp; with_reducible rfl) | go_simp))
    try simp only [Act.put]
    refine wpAnyH_ready (rs := [4, 6]) (by kernel_rfl) (by simp) ?_
    refine AllReadyH.cons rfl (fun K' hK => ?_) (AllReadyH.cons rfl (fun K' hK => ?_) AllReadyH.nil)
    · go_simp
      refine (HL.out w2.drew (Below.refl _ _).drew).mono ?_
      rintro e w3 ⟨g, rfl, hLd, hb3⟩
      have HB3 : Hid (Below w2.heap.size w2 w3) := (Below.refl _ _).drew.trans hb3
      have hs3 := HB3.out.size
      have HLd := hide (hLd w3.heap.size hs3 (.inr (Nat.le_refl _)))
      clear hLd hb3
      refine hK.out _ _ (by exact HSt.out _ HB3.out) (fun _hS => ?_)
      clear hK K'
      try simp only [Act.put, List.setIfInBounds_toArray, List.set_cons_zero, List.set_cons_succ]
      refine wpAnyH_take (i := 5) (v := ?v5x5) rfl (by kernel_rfl) (by kernel_rfl) (by kernel_rfl) (fun _ _ _ h => h) (Or.inl ⟨by rfl, ?hy5x5⟩) (by assumption) ?rest5x5
      case hy5x5 => (intro w hSw; (try dsimp only at hSw); (first | (go_simp; with_reducible rfl) | go_simp))
      try simp only [Act.put, List.setIfInBounds_toArray]
      refine wpAnyH_ready (rs := [6]) (by kernel_rfl) (by simp) ?_
      refine AllReadyH.cons rfl (fun K' hK => ?_) AllReadyH.nil
      go_simp
      refine hK.out _ _ (by exact HSt.out _ (HB3.out.trans ((below_alloc _ _).mono HB3.out.size))) (fun _hS => ?_)
      clear hK K'
      try simp only [Act.put, List.setIfInBounds_toArray, List.set_cons_zero, List.set_cons_succ]
      have hbx := heap_alloc_new w3 (.cells #[.bool false, .slice none 0 0] 24)
      obtain ⟨x0, x1, xf⟩ := cells_two hbx
      refine wpAnyH_ready (rs := [7]) (by kernel_rfl) (by simp) ?_
      refine AllReadyH.cons rfl (fun K' hK => ?_) AllReadyH.nil
      go_simp
      refine hK.out _ _ (by exact HSt.out _ (HB3.out.trans ((below_alloc _ _).mono HB3.out.size))) (fun _hS => ?_)
      clear hK K' x0 x1 xf hbx
      try simp only [Act.put, List.setIfInBounds_toArray, List.set_cons_zero, List.set_cons_succ]
      refine wpAnyH_done (by kernel_rfl) ?_ _
      refine NoPanic.normal ?_
      have hb4 := below_alloc w3 (.cells #[.bool leaf, .slice (some ⟨g, 0, none⟩) n (n + 1)] 24)
      have hbx := heap_alloc_new w3 (.cells #[.bool leaf, .slice (some ⟨g, 0, none⟩) n (n + 1)] 24)
      have HK4 : Hid (Bo.Kp (fun j => j = w3.heap.size) w3 (w3.alloc (.cells #[.bool leaf, .slice (some ⟨g, 0, none⟩) n (n + 1)] 24))) := Bo.Kp.of_below hb4
      generalize w3.alloc (.cells #[.bool leaf, .slice (some ⟨g, 0, none⟩) n (n + 1)] 24) = w4 at hb4 hbx HK4 ⊢
      have HB4 : Hid (Below w2.heap.size w2 w4) := HB3.out.trans (hb4.mono HB3.out.size)
      have H34 : Hid (w3.heap.size ≤ w4.heap.size) := hb4.size
      have HVB : Hid (w2.heap.size ≤ w2.drew.heap.size) := Nat.le_refl _
      have HSo : Hid (∀ V, Below w4.heap.size w4 V → V.cell? ⟨w3.heap.size, 0, none⟩ = some (.bool leaf) ∧ V.cell? ⟨w3.heap.size, 1, none⟩ = some (.slice (some ⟨g, 0, none⟩) n (n + 1))) := hide fun V hV => by
        obtain ⟨m0, m1, -⟩ := cells_two ((hV.block _ (lt_of_block hbx)).trans hbx)
        exact ⟨m0, m1⟩
      clear hb4 hbx HL hs3 HB3 _hS
      obtain ⟨o0, o1⟩ := HSo.out w4 (Below.refl _ _)
      go_wp2_with fail
      refine (HLd.out.enc _ HK4.out).mono ?_
      rintro e w5 ⟨a5, c5, rfl, h5⟩
      have HO5 := hide h5
      have HB45 := hide h5.bel
      have HA5 := hide h5.own
      clear h5 o0 o1
      obtain ⟨o0, o1⟩ := HSo.out w5 HB45.out
      go_wp2_with fail
      refine (HLd.out.enc _ (HK4.out.trans (Bo.Kp.of_below HB45.out))).mono ?_
      rintro e w6 ⟨a6, c6, rfl, h6⟩
      have HO6 := hide h6
      have HB46 : Hid (Below w4.heap.size w4 w6) := HB45.out.trans (h6.bel.mono HB45.out.size)
      have HA6 := hide (HA5.out.below h6.bel)
      have HC6 := hide h6.own
      clear h6 o0 o1
      obtain ⟨o0, o1⟩ := HSo.out w6 HB46.out
      go_wp2_with fail
      refine (HLd.out.chk _ (HK4.out.trans (Bo.Kp.of_below HB46.out))).mono ?_
      rintro e w7 ⟨rfl, h7⟩
      have HB47 : Hid (Below w4.heap.size w4 w7) := HB46.out.trans (h7.mono HB46.out.size)
      have HA7 := hide (HA6.out.below h7)
      have HC7 := hide (HC6.out.below h7)
      clear h7 o0 o1
      obtain ⟨o0, o1⟩ := HSo.out w7 HB47.out
      go_wp2_with fail
      refine (HLd.out.siz _ (HK4.out.trans (Bo.Kp.of_below HB47.out))).mono ?_
      rintro e w8 ⟨rfl, h8⟩
      have HB48 : Hid (Below w4.heap.size w4 w8) := HB47.out.trans (h8.mono HB47.out.size)
      have HA8 := hide (HA7.out.below h8)
      have HC8 := hide (HC7.out.below h8)
      clear h8 o0 o1
      obtain ⟨o0, o1⟩ := HSo.out w8 HB48.out
      obtain ⟨m0, m1⟩ := HSt.out w8 (HB4.out.trans (HB48.out.mono HB4.out.size))
      go_wp2_with fail
      refine (HLd.out.whole _ (HK4.out.trans (Bo.Kp.of_below HB48.out))).mono ?_
      rintro e w9 ⟨rfl, h9⟩
      have HB49 : Hid (Below w4.heap.size w4 w9) := HB48.out.trans (h9.mono HB48.out.size)
      have HA9 := hide (HA8.out.below h9)
      have HC9 := hide (HC8.out.below h9)
      clear h9 o0 o1 m0 m1
      obtain ⟨o0, o1⟩ := HSo.out w9 HB49.out
      go_wp2_with fail
      refine (HLd.out.spoil _ (HK4.out.trans (Bo.Kp.of_below HB49.out))).mono ?_
      rintro e w10 ⟨rfl, h10⟩
      have hs4 := HB4.out.size
      have hs45 := HB45.out.size
      have hs49 := HB49.out.size
      have hs10 := h10.size
      have h34 := H34.out
      have HA10 := hide (own_kp HA9.out h10 fun j hj hh => by have := HO5.out.new j hj; omega)
      have HC10 := hide (own_kp HC9.out h10 fun j hj hh => by have := HO6.out.new j hj; omega)
      have HB10 : Hid (Below w2.heap.size w2 w10) := (HB4.out.trans (HB49.out.mono HB4.out.size)).trans (h10.below (fun k hk => by have := HVB.out; omega) (by omega))
      clear h10 o0 o1
      obtain ⟨m0, m1⟩ := HSt.out w10 HB10.out
      go_wp2_with fail
      refine (HR.out.enc _ HB10.out).mono ?_
      rintro e w11 ⟨a11, c11, rfl, h11⟩
      have hs11 := h11.bel.size
      have HB11 : Hid (Below w2.heap.size w2 w11) := HB10.out.trans (h11.bel.mono HB10.out.size)
      have HA11 := hide (HA10.out.below h11.bel)
      have HC11 := hide (HC10.out.below h11.bel)
      have HD11 := hide h11.own
      clear h11 m0 m1 HLd HSo
      go_wp2_with fail
      have hbk := Bo.book_new w11
      have hb12 := below_alloc w11 (.cells #[.slice none 0 0, .slice none 0 0, .slice none 0 0, .slice none 0 0, .slice none 0 0, .slice none 0 0, .slice none 0 0, .slice none 0 0, .slice none 0 0, .slice none 0 0, .slice none 0 0, .slice none 0 0, .slice none 0 0, .slice none 0 0, .slice none 0 0, .slice none 0 0, .slice none 0 0, .slice none 0 0, .slice none 0 0, .slice none 0 0, .slice none 0 0, .slice none 0 0, .slice none 0 0] 61)
      have hs12 : (w11.alloc (.cells #[.slice none 0 0, .slice none 0 0, .slice none 0 0, .slice none 0 0, .slice none 0 0, .slice none 0 0, .slice none 0 0, .slice none 0 0, .slice none 0 0, .slice none 0 0, .slice none 0 0, .slice none 0 0, .slice none 0 0, .slice none 0 0, .slice none 0 0, .slice none 0 0, .slice none 0 0, .slice none 0 0, .slice none 0 0, .slice none 0 0, .slice none 0 0, .slice none 0 0, .slice none 0 0] 61)).heap.size = w11.heap.size + 1 := by simp
      generalize w11.alloc (.cells #[.slice none 0 0, .slice none 0 0, .slice none 0 0, .slice none 0 0, .slice none 0 0, .slice none 0 0, .slice none 0 0, .slice none 0 0, .slice none 0 0, .slice none 0 0, .slice none 0 0, .slice none 0 0, .slice none 0 0, .slice none 0 0, .slice none 0 0, .slice none 0 0, .slice none 0 0, .slice none 0 0, .slice none 0 0, .slice none 0 0, .slice none 0 0, .slice none 0 0, .slice none 0 0] 61) = w12 at *
      have HBk12 := hide hbk
      have HB1112 := hide hb12
      obtain ⟨q, hq⟩ : ∃ q, q = w11.heap.size := ⟨_, rfl⟩
      rw [← hq] at HBk12 ⊢
      have HQ := hide hq
      clear hbk hb12 hq
      have HA12 := hide (HA11.out.below HB1112.out)
      have HLq : Hid (∀ j, ((Value.slice a5 L c5).ownBlock = some j ∨ (Value.slice a6 L c6).ownBlock = some j ∨ (Value.slice a11 L c11).ownBlock = some j) → j < q) := fun j hj => by
        rw [HQ.out]
        rcases hj with hj | hj | hj
        · exact HA11.out.lt hj
        · exact HC11.out.lt hj
        · exact HD11.out.lt hj
      refine (Bo.bookBytes_any q Bo.nilf (.slice none 0 0) rfl 0 (fun _ => none) (fun _ => 0) (fun _ => []) a5 c5 E L HLn.out.symm w12 HBk12.out (Bo.fam_none w12 (by decide)) HA12.out (fun k hk => by obtain ⟨i, hi, _⟩ := hk; omega) (by omega)).mono ?_
      rintro r w13 ⟨rfl, v13, hBk13, hF13, hK13, hv13⟩
      have hs13 := hK13.size
      have HV13 : Hid (∀ k, Bo.blks v13 k → w12.heap.size ≤ k) := fun k hk => (hv13 k hk).elim (fun h => by simp [Bo.blks, Value.ownBlock] at h) id
      have HK13 : Hid (Bo.Kp (fun k => q ≤ k) w11 w13) := (Bo.Kp.of_below HB1112.out).trans (hK13.wider fun k hk _ => by
        rcases hk with hk | hk
        · omega
        · simp [Bo.blks, Value.ownBlock] at hk)
      have HBk13 := hide hBk13
      have HF13 := hide hF13
      clear hBk13 hF13 hK13 hv13 HA12 HBk12
      have HC13 := hide (own_kp HC11.out HK13.out fun j hj => by have := HLq.out j (.inr (.inl hj)); omega)
      go_wp2_with fail
      refine (Bo.bookBytes_any q (Bo.putf Bo.nilf 0 v13) v13 (Bo.putf_same _ _ _) (0 + 1) (Bo.putf (fun _ => none) 0 a5) (Bo.putf (fun _ => 0) 0 c5) (Bo.putf (fun _ => []) 0 E) a6 c6 E L HLn.out.symm w13 HBk13.out HF13.out HC13.out (fun k hk hh => by
        rcases Bo.rft_putf _ _ _ _ hk with ⟨i, hi, _⟩ | ⟨ad, rfl, hk3⟩
        · omega
        · obtain ⟨ad2, rfl, hk2⟩ := hh
          have h1 := HA5.out.lt (k := k) (congrArg some hk3)
          have h2 := HO6.out.new k (congrArg some hk2)
          omega) (by omega)).mono ?_
      rintro r w14 ⟨rfl, v14, hBk14, hF14, hK14, hv14⟩
      have hs14 := hK14.size
      have HK14 : Hid (Bo.Kp (fun k => q ≤ k) w11 w14) := HK13.out.trans (hK14.wider fun k hk _ => by
        rcases hk with hk | hk
        · omega
        · have := HV13.out k hk; have := HQ.out; omega)
      have HBk14 := hide hBk14
      have HF14 := hide hF14
      clear hBk14 hF14 hK14 hv14 HBk13 HF13 HC13
      have HA14 := hide (own_kp HA11.out HK14.out fun j hj => by have := HLq.out j (.inl hj); omega)
      have HC14 := hide (own_kp HC11.out HK14.out fun j hj => by have := HLq.out j (.inr (.inl hj)); omega)
      have HD14 := hide (own_kp HD11.out HK14.out fun j hj => by have := HLq.out j (.inr (.inr hj)); omega)
      have HB14 : Hid (Below w2.heap.size w2 w14) := HB11.out.trans (HK14.out.below (fun k hk => by have := HQ.out; omega) (by omega))
      have hKK : ((K : Int) == (K : Int)) = true := by simp
      have hZZ : ((Z : Int) == (Z : Int)) = true := by simp
      go_wp2_with fail
      refine (known_any w14).mono ?_
      rintro e w15 ⟨rfl, h15⟩
      have HB1415 := hide h15
      have HB15 : Hid (Below w2.heap.size w2 w15) := HB14.out.trans (h15.mono HB14.out.size)
      clear h15
      obtain ⟨m0, m1⟩ := HSt.out w15 HB15.out
      go_wp2_with fail
      refine (HR.out.chk _ HB15.out).mono ?_
      rintro e w16 ⟨rfl, h16⟩
      have HB1416 : Hid (Below w14.heap.size w14 w16) := HB1415.out.trans (h16.mono HB1415.out.size)
      have HB16 : Hid (Below w2.heap.size w2 w16) := HB15.out.trans (h16.mono HB15.out.size)
      clear h16 m0 m1
      obtain ⟨m0, m1⟩ := HSt.out w16 HB16.out
      go_wp2_with fail
      refine (HR.out.siz _ HB16.out).mono ?_
      rintro e w17 ⟨rfl, h17⟩
      have HB1417 : Hid (Below w14.heap.size w14 w17) := HB1416.out.trans (h17.mono HB1416.out.size)
      clear h17 m0 m1
      go_wp2_with fail
      refine (sameb_yes a5 a11 L c5 c11 E w17 (own_inn2 (HA14.out.below HB1417.out) HBy.out) (own_inn2 (HD14.out.below HB1417.out) HBy.out)).mono ?_
      rintro e w18 ⟨rfl, h18⟩
      have HB1418 : Hid (Below w14.heap.size w14 w18) := HB1417.out.trans (h18.mono HB1417.out.size)
      clear h18
      go_wp2_with fail
      refine (sameb_yes a6 a11 L c6 c11 E w18 (own_inn2 (HC14.out.below HB1418.out) HBy.out) (own_inn2 (HD14.out.below HB1418.out) HBy.out)).mono ?_
      rintro e w19 ⟨rfl, h19⟩
      have HB1419 : Hid (Below w14.heap.size w14 w19) := HB1418.out.trans (h19.mono HB1418.out.size)
      clear h19
      go_wp2_with fail
      refine (Bo.bookOwn_any q (Bo.putf (Bo.putf Bo.nilf 0 v13) 0 v14) v14 (Bo.putf_same _ _ _) (0 + 1 + 1) _ _ _ w19 (HBk14.out.below HB1419.out) (fun j hj => by rw [Bo.putf_other _ _ _ _ hj, Bo.putf_other _ _ _ _ hj]; rfl) (HF14.out.below HB1419.out) (by omega) (fun i hi => by
        have hl := HEl.out
        by_cases h1 : i = 0 + 1
        · subst h1
          rw [Bo.putf_same]
          omega
        · rw [Bo.putf_other _ _ _ _ h1, show i = 0 by omega, Bo.putf_same]
          omega)).mono ?_
      rintro e w20 ⟨rfl, h20⟩
      have HK20 := hide h20
      clear h20
      go_wp2
      go_ret
      have hs19 := HB1419.out.size
      have hsW := HW2.out
      refine ⟨rfl, (HB2.out.trans (HB14.out.mono hsW)).trans ((HB1419.out.mono (by omega)).trans (HK20.out.below (fun k hk => ?_) (by omega)))⟩
      rcases Bo.rft_putf _ _ _ _ hk with hk1 | ⟨ad, rfl, hk3⟩
      · rcases Bo.rft_putf _ _ _ _ hk1 with ⟨i, hi, _⟩ | ⟨ad, rfl, hk3⟩
        · omega
        · have := HO5.out.new k (congrArg some hk3)
          omega
      · have := HO6.out.new k (congrArg some hk3)
        omega
    · go_simp
      have HBA : Hid (Below w2.heap.size w2 (w2.alloc (.cells #[.bool false, .slice none 0 0] 24)).drew) := (below_alloc w2 (.cells #[.bool false, .slice none 0 0] 24)).drew
      have hbxA : (w2.alloc (.cells #[.bool false, .slice none 0 0] 24)).drew.heap[w2.heap.size]? = some (.cells #[.bool false, .slice none 0 0] 24) := heap_alloc_new w2 (.cells #[.bool false, .slice none 0 0] 24)
      have hsA : (w2.alloc (.cells #[.bool false, .slice none 0 0] 24)).drew.heap.size = w2.heap.size + 1 := (by show (w2.alloc (.cells #[.bool false, .slice none 0 0] 24)).heap.size = _; simp)
      refine hK.out _ _ (by exact HSt.out _ HBA.out) (fun _hS => ?_)
      clear hK K'
      generalize (w2.alloc (.cells #[.bool false, .slice none 0 0] 24)).drew = wA at HBA hbxA hsA _hS ⊢
      try simp only [Act.put, List.setIfInBounds_toArray, List.set_cons_zero, List.set_cons_succ]
      refine wpAnyH_ready (rs := [4]) (by kernel_rfl) (by simp) ?_
      refine AllReadyH.cons rfl (fun K' hK => ?_) AllReadyH.nil
      go_simp
      refine (HL.out wA HBA.out).mono ?_
      rintro e w3 ⟨g, rfl, hLd, hb3⟩
      have HB3 : Hid (Below w2.heap.size w2 w3) := HBA.out.trans (hb3.mono HBA.out.size)
      have hbx3 : w3.heap[w2.heap.size]? = some (.cells #[.bool false, .slice none 0 0] 24) := (hb3.block _ (by omega)).trans hbxA
      have hs3 := hb3.size
      have HLd := hide (hLd w2.heap.size (Nat.le_refl _) (.inl (by omega)))
      clear hLd hb3
      refine hK.out _ _ (by exact HSt.out _ HB3.out) (fun _hS => ?_)
      clear hK K'
      try simp only [Act.put, List.setIfInBounds_toArray, List.set_cons_zero, List.set_cons_succ]
      refine wpAnyH_take (i := 5) (v := ?v5x6) rfl (by kernel_rfl) (by kernel_rfl) (by kernel_rfl) (fun _ _ _ h => h) (Or.inl ⟨by rfl, ?hy5x6⟩) (by assumption) ?rest5x6
      case hy5x6 => (intro w hSw; (try dsimp only at hSw); (first | (go_simp; with_reducible rfl) | go_simp))
      try simp only [Act.put, List.setIfInBounds_toArray]
      obtain ⟨x0, x1, xf⟩ := cells_two hbx3
      have xf0 : w3.frozen? ⟨w2.heap.size, 0, none⟩ = false := by simp [World.frozen?, hbx3]
      have xf1 : w3.frozen? ⟨w2.heap.size, 1, none⟩ = false := by simp [World.frozen?, hbx3]
      refine wpAnyH_ready (rs := [7]) (by kernel_rfl) (by simp) ?_
      refine AllReadyH.cons rfl (fun K' hK => ?_) AllReadyH.nil
      go_simp
      refine hK.out _ _ (by exact HSt.out _ ((HB3.out.setCell (p := ⟨w2.heap.size, 0, none⟩) (Nat.le_refl _) _).setCell (p := ⟨w2.heap.size, 1, none⟩) (Nat.le_refl _) _)) (fun _hS => ?_)
      clear hK K' x0 x1 xf xf0 xf1
      try simp only [Act.put, List.setIfInBounds_toArray, List.set_cons_zero, List.set_cons_succ]
      refine wpAnyH_done (by kernel_rfl) ?_ _
      refine NoPanic.normal ?_
      have hbx := two_set (u := .bool leaf) (v := .slice (some ⟨g, 0, none⟩) n (n + 1)) hbx3
      have HK4 : Hid (Bo.Kp (fun j => j = w2.heap.size) w3 ((w3.setCell ⟨w2.heap.size, 0, none⟩ (.bool leaf)).setCell ⟨w2.heap.size, 1, none⟩ (.slice (some ⟨g, 0, none⟩) n (n + 1)))) := ⟨rfl, rfl, rfl, by simp [World.setCell], fun k hk hne => two_other hne⟩
      have HB4 : Hid (Below w2.heap.size w2 ((w3.setCell ⟨w2.heap.size, 0, none⟩ (.bool leaf)).setCell ⟨w2.heap.size, 1, none⟩ (.slice (some ⟨g, 0, none⟩) n (n + 1)))) := (HB3.out.setCell (p := ⟨w2.heap.size, 0, none⟩) (Nat.le_refl _) _).setCell (p := ⟨w2.heap.size, 1, none⟩) (Nat.le_refl _) _
      have H34 : Hid (w3.heap.size ≤ ((w3.setCell ⟨w2.heap.size, 0, none⟩ (.bool leaf)).setCell ⟨w2.heap.size, 1, none⟩ (.slice (some ⟨g, 0, none⟩) n (n + 1))).heap.size) := HK4.out.size
      generalize (w3.setCell ⟨w2.heap.size, 0, none⟩ (.bool leaf)).setCell ⟨w2.heap.size, 1, none⟩ (.slice (some ⟨g, 0, none⟩) n (n + 1)) = w4 at hbx HK4 HB4 H34 ⊢
      have HVB : Hid (w2.heap.size ≤ wA.heap.size) := HBA.out.size
      have HSo : Hid (∀ V, Below w4.heap.size w4 V → V.cell? ⟨w2.heap.size, 0, none⟩ = some (.bool leaf) ∧ V.cell? ⟨w2.heap.size, 1, none⟩ = some (.slice (some ⟨g, 0, none⟩) n (n + 1))) := hide fun V hV => by
        obtain ⟨m0, m1, -⟩ := cells_two ((hV.block _ (lt_of_block hbx)).trans hbx)
        exact ⟨m0, m1⟩
      clear hbx hbx3 hbxA hsA HL hs3 HB3 HBA _hS
      obtain ⟨o0, o1⟩ := HSo.out w4 (Below.refl _ _)
      go_wp2_with fail
      refine (HLd.out.enc _ HK4.out).mono ?_
      rintro e w5 ⟨a5, c5, rfl, h5⟩
      have HO5 := hide h5
      have HB45 := hide h5.bel
      have HA5 := hide h5.own
      clear h5 o0 o1
      obtain ⟨o0, o1⟩ := HSo.out w5 HB45.out
      go_wp2_with fail
      refine (HLd.out.enc _ (HK4.out.trans (Bo.Kp.of_below HB45.out))).mono ?_
      rintro e w6 ⟨a6, c6, rfl, h6⟩
      have HO6 := hide h6
      have HB46 : Hid (Below w4.heap.size w4 w6) := HB45.out.trans (h6.bel.mono HB45.out.size)
      have HA6 := hide (HA5.out.below h6.bel)
      have HC6 := hide h6.own
      clear h6 o0 o1
      obtain ⟨o0, o1⟩ := HSo.out w6 HB46.out
      go_wp2_with fail
      refine (HLd.out.chk _ (HK4.out.trans (Bo.Kp.of_below HB46.out))).mono ?_
      rintro e w7 ⟨rfl, h7⟩
      have HB47 : Hid (Below w4.heap.size w4 w7) := HB46.out.trans (h7.mono HB46.out.size)
      have HA7 := hide (HA6.out.below h7)
      have HC7 := hide (HC6.out.below h7)
      clear h7 o0 o1
      obtain ⟨o0, o1⟩ := HSo.out w7 HB47.out
      go_wp2_with fail
      refine (HLd.out.siz _ (HK4.out.trans (Bo.Kp.of_below HB47.out))).mono ?_
      rintro e w8 ⟨rfl, h8⟩
      have HB48 : Hid (Below w4.heap.size w4 w8) := HB47.out.trans (h8.mono HB47.out.size)
      have HA8 := hide (HA7.out.below h8)
      have HC8 := hide (HC7.out.below h8)
      clear h8 o0 o1
      obtain ⟨o0, o1⟩ := HSo.out w8 HB48.out
      obtain ⟨m0, m1⟩ := HSt.out w8 (HB4.out.trans (HB48.out.mono HB4.out.size))
      go_wp2_with fail
      refine (HLd.out.whole _ (HK4.out.trans (Bo.Kp.of_below HB48.out))).mono ?_
      rintro e w9 ⟨rfl, h9⟩
      have HB49 : Hid (Below w4.heap.size w4 w9) := HB48.out.trans (h9.mono HB48.out.size)
      have HA9 := hide (HA8.out.below h9)
      have HC9 := hide (HC8.out.below h9)
      clear h9 o0 o1 m0 m1
      obtain ⟨o0, o1⟩ := HSo.out w9 HB49.out
      go_wp2_with fail
      refine (HLd.out.spoil _ (HK4.out.trans (Bo.Kp.of_below HB49.out))).mono ?_
      rintro e w10 ⟨rfl, h10⟩
      have hs4 := HB4.out.size
      have hs45 := HB45.out.size
      have hs49 := HB49.out.size
      have hs10 := h10.size
      have h34 := H34.out
      have HA10 := hide (own_kp HA9.out h10 fun j hj hh => by have := HO5.out.new j hj; omega)
      have HC10 := hide (own_kp HC9.out h10 fun j hj hh => by have := HO6.out.new j hj; omega)
      have HB10 : Hid (Below w2.heap.size w2 w10) := (HB4.out.trans (HB49.out.mono HB4.out.size)).trans (h10.below (fun k hk => by have := HVB.out; omega) (by omega))
      clear h10 o0 o1
      obtain ⟨m0, m1⟩ := HSt.out w10 HB10.out
      go_wp2_with fail
      refine (HR.out.enc _ HB10.out).mono ?_
      rintro e w11 ⟨a11, c11, rfl, h11⟩
      have hs11 := h11.bel.size
      have HB11 : Hid (Below w2.heap.size w2 w11) := HB10.out.trans (h11.bel.mono HB10.out.size)
      have HA11 := hide (HA10.out.below h11.bel)
      have HC11 := hide (HC10.out.below h11.bel)
      have HD11 := hide h11.own
      clear h11 m0 m1 HLd HSo
      go_wp2_with fail
      have hbk := Bo.book_new w11
      have hb12 := below_alloc w11 (.cells #[.slice none 0 0, .slice none 0 0, .slice none 0 0, .slice none 0 0, .slice none 0 0, .slice none 0 0, .slice none 0 0, .slice none 0 0, .slice none 0 0, .slice none 0 0, .slice none 0 0, .slice none 0 0, .slice none 0 0, .slice none 0 0, .slice none 0 0, .slice none 0 0, .slice none 0 0, .slice none 0 0, .slice none 0 0, .slice none 0 0, .slice none 0 0, .slice none 0 0, .slice none 0 0] 61)
      have hs12 : (w11.alloc (.cells #[.slice none 0 0, .slice none 0 0, .slice none 0 0, .slice none 0 0, .slice none 0 0, .slice none 0 0, .slice none 0 0, .slice none 0 0, .slice none 0 0, .slice none 0 0, .slice none 0 0, .slice none 0 0, .slice none 0 0, .slice none 0 0, .slice none 0 0, .slice none 0 0, .slice none 0 0, .slice none 0 0, .slice none 0 0, .slice none 0 0, .slice none 0 0, .slice none 0 0, .slice none 0 0] 61)).heap.size = w11.heap.size + 1 := by simp
      generalize w11.alloc (.cells #[.slice none 0 0, .slice none 0 0, .slice none 0 0, .slice none 0 0, .slice none 0 0, .slice none 0 0, .slice none 0 0, .slice none 0 0, .slice none 0 0, .slice none 0 0, .slice none 0 0, .slice none 0 0, .slice none 0 0, .slice none 0 0, .slice none 0 0, .slice none 0 0, .slice none 0 0, .slice none 0 0, .slice none 0 0, .slice none 0 0, .slice none 0 0, .slice none 0 0, .slice none 0 0] 61) = w12 at *
      have HBk12 := hide hbk
      have HB1112 := hide hb12
      obtain ⟨q, hq⟩ : ∃ q, q = w11.heap.size := ⟨_, rfl⟩
      rw [← hq] at HBk12 ⊢
      have HQ := hide hq
      clear hbk hb12 hq
      have HA12 := hide (HA11.out.below HB1112.out)
      have HLq : Hid (∀ j, ((Value.slice a5 L c5).ownBlock = some j ∨ (Value.slice a6 L c6).ownBlock = some j ∨ (Value.slice a11 L c11).ownBlock = some j) → j < q) := fun j hj => by
        rw [HQ.out]
        rcases hj with hj | hj | hj
        · exact HA11.out.lt hj
        · exact HC11.out.lt hj
        · exact HD11.out.lt hj
      refine (Bo.bookBytes_any q Bo.nilf (.slice none 0 0) rfl 0 (fun _ => none) (fun _ => 0) (fun _ => []) a5 c5 E L HLn.out.symm w12 HBk12.out (Bo.fam_none w12 (by decide)) HA12.out (fun k hk => by obtain ⟨i, hi, _⟩ := hk; omega) (by omega)).mono ?_
      rintro r w13 ⟨rfl, v13, hBk13, hF13, hK13, hv13⟩
      have hs13 := hK13.size
      have HV13 : Hid (∀ k, Bo.blks v13 k → w12.heap.size ≤ k) := fun k hk => (hv13 k hk).elim (fun h => by simp [Bo.blks, Value.ownBlock] at h) id
      have HK13 : Hid (Bo.Kp (fun k => q ≤ k) w11 w13) := (Bo.Kp.of_below HB1112.out).trans (hK13.wider fun k hk _ => by
        rcases hk with hk | hk
        · omega
        · simp [Bo.blks, Value.ownBlock] at hk)
      have HBk13 := hide hBk13
      have HF13 := hide hF13
      clear hBk13 hF13 hK13 hv13 HA12 HBk12
      have HC13 := hide (own_kp HC11.out HK13.out fun j hj => by have := HLq.out j (.inr (.inl hj)); omega)
      go_wp2_with fail
      refine (Bo.bookBytes_any q (Bo.putf Bo.nilf 0 v13) v13 (Bo.putf_same _ _ _) (0 + 1) (Bo.putf (fun _ => none) 0 a5) (Bo.putf (fun _ => 0) 0 c5) (Bo.putf (fun _ => []) 0 E) a6 c6 E L HLn.out.symm w13 HBk13.out HF13.out HC13.out (fun k hk hh => by
        rcases Bo.rft_putf _ _ _ _ hk with ⟨i, hi, _⟩ | ⟨ad, rfl, hk3⟩
        · omega
        · obtain ⟨ad2, rfl, hk2⟩ := hh
          have h1 := HA5.out.lt (k := k) (congrArg some hk3)
          have h2 := HO6.out.new k (congrArg some hk2)
          omega) (by omega)).mono ?_
      rintro r w14 ⟨rfl, v14, hBk14, hF14, hK14, hv14⟩
      have hs14 := hK14.size
      have HK14 : Hid (Bo.Kp (fun k => q ≤ k) w11 w14) := HK13.out.trans (hK14.wider fun k hk _ => by
        rcases hk with hk | hk
        · omega
        · have := HV13.out k hk; have := HQ.out; omega)
      have HBk14 := hide hBk14
      have HF14 := hide hF14
      clear hBk14 hF14 hK14 hv14 HBk13 HF13 HC13
      have HA14 := hide (own_kp HA11.out HK14.out fun j hj => by have := HLq.out j (.inl hj); omega)
      have HC14 := hide (own_kp HC11.out HK14.out fun j hj => by have := HLq.out j (.inr (.inl hj)); omega)
      have HD14 := hide (own_kp HD11.out HK14.out fun j hj => by have := HLq.out j (.inr (.inr hj)); omega)
      have HB14 : Hid (Below w2.heap.size w2 w14) := HB11.out.trans (HK14.out.below (fun k hk => by have := HQ.out; omega) (by omega))
      have hKK : ((K : Int) == (K : Int)) = true := by simp
      have hZZ : ((Z : Int) == (Z : Int)) = true := by simp
      go_wp2_with fail
      refine (known_any w14).mono ?_
      rintro e w15 ⟨rfl, h15⟩
      have HB1415 := hide h15
      have HB15 : Hid (Below w2.heap.size w2 w15) := HB14.out.trans (h15.mono HB14.out.size)
      clear h15
      obtain ⟨m0, m1⟩ := HSt.out w15 HB15.out
      go_wp2_with fail
      refine (HR.out.chk _ HB15.out).mono ?_
      rintro e w16 ⟨rfl, h16⟩
      have HB1416 : Hid (Below w14.heap.size w14 w16) := HB1415.out.trans (h16.mono HB1415.out.size)
      have HB16 : Hid (Below w2.heap.size w2 w16) := HB15.out.trans (h16.mono HB15.out.size)
      clear h16 m0 m1
      obtain ⟨m0, m1⟩ := HSt.out w16 HB16.out
      go_wp2_with fail
      refine (HR.out.siz _ HB16.out).mono ?_
      rintro e w17 ⟨rfl, h17⟩
      have HB1417 : Hid (Below w14.heap.size w14 w17) := HB1416.out.trans (h17.mono HB1416.out.size)
      clear h17 m0 m1
      go_wp2_with fail
      refine (sameb_yes a5 a11 L c5 c11 E w17 (own_inn2 (HA14.out.below HB1417.out) HBy.out) (own_inn2 (HD14.out.below HB1417.out) HBy.out)).mono ?_
      rintro e w18 ⟨rfl, h18⟩
      have HB1418 : Hid (Below w14.heap.size w14 w18) := HB1417.out.trans (h18.mono HB1417.out.size)
      clear h18
      go_wp2_with fail
      refine (sameb_yes a6 a11 L c6 c11 E w18 (own_inn2 (HC14.out.below HB1418.out) HBy.out) (own_inn2 (HD14.out.below HB1418.out) HBy.out)).mono ?_
      rintro e w19 ⟨rfl, h19⟩
      have HB1419 : Hid (Below w14.heap.size w14 w19) := HB1418.out.trans (h19.mono HB1418.out.size)
      clear h19
      go_wp2_with fail
      refine (Bo.bookOwn_any q (Bo.putf (Bo.putf Bo.nilf 0 v13) 0 v14) v14 (Bo.putf_same _ _ _) (0 + 1 + 1) _ _ _ w19 (HBk14.out.below HB1419.out) (fun j hj => by rw [Bo.putf_other _ _ _ _ hj, Bo.putf_other _ _ _ _ hj]; rfl) (HF14.out.below HB1419.out) (by omega) (fun i hi => by
        have hl := HEl.out
        by_cases h1 : i = 0 + 1
        · subst h1
          rw [Bo.putf_same]
          omega
        · rw [Bo.putf_other _ _ _ _ h1, show i = 0 by omega, Bo.putf_same]
          omega)).mono ?_
      rintro e w20 ⟨rfl, h20⟩
      have HK20 := hide h20
      clear h20
      go_wp2
      go_ret
      have hs19 := HB1419.out.size
      have hsW := HW2.out
      refine ⟨rfl, (HB2.out.trans (HB14.out.mono hsW)).trans ((HB1419.out.mono (by omega)).trans (HK20.out.below (fun k hk => ?_) (by omega)))⟩
      rcases Bo.rft_putf _ _ _ _ hk with hk1 | ⟨ad, rfl, hk3⟩
      · rcases Bo.rft_putf _ _ _ _ hk1 with ⟨i, hi, _⟩ | ⟨ad, rfl, hk3⟩
        · omega
        · have := HO5.out.new k (congrArg some hk3)
          omega
      · have := HO6.out.new k (congrArg some hk3)
        omega
end Go.Proofs.Ytfpojfohlmhklaa
