/- The Go function NodeOrder answers true for every list of entries that is handed in, and leaves it as it was. No condition. -/
import Derived.Test.YtepaohiacfmabaaIK
import Derived.Test.YtepaohiacfmabaaMU
namespace Go.Proofs.Ytepaohiacfmabaa.Order
open Go.ChangeShapes Go.WideShapes Go.ChangeAt Go.RowKit
set_option linter.unusedVariables false

/-- the first k keys are unlike. -/
def Uq (xs : List En) (k : Nat) : Prop := ∀ (p q : Nat) (x y : En), p < q → q < k → xs[p]? = some x → xs[q]? = some y → x.e.key ≠ y.e.key
/-- the key k is unlike the first j. -/
def Un (xs : List En) (k j : Nat) : Prop := ∀ (p : Nat) (x y : En), p < j → xs[p]? = some x → xs[k]? = some y → x.e.key ≠ y.e.key
/-- two nodes into which entries are put, from the front and from the back. -/
structure PS (xs : List En) (k q m : Nat) (w W : World) (aa : Option Addr) (ca : Nat) (ya : List En) (ab : Option Addr) (cb : Nat) (yb : List En) : Prop where
  ba : W.heap[q]? = some (.cells #[.bool true, .slice aa m ca] 24 (0, 0))
  bb : W.heap[q + 1]? = some (.cells #[.bool true, .slice ab m cb] 24 (0, 0))
  ea : Ens W aa m ca ya
  eb : Ens W ab m cb yb
  ra : Rise (ers ya)
  rb : Rise (ers yb)
  ma : ∀ e, e ∈ ers ya ↔ e ∈ ers (xs.take m)
  mb : ∀ e, e ∈ ers yb ↔ e ∈ ers (xs.drop (k - m))
  wa : wts (ers ya) = wts (ers (xs.take m))
  wb : wts (ers yb) = wts (ers (xs.drop (k - m)))
  bl : Below w.heap.size w W
theorem uq_front {xs ya : List En} {k m : Nat} {x : En} (hu : Uq xs k) (hm : m < k) (hx : xs[m]? = some x) (ma : ∀ e, e ∈ ers ya ↔ e ∈ ers (xs.take m)) : ∀ z ∈ ya, z.e.key ≠ x.e.key := by
  intro z hz
  have h1 : z.e ∈ ers (xs.take m) := (ma z.e).1 (List.mem_map.2 ⟨z, hz, rfl⟩)
  obtain ⟨y, hy, e⟩ := List.mem_map.1 h1
  obtain ⟨p, hp⟩ := List.mem_iff_getElem?.1 hy
  rw [List.getElem?_take] at hp
  split at hp
  · rename_i hpm
    rw [← e]
    exact hu p m y x hpm hm hp hx
  · cases hp
theorem uq_back {xs yb : List En} {k m : Nat} {x : En} (hl : xs.length = k) (hu : Uq xs k) (hm : m < k) (hx : xs[k - 1 - m]? = some x) (mb : ∀ e, e ∈ ers yb ↔ e ∈ ers (xs.drop (k - m))) : ∀ z ∈ yb, z.e.key ≠ x.e.key := by
  intro z hz
  have h1 : z.e ∈ ers (xs.drop (k - m)) := (mb z.e).1 (List.mem_map.2 ⟨z, hz, rfl⟩)
  obtain ⟨y, hy, e⟩ := List.mem_map.1 h1
  obtain ⟨p, hp⟩ := List.mem_iff_getElem?.1 hy
  rw [List.getElem?_drop] at hp
  have hlt := (List.getElem?_eq_some_iff.1 hp).1
  rw [← e]
  exact fun he => hu (k - 1 - m) (k - m + p) x y (by omega) (by omega) hx hp he.symm
theorem find_pos {ya : List En} {x : Ee} {i : Nat} (hr : Rise (ers ya)) (hat : At (pge x.key) ya i) (hx : x ∈ ers ya) : ∃ z, ya[i]? = some z ∧ z.e = x := by
  obtain ⟨p, hp⟩ := List.mem_iff_getElem?.1 hx
  obtain ⟨hpl, _⟩ := List.getElem?_eq_some_iff.1 hp
  rw [ers_len] at hpl
  have hz : ya[p]? = some ya[p] := List.getElem?_eq_getElem hpl
  have hze : ya[p].e = x := by
    have h1 : (ers ya)[p]? = some ya[p].e := by simp [ers, hz]
    rw [h1] at hp
    exact Option.some.inj hp
  by_cases h1 : p < i
  · obtain ⟨y, hy⟩ : ∃ y, ya[i - 1]? = some y := ⟨_, List.getElem?_eq_getElem (by have := hat.1; omega)⟩
    have h2 := hat.2.1 y (by omega) hy
    unfold pge at h2
    have h3 := of_decide_eq_false h2
    have hy' : (ers ya)[i - 1]? = some y.e := by simp [ers, hy]
    by_cases h4 : p = i - 1
    · rw [← h4, hp] at hy'
      cases hy'
      have := ordI_self y.e.key
      omega
    · have h5 := rise_at hr (show p < i - 1 by omega) hp hy'
      have := ordI_anti x.key y.e.key
      omega
  · by_cases h4 : i = p
    · exact ⟨_, by rw [h4]; exact hz, hze⟩
    · obtain ⟨y, hy⟩ : ∃ y, ya[i]? = some y := ⟨_, List.getElem?_eq_getElem (by omega)⟩
      have h2 := hat.2.2 y hy
      unfold pge at h2
      have h3 := of_decide_eq_true h2
      have hy' : (ers ya)[i]? = some y.e := by simp [ers, hy]
      have h5 := rise_at hr (show i < p by omega) hy' hp
      omega
set_option maxHeartbeats 60000000 in
set_option maxRecDepth 1000000 in
theorem walk (a : Option Addr) (n c : Nat) (xs : List En) (w : World) (h : Ens w a n c xs) (hs : Szd xs) :
    Calls Try.prog 6 #[.slice a n c] w fun e w' => e = .returned (.bool true) ∧ Below w.heap.size w w' := by
  have hnl := h.len
  have HE := hide h
  have HS := hide hs
  have hnn : n ≤ 140737488355328 := by have := hs.1; rwa [h.len] at this
  clear h hs
  go_enter Try.func6, Try.ntmps6
  by_cases h60 : n ≤ 60
  · have d1 : ¬ (60 : Int) < (n : Int) := by omega
    go_wp2_with (go_at_call 17; refine (known_any _).mono ?_; rintro e w1 ⟨rfl, hb1⟩; have HB1 := hide hb1; clear hb1)
    go_loopw [3, 4] (fun s i wr => ∃ (k r : Nat), k ≤ n ∧ i = .int .i64 (k : Int) ∧ s = .int .i64 (r : Int) ∧ r ≤ k * 281474976710656 ∧ r = wts (ers (xs.take k)) ∧ Uq xs k ∧ Below w1.heap.size w1 wr) (fun _ i _ => n - (intOf i).toNat)
    case atStart => exact ⟨0, 0, Nat.zero_le _, rfl, rfl, by omega, by simp [ers, wts], fun p q x y _ hq => by omega, Below.refl _ _⟩
    case round =>
      obtain ⟨k, r, hk, rfl, rfl, hr5, hre, huq, hbl⟩ := hrel
      have HRe := hide hre
      have HBl := hide hbl
      have HUq := hide huq
      have hbw := HB1.out.trans (hbl.mono HB1.out.size)
      clear hre huq
      by_cases hlt : k < n
      · obtain ⟨x, hx, hok⟩ := (HE.out.below hbw).at hlt
        obtain ⟨b, off, rfl, hbs, c0, c1, c2, c3⟩ := (HE.out.below hbw).cells hx
        have hsx := HS.out.2 x (List.mem_of_getElem? hx)
        have HW := hide (wts_snoc xs k x hx)
        have HX := hide hx
        have d2 : (k : Int) < (n : Int) := by omega
        have l1 : x.e.key.length ≤ 140737488355328 := hsx.1
        have l2 : x.e.val.length ≤ 140737488355328 := hsx.2
        have l3 : r ≤ 16888498602639360 := by omega
        clear hx hok hbl hsx hbw
        go_wp2
        go_quiet (fail)
        go_wp2
        have HBi := hide (below_drewN HBl.out nq)
        go_loopw [5] (fun s wi => ∃ (j : Nat), j ≤ k ∧ s = .int .i64 (j : Int) ∧ Un xs k j ∧ Below w1.heap.size w1 wi) (fun s _ => k - (intOf s).toNat)
        case atStart => exact ⟨0, Nat.zero_le _, rfl, fun p x y hp => by omega, HBi.out⟩
        case round =>
          obtain ⟨j, hj, rfl, hun, hbj⟩ := hrel
          have HUn := hide hun
          have HBj := hide hbj
          have hbz := HB1.out.trans (hbj.mono HB1.out.size)
          clear hun hbj c0 c1 c2 c3
          by_cases hjk : j < k
          · obtain ⟨z, hz, hokz⟩ := (HE.out.below hbz).at (show j < n by omega)
            obtain ⟨b', off', hbo, hbs', g0, g1, g2, g3⟩ := (HE.out.below hbz).cells hz
            cases hbo
            have hokx := (HE.out.below hbz).each x (List.mem_of_getElem? HX.out)
            obtain ⟨b', off', hbo, hbs'', f0, f1, f2, f3⟩ := (HE.out.below hbz).cells HX.out
            cases hbo
            have t1 : ∀ q, (convert 27 9 (.slice x.ka x.e.key.length x.kc)).run Try.prog (wr.drewN q) = .ok (.string (bk x.e.key)) (wr.drewN q) := fun q => text_inn (hokx.key.below (below_drewN (Below.refl _ _) q))
            have t2 : ∀ q, (convert 27 9 (.slice z.ka z.e.key.length z.kc)).run Try.prog (wr.drewN q) = .ok (.string (bk z.e.key)) (wr.drewN q) := fun q => text_inn (hokz.key.below (below_drewN (Below.refl _ _) q))
            have te := text_eq x.e.key z.e.key hokx.key.byts hokz.key.byts
            have e1 : (j : Int) < (k : Int) := by omega
            have e2 : (j : Int) < (n : Int) := by omega
            have HZ := hide hz
            clear hz hokz hokx hbz
            by_cases he : x.e.key = z.e.key
            · rw [decide_eq_true he] at te
              clear he
              go_wp2
              go_quiet (fail)
              go_wp2
              go_ret
              exact ⟨rfl, HB1.out.trans ((below_drewN HBj.out _).mono HB1.out.size)⟩
            · rw [decide_eq_false he] at te
              have HNe := hide he
              clear he
              go_wp2
              go_quiet (fail)
              go_wp2
              go_roundw
              case rel =>
                refine ⟨j + 1, by omega, by go_num, fun p x' y' hp hx' hy' => ?_, below_drewN HBj.out _⟩
                by_cases hpj : p = j
                · subst hpj
                  rw [HZ.out] at hx'
                  rw [HX.out] at hy'
                  cases hx'
                  cases hy'
                  exact fun e => HNe.out e.symm
                · exact HUn.out p x' y' (by omega) hx' hy'
              case measure => simp [intOf]; omega
          · obtain rfl : j = k := by omega
            go_wp2
            go_roundw
            case rel =>
              refine ⟨j + 1, r + (x.e.key.length + x.e.val.length), by omega, by go_num, by go_num, by omega, by rw [HW.out, HRe.out], fun p q x' y' hpq hq hx' hy' => ?_, HBj.out⟩
              by_cases hqj : q = j
              · subst hqj
                exact HUn.out p x' y' hpq hx' hy'
              · exact HUq.out p q x' y' hpq (by omega) hx' hy'
            case measure => simp [intOf]; omega
      · obtain rfl : k = n := by omega
        have HF : Hid (xs.take k = xs) := hide (List.take_of_length_le (by rw [HE.out.len]; exact Nat.le_refl _))
        have HBw := hide hbw
        clear hbl hbw
        by_cases h20 : r ≤ 20000
        · have d3 : ¬ (20000 : Int) < (r : Int) := by omega
          obtain ⟨w2, rfl⟩ : ∃ W, W = wr := ⟨_, rfl⟩
          have HW2 : Hid (wts (ers xs) ≤ 20000) := by have h1 := HRe.out; rw [HF.out] at h1; rw [Hid, ← h1]; exact h20
          obtain ⟨hB2, hp0, hp1, hs2⟩ := pair_boxes w2 (.bool true) (.slice none 0 0) (.bool true) (.slice none 0 0)
          have HP0 : Hid (PS xs k w2.heap.size 0 w2 ((w2.alloc (.cells #[.bool true, .slice none 0 0] 24)).alloc (.cells #[.bool true, .slice none 0 0] 24)) none 0 [] none 0 []) := hide ⟨hp0, hp1, ens_nil _, ens_nil _, List.Pairwise.nil, List.Pairwise.nil, by simp, by intro e; rw [Nat.sub_zero, List.drop_eq_nil_of_le (by omega)], by simp, by rw [Nat.sub_zero, List.drop_eq_nil_of_le (by omega)], hB2⟩
          clear hB2 hp0 hp1 hs2
          go_wp2
          go_loopw [8] (fun i wl => ∃ (m : Nat) (aa : Option Addr) (ca : Nat) (ya : List En) (ab : Option Addr) (cb : Nat) (yb : List En), m ≤ k ∧ i = .int .i64 (m : Int) ∧ PS xs k w2.heap.size m w2 wl aa ca ya ab cb yb) (fun i _ => k - (intOf i).toNat)
          case atStart => exact ⟨0, none, 0, [], none, 0, [], Nat.zero_le _, rfl, HP0.out⟩
          case round =>
            obtain ⟨m, aa, ca, ya, ab, cb, yb, hm, rfl, hps⟩ := hrel
            have HPS := hide hps
            have hbx := HBw.out.trans (hps.bl.mono HBw.out.size)
            have hlx : xs.length = k := HE.out.len
            clear hps
            by_cases hmk : m < k
            · obtain ⟨x, hx, hok⟩ := (HE.out.below hbx).at hmk
              obtain ⟨b, off, rfl, hbs, c0, c1, c2, c3⟩ := (HE.out.below hbx).cells hx
              obtain ⟨x', hx', hok'⟩ := (HE.out.below hbx).at (show k - 1 - m < k by omega)
              obtain ⟨b', off', hbo, hbs', z0, z1, z2, z3⟩ := (HE.out.below hbx).cells hx'
              cases hbo
              obtain ⟨n0, n1, -⟩ := cells_two HPS.out.ba
              obtain ⟨v0, v1, -⟩ := cells_two HPS.out.bb
              have e1 : (m : Int) < (k : Int) := by omega
              have hwx := mem_wts hx
              have hwx' := mem_wts hx'
              have hta : wts (ers (xs.take m)) ≤ 20000 := by have h1 := HW2.out; rw [← List.take_append_drop m xs, ers_app, wts_app] at h1; omega
              have htb : wts (ers (xs.drop (k - m))) ≤ 20000 := by have h1 := HW2.out; rw [← List.take_append_drop (k - m) xs, ers_app, wts_app] at h1; omega
              have HPu := hide (put_new true aa m ca ya x wr.drew (HPS.out.ea.below (Below.refl _ _).drew) (hok.below (Below.refl _ _).drew) (by omega) (by rw [HPS.out.wa]; omega) (by have := HW2.out; omega) (uq_front HUq.out hmk hx HPS.out.ma))
              have HX := hide hx
              have HX' := hide hx'
              have HOk' := hide hok'
              clear hx hx' hok hok'
              go_wp2
              go_region_with (first
                | (go_at_call 29; refine HPu.out.mono ?_; rintro e w5 ⟨i1, a1, d1, zs1, rfl, hat1, her1, hens1, hb5⟩; have HB5 : Hid (Below wr.heap.size wr w5) := hide ((Below.refl _ _).drew.trans hb5); have ba5 := (HB5.out.block _ (lt_of_block HPS.out.ba)).trans HPS.out.ba; have HA1 := hide hat1; have HR1 := hide her1; have HN1 := hide hens1; have HBA := hide ba5; clear n0 n1 hat1 her1 hens1 hb5; obtain ⟨n0, n1, -⟩ := cells_two ba5; have g0 := frozen_blk (j := 0) ba5; have g1 := frozen_blk (j := 1) ba5; clear ba5))
              all_goals
                have hba6 := two_set (u := .bool true) (v := .slice a1 (m + 1) d1) HBA.out
                have hbb6 := (two_other (u := .bool true) (v := .slice a1 (m + 1) d1) (i := 0) (j := 1) (show w2.heap.size + 1 ≠ w2.heap.size by omega)).trans ((HB5.out.block _ (lt_of_block HPS.out.bb)).trans HPS.out.bb)
                have hea6 := HN1.out.box (u := .bool true) (v := .slice a1 (m + 1) d1) HBA.out
                have heb6 := (HPS.out.eb.below HB5.out).box (u := .bool true) (v := .slice a1 (m + 1) d1) HBA.out
                have hbl6 : Below w2.heap.size w2 ((w5.setCell ⟨w2.heap.size, 0, none⟩ (.bool true)).setCell ⟨w2.heap.size, 1, none⟩ (.slice a1 (m + 1) d1)) := ((HPS.out.bl.trans (HB5.out.mono HPS.out.bl.size)).setCell (p := ⟨w2.heap.size, 0, none⟩) (Nat.le_refl _) _).setCell (p := ⟨w2.heap.size, 1, none⟩) (Nat.le_refl _) _
                have HBA6 := hide hba6
                have HBB6 := hide hbb6
                have HEA6 := hide hea6
                have HEB6 := hide heb6
                have HBL6 := hide hbl6
                clear hba6 hbb6 hea6 heb6 hbl6 n0 n1 g0 g1 v0 v1 c0 c1 c2 c3 z0 z1 z2 z3
                generalize ((w5.setCell ⟨w2.heap.size, 0, none⟩ (.bool true)).setCell ⟨w2.heap.size, 1, none⟩ (.slice a1 (m + 1) d1)) = W6 at *
                have hbw6 := HBw.out.trans (HBL6.out.mono HBw.out.size)
                obtain ⟨b2, off2, hbo, hbs2, z0, z1, z2, z3⟩ := (HE.out.below hbw6).cells HX'.out
                cases hbo
                have hok6 := (HE.out.below hbw6).each x' (List.mem_of_getElem? HX'.out)
                obtain ⟨v0, v1, -⟩ := cells_two HBB6.out
                have HPv := hide (put_new true ab m cb yb x' W6.drew (HEB6.out.below (Below.refl _ _).drew) (hok6.below (Below.refl _ _).drew) (by omega) (by rw [HPS.out.wb]; omega) (by have := HW2.out; omega) (uq_back hlx HUq.out hmk HX'.out HPS.out.mb))
                have r1 : IntKind.i64.wrap ((k : Int) - 1) = (k : Int) - 1 := by rw [IntKind.wrap_i64] <;> omega
                have r2 : IntKind.i64.wrap ((k : Int) - 1 - (m : Int)) = (k : Int) - 1 - (m : Int) := by rw [IntKind.wrap_i64] <;> omega
                have r3 : ((k : Int) - 1 - (m : Int)).toNat = k - 1 - m := by omega
                have r4 : (0 : Int) ≤ (k : Int) - 1 - (m : Int) := by omega
                have r5 : (k : Int) - 1 - (m : Int) < (k : Int) := by omega
                clear hok6 hbw6
                go_wp2
                go_region_with (first
                  | (go_at_call 29; refine HPv.out.mono ?_; rintro e w7 ⟨i2, a2, d2, zs2, rfl, hat2, her2, hens2, hb7⟩; have HB7 : Hid (Below W6.heap.size W6 w7) := hide ((Below.refl _ _).drew.trans hb7); have bb7 := (HB7.out.block _ (lt_of_block HBB6.out)).trans HBB6.out; have HA2 := hide hat2; have HR2 := hide her2; have HN2 := hide hens2; have HBB := hide bb7; clear v0 v1 hat2 her2 hens2 hb7; obtain ⟨v0, v1, -⟩ := cells_two bb7; have g0 := frozen_blk (j := 0) bb7; have g1 := frozen_blk (j := 1) bb7; clear bb7))
                all_goals
                  have HPS2 : Hid (PS xs k w2.heap.size (m + 1) w2 ((w7.setCell ⟨w2.heap.size + 1, 0, none⟩ (.bool true)).setCell ⟨w2.heap.size + 1, 1, none⟩ (.slice a2 (m + 1) d2)) a1 d1 zs1 a2 d2 zs2) := by
                    have hkm : k - (m + 1) = k - 1 - m := by omega
                    have hdr : xs.drop (k - (m + 1)) = x' :: xs.drop (k - m) := by rw [hkm, drop_at HX'.out, show k - 1 - m + 1 = k - m by omega]
                    refine ⟨(two_other (by omega)).trans ((HB7.out.block _ (lt_of_block HBA6.out)).trans HBA6.out), two_set HBB.out, (HEA6.out.below HB7.out).box HBB.out, HN2.out.box HBB.out, ?_, ?_, ?_, ?_, ?_, ?_, ((HBL6.out.trans (HB7.out.mono HBL6.out.size)).setCell (p := ⟨w2.heap.size + 1, 0, none⟩) (Nat.le_succ _) _).setCell (p := ⟨w2.heap.size + 1, 1, none⟩) (Nat.le_succ _) _⟩
                    · rw [HR1.out]
                      exact rise_put HPS.out.ra HA1.out (uq_front HUq.out hmk HX.out HPS.out.ma)
                    · rw [HR2.out]
                      exact rise_put HPS.out.rb HA2.out (uq_back hlx HUq.out hmk HX'.out HPS.out.mb)
                    · intro e
                      rw [HR1.out, mem_put, take_at HX.out, ers_app, List.mem_append, HPS.out.ma e]
                      simp [ers]
                      exact Or.comm
                    · intro e
                      rw [HR2.out, mem_put, hdr, HPS.out.mb e]
                      simp [ers]
                    · rw [HR1.out, wts_put, HPS.out.wa, wts_snoc xs m x HX.out]
                    · rw [HR2.out, wts_put, HPS.out.wb, hdr]
                      simp [ers, wts]
                      omega
                  go_wp2
                  go_roundw
                  case rel => exact ⟨m + 1, a1, d1, zs1, a2, d2, zs2, by omega, by go_num, HPS2.out⟩
                  case measure => simp [intOf]; omega
            · obtain rfl : m = k := by omega
              have hext : ers ya = ers yb := rise_ext HPS.out.ra HPS.out.rb fun e => by
                rw [HPS.out.ma e, HPS.out.mb e, Nat.sub_self, List.drop_zero, List.take_of_length_le (by omega)]
              have HMa : Hid (∀ e, e ∈ ers ya ↔ e ∈ ers xs) := hide fun e => by rw [HPS.out.ma e, List.take_of_length_le (by omega)]
              obtain ⟨n0, n1, -⟩ := cells_two HPS.out.ba
              obtain ⟨v0, v1, -⟩ := cells_two HPS.out.bb
              have HSa := hide (fun (W : World) (hW : Below wr.heap.size wr W) => same_yes aa ab m ca cb ya yb W (HPS.out.ea.below hW) (HPS.out.eb.below hW) hext (by omega))
              have HBx := hide hbx
              clear hbx hext
              go_wp2_with fail
              refine (HSa.out wr (Below.refl _ _)).mono ?_
              rintro e w3 ⟨rfl, hb3⟩
              have HBA3 := hide ((hb3.block _ (lt_of_block HPS.out.ba)).trans HPS.out.ba)
              have HEA3 := hide (HPS.out.ea.below hb3)
              have HRA := hide HPS.out.ra
              have HB3 := hide (HBx.out.trans (hb3.mono HBx.out.size))
              clear n0 n1 v0 v1 hb3 HSa
              obtain ⟨n0, n1, -⟩ := cells_two HBA3.out
              go_wp2
              go_loopw [9] (fun i wl => ∃ (p : Nat), p ≤ m ∧ i = .int .i64 (p : Int) ∧ Below w3.heap.size w3 wl) (fun i _ => m - (intOf i).toNat)
              case atStart => exact ⟨0, Nat.zero_le _, rfl, Below.refl _ _⟩
              case round =>
                obtain ⟨p, hp, rfl, hbp⟩ := hrel
                have HBp := hide hbp
                have hbw := HB3.out.trans (hbp.mono HB3.out.size)
                have hlx2 : xs.length = m := HE.out.len
                clear n0 n1
                obtain ⟨n0, n1, -⟩ := cells_two ((hbp.block _ (lt_of_block HBA3.out)).trans HBA3.out)
                by_cases hpm : p < m
                · obtain ⟨x, hx, hok⟩ := (HE.out.below hbw).at hpm
                  obtain ⟨b, off, rfl, hbs, c0, c1, c2, c3⟩ := (HE.out.below hbw).cells hx
                  have e1 : (p : Int) < (m : Int) := by omega
                  have HX := hide hx
                  have HFi := hide (find_leaf x.ka x.e.key.length x.kc x.e.key aa m ca ya wr.drew (hok.key.below (Below.refl _ _).drew) ((HEA3.out.below hbp).below (Below.refl _ _).drew) (by omega))
                  have HSt : Hid (∀ W, Below w3.heap.size w3 W → W.cell? ⟨w2.heap.size, 0, none⟩ = some (.bool true) ∧ W.cell? ⟨w2.heap.size, 1, none⟩ = some (.slice aa m ca) ∧ W.cell? ⟨b, off + p * 4, none⟩ = some (.slice x.ka x.e.key.length x.kc)) := hide fun W hW => by
                    obtain ⟨q0, q1, -⟩ := cells_two ((hW.block _ (lt_of_block HBA3.out)).trans HBA3.out)
                    obtain ⟨b1, off1, hbo, hbs1, g0, g1, g2, g3⟩ := (HE.out.below (HB3.out.trans (hW.mono HB3.out.size))).cells HX.out
                    cases hbo
                    exact ⟨q0, q1, g0⟩
                  clear hok hx hbp hbw c1 c2 c3
                  go_wp2
                  go_region_held3 (fun W => W.cell? ⟨w2.heap.size, 0, none⟩ = some (.bool true) ∧ W.cell? ⟨w2.heap.size, 1, none⟩ = some (.slice aa m ca) ∧ W.cell? ⟨b, off + p * 4, none⟩ = some (.slice x.ka x.e.key.length x.kc)) ((first | (refine ⟨?_, ?_, ?_⟩ <;> assumption) | exact HSt.out _ HBp.out.drew)) ((first | (go_at_call 30; refine HFi.out.mono ?_; intro r' w4 hh; obtain ⟨i, rfl, hat, hb4⟩ := hh; have HB4 : Hid (Below w3.heap.size w3 w4) := hide (HBp.out.drew.trans (hb4.mono HBp.out.size)); have HAt := hide hat; clear n0 n1 c0 hat hb4; obtain ⟨n0, n1, c0⟩ := HSt.out w4 HB4.out)))
                  have hat := HAt.out
                  obtain ⟨z, hz, hze⟩ := find_pos HRA.out hat ((HMa.out x.e).2 (List.mem_map.2 ⟨x, List.mem_of_getElem? HX.out, rfl⟩))
                  have hth : ther ya i x.e.key = true := by unfold ther; rw [hz]; simp [hze]
                  rw [hth]
                  have him : i < m := by have := (List.getElem?_eq_some_iff.1 hz).1; rw [HEA3.out.len] at this; exact this
                  have hbw := HB3.out.trans (HB4.out.mono HB3.out.size)
                  clear n0 n1 c0 hat hth HFi
                  obtain ⟨n0, n1, -⟩ := cells_two ((HB4.out.block _ (lt_of_block HBA3.out)).trans HBA3.out)
                  obtain ⟨b1, off1, hbo, hbs1, c0, c1, c2, c3⟩ := (HE.out.below hbw).cells HX.out
                  cases hbo
                  obtain ⟨b2, off2, hbo, hbs2, z0, z1, z2, z3⟩ := (HEA3.out.below HB4.out).cells hz
                  subst hbo
                  have hokx := (HE.out.below hbw).each x (List.mem_of_getElem? HX.out)
                  have hokz := (HEA3.out.below HB4.out).each z (List.mem_of_getElem? hz)
                  have tx : ∀ q, (convert 27 9 (.slice x.va x.e.val.length x.vc)).run Try.prog (w4.drewN q) = .ok (.string (bk x.e.val)) (w4.drewN q) := fun q => text_inn (hokx.val.below (below_drewN (Below.refl _ _) q))
                  have tz : ∀ q, (convert 27 9 (.slice z.va x.e.val.length z.vc)).run Try.prog (w4.drewN q) = .ok (.string (bk x.e.val)) (w4.drewN q) := fun q => by have h := text_inn (hokz.val.below (below_drewN (Below.refl _ _) q)); rw [hze] at h; exact h
                  rw [hze] at z0 z1 z2 z3
                  have e2 : (i : Int) < (m : Int) := by omega
                  have e3 : ¬ (m : Int) ≤ (i : Int) := by omega
                  have e3a : ¬ m ≤ i := by omega
                  have e3b : decide (m ≤ i) = false := by simpa using e3a
                  have qv : ((bk x.e.val).toList == (bk x.e.val).toList) = true := beq_self_eq_true _
                  have HEw := hide (HEA3.out.below HB4.out)
                  clear hokx hokz hz hze hbw
                  by_cases hp0 : p = 0
                  · have e4 : ¬ (0 : Int) < (p : Int) := by omega
                    have e5 : ¬ 0 < p := by omega
                    have e6 : decide (0 < p) = false := by simpa using e5
                    clear hp0
                    go_wp2
                    go_quiet (fail)
                    go_wp2
                    go_roundw
                    case rel => exact ⟨p + 1, by omega, by go_num, below_drewN HB4.out _⟩
                    case measure => simp [intOf]; omega
                  · obtain ⟨s, hs, hoks⟩ := HEw.out.at hpm
                    obtain ⟨pr, hpr⟩ : ∃ pr : Nat, p = pr + 1 := ⟨p - 1, by omega⟩
                    obtain ⟨t, ht, hokt⟩ := HEw.out.at (show pr < m by omega)
                    obtain ⟨b3, off3, hbo, hbs3, s0, s1, s2, s3⟩ := HEw.out.cells hs
                    cases hbo
                    obtain ⟨b4, off4, hbo, hbs4, t0, t1, t2, t3⟩ := HEw.out.cells ht
                    cases hbo
                    have hlt : ordI t.e.key s.e.key < 0 := rise_at HRA.out (show pr < p by omega) (by simp [ers, ht]) (by simp [ers, hs])
                    have han := ordI_anti t.e.key s.e.key
                    have us : ∀ q, (convert 27 9 (.slice s.ka s.e.key.length s.kc)).run Try.prog (w4.drewN q) = .ok (.string (bk s.e.key)) (w4.drewN q) := fun q => text_inn (hoks.key.below (below_drewN (Below.refl _ _) q))
                    have ut : ∀ q, (convert 27 9 (.slice t.ka t.e.key.length t.kc)).run Try.prog (w4.drewN q) = .ok (.string (bk t.e.key)) (w4.drewN q) := fun q => text_inn (hokt.key.below (below_drewN (Below.refl _ _) q))
                    have l1 : Op.bytesLess (bk s.e.key).toList (bk t.e.key).toList = false := by rw [text_less _ _ hoks.key.byts hokt.key.byts]; simp; omega
                    have l2 : Op.bytesLess (bk t.e.key).toList (bk s.e.key).toList = true := by rw [text_less _ _ hokt.key.byts hoks.key.byts]; simp; omega
                    have l3 : ((bk s.e.key).toList == (bk t.e.key).toList) = false := by
                      rw [text_eq _ _ hoks.key.byts hokt.key.byts]
                      simp
                      intro e
                      rw [e] at hlt
                      have := ordI_self t.e.key
                      omega
                    have e4 : (0 : Int) < (p : Int) := by omega
                    have e9 : 0 < p := by omega
                    have e10 : decide (0 < p) = true := by simpa using e9
                    have e5 : IntKind.i64.wrap ((p : Int) - 1) = (pr : Int) := by rw [IntKind.wrap_i64] <;> omega
                    have e6 : (p : Int) - 1 = (pr : Int) := by omega
                    have e7 : pr < m := by omega
                    have e11 : IntKind.i64.wrap (pr : Int) = (pr : Int) := by rw [IntKind.wrap_i64] <;> omega
                    have e8 : (pr : Int) < (m : Int) := by omega
                    clear hs ht hoks hokt hlt han hpr
                    go_wp2
                    go_quiet (fail)
                    go_wp2
                    go_roundw
                    case rel => exact ⟨p + 1, by omega, by go_num, below_drewN HB4.out _⟩
                    case measure => simp [intOf]; omega
                · go_wp2
                  go_ret
                  exact ⟨rfl, HB3.out.trans (HBp.out.mono HB3.out.size)⟩
        · have d3 : (20000 : Int) < (r : Int) := by omega
          go_wp2
          go_ret
          exact ⟨rfl, HBw.out⟩
  · have d1 : (60 : Int) < (n : Int) := by omega
    go_wp2_with (go_at_call 17; refine (known_any _).mono ?_; rintro e w1 ⟨rfl, hb1⟩)
    go_ret
    exact ⟨rfl, hb1⟩
end Go.Proofs.Ytepaohiacfmabaa.Order
