/- BufferLast: the walk. -/
import Derived.Test.YtjccfbjdngjhfaaLA
namespace Go.Proofs.Ytjccfbjdngjhfaa
open Go.RowKit Go.Maps
set_option linter.unusedVariables false

set_option maxHeartbeats 800000 in
theorem sameb_yes (a b : Option Addr) (n c d : Nat) (xs : List Int) (w : World) (h : Inn w a n c xs) (k : Inn w b n d xs) :
    Calls Try.prog 16 #[.slice a n c, .slice b n d] w fun e w' => e = .returned (.bool true) ∧ Below w.heap.size w w' := by
  have hl := h.len
  have hmx : n ≤ 9223372036854775807 := by have := h.cap; have := h.max; omega
  have HR := hide h.row
  have HR2 := hide k.row
  have HL := hide hl
  clear h k hl
  have hnb : ((n : Int) != (n : Int)) = false := by simp
  go_enter Try.func16, Try.ntmps16
  go_wp2
  go_loopw [5] (fun i wr => ∃ k : Nat, k ≤ n ∧ i = .int .i64 k ∧ Below w.heap.size w wr) (fun i _ => n - (intOf i).toNat)
  case atStart => exact ⟨0, Nat.zero_le _, rfl, Below.refl _ _⟩
  case round =>
    obtain ⟨k, hk, rfl, hbel⟩ := hrel
    have HBel := hide hbel
    clear hbel
    by_cases hlt : k < n
    · have hlk : k < xs.length := by have := HL.out; omega
      rcases HR.out.below HBel.out with h0 | ⟨b1, o1, rfl, _, hc1⟩
      · subst h0; simp at hlk
      rcases HR2.out.below HBel.out with h0 | ⟨b2, o2, rfl, _, hc2⟩
      · subst h0; simp at hlk
      have g1 := hc1 k hlk
      have g2 := hc2 k hlk
      clear hc1 hc2 hlk
      generalize xs.getD k 0 = cc at g1 g2
      have hbn : (cc != cc) = false := by simp
      go_wp2
      go_quiet (fail)
      go_wp2
      go_roundw
      case rel => exact ⟨k + 1, by omega, by go_num, below_drewN HBel.out _⟩
      case measure => simp [intOf]; omega
    · go_wp2
      go_ret
      exact ⟨rfl, HBel.out⟩
theorem len_st {w : World} {p B n : Nat} {es : List Ee} {hs : List (List Ee)} {O : Nat → Prop} (h : St w p B es n hs O) : Calls Try.prog 13 #[.pointer (some ⟨p, 0, none⟩)] w fun e w' => e = .returned (.int .i64 (es.length : Int)) ∧ w' = w := len_any h
set_option maxHeartbeats 25600000 in
set_option maxRecDepth 1000000 in
theorem last_walk (a : Option Addr) (n c : Nat) (xs : List Ac) (w : World) (h : Acs w a n c xs) (hs : Sza xs) :
    Calls Try.prog 4 #[.slice a n c] w fun e w' => e = .returned (.bool true) ∧ Below w.heap.size w w' := by
  have HE := hide h
  have HMu := hide (much_any a n c xs w h hs)
  clear h hs
  go_enter Try.func4, Try.ntmps4
  go_wp2_with fail
  refine HMu.out.mono ?_
  rintro e w1 ⟨hmu, hb1⟩
  have HB1 := hide hb1
  rcases hmu with rfl | ⟨rfl, hn, hsm⟩
  · clear hb1
    go_wp2_with fail
    refine (known_any w1).mono ?_
    rintro e w2 ⟨rfl, hb2⟩
    have HB2 := hide (HB1.out.trans (hb2.mono HB1.out.size))
    clear hb2
    go_wp2
    go_ret
    exact ⟨rfl, HB2.out⟩
  · clear hb1
    go_wp2_with fail
    refine (known_any w1).mono ?_
    rintro e w2 ⟨rfl, hb2⟩
    have HB2 := hide (HB1.out.trans (hb2.mono HB1.out.size))
    clear hb2
    have hxl := HE.out.len
    go_wp2_with fail
    refine (filled_any a n c xs w2 (HE.out.below HB2.out) (by omega) hsm).mono ?_
    rintro e w3 ⟨rfl, hs, O, hst, hb3⟩
    have hsm2 := foldA_small hsm
    have hfl := foldA_len xs
    have hsl := sayN_le xs
    have hes : (foldA xs).length ≤ 300 := by omega
    have HB3 := hide (HB2.out.trans (hb3.mono HB2.out.size))
    have HST := hide hst
    have HES := hide (fun e (he : e ∈ foldA xs) => (⟨Nat.le_trans (hsm2 e he).1 (by omega), Nat.le_trans (hsm2 e he).2 (by omega)⟩ : e.key.length ≤ 100000000 ∧ e.val.length ≤ 100000000))
    have HSm := hide hsm
    have HRi := hide hst.ris
    clear hb3 hst hsm2 hsm
    go_wp2_with fail
    refine (changes_st HST.out (by omega) HES.out).mono ?_
    rintro e w4 ⟨ys, rfl, hey, hcl, hb4⟩
    obtain ⟨a4, c4, e4, hE4⟩ := hcl.ens
    have hyl : ys.length = (foldA xs).length := by have := congrArg List.length hey; rwa [ers_len] at this
    have HEy := hide hey
    have hE4' : Ens w4 (some ⟨w3.heap.size, 0, none⟩) (foldA xs).length (foldA xs).length ys := by
      rw [hyl] at e4 hE4
      cases e4
      exact hE4
    have HE4 := hide hE4'
    have HB4 := hide (HB3.out.trans (hb4.mono HB3.out.size))
    have HST4 := hide (HST.out.below hb4)
    have HA4 := hide (HE.out.below HB4.out)
    have HSL := hide hfl
    clear hey hcl hb4 hE4 hE4' e4 hyl hfl
    obtain ⟨m, hm⟩ : ∃ m, m = (foldA xs).length := ⟨_, rfl⟩
    rw [← hm] at HE4 hes HSL ⊢
    have HMm := hide hm
    clear hm
    go_wp2
    go_loopw [5] (fun vi W => ∃ k : Nat, 1 ≤ k ∧ (k ≤ m ∨ k = 1) ∧ vi = .int .i64 (k : Int) ∧ Below w4.heap.size w4 W) (fun vi _ => m - (intOf vi).toNat)
    case atStart => exact ⟨1, Nat.le_refl _, .inr rfl, rfl, Below.refl _ _⟩
    case round =>
      obtain ⟨k, hk1, hk2, rfl, hb⟩ := hrel
      have HBr := hide hb
      clear hb
      by_cases hlt : k < m
      · have d1 : (k : Int) < (m : Int) := by omega
        obtain ⟨k, rfl⟩ : ∃ j, k = j + 1 := ⟨k - 1, by omega⟩
        obtain ⟨x, hx, hok⟩ := (HE4.out.below HBr.out).at (k := k + 1) hlt
        obtain ⟨y, hy, hoy⟩ := (HE4.out.below HBr.out).at (k := k) (by omega)
        obtain ⟨b, off, e1, hbs, c0, c1, c2⟩ := (HE4.out.below HBr.out).cells hx
        obtain ⟨b', off', e1', hbs', g0, g1, g2⟩ := (HE4.out.below HBr.out).cells hy
        cases e1
        cases e1'
        have hlt2 : ordI y.e.key x.e.key < 0 := by
          have hr : Ris (ers ys) := by rw [HEy.out]; exact HRi.out
          have h1 := ers_at hx
          have h2 := ers_at hy
          have hl1 := (List.getElem?_eq_some_iff.1 h1).1
          have hl2 := (List.getElem?_eq_some_iff.1 h2).1
          have := List.pairwise_iff_getElem.1 hr k (k + 1) hl2 hl1 (by omega)
          rw [List.getElem?_eq_getElem hl1] at h1
          rw [List.getElem?_eq_getElem hl2] at h2
          rw [Option.some.inj h1, Option.some.inj h2] at this
          exact this
        have hnl : decide (ordI x.e.key y.e.key < 0) = false := decide_eq_false (by have := ordI_anti x.e.key y.e.key; omega)
        have hne : decide (x.e.key = y.e.key) = false := decide_eq_false (fun e => by rw [e, ordI_self] at hlt2; omega)
        have l1 := text_less x.e.key y.e.key hok.key.byts hoy.key.byts
        have q1 := text_eq x.e.key y.e.key hok.key.byts hoy.key.byts
        rw [hnl] at l1
        rw [hne] at q1
        have t1 : ∀ q, (convert 30 9 (.slice x.ka x.e.key.length x.kc)).run Try.prog (wr.drewN q) = .ok (.string (bk x.e.key)) (wr.drewN q) := fun q => text_inn (hok.key.below (below_drewN (Below.refl _ _) q))
        have t2 : ∀ q, (convert 30 9 (.slice y.ka y.e.key.length y.kc)).run Try.prog (wr.drewN q) = .ok (.string (bk y.e.key)) (wr.drewN q) := fun q => text_inn (hoy.key.below (below_drewN (Below.refl _ _) q))
        have k0 : ∀ q, (wr.drewN q).cell? ⟨w3.heap.size, (k + 1) * 3, none⟩ = some (.slice x.ka x.e.key.length x.kc) := fun q => by rw [Nat.zero_add] at c0; exact c0
        have k1 : ∀ q, (wr.drewN q).cell? ⟨w3.heap.size, k * 3, none⟩ = some (.slice y.ka y.e.key.length y.kc) := fun q => by rw [Nat.zero_add] at g0; exact g0
        clear hx hy hok hoy c0 c1 c2 g0 g1 g2 hlt2 hnl hne
        go_wp2
        have d2 : ((k : Int) + 1).toNat = k + 1 := by omega
        have d3 : (0 : Int) ≤ (k : Int) + 1 := by omega
        have d4 : (k : Int) + 1 < (m : Int) := by omega
        have d5 : (k : Int) < (m : Int) := by omega
        go_quiet (fail)
        have HBn := hide (below_drewN HBr.out nq)
        clear t1 t2 k0 k1 l1 q1
        generalize wr.drewN nq = wn at *
        go_wp2
        refine ⟨⟨k + 1 + 1, by omega, .inl (by omega), by go_num, HBn.out⟩, ?_⟩
        simp [intOf]; omega
      · have d1 : ¬ ((k : Int) < (m : Int)) := by omega
        go_wp2
        obtain ⟨wA, hwA⟩ : ∃ wA, wA = wr := ⟨_, rfl⟩
        rw [← hwA] at HBr ⊢
        clear hwA
        go_loopw [6] (fun vi W => ∃ i : Nat, i ≤ n ∧ vi = .int .i64 (i : Int) ∧ Below w4.heap.size w4 W) (fun vi _ => n - (intOf vi).toNat)
        case atStart => exact ⟨0, Nat.zero_le _, rfl, HBr.out⟩
        case round =>
          obtain ⟨i, hi, rfl, hb⟩ := hrel
          have HBi := hide hb
          clear hb
          obtain ⟨wO, hwO⟩ : ∃ wO, wO = wr := ⟨_, rfl⟩
          rw [← hwO] at HBi ⊢
          clear hwO
          by_cases hil : i < n
          · have d1 : (i : Int) < (n : Int) := by omega
            obtain ⟨x, b, off, hx, rfl, hbl, hat, hok⟩ := (HA4.out.below HBi.out).at hil
            have hxk := hok.k
            have c0 := hat.c0
            have HX := hide hx
            have HAt := hide hat
            have HOk := hide hok
            clear hx hat hok
            by_cases hk2 : x.k % 8 ≤ 2
            · have e1 : ¬ (2 < (x.k : Int) % 8) := by omega
              go_wp2
              go_loopw [7, 8] (fun vl vk W => ∃ (l k : Nat) (z : Ac), i ≤ k ∧ k ≤ n ∧ vk = .int .i64 (k : Int) ∧ vl = .int .i64 (l : Int) ∧ l < n ∧ xs[l]? = some z ∧ z.k % 8 ≤ 2 ∧ z.db = x.db ∧ Hid (∀ j y, l < j → j < k → xs[j]? = some y → y.k % 8 ≤ 2 → y.db ≠ x.db) ∧ Below w4.heap.size w4 W) (fun _ vk _ => n - (intOf vk).toNat)
              case atStart => exact ⟨i, i, x, Nat.le_refl _, hi, rfl, rfl, hil, HX.out, hk2, rfl, hide (fun j y h1 h2 => by omega), HBi.out⟩
              case round =>
                obtain ⟨l, k, z, hik, hkn, rfl, rfl, hln, hz, hzk, hzd, HNo, hb⟩ := hrel
                have HBk := hide hb
                have HZ := hide hz
                have HZd := hide hzd
                clear hz hzd
                by_cases hkl : k < n
                · have d2 : (k : Int) < (n : Int) := by omega
                  obtain ⟨y, b', off', hy, e1', hbl', haty, hoky⟩ := (HA4.out.below hb).at hkl
                  obtain ⟨x', b'', off'', hx', e1'', hbl'', hatx, hokx⟩ := (HA4.out.below hb).at hil
                  cases e1'
                  cases e1''
                  have hxx : x' = x := by have := HX.out; rw [hx'] at this; exact Option.some.inj this
                  subst hxx
                  have hyk := hoky.k
                  have k0 : ∀ q, (wr.drewN q).cell? ⟨b, off + k * 5, none⟩ = some (.int .u8 (y.k : Int)) := fun q => haty.c0
                  have k1 : ∀ q, (wr.drewN q).cell? ⟨b, off + k * 5 + 1, none⟩ = some (.slice y.da y.db.length y.dc) := fun q => haty.c1
                  have k2 : ∀ q, (wr.drewN q).cell? ⟨b, off + i * 5 + 1, none⟩ = some (.slice x'.da x'.db.length x'.dc) := fun q => hatx.c1
                  have t1 : ∀ q, (convert 30 9 (.slice y.da y.db.length y.dc)).run Try.prog (wr.drewN q) = .ok (.string (bk y.db)) (wr.drewN q) := fun q => text_inn (hoky.data.below (below_drewN (Below.refl _ _) q))
                  have t2 : ∀ q, (convert 30 9 (.slice x'.da x'.db.length x'.dc)).run Try.prog (wr.drewN q) = .ok (.string (bk x'.db)) (wr.drewN q) := fun q => text_inn (hokx.data.below (below_drewN (Below.refl _ _) q))
                  have q1 := text_eq y.db x'.db hoky.data.byts hokx.data.byts
                  have HY := hide hy
                  have HQ : Hid (decide (y.db = x'.db) = decide (y.db = x'.db)) := hide rfl
                  have hwn : ∀ q, Below w4.heap.size w4 (wr.drewN q) := fun q => below_drewN hb q
                  have HWN := hide hwn
                  clear hy haty hoky hx' hatx hokx hb hwn c0
                  by_cases hyk2 : y.k % 8 ≤ 2
                  · have e2 : (y.k : Int) % 8 < 3 := by omega
                    by_cases hyd : y.db = x'.db
                    · rw [decide_eq_true hyd] at q1
                      have HYd := hide hyd
                      clear hyd
                      go_wp2
                      go_quiet (fail)
                      have HBn := hide (HWN.out nq)
                      clear t1 t2 k0 k1 k2 q1
                      generalize wr.drewN nq = wn at *
                      go_wp2
                      refine ⟨⟨k, k + 1, y, by omega, by omega, by go_num, rfl, hkl, HY.out, hyk2, HYd.out, hide (fun j y' h1 h2 => by omega), HBn.out⟩, ?_⟩
                      simp [intOf]; omega
                    · rw [decide_eq_false hyd] at q1
                      have HYd := hide hyd
                      clear hyd
                      go_wp2
                      go_quiet (fail)
                      have HBn := hide (HWN.out nq)
                      clear t1 t2 k0 k1 k2 q1
                      generalize wr.drewN nq = wn at *
                      go_wp2
                      refine ⟨⟨l, k + 1, z, by omega, by omega, by go_num, rfl, hln, HZ.out, hzk, HZd.out, hide (fun j y' h1 h2 hj hk => by
                        by_cases e : j = k
                        · subst e; have := HY.out; rw [hj] at this; cases this; exact HYd.out
                        · exact HNo.out j y' h1 (by omega) hj hk), HBn.out⟩, ?_⟩
                      simp [intOf]; omega
                  · have e2 : ¬ (y.k : Int) % 8 < 3 := by omega
                    have e2f : decide ((y.k : Int) % 8 < 3) = false := decide_eq_false e2
                    go_wp2
                    go_quiet (fail)
                    have HBn := hide (HWN.out nq)
                    clear t1 t2 k0 k1 k2 q1
                    generalize wr.drewN nq = wn at *
                    go_wp2
                    refine ⟨⟨l, k + 1, z, by omega, by omega, by go_num, rfl, hln, HZ.out, hzk, HZd.out, hide (fun j y' h1 h2 hj hk => by
                      by_cases e : j = k
                      · subst e; have := HY.out; rw [hj] at this; cases this; exact absurd hk hyk2
                      · exact HNo.out j y' h1 (by omega) hj hk), HBn.out⟩, ?_⟩
                    simp [intOf]; omega
                · have d2 : ¬ ((k : Int) < (n : Int)) := by omega
                  have hlk := last_lk HZ.out hzk (fun j y h1 hj hk => by rw [HZd.out]; exact HNo.out j y h1 (by have := (List.getElem?_eq_some_iff.1 hj).1; have := HE.out.len; omega) hj hk)
                  rw [HZd.out] at hlk
                  obtain ⟨x', b'', off'', hx', e1'', hbl'', hatx, hokx⟩ := (HA4.out.below hb).at hil
                  cases e1''
                  have hxx : x' = x := by have := HX.out; rw [hx'] at this; exact Option.some.inj this
                  subst hxx
                  obtain ⟨z', b3, off3, hz', e3, hbl3, hatz, hokz⟩ := (HA4.out.below hb).at hln
                  cases e3
                  have hzz : z' = z := by have := HZ.out; rw [hz'] at this; exact Option.some.inj this
                  subst hzz
                  have hG := get_st (HST4.out.below hb) x'.da x'.db.length x'.dc x'.db hokx.data (by rw [← HMm.out]; omega) HES.out
                  rw [hlk] at hG
                  have HG := hide hG
                  have k1 := hatx.c1
                  have HAx := hide (fun W (hW : Below wr.heap.size wr W) => hokx.data.below hW)
                  have HAz := hide (fun W (hW : Below wr.heap.size wr W) => hokz.keep.below hW)
                  have HCx : Hid (∀ W : World, Below wr.heap.size wr W → W.cell? ⟨b, off + i * 5 + 1, none⟩ = some (.slice x'.da x'.db.length x'.dc)) := hide (fun W hW => (hW.cell (p := ⟨b, off + i * 5 + 1, none⟩) hbl'').trans hatx.c1)
                  have HCz : Hid (∀ W : World, Below wr.heap.size wr W → W.cell? ⟨b, off + l * 5, none⟩ = some (.int .u8 (z'.k : Int)) ∧ W.cell? ⟨b, off + l * 5 + 2, none⟩ = some (.slice z'.ka z'.kb.length z'.kc)) := hide (fun W hW => ⟨(hW.cell (p := ⟨b, off + l * 5, none⟩) hbl'').trans hatz.c0, (hW.cell (p := ⟨b, off + l * 5 + 2, none⟩) hbl'').trans hatz.c2⟩)
                  have hzk8 := hokz.k
                  have HSaid := hide (saidE_key z')
                  clear hlk hx' hatx hokx hz' hatz hokz hG hb c0
                  go_wp2_with fail
                  refine HG.out.mono ?_
                  rintro e w5 ⟨y, rfl, hye, hyo, hb5⟩
                  obtain ⟨W6, hW6⟩ : ∃ W6, W6 = w5.alloc (.cells #[.slice y.ka y.e.key.length y.kc, .slice y.va y.e.val.length y.vc, .bool y.e.del] 41) := ⟨_, rfl⟩
                  have hb6 : Below wr.heap.size wr W6 := by rw [hW6]; exact hb5.alloc hb5.size _
                  have hbx : W6.heap[w5.heap.size]? = some (.cells #[.slice y.ka y.e.key.length y.kc, .slice y.va y.e.val.length y.vc, .bool y.e.del] 41 (0, 0)) := by rw [hW6]; exact heap_alloc_new w5 _
                  have hy6 : y.Ok W6 := by rw [hW6]; exact hyo.ok.below (below_alloc w5 _)
                  have hye2 : y.e = saidE z' := hye
                  have cz0 := (HCz.out W6 hb6).1
                  have cz5 := (HCz.out w5 hb5).1
                  have HB6 := hide hb6
                  have Hbx := hide hbx
                  have HY6 := hide hy6
                  have HYe := hide hye2
                  have HW6 := hide hW6
                  have hcz := cz0
                  rw [HW6.out] at hcz
                  clear hb5 hb6 hbx hy6 hye hye2 hyo hW6 cz0
                  by_cases hz2 : z'.k % 8 = 2
                  · have g1 : ((((z'.k : Int) % 8) == 2) : Bool) = true := by simp; omega
                    have hdel : Hid (y.e.del = true) := hide (by rw [HYe.out, saidE, if_pos hz2])
                    go_wp2
                    rw [← HW6.out]
                    have HS24 : Hid (∀ W : World, Below W6.heap.size W6 W → W.cell? ⟨w5.heap.size, 0, none⟩ = some (.slice y.ka y.e.key.length y.kc) ∧ W.cell? ⟨w5.heap.size, 1, none⟩ = some (.slice y.va y.e.val.length y.vc) ∧ W.cell? ⟨w5.heap.size, 2, none⟩ = some (.bool true) ∧ W.cell? ⟨b, off + l * 5 + 2, none⟩ = some (.slice z'.ka z'.kb.length z'.kc) ∧ W.cell? ⟨b, off + i * 5 + 1, none⟩ = some (.slice x'.da x'.db.length x'.dc) ∧ (convert 30 9 (.slice y.ka y.e.key.length y.kc)).run Try.prog W = .ok (.string (bk x'.db)) W ∧ (convert 30 9 (.slice x'.da x'.db.length x'.dc)).run Try.prog W = .ok (.string (bk x'.db)) W) := hide (fun W hW => by
                      have hWr := HB6.out.trans (hW.mono HB6.out.size)
                      obtain ⟨e0, e1, e2, _⟩ := cells_three ((hW.block _ (lt_of_block Hbx.out)).trans Hbx.out)
                      rw [hdel.out] at e2
                      have hkey : y.e.key = x'.db := by rw [HYe.out, HSaid.out, HZd.out]
                      have ht := text_inn (HY6.out.key.below hW)
                      rw [show bk y.e.key = bk x'.db by rw [hkey]] at ht
                      exact ⟨e0, e1, e2, (HCz.out W hWr).2, HCx.out W hWr, ht, text_inn (HAx.out W hWr)⟩)
                    have hse : ((bk x'.db).toList == (bk x'.db).toList) = true := beq_self_eq_true _
                    have hsn : ((bk x'.db).toList != (bk x'.db).toList) = false := by simp
                    have HS0 := hide (HS24.out W6.drew (Below.refl _ _).drew)
                    refine wp_region_noPanic ?_
                    refine wp_region_held_drew (S := (fun W => W.cell? ⟨w5.heap.size, 0, none⟩ = some (.slice y.ka y.e.key.length y.kc) ∧ W.cell? ⟨w5.heap.size, 1, none⟩ = some (.slice y.va y.e.val.length y.vc) ∧ W.cell? ⟨w5.heap.size, 2, none⟩ = some (.bool true) ∧ W.cell? ⟨b, off + l * 5 + 2, none⟩ = some (.slice z'.ka z'.kb.length z'.kc) ∧ W.cell? ⟨b, off + i * 5 + 1, none⟩ = some (.slice x'.da x'.db.length x'.dc) ∧ (convert 30 9 (.slice y.ka y.e.key.length y.kc)).run Try.prog W = .ok (.string (bk x'.db)) W ∧ (convert 30 9 (.slice x'.da x'.db.length x'.dc)).run Try.prog W = .ok (.string (bk x'.db)) W)) (by kernel_rfl) HS0.out (fun _hS => ?_)
                    refine wpAnyH_take (i := 0) (oi := { dst := some 106, op := Op.move (Operand.tmp 10), type := 4, pos := "more.go:34", after := #[], guard := none }) (v := ?v0x1001) rfl (by kernel_rfl) (by kernel_rfl) (by kernel_rfl) (fun _ _ _ h => h) (Or.inl ⟨by rfl, ?hy0x1001⟩) (by assumption) ?rest0x1001
                    case hy0x1001 => (intro w hSw; (try dsimp only at hSw); (first | (go_simp; with_reducible rfl) | go_simp))
                    try simp only [Act.put, List.setIfInBounds_toArray, List.set_cons_zero, List.set_cons_succ]
                    refine wpAnyH_take (i := 1) (oi := { dst := some 107, op := Op.unOp UnOp.not 4 (Operand.tmp 106), type := 4, pos := "more.go:34", after := #[{ on := 0, ground := Ground.data }], guard := none }) (v := ?v1x1002) rfl (by kernel_rfl) (by kernel_rfl) (by kernel_rfl) (fun _ _ _ h => h) (Or.inl ⟨by rfl, ?hy1x1002⟩) (by assumption) ?rest1x1002
                    case hy1x1002 => (intro w hSw; (try dsimp only at hSw); (first | (go_simp; with_reducible rfl) | go_simp))
                    try simp only [Act.put, List.setIfInBounds_toArray, List.set_cons_zero, List.set_cons_succ]
                    refine wpAnyH_take (i := 2) (oi := { dst := some 108, op := Op.move (Operand.tmp 107), type := 4, pos := "more.go:34", after := #[{ on := 1, ground := Ground.data }], guard := none }) (v := ?v2x1003) rfl (by kernel_rfl) (by kernel_rfl) (by kernel_rfl) (fun _ _ _ h => h) (Or.inl ⟨by rfl, ?hy2x1003⟩) (by assumption) ?rest2x1003
                    case hy2x1003 => (intro w hSw; (try dsimp only at hSw); (first | (go_simp; with_reducible rfl) | go_simp))
                    try simp only [Act.put, List.setIfInBounds_toArray, List.set_cons_zero, List.set_cons_succ]
                    refine wpAnyH_take (i := 3) (oi := { dst := some 109, op := Op.fieldAddr 41 (Operand.tmp 9) 2, type := 0, pos := "more.go:34", after := #[{ on := 2, ground := Ground.guard }], guard := some (2, false) }) (v := ?v3x1004) rfl (by kernel_rfl) (by kernel_rfl) (by kernel_rfl) (fun _ _ _ h => h) (Or.inl ⟨by rfl, ?hy3x1004⟩) (by assumption) ?rest3x1004
                    case hy3x1004 => (intro w hSw; (try dsimp only at hSw); (first | (go_simp; with_reducible rfl) | go_simp))
                    try simp only [Act.put, List.setIfInBounds_toArray, List.set_cons_zero, List.set_cons_succ]
                    refine wpAnyH_take (i := 4) (oi := { dst := some 110, op := Op.load 4 (Operand.tmp 109), type := 4, pos := "more.go:34", after := #[{ on := 3, ground := Ground.data }, { on := 2, ground := Ground.guard }], guard := some (2, false) }) (v := ?v4x1005) rfl (by kernel_rfl) (by kernel_rfl) (by kernel_rfl) (fun _ _ _ h => h) (Or.inl ⟨by rfl, ?hy4x1005⟩) (by assumption) ?rest4x1005
                    case hy4x1005 => (intro w hSw; (try dsimp only at hSw); (first | (go_simp; with_reducible rfl) | go_simp))
                    try simp only [Act.put, List.setIfInBounds_toArray, List.set_cons_zero, List.set_cons_succ]
                    refine wpAnyH_take (i := 5) (oi := { dst := some 111, op := Op.move (Operand.tmp 11), type := 4, pos := "more.go:34", after := #[{ on := 2, ground := Ground.guard }], guard := some (2, false) }) (v := ?v5x1006) rfl (by kernel_rfl) (by kernel_rfl) (by kernel_rfl) (fun _ _ _ h => h) (Or.inl ⟨by rfl, ?hy5x1006⟩) (by assumption) ?rest5x1006
                    case hy5x1006 => (intro w hSw; (try dsimp only at hSw); (first | (go_simp; with_reducible rfl) | go_simp))
                    try simp only [Act.put, List.setIfInBounds_toArray, List.set_cons_zero, List.set_cons_succ]
                    refine wpAnyH_take (i := 6) (oi := { dst := some 112, op := Op.binOp BinOp.neq 4 (Operand.tmp 110) (Operand.tmp 111) 4, type := 4, pos := "more.go:34", after := #[{ on := 4, ground := Ground.data }, { on := 5, ground := Ground.data }, { on := 2, ground := Ground.guard }], guard := some (2, false) }) (v := ?v6x1007) rfl (by kernel_rfl) (by kernel_rfl) (by kernel_rfl) (fun _ _ _ h => h) (Or.inl ⟨by rfl, ?hy6x1007⟩) (by assumption) ?rest6x1007
                    case hy6x1007 => (intro w hSw; (try dsimp only at hSw); (first | (go_simp; with_reducible rfl) | go_simp))
                    try simp only [Act.put, List.setIfInBounds_toArray, List.set_cons_zero, List.set_cons_succ]
                    refine wpAnyH_take (i := 7) (oi := { dst := some 113, op := Op.pick (Operand.tmp 108) (Operand.const (Value.bool true)) (Operand.tmp 112), type := 4, pos := "more.go:34", after := #[{ on := 2, ground := Ground.data }, { on := 6, ground := Ground.data }], guard := none }) (v := ?v7x1008) rfl (by kernel_rfl) (by kernel_rfl) (by kernel_rfl) (fun _ _ _ h => h) (Or.inl ⟨by rfl, ?hy7x1008⟩) (by assumption) ?rest7x1008
                    case hy7x1008 => (intro w hSw; (try dsimp only at hSw); (first | (go_simp; with_reducible rfl) | go_simp))
                    try simp only [Act.put, List.setIfInBounds_toArray, List.set_cons_zero, List.set_cons_succ]
                    refine wpAnyH_take (i := 8) (oi := { dst := some 114, op := Op.move (Operand.tmp 113), type := 4, pos := "more.go:34", after := #[{ on := 7, ground := Ground.data }, { on := 2, ground := Ground.chain }], guard := none }) (v := ?v8x1009) rfl (by kernel_rfl) (by kernel_rfl) (by kernel_rfl) (fun _ _ _ h => h) (Or.inl ⟨by rfl, ?hy8x1009⟩) (by assumption) ?rest8x1009
                    case hy8x1009 => (intro w hSw; (try dsimp only at hSw); (first | (go_simp; with_reducible rfl) | go_simp))
                    try simp only [Act.put, List.setIfInBounds_toArray, List.set_cons_zero, List.set_cons_succ]
                    refine wpAnyH_take (i := 9) (oi := { dst := some 115, op := Op.move (Operand.tmp 11), type := 4, pos := "more.go:34", after := #[{ on := 8, ground := Ground.guard }], guard := some (8, false) }) (v := ?v9x1010) rfl (by kernel_rfl) (by kernel_rfl) (by kernel_rfl) (fun _ _ _ h => h) (Or.inl ⟨by rfl, ?hy9x1010⟩) (by assumption) ?rest9x1010
                    case hy9x1010 => (intro w hSw; (try dsimp only at hSw); (first | (go_simp; with_reducible rfl) | go_simp))
                    try simp only [Act.put, List.setIfInBounds_toArray, List.set_cons_zero, List.set_cons_succ]
                    refine wpAnyH_take (i := 10) (oi := { dst := some 116, op := Op.unOp UnOp.not 4 (Operand.tmp 115), type := 4, pos := "more.go:34", after := #[{ on := 9, ground := Ground.data }, { on := 8, ground := Ground.guard }], guard := some (8, false) }) (v := ?v10x1011) rfl (by kernel_rfl) (by kernel_rfl) (by kernel_rfl) (fun _ _ _ h => h) (Or.inl ⟨by rfl, ?hy10x1011⟩) (by assumption) ?rest10x1011
                    case hy10x1011 => (intro w hSw; (try dsimp only at hSw); (first | (go_simp; with_reducible rfl) | go_simp))
                    try simp only [Act.put, List.setIfInBounds_toArray, List.set_cons_zero, List.set_cons_succ]
                    refine wpAnyH_take (i := 11) (oi := { dst := some 117, op := Op.move (Operand.tmp 116), type := 4, pos := "more.go:34", after := #[{ on := 10, ground := Ground.data }, { on := 8, ground := Ground.chain }, { on := 8, ground := Ground.guard }], guard := some (8, false) }) (v := ?v11x1012) rfl (by kernel_rfl) (by kernel_rfl) (by kernel_rfl) (fun _ _ _ h => h) (Or.inl ⟨by rfl, ?hy11x1012⟩) (by assumption) ?rest11x1012
                    case hy11x1012 => (intro w hSw; (try dsimp only at hSw); (first | (go_simp; with_reducible rfl) | go_simp))
                    try simp only [Act.put, List.setIfInBounds_toArray, List.set_cons_zero, List.set_cons_succ]
                    refine wpAnyH_take (i := 12) (oi := { dst := some 118, op := Op.fieldAddr 41 (Operand.tmp 9) 1, type := 0, pos := "more.go:34", after := #[{ on := 11, ground := Ground.guard }], guard := some (11, true) }) (v := undef) rfl (by kernel_rfl) (by kernel_rfl) (by kernel_rfl) (fun _ _ _ h => h) (Or.inr ⟨by rfl, rfl⟩) (by assumption) ?rest12x1013
                    try simp only [Act.put, List.setIfInBounds_toArray, List.set_cons_zero, List.set_cons_succ]
                    refine wpAnyH_take (i := 13) (oi := { dst := some 119, op := Op.load 30 (Operand.tmp 118), type := 30, pos := "more.go:34", after := #[{ on := 12, ground := Ground.data }, { on := 11, ground := Ground.guard }], guard := some (11, true) }) (v := undef) rfl (by kernel_rfl) (by kernel_rfl) (by kernel_rfl) (fun _ _ _ h => h) (Or.inr ⟨by rfl, rfl⟩) (by assumption) ?rest13x1014
                    try simp only [Act.put, List.setIfInBounds_toArray, List.set_cons_zero, List.set_cons_succ]
                    refine wpAnyH_take (i := 14) (oi := { dst := some 120, op := Op.move (Operand.tmp 0), type := 22, pos := "more.go:34", after := #[{ on := 11, ground := Ground.guard }], guard := some (11, true) }) (v := undef) rfl (by kernel_rfl) (by kernel_rfl) (by kernel_rfl) (fun _ _ _ h => h) (Or.inr ⟨by rfl, rfl⟩) (by assumption) ?rest14x1015
                    try simp only [Act.put, List.setIfInBounds_toArray, List.set_cons_zero, List.set_cons_succ]
                    refine wpAnyH_take (i := 15) (oi := { dst := some 121, op := Op.move (Operand.tmp 7), type := 3, pos := "more.go:34", after := #[{ on := 11, ground := Ground.guard }], guard := some (11, true) }) (v := undef) rfl (by kernel_rfl) (by kernel_rfl) (by kernel_rfl) (fun _ _ _ h => h) (Or.inr ⟨by rfl, rfl⟩) (by assumption) ?rest15x1016
                    try simp only [Act.put, List.setIfInBounds_toArray, List.set_cons_zero, List.set_cons_succ]
                    refine wpAnyH_take (i := 16) (oi := { dst := some 122, op := Op.indexAddr 22 (Operand.tmp 120) (Operand.tmp 121), type := 0, pos := "more.go:34", after := #[{ on := 14, ground := Ground.data }, { on := 15, ground := Ground.data }, { on := 11, ground := Ground.guard }], guard := some (11, true) }) (v := undef) rfl (by kernel_rfl) (by kernel_rfl) (by kernel_rfl) (fun _ _ _ h => h) (Or.inr ⟨by rfl, rfl⟩) (by assumption) ?rest16x1017
                    try simp only [Act.put, List.setIfInBounds_toArray, List.set_cons_zero, List.set_cons_succ]
                    refine wpAnyH_take (i := 17) (oi := { dst := some 123, op := Op.fieldAddr 32 (Operand.tmp 122) 2, type := 0, pos := "more.go:34", after := #[{ on := 16, ground := Ground.data }, { on := 11, ground := Ground.guard }], guard := some (11, true) }) (v := undef) rfl (by kernel_rfl) (by kernel_rfl) (by kernel_rfl) (fun _ _ _ h => h) (Or.inr ⟨by rfl, rfl⟩) (by assumption) ?rest17x1018
                    try simp only [Act.put, List.setIfInBounds_toArray, List.set_cons_zero, List.set_cons_succ]
                    refine wpAnyH_take (i := 18) (oi := { dst := some 124, op := Op.load 30 (Operand.tmp 123), type := 30, pos := "more.go:34", after := #[{ on := 17, ground := Ground.data }, { on := 11, ground := Ground.guard }], guard := some (11, true) }) (v := undef) rfl (by kernel_rfl) (by kernel_rfl) (by kernel_rfl) (fun _ _ _ h => h) (Or.inr ⟨by rfl, rfl⟩) (by assumption) ?rest18x1019
                    try simp only [Act.put, List.setIfInBounds_toArray, List.set_cons_zero, List.set_cons_succ]
                    refine wpAnyH_take (i := 19) (oi := { dst := some 125, op := Op.call { callee := Callee.value (Operand.func 16), args := #[Operand.tmp 119, Operand.tmp 124], argTypes := #[30, 30] }, type := 4, pos := "more.go:34", after := #[{ on := 13, ground := Ground.data }, { on := 18, ground := Ground.data }, { on := 11, ground := Ground.chain }, { on := 11, ground := Ground.guard }], guard := some (11, true) }) (v := undef) rfl (by kernel_rfl) (by kernel_rfl) (by kernel_rfl) (fun _ _ _ h => h) (Or.inr ⟨by rfl, rfl⟩) (by assumption) ?rest19x1020
                    try simp only [Act.put, List.setIfInBounds_toArray, List.set_cons_zero, List.set_cons_succ]
                    refine wpAnyH_take (i := 20) (oi := { dst := some 126, op := Op.unOp UnOp.not 4 (Operand.tmp 125), type := 4, pos := "more.go:34", after := #[{ on := 19, ground := Ground.data }, { on := 11, ground := Ground.guard }], guard := some (11, true) }) (v := undef) rfl (by kernel_rfl) (by kernel_rfl) (by kernel_rfl) (fun _ _ _ h => h) (Or.inr ⟨by rfl, rfl⟩) (by assumption) ?rest20x1021
                    try simp only [Act.put, List.setIfInBounds_toArray, List.set_cons_zero, List.set_cons_succ]
                    refine wpAnyH_take (i := 21) (oi := { dst := some 127, op := Op.pick (Operand.tmp 117) (Operand.tmp 126) (Operand.const (Value.bool false)), type := 4, pos := "more.go:34", after := #[{ on := 11, ground := Ground.data }, { on := 20, ground := Ground.data }, { on := 8, ground := Ground.guard }], guard := some (8, false) }) (v := ?v21x1022) rfl (by kernel_rfl) (by kernel_rfl) (by kernel_rfl) (fun _ _ _ h => h) (Or.inl ⟨by rfl, ?hy21x1022⟩) (by assumption) ?rest21x1022
                    case hy21x1022 => (intro w hSw; (try dsimp only at hSw); (first | (go_simp; with_reducible rfl) | go_simp))
                    try simp only [Act.put, List.setIfInBounds_toArray, List.set_cons_zero, List.set_cons_succ]
                    refine wpAnyH_take (i := 22) (oi := { dst := some 128, op := Op.pick (Operand.tmp 114) (Operand.const (Value.bool true)) (Operand.tmp 127), type := 4, pos := "more.go:34", after := #[{ on := 8, ground := Ground.data }, { on := 21, ground := Ground.data }], guard := none }) (v := ?v22x1023) rfl (by kernel_rfl) (by kernel_rfl) (by kernel_rfl) (fun _ _ _ h => h) (Or.inl ⟨by rfl, ?hy22x1023⟩) (by assumption) ?rest22x1023
                    case hy22x1023 => (intro w hSw; (try dsimp only at hSw); (first | (go_simp; with_reducible rfl) | go_simp))
                    try simp only [Act.put, List.setIfInBounds_toArray, List.set_cons_zero, List.set_cons_succ]
                    refine wpAnyH_take (i := 23) (oi := { dst := some 129, op := Op.move (Operand.tmp 128), type := 4, pos := "more.go:34", after := #[{ on := 22, ground := Ground.data }, { on := 19, ground := Ground.chain }], guard := none }) (v := ?v23x1024) rfl (by kernel_rfl) (by kernel_rfl) (by kernel_rfl) (fun _ _ _ h => h) (Or.inl ⟨by rfl, ?hy23x1024⟩) (by assumption) ?rest23x1024
                    case hy23x1024 => (intro w hSw; (try dsimp only at hSw); (first | (go_simp; with_reducible rfl) | go_simp))
                    try simp only [Act.put, List.setIfInBounds_toArray, List.set_cons_zero, List.set_cons_succ]
                    refine wpAnyH_take (i := 24) (oi := { dst := some 130, op := Op.fieldAddr 41 (Operand.tmp 9) 0, type := 0, pos := "more.go:34", after := #[{ on := 23, ground := Ground.guard }], guard := some (23, false) }) (v := ?v24x1025) rfl (by kernel_rfl) (by kernel_rfl) (by kernel_rfl) (fun _ _ _ h => h) (Or.inl ⟨by rfl, ?hy24x1025⟩) (by assumption) ?rest24x1025
                    case hy24x1025 => (intro w hSw; (try dsimp only at hSw); (first | (go_simp; with_reducible rfl) | go_simp))
                    try simp only [Act.put, List.setIfInBounds_toArray, List.set_cons_zero, List.set_cons_succ]
                    refine wpAnyH_take (i := 25) (oi := { dst := some 131, op := Op.load 30 (Operand.tmp 130), type := 30, pos := "more.go:34", after := #[{ on := 24, ground := Ground.data }, { on := 23, ground := Ground.guard }], guard := some (23, false) }) (v := ?v25x1026) rfl (by kernel_rfl) (by kernel_rfl) (by kernel_rfl) (fun _ _ _ h => h) (Or.inl ⟨by rfl, ?hy25x1026⟩) (by assumption) ?rest25x1026
                    case hy25x1026 => (intro w hSw; (try dsimp only at hSw); (first | (go_simp; with_reducible rfl) | go_simp))
                    try simp only [Act.put, List.setIfInBounds_toArray, List.set_cons_zero, List.set_cons_succ]
                    refine wpAnyH_take (i := 26) (oi := { dst := some 132, op := Op.convert 30 9 (Operand.tmp 131), type := 9, pos := "more.go:34", after := #[{ on := 25, ground := Ground.data }, { on := 23, ground := Ground.guard }], guard := some (23, false) }) (v := ?v26x1027) rfl (by kernel_rfl) (by kernel_rfl) (by kernel_rfl) (fun _ _ _ h => h) (Or.inl ⟨by rfl, ?hy26x1027⟩) (by assumption) ?rest26x1027
                    case hy26x1027 => (intro w hSw; (try dsimp only at hSw); (first | (go_simp; with_reducible rfl) | go_simp))
                    try simp only [Act.put, List.setIfInBounds_toArray, List.set_cons_zero, List.set_cons_succ]
                    refine wpAnyH_take (i := 27) (oi := { dst := some 133, op := Op.move (Operand.tmp 0), type := 22, pos := "more.go:34", after := #[{ on := 23, ground := Ground.guard }], guard := some (23, false) }) (v := ?v27x1028) rfl (by kernel_rfl) (by kernel_rfl) (by kernel_rfl) (fun _ _ _ h => h) (Or.inl ⟨by rfl, ?hy27x1028⟩) (by assumption) ?rest27x1028
                    case hy27x1028 => (intro w hSw; (try dsimp only at hSw); (first | (go_simp; with_reducible rfl) | go_simp))
                    try simp only [Act.put, List.setIfInBounds_toArray, List.set_cons_zero, List.set_cons_succ]
                    refine wpAnyH_take (i := 28) (oi := { dst := some 134, op := Op.move (Operand.tmp 6), type := 3, pos := "more.go:34", after := #[{ on := 23, ground := Ground.guard }], guard := some (23, false) }) (v := ?v28x1029) rfl (by kernel_rfl) (by kernel_rfl) (by kernel_rfl) (fun _ _ _ h => h) (Or.inl ⟨by rfl, ?hy28x1029⟩) (by assumption) ?rest28x1029
                    case hy28x1029 => (intro w hSw; (try dsimp only at hSw); (first | (go_simp; with_reducible rfl) | go_simp))
                    try simp only [Act.put, List.setIfInBounds_toArray, List.set_cons_zero, List.set_cons_succ]
                    refine wpAnyH_take (i := 29) (oi := { dst := some 135, op := Op.indexAddr 22 (Operand.tmp 133) (Operand.tmp 134), type := 0, pos := "more.go:34", after := #[{ on := 27, ground := Ground.data }, { on := 28, ground := Ground.data }, { on := 23, ground := Ground.guard }], guard := some (23, false) }) (v := ?v29x1030) rfl (by kernel_rfl) (by kernel_rfl) (by kernel_rfl) (fun _ _ _ h => h) (Or.inl ⟨by rfl, ?hy29x1030⟩) (by assumption) ?rest29x1030
                    case hy29x1030 => (intro w hSw; (try dsimp only at hSw); (first | (go_simp; with_reducible rfl) | go_simp))
                    try simp only [Act.put, List.setIfInBounds_toArray, List.set_cons_zero, List.set_cons_succ]
                    refine wpAnyH_take (i := 30) (oi := { dst := some 136, op := Op.fieldAddr 32 (Operand.tmp 135) 1, type := 0, pos := "more.go:34", after := #[{ on := 29, ground := Ground.data }, { on := 23, ground := Ground.guard }], guard := some (23, false) }) (v := ?v30x1031) rfl (by kernel_rfl) (by kernel_rfl) (by kernel_rfl) (fun _ _ _ h => h) (Or.inl ⟨by rfl, ?hy30x1031⟩) (by assumption) ?rest30x1031
                    case hy30x1031 => (intro w hSw; (try dsimp only at hSw); (first | (go_simp; with_reducible rfl) | go_simp))
                    try simp only [Act.put, List.setIfInBounds_toArray, List.set_cons_zero, List.set_cons_succ]
                    refine wpAnyH_take (i := 31) (oi := { dst := some 137, op := Op.load 30 (Operand.tmp 136), type := 30, pos := "more.go:34", after := #[{ on := 30, ground := Ground.data }, { on := 23, ground := Ground.guard }], guard := some (23, false) }) (v := ?v31x1032) rfl (by kernel_rfl) (by kernel_rfl) (by kernel_rfl) (fun _ _ _ h => h) (Or.inl ⟨by rfl, ?hy31x1032⟩) (by assumption) ?rest31x1032
                    case hy31x1032 => (intro w hSw; (try dsimp only at hSw); (first | (go_simp; with_reducible rfl) | go_simp))
                    try simp only [Act.put, List.setIfInBounds_toArray, List.set_cons_zero, List.set_cons_succ]
                    refine wpAnyH_take (i := 32) (oi := { dst := some 138, op := Op.convert 30 9 (Operand.tmp 137), type := 9, pos := "more.go:34", after := #[{ on := 31, ground := Ground.data }, { on := 23, ground := Ground.guard }], guard := some (23, false) }) (v := ?v32x1033) rfl (by kernel_rfl) (by kernel_rfl) (by kernel_rfl) (fun _ _ _ h => h) (Or.inl ⟨by rfl, ?hy32x1033⟩) (by assumption) ?rest32x1033
                    case hy32x1033 => (intro w hSw; (try dsimp only at hSw); (first | (go_simp; with_reducible rfl) | go_simp))
                    try simp only [Act.put, List.setIfInBounds_toArray, List.set_cons_zero, List.set_cons_succ]
                    refine wpAnyH_take (i := 33) (oi := { dst := some 139, op := Op.binOp BinOp.neq 9 (Operand.tmp 132) (Operand.tmp 138) 9, type := 4, pos := "more.go:34", after := #[{ on := 26, ground := Ground.data }, { on := 32, ground := Ground.data }, { on := 23, ground := Ground.guard }], guard := some (23, false) }) (v := ?v33x1034) rfl (by kernel_rfl) (by kernel_rfl) (by kernel_rfl) (fun _ _ _ h => h) (Or.inl ⟨by rfl, ?hy33x1034⟩) (by assumption) ?rest33x1034
                    case hy33x1034 => (intro w hSw; (try dsimp only at hSw); (first | (go_simp; with_reducible rfl) | go_simp))
                    try simp only [Act.put, List.setIfInBounds_toArray, List.set_cons_zero, List.set_cons_succ]
                    refine wpAnyH_take (i := 34) (oi := { dst := some 140, op := Op.pick (Operand.tmp 129) (Operand.const (Value.bool true)) (Operand.tmp 139), type := 4, pos := "more.go:34", after := #[{ on := 23, ground := Ground.data }, { on := 33, ground := Ground.data }], guard := none }) (v := ?v34x1035) rfl (by kernel_rfl) (by kernel_rfl) (by kernel_rfl) (fun _ _ _ h => h) (Or.inl ⟨by rfl, ?hy34x1035⟩) (by assumption) ?rest34x1035
                    case hy34x1035 => (intro w hSw; (try dsimp only at hSw); (first | (go_simp; with_reducible rfl) | go_simp))
                    try simp only [Act.put, List.setIfInBounds_toArray, List.set_cons_zero, List.set_cons_succ]
                    refine wpAnyH_done (by kernel_rfl) ?_ _
                    refine NoPanic.normal ?_
                    go_wp2
                    refine ⟨⟨i + 1, by omega, by go_num, HBk.out.trans (Below.mono (HB6.out.drew) HBk.out.size)⟩, ?_⟩
                    simp [intOf]; omega
                  · have g1 : ((((z'.k : Int) % 8) == 2) : Bool) = false := by simp; omega
                    have hdel : Hid (y.e.del = false) := hide (by rw [HYe.out, saidE, if_neg hz2])
                    go_wp2
                    rw [← HW6.out]
                    have HS24 : Hid (∀ W : World, Below W6.heap.size W6 W → W.cell? ⟨w5.heap.size, 0, none⟩ = some (.slice y.ka y.e.key.length y.kc) ∧ W.cell? ⟨w5.heap.size, 1, none⟩ = some (.slice y.va y.e.val.length y.vc) ∧ W.cell? ⟨w5.heap.size, 2, none⟩ = some (.bool false) ∧ W.cell? ⟨b, off + l * 5 + 2, none⟩ = some (.slice z'.ka z'.kb.length z'.kc) ∧ W.cell? ⟨b, off + i * 5 + 1, none⟩ = some (.slice x'.da x'.db.length x'.dc) ∧ (convert 30 9 (.slice y.ka y.e.key.length y.kc)).run Try.prog W = .ok (.string (bk x'.db)) W ∧ (convert 30 9 (.slice x'.da x'.db.length x'.dc)).run Try.prog W = .ok (.string (bk x'.db)) W) := hide (fun W hW => by
                      have hWr := HB6.out.trans (hW.mono HB6.out.size)
                      obtain ⟨e0, e1, e2, _⟩ := cells_three ((hW.block _ (lt_of_block Hbx.out)).trans Hbx.out)
                      rw [hdel.out] at e2
                      have hkey : y.e.key = x'.db := by rw [HYe.out, HSaid.out, HZd.out]
                      have ht := text_inn (HY6.out.key.below hW)
                      rw [show bk y.e.key = bk x'.db by rw [hkey]] at ht
                      exact ⟨e0, e1, e2, (HCz.out W hWr).2, HCx.out W hWr, ht, text_inn (HAx.out W hWr)⟩)
                    have hse : ((bk x'.db).toList == (bk x'.db).toList) = true := beq_self_eq_true _
                    have hsn : ((bk x'.db).toList != (bk x'.db).toList) = false := by simp
                    have HS0 := hide (HS24.out W6.drew (Below.refl _ _).drew)
                    have hval : y.e.val = z'.kb := by rw [HYe.out, saidE, if_neg hz2]
                    have HSB : Hid (∀ W : World, Below W6.heap.size W6 W → Calls Try.prog 16 #[.slice y.va y.e.val.length y.vc, .slice z'.ka z'.kb.length z'.kc] W fun e w' => e = .returned (.bool true) ∧ Below W.heap.size W w') := hide (fun W hW => by
                      have h1 := HY6.out.val.below hW
                      have h2 := HAz.out W (HB6.out.trans (hW.mono HB6.out.size))
                      rw [← hval] at h2 ⊢
                      exact sameb_yes _ _ _ _ _ _ _ h1 h2)
                    clear hval
                    refine wp_region_noPanic ?_
                    refine wp_region_held_drew (S := (fun W => W.cell? ⟨w5.heap.size, 0, none⟩ = some (.slice y.ka y.e.key.length y.kc) ∧ W.cell? ⟨w5.heap.size, 1, none⟩ = some (.slice y.va y.e.val.length y.vc) ∧ W.cell? ⟨w5.heap.size, 2, none⟩ = some (.bool false) ∧ W.cell? ⟨b, off + l * 5 + 2, none⟩ = some (.slice z'.ka z'.kb.length z'.kc) ∧ W.cell? ⟨b, off + i * 5 + 1, none⟩ = some (.slice x'.da x'.db.length x'.dc) ∧ (convert 30 9 (.slice y.ka y.e.key.length y.kc)).run Try.prog W = .ok (.string (bk x'.db)) W ∧ (convert 30 9 (.slice x'.da x'.db.length x'.dc)).run Try.prog W = .ok (.string (bk x'.db)) W)) (by kernel_rfl) HS0.out (fun _hS => ?_)
                    refine wpAnyH_take (i := 0) (oi := { dst := some 106, op := Op.move (Operand.tmp 10), type := 4, pos := "more.go:34", after := #[], guard := none }) (v := ?v0x3001) rfl (by kernel_rfl) (by kernel_rfl) (by kernel_rfl) (fun _ _ _ h => h) (Or.inl ⟨by rfl, ?hy0x3001⟩) (by assumption) ?rest0x3001
                    case hy0x3001 => (intro w hSw; (try dsimp only at hSw); (first | (go_simp; with_reducible rfl) | go_simp))
                    try simp only [Act.put, List.setIfInBounds_toArray, List.set_cons_zero, List.set_cons_succ]
                    refine wpAnyH_take (i := 1) (oi := { dst := some 107, op := Op.unOp UnOp.not 4 (Operand.tmp 106), type := 4, pos := "more.go:34", after := #[{ on := 0, ground := Ground.data }], guard := none }) (v := ?v1x3002) rfl (by kernel_rfl) (by kernel_rfl) (by kernel_rfl) (fun _ _ _ h => h) (Or.inl ⟨by rfl, ?hy1x3002⟩) (by assumption) ?rest1x3002
                    case hy1x3002 => (intro w hSw; (try dsimp only at hSw); (first | (go_simp; with_reducible rfl) | go_simp))
                    try simp only [Act.put, List.setIfInBounds_toArray, List.set_cons_zero, List.set_cons_succ]
                    refine wpAnyH_take (i := 2) (oi := { dst := some 108, op := Op.move (Operand.tmp 107), type := 4, pos := "more.go:34", after := #[{ on := 1, ground := Ground.data }], guard := none }) (v := ?v2x3003) rfl (by kernel_rfl) (by kernel_rfl) (by kernel_rfl) (fun _ _ _ h => h) (Or.inl ⟨by rfl, ?hy2x3003⟩) (by assumption) ?rest2x3003
                    case hy2x3003 => (intro w hSw; (try dsimp only at hSw); (first | (go_simp; with_reducible rfl) | go_simp))
                    try simp only [Act.put, List.setIfInBounds_toArray, List.set_cons_zero, List.set_cons_succ]
                    refine wpAnyH_take (i := 3) (oi := { dst := some 109, op := Op.fieldAddr 41 (Operand.tmp 9) 2, type := 0, pos := "more.go:34", after := #[{ on := 2, ground := Ground.guard }], guard := some (2, false) }) (v := ?v3x3004) rfl (by kernel_rfl) (by kernel_rfl) (by kernel_rfl) (fun _ _ _ h => h) (Or.inl ⟨by rfl, ?hy3x3004⟩) (by assumption) ?rest3x3004
                    case hy3x3004 => (intro w hSw; (try dsimp only at hSw); (first | (go_simp; with_reducible rfl) | go_simp))
                    try simp only [Act.put, List.setIfInBounds_toArray, List.set_cons_zero, List.set_cons_succ]
                    refine wpAnyH_take (i := 4) (oi := { dst := some 110, op := Op.load 4 (Operand.tmp 109), type := 4, pos := "more.go:34", after := #[{ on := 3, ground := Ground.data }, { on := 2, ground := Ground.guard }], guard := some (2, false) }) (v := ?v4x3005) rfl (by kernel_rfl) (by kernel_rfl) (by kernel_rfl) (fun _ _ _ h => h) (Or.inl ⟨by rfl, ?hy4x3005⟩) (by assumption) ?rest4x3005
                    case hy4x3005 => (intro w hSw; (try dsimp only at hSw); (first | (go_simp; with_reducible rfl) | go_simp))
                    try simp only [Act.put, List.setIfInBounds_toArray, List.set_cons_zero, List.set_cons_succ]
                    refine wpAnyH_take (i := 5) (oi := { dst := some 111, op := Op.move (Operand.tmp 11), type := 4, pos := "more.go:34", after := #[{ on := 2, ground := Ground.guard }], guard := some (2, false) }) (v := ?v5x3006) rfl (by kernel_rfl) (by kernel_rfl) (by kernel_rfl) (fun _ _ _ h => h) (Or.inl ⟨by rfl, ?hy5x3006⟩) (by assumption) ?rest5x3006
                    case hy5x3006 => (intro w hSw; (try dsimp only at hSw); (first | (go_simp; with_reducible rfl) | go_simp))
                    try simp only [Act.put, List.setIfInBounds_toArray, List.set_cons_zero, List.set_cons_succ]
                    refine wpAnyH_take (i := 6) (oi := { dst := some 112, op := Op.binOp BinOp.neq 4 (Operand.tmp 110) (Operand.tmp 111) 4, type := 4, pos := "more.go:34", after := #[{ on := 4, ground := Ground.data }, { on := 5, ground := Ground.data }, { on := 2, ground := Ground.guard }], guard := some (2, false) }) (v := ?v6x3007) rfl (by kernel_rfl) (by kernel_rfl) (by kernel_rfl) (fun _ _ _ h => h) (Or.inl ⟨by rfl, ?hy6x3007⟩) (by assumption) ?rest6x3007
                    case hy6x3007 => (intro w hSw; (try dsimp only at hSw); (first | (go_simp; with_reducible rfl) | go_simp))
                    try simp only [Act.put, List.setIfInBounds_toArray, List.set_cons_zero, List.set_cons_succ]
                    refine wpAnyH_take (i := 7) (oi := { dst := some 113, op := Op.pick (Operand.tmp 108) (Operand.const (Value.bool true)) (Operand.tmp 112), type := 4, pos := "more.go:34", after := #[{ on := 2, ground := Ground.data }, { on := 6, ground := Ground.data }], guard := none }) (v := ?v7x3008) rfl (by kernel_rfl) (by kernel_rfl) (by kernel_rfl) (fun _ _ _ h => h) (Or.inl ⟨by rfl, ?hy7x3008⟩) (by assumption) ?rest7x3008
                    case hy7x3008 => (intro w hSw; (try dsimp only at hSw); (first | (go_simp; with_reducible rfl) | go_simp))
                    try simp only [Act.put, List.setIfInBounds_toArray, List.set_cons_zero, List.set_cons_succ]
                    refine wpAnyH_take (i := 8) (oi := { dst := some 114, op := Op.move (Operand.tmp 113), type := 4, pos := "more.go:34", after := #[{ on := 7, ground := Ground.data }, { on := 2, ground := Ground.chain }], guard := none }) (v := ?v8x3009) rfl (by kernel_rfl) (by kernel_rfl) (by kernel_rfl) (fun _ _ _ h => h) (Or.inl ⟨by rfl, ?hy8x3009⟩) (by assumption) ?rest8x3009
                    case hy8x3009 => (intro w hSw; (try dsimp only at hSw); (first | (go_simp; with_reducible rfl) | go_simp))
                    try simp only [Act.put, List.setIfInBounds_toArray, List.set_cons_zero, List.set_cons_succ]
                    refine wpAnyH_take (i := 9) (oi := { dst := some 115, op := Op.move (Operand.tmp 11), type := 4, pos := "more.go:34", after := #[{ on := 8, ground := Ground.guard }], guard := some (8, false) }) (v := ?v9x3010) rfl (by kernel_rfl) (by kernel_rfl) (by kernel_rfl) (fun _ _ _ h => h) (Or.inl ⟨by rfl, ?hy9x3010⟩) (by assumption) ?rest9x3010
                    case hy9x3010 => (intro w hSw; (try dsimp only at hSw); (first | (go_simp; with_reducible rfl) | go_simp))
                    try simp only [Act.put, List.setIfInBounds_toArray, List.set_cons_zero, List.set_cons_succ]
                    refine wpAnyH_take (i := 10) (oi := { dst := some 116, op := Op.unOp UnOp.not 4 (Operand.tmp 115), type := 4, pos := "more.go:34", after := #[{ on := 9, ground := Ground.data }, { on := 8, ground := Ground.guard }], guard := some (8, false) }) (v := ?v10x3011) rfl (by kernel_rfl) (by kernel_rfl) (by kernel_rfl) (fun _ _ _ h => h) (Or.inl ⟨by rfl, ?hy10x3011⟩) (by assumption) ?rest10x3011
                    case hy10x3011 => (intro w hSw; (try dsimp only at hSw); (first | (go_simp; with_reducible rfl) | go_simp))
                    try simp only [Act.put, List.setIfInBounds_toArray, List.set_cons_zero, List.set_cons_succ]
                    refine wpAnyH_take (i := 11) (oi := { dst := some 117, op := Op.move (Operand.tmp 116), type := 4, pos := "more.go:34", after := #[{ on := 10, ground := Ground.data }, { on := 8, ground := Ground.chain }, { on := 8, ground := Ground.guard }], guard := some (8, false) }) (v := ?v11x3012) rfl (by kernel_rfl) (by kernel_rfl) (by kernel_rfl) (fun _ _ _ h => h) (Or.inl ⟨by rfl, ?hy11x3012⟩) (by assumption) ?rest11x3012
                    case hy11x3012 => (intro w hSw; (try dsimp only at hSw); (first | (go_simp; with_reducible rfl) | go_simp))
                    try simp only [Act.put, List.setIfInBounds_toArray, List.set_cons_zero, List.set_cons_succ]
                    refine wpAnyH_take (i := 12) (oi := { dst := some 118, op := Op.fieldAddr 41 (Operand.tmp 9) 1, type := 0, pos := "more.go:34", after := #[{ on := 11, ground := Ground.guard }], guard := some (11, true) }) (v := ?v12x3013) rfl (by kernel_rfl) (by kernel_rfl) (by kernel_rfl) (fun _ _ _ h => h) (Or.inl ⟨by rfl, ?hy12x3013⟩) (by assumption) ?rest12x3013
                    case hy12x3013 => (intro w hSw; (try dsimp only at hSw); (first | (go_simp; with_reducible rfl) | go_simp))
                    try simp only [Act.put, List.setIfInBounds_toArray, List.set_cons_zero, List.set_cons_succ]
                    refine wpAnyH_take (i := 13) (oi := { dst := some 119, op := Op.load 30 (Operand.tmp 118), type := 30, pos := "more.go:34", after := #[{ on := 12, ground := Ground.data }, { on := 11, ground := Ground.guard }], guard := some (11, true) }) (v := ?v13x3014) rfl (by kernel_rfl) (by kernel_rfl) (by kernel_rfl) (fun _ _ _ h => h) (Or.inl ⟨by rfl, ?hy13x3014⟩) (by assumption) ?rest13x3014
                    case hy13x3014 => (intro w hSw; (try dsimp only at hSw); (first | (go_simp; with_reducible rfl) | go_simp))
                    try simp only [Act.put, List.setIfInBounds_toArray, List.set_cons_zero, List.set_cons_succ]
                    refine wpAnyH_take (i := 14) (oi := { dst := some 120, op := Op.move (Operand.tmp 0), type := 22, pos := "more.go:34", after := #[{ on := 11, ground := Ground.guard }], guard := some (11, true) }) (v := ?v14x3015) rfl (by kernel_rfl) (by kernel_rfl) (by kernel_rfl) (fun _ _ _ h => h) (Or.inl ⟨by rfl, ?hy14x3015⟩) (by assumption) ?rest14x3015
                    case hy14x3015 => (intro w hSw; (try dsimp only at hSw); (first | (go_simp; with_reducible rfl) | go_simp))
                    try simp only [Act.put, List.setIfInBounds_toArray, List.set_cons_zero, List.set_cons_succ]
                    refine wpAnyH_take (i := 15) (oi := { dst := some 121, op := Op.move (Operand.tmp 7), type := 3, pos := "more.go:34", after := #[{ on := 11, ground := Ground.guard }], guard := some (11, true) }) (v := ?v15x3016) rfl (by kernel_rfl) (by kernel_rfl) (by kernel_rfl) (fun _ _ _ h => h) (Or.inl ⟨by rfl, ?hy15x3016⟩) (by assumption) ?rest15x3016
                    case hy15x3016 => (intro w hSw; (try dsimp only at hSw); (first | (go_simp; with_reducible rfl) | go_simp))
                    try simp only [Act.put, List.setIfInBounds_toArray, List.set_cons_zero, List.set_cons_succ]
                    refine wpAnyH_take (i := 16) (oi := { dst := some 122, op := Op.indexAddr 22 (Operand.tmp 120) (Operand.tmp 121), type := 0, pos := "more.go:34", after := #[{ on := 14, ground := Ground.data }, { on := 15, ground := Ground.data }, { on := 11, ground := Ground.guard }], guard := some (11, true) }) (v := ?v16x3017) rfl (by kernel_rfl) (by kernel_rfl) (by kernel_rfl) (fun _ _ _ h => h) (Or.inl ⟨by rfl, ?hy16x3017⟩) (by assumption) ?rest16x3017
                    case hy16x3017 => (intro w hSw; (try dsimp only at hSw); (first | (go_simp; with_reducible rfl) | go_simp))
                    try simp only [Act.put, List.setIfInBounds_toArray, List.set_cons_zero, List.set_cons_succ]
                    refine wpAnyH_take (i := 17) (oi := { dst := some 123, op := Op.fieldAddr 32 (Operand.tmp 122) 2, type := 0, pos := "more.go:34", after := #[{ on := 16, ground := Ground.data }, { on := 11, ground := Ground.guard }], guard := some (11, true) }) (v := ?v17x3018) rfl (by kernel_rfl) (by kernel_rfl) (by kernel_rfl) (fun _ _ _ h => h) (Or.inl ⟨by rfl, ?hy17x3018⟩) (by assumption) ?rest17x3018
                    case hy17x3018 => (intro w hSw; (try dsimp only at hSw); (first | (go_simp; with_reducible rfl) | go_simp))
                    try simp only [Act.put, List.setIfInBounds_toArray, List.set_cons_zero, List.set_cons_succ]
                    refine wpAnyH_take (i := 18) (oi := { dst := some 124, op := Op.load 30 (Operand.tmp 123), type := 30, pos := "more.go:34", after := #[{ on := 17, ground := Ground.data }, { on := 11, ground := Ground.guard }], guard := some (11, true) }) (v := ?v18x3019) rfl (by kernel_rfl) (by kernel_rfl) (by kernel_rfl) (fun _ _ _ h => h) (Or.inl ⟨by rfl, ?hy18x3019⟩) (by assumption) ?rest18x3019
                    case hy18x3019 => (intro w hSw; (try dsimp only at hSw); (first | (go_simp; with_reducible rfl) | go_simp))
                    try simp only [Act.put, List.setIfInBounds_toArray, List.set_cons_zero, List.set_cons_succ]
                    refine wpAnyH_ready (rs := [19]) (by kernel_rfl) (by simp) ?_
                    refine AllReadyH.cons (o := { dst := some 125, op := Op.call { callee := Callee.value (Operand.func 16), args := #[Operand.tmp 119, Operand.tmp 124], argTypes := #[30, 30] }, type := 4, pos := "more.go:34", after := #[{ on := 13, ground := Ground.data }, { on := 18, ground := Ground.data }, { on := 11, ground := Ground.chain }, { on := 11, ground := Ground.guard }], guard := some (11, true) }) rfl (fun K hK => ?_) (AllReadyH.nil)
                    go_simp
                    go_at_call 16
                    refine (HSB.out _ (Below.refl _ _).drew).mono ?_
                    rintro e w7 ⟨rfl, hb7⟩
                    have HB7 := hide ((Below.refl W6.heap.size W6).drew.trans hb7)
                    have HS7 := hide (HS24.out w7 HB7.out)
                    clear hb7
                    go_simp
                    refine hK.out _ _ ?_ (fun _hS => ?_)
                    · exact HS7.out
                    clear hK K
                    try simp only [Act.put, List.setIfInBounds_toArray, List.set_cons_zero, List.set_cons_succ]
                    refine wpAnyH_take (i := 20) (oi := { dst := some 126, op := Op.unOp UnOp.not 4 (Operand.tmp 125), type := 4, pos := "more.go:34", after := #[{ on := 19, ground := Ground.data }, { on := 11, ground := Ground.guard }], guard := some (11, true) }) (v := ?v20x3020) rfl (by kernel_rfl) (by kernel_rfl) (by kernel_rfl) (fun _ _ _ h => h) (Or.inl ⟨by rfl, ?hy20x3020⟩) (by assumption) ?rest20x3020
                    case hy20x3020 => (intro w hSw; (try dsimp only at hSw); (first | (go_simp; with_reducible rfl) | go_simp))
                    try simp only [Act.put, List.setIfInBounds_toArray, List.set_cons_zero, List.set_cons_succ]
                    refine wpAnyH_take (i := 21) (oi := { dst := some 127, op := Op.pick (Operand.tmp 117) (Operand.tmp 126) (Operand.const (Value.bool false)), type := 4, pos := "more.go:34", after := #[{ on := 11, ground := Ground.data }, { on := 20, ground := Ground.data }, { on := 8, ground := Ground.guard }], guard := some (8, false) }) (v := ?v21x3021) rfl (by kernel_rfl) (by kernel_rfl) (by kernel_rfl) (fun _ _ _ h => h) (Or.inl ⟨by rfl, ?hy21x3021⟩) (by assumption) ?rest21x3021
                    case hy21x3021 => (intro w hSw; (try dsimp only at hSw); (first | (go_simp; with_reducible rfl) | go_simp))
                    try simp only [Act.put, List.setIfInBounds_toArray, List.set_cons_zero, List.set_cons_succ]
                    refine wpAnyH_take (i := 22) (oi := { dst := some 128, op := Op.pick (Operand.tmp 114) (Operand.const (Value.bool true)) (Operand.tmp 127), type := 4, pos := "more.go:34", after := #[{ on := 8, ground := Ground.data }, { on := 21, ground := Ground.data }], guard := none }) (v := ?v22x3022) rfl (by kernel_rfl) (by kernel_rfl) (by kernel_rfl) (fun _ _ _ h => h) (Or.inl ⟨by rfl, ?hy22x3022⟩) (by assumption) ?rest22x3022
                    case hy22x3022 => (intro w hSw; (try dsimp only at hSw); (first | (go_simp; with_reducible rfl) | go_simp))
                    try simp only [Act.put, List.setIfInBounds_toArray, List.set_cons_zero, List.set_cons_succ]
                    refine wpAnyH_take (i := 23) (oi := { dst := some 129, op := Op.move (Operand.tmp 128), type := 4, pos := "more.go:34", after := #[{ on := 22, ground := Ground.data }, { on := 19, ground := Ground.chain }], guard := none }) (v := ?v23x3023) rfl (by kernel_rfl) (by kernel_rfl) (by kernel_rfl) (fun _ _ _ h => h) (Or.inl ⟨by rfl, ?hy23x3023⟩) (by assumption) ?rest23x3023
                    case hy23x3023 => (intro w hSw; (try dsimp only at hSw); (first | (go_simp; with_reducible rfl) | go_simp))
                    try simp only [Act.put, List.setIfInBounds_toArray, List.set_cons_zero, List.set_cons_succ]
                    refine wpAnyH_take (i := 24) (oi := { dst := some 130, op := Op.fieldAddr 41 (Operand.tmp 9) 0, type := 0, pos := "more.go:34", after := #[{ on := 23, ground := Ground.guard }], guard := some (23, false) }) (v := ?v24x3024) rfl (by kernel_rfl) (by kernel_rfl) (by kernel_rfl) (fun _ _ _ h => h) (Or.inl ⟨by rfl, ?hy24x3024⟩) (by assumption) ?rest24x3024
                    case hy24x3024 => (intro w hSw; (try dsimp only at hSw); (first | (go_simp; with_reducible rfl) | go_simp))
                    try simp only [Act.put, List.setIfInBounds_toArray, List.set_cons_zero, List.set_cons_succ]
                    refine wpAnyH_take (i := 25) (oi := { dst := some 131, op := Op.load 30 (Operand.tmp 130), type := 30, pos := "more.go:34", after := #[{ on := 24, ground := Ground.data }, { on := 23, ground := Ground.guard }], guard := some (23, false) }) (v := ?v25x3025) rfl (by kernel_rfl) (by kernel_rfl) (by kernel_rfl) (fun _ _ _ h => h) (Or.inl ⟨by rfl, ?hy25x3025⟩) (by assumption) ?rest25x3025
                    case hy25x3025 => (intro w hSw; (try dsimp only at hSw); (first | (go_simp; with_reducible rfl) | go_simp))
                    try simp only [Act.put, List.setIfInBounds_toArray, List.set_cons_zero, List.set_cons_succ]
                    refine wpAnyH_take (i := 26) (oi := { dst := some 132, op := Op.convert 30 9 (Operand.tmp 131), type := 9, pos := "more.go:34", after := #[{ on := 25, ground := Ground.data }, { on := 23, ground := Ground.guard }], guard := some (23, false) }) (v := ?v26x3026) rfl (by kernel_rfl) (by kernel_rfl) (by kernel_rfl) (fun _ _ _ h => h) (Or.inl ⟨by rfl, ?hy26x3026⟩) (by assumption) ?rest26x3026
                    case hy26x3026 => (intro w hSw; (try dsimp only at hSw); (first | (go_simp; with_reducible rfl) | go_simp))
                    try simp only [Act.put, List.setIfInBounds_toArray, List.set_cons_zero, List.set_cons_succ]
                    refine wpAnyH_take (i := 27) (oi := { dst := some 133, op := Op.move (Operand.tmp 0), type := 22, pos := "more.go:34", after := #[{ on := 23, ground := Ground.guard }], guard := some (23, false) }) (v := ?v27x3027) rfl (by kernel_rfl) (by kernel_rfl) (by kernel_rfl) (fun _ _ _ h => h) (Or.inl ⟨by rfl, ?hy27x3027⟩) (by assumption) ?rest27x3027
                    case hy27x3027 => (intro w hSw; (try dsimp only at hSw); (first | (go_simp; with_reducible rfl) | go_simp))
                    try simp only [Act.put, List.setIfInBounds_toArray, List.set_cons_zero, List.set_cons_succ]
                    refine wpAnyH_take (i := 28) (oi := { dst := some 134, op := Op.move (Operand.tmp 6), type := 3, pos := "more.go:34", after := #[{ on := 23, ground := Ground.guard }], guard := some (23, false) }) (v := ?v28x3028) rfl (by kernel_rfl) (by kernel_rfl) (by kernel_rfl) (fun _ _ _ h => h) (Or.inl ⟨by rfl, ?hy28x3028⟩) (by assumption) ?rest28x3028
                    case hy28x3028 => (intro w hSw; (try dsimp only at hSw); (first | (go_simp; with_reducible rfl) | go_simp))
                    try simp only [Act.put, List.setIfInBounds_toArray, List.set_cons_zero, List.set_cons_succ]
                    refine wpAnyH_take (i := 29) (oi := { dst := some 135, op := Op.indexAddr 22 (Operand.tmp 133) (Operand.tmp 134), type := 0, pos := "more.go:34", after := #[{ on := 27, ground := Ground.data }, { on := 28, ground := Ground.data }, { on := 23, ground := Ground.guard }], guard := some (23, false) }) (v := ?v29x3029) rfl (by kernel_rfl) (by kernel_rfl) (by kernel_rfl) (fun _ _ _ h => h) (Or.inl ⟨by rfl, ?hy29x3029⟩) (by assumption) ?rest29x3029
                    case hy29x3029 => (intro w hSw; (try dsimp only at hSw); (first | (go_simp; with_reducible rfl) | go_simp))
                    try simp only [Act.put, List.setIfInBounds_toArray, List.set_cons_zero, List.set_cons_succ]
                    refine wpAnyH_take (i := 30) (oi := { dst := some 136, op := Op.fieldAddr 32 (Operand.tmp 135) 1, type := 0, pos := "more.go:34", after := #[{ on := 29, ground := Ground.data }, { on := 23, ground := Ground.guard }], guard := some (23, false) }) (v := ?v30x3030) rfl (by kernel_rfl) (by kernel_rfl) (by kernel_rfl) (fun _ _ _ h => h) (Or.inl ⟨by rfl, ?hy30x3030⟩) (by assumption) ?rest30x3030
                    case hy30x3030 => (intro w hSw; (try dsimp only at hSw); (first | (go_simp; with_reducible rfl) | go_simp))
                    try simp only [Act.put, List.setIfInBounds_toArray, List.set_cons_zero, List.set_cons_succ]
                    refine wpAnyH_take (i := 31) (oi := { dst := some 137, op := Op.load 30 (Operand.tmp 136), type := 30, pos := "more.go:34", after := #[{ on := 30, ground := Ground.data }, { on := 23, ground := Ground.guard }], guard := some (23, false) }) (v := ?v31x3031) rfl (by kernel_rfl) (by kernel_rfl) (by kernel_rfl) (fun _ _ _ h => h) (Or.inl ⟨by rfl, ?hy31x3031⟩) (by assumption) ?rest31x3031
                    case hy31x3031 => (intro w hSw; (try dsimp only at hSw); (first | (go_simp; with_reducible rfl) | go_simp))
                    try simp only [Act.put, List.setIfInBounds_toArray, List.set_cons_zero, List.set_cons_succ]
                    refine wpAnyH_take (i := 32) (oi := { dst := some 138, op := Op.convert 30 9 (Operand.tmp 137), type := 9, pos := "more.go:34", after := #[{ on := 31, ground := Ground.data }, { on := 23, ground := Ground.guard }], guard := some (23, false) }) (v := ?v32x3032) rfl (by kernel_rfl) (by kernel_rfl) (by kernel_rfl) (fun _ _ _ h => h) (Or.inl ⟨by rfl, ?hy32x3032⟩) (by assumption) ?rest32x3032
                    case hy32x3032 => (intro w hSw; (try dsimp only at hSw); (first | (go_simp; with_reducible rfl) | go_simp))
                    try simp only [Act.put, List.setIfInBounds_toArray, List.set_cons_zero, List.set_cons_succ]
                    refine wpAnyH_take (i := 33) (oi := { dst := some 139, op := Op.binOp BinOp.neq 9 (Operand.tmp 132) (Operand.tmp 138) 9, type := 4, pos := "more.go:34", after := #[{ on := 26, ground := Ground.data }, { on := 32, ground := Ground.data }, { on := 23, ground := Ground.guard }], guard := some (23, false) }) (v := ?v33x3033) rfl (by kernel_rfl) (by kernel_rfl) (by kernel_rfl) (fun _ _ _ h => h) (Or.inl ⟨by rfl, ?hy33x3033⟩) (by assumption) ?rest33x3033
                    case hy33x3033 => (intro w hSw; (try dsimp only at hSw); (first | (go_simp; with_reducible rfl) | go_simp))
                    try simp only [Act.put, List.setIfInBounds_toArray, List.set_cons_zero, List.set_cons_succ]
                    refine wpAnyH_take (i := 34) (oi := { dst := some 140, op := Op.pick (Operand.tmp 129) (Operand.const (Value.bool true)) (Operand.tmp 139), type := 4, pos := "more.go:34", after := #[{ on := 23, ground := Ground.data }, { on := 33, ground := Ground.data }], guard := none }) (v := ?v34x3034) rfl (by kernel_rfl) (by kernel_rfl) (by kernel_rfl) (fun _ _ _ h => h) (Or.inl ⟨by rfl, ?hy34x3034⟩) (by assumption) ?rest34x3034
                    case hy34x3034 => (intro w hSw; (try dsimp only at hSw); (first | (go_simp; with_reducible rfl) | go_simp))
                    try simp only [Act.put, List.setIfInBounds_toArray, List.set_cons_zero, List.set_cons_succ]
                    refine wpAnyH_done (by kernel_rfl) ?_ _
                    refine NoPanic.normal ?_
                    go_wp2
                    refine ⟨⟨i + 1, by omega, by go_num, HBk.out.trans (Below.mono (HB6.out.trans (HB7.out.mono HB6.out.size)) HBk.out.size)⟩, ?_⟩
                    simp [intOf]; omega
            · have e1 : (2 : Int) < (x.k : Int) % 8 := by omega
              go_wp2
              refine ⟨⟨i + 1, by omega, by go_num, HBi.out⟩, ?_⟩
              simp [intOf]; omega
          · have d1 : ¬ ((i : Int) < (n : Int)) := by omega
            have hL := len_st (HST4.out.below HBi.out)
            have hM := mark_any (HST4.out.below HBi.out)
            rw [← HMm.out] at hL
            have HL := hide hL
            have HM := hide hM
            have e1 : (m : Int) ≤ (sayN xs : Int) := by have := HSL.out; omega
            clear hL hM
            go_wp2_with (first | (go_at_call 13; refine HL.out.mono ?_; rintro e w7 ⟨rfl, rfl⟩) | (go_at_call 8; refine HM.out.mono ?_; rintro e w8 ⟨rfl, rfl⟩) | fail)
            go_ret
            exact ⟨rfl, HB4.out.trans (HBi.out.mono HB4.out.size)⟩
end Go.Proofs.Ytjccfbjdngjhfaa
