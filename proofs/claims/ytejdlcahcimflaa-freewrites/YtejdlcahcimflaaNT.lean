/- The document's own Encode. -/
import Derived.Test.YtejdlcahcimflaaNS
namespace Go.Proofs.Ytejdlcahcimflaa
open Go.RowKit Go.Maps
set_option linter.unusedVariables false
variable {w w' : World}
theorem enc_bad {zs ys : List Nat} (hg : ¬ egood zs ys) (hb : Below w.heap.size w w') : EncOut w zs ys (.returned (.tuple #[.slice none 0 0, .int .u16 110])) w' := by
  have hN : encN zs ys = 0 := by unfold encN; rw [if_neg hg]
  have hE : encE zs ys = 110 := by unfold encE; rw [if_neg hg]
  exact ⟨⟨_, none, 0, [], by rw [hN], by rw [hE]; rfl, by rw [hN]; rfl, Rb.Ro.nil _ _ _⟩, hb⟩
set_option maxHeartbeats 3200000 in
set_option maxRecDepth 1000000 in
theorem rencode_any (w : World) (a a' : Option Addr) (n c n' c' : Nat) (zs ys : List Nat) (hl : zs.length = n) (hn : n ≤ 300000) (hr : Rw w a zs) (hz : W32 zs) (hl' : ys.length = n') (hn' : n' ≤ 300000) (hr' : Rw w a' ys) (hz' : W32 ys) :
    Calls Try.prog 8 #[.slice a n c, .slice a' n' c'] w (EncOut w zs ys) := by
  have HI := hide (rrises_any w a n c zs hl (by omega) hr hz)
  obtain ⟨d, hd⟩ : ∃ d, d = (n + 250) / 251 := ⟨_, rfl⟩
  have hdb : d ≤ 300000 := by omega
  have HNd : Hid (∀ W, Calls Try.prog 17 #[.int .i64 (n : Int)] W fun e w' => e = .returned (.int .i64 (d : Int)) ∧ w' = W) := fun W => by
    have := rneed_z W (n : Int) (by omega) (by omega)
    rw [needZ_nat, ← hd] at this
    exact this
  have HL := hide hl
  have HR := hide hr
  have HZ := hide hz
  have HL' := hide hl'
  have HR' := hide hr'
  have HZ' := hide hz'
  have HD := hide hd
  clear hl hr hz hl' hr' hz' hd
  by_cases h1 : (rise zs && zs.all okp) = true
  · have H1 := hide h1
    rw [h1] at HI
    clear h1
    by_cases h2 : n' < d
    · have q1 : (n' : Int) < (d : Int) := by omega
      go_enter Try.func8, Try.ntmps8
      go_wp2_with (first
        | (go_at_call 22; refine HI.out.mono ?_; rintro e w1 ⟨rfl, hs1⟩; have HS1 := hide hs1; clear hs1)
        | (go_at_call 17; refine (HNd.out _).mono ?_; rintro e w2 ⟨rfl, hw2⟩; rw [hw2]; clear hw2 w2))
      go_ret2
      exact enc_bad (fun h => by have := h.2.2; have := HL.out; have := HL'.out; have := HD.out; omega) HS1.out.below
    · by_cases h3 : d + 1 < n'
      · have q1 : ¬ (n' : Int) < (d : Int) := by omega
        have q2 : (d : Int) + 1 < (n' : Int) := by omega
        go_enter Try.func8, Try.ntmps8
        go_wp2_with (first
          | (go_at_call 22; refine HI.out.mono ?_; rintro e w1 ⟨rfl, hs1⟩; have HS1 := hide hs1; clear hs1)
          | (go_at_call 17; refine (HNd.out _).mono ?_; rintro e w2 ⟨rfl, hw2⟩; rw [hw2]; clear hw2 w2))
        go_ret2
        exact enc_bad (fun h => by have := h.2.2; have := HL.out; have := HL'.out; have := HD.out; omega) HS1.out.below
      · have q1 : ¬ (n' : Int) < (d : Int) := by omega
        have q2 : ¬ (d : Int) + 1 < (n' : Int) := by omega
        go_enter Try.func8, Try.ntmps8
        go_wp2_with (first
          | (go_at_call 22; refine HI.out.mono ?_; rintro e w1 ⟨rfl, hs1⟩; have HS1 := hide hs1; clear hs1)
          | (go_at_call 17; refine (HNd.out _).mono ?_; rintro e w2 ⟨rfl, hw2⟩; rw [hw2]; clear hw2 w2))
        clear HI HNd
        go_loop [7] (fun i => ∃ k : Nat, k ≤ n' ∧ i = .int .i64 k ∧ ∀ j, j < k → okp (ys.getD j 0) = true) (fun i => n' - (intOf i).toNat)
        case atStart => exact ⟨0, Nat.zero_le _, rfl, fun j hj => by omega⟩
        case round =>
          obtain ⟨k, hk, rfl, hall⟩ := hrel
          have HA := hide hall
          clear hall
          by_cases hlt : k < n'
          · have hlk : k < ys.length := by have := HL'.out; omega
            have hkn : (k : Int) < (n' : Int) := by omega
            have hzk := HZ'.out.at k
            rcases HR'.out.below HS1.out.below with h0 | ⟨b, o, rfl, _, hcc⟩
            · subst h0; simp at hlk
            have g1 := hcc k hlk
            have HWr := hide (fun W => rwrong_any W (ys.getD k 0) hzk)
            by_cases hy : okp (ys.getD k 0) = true
            · rw [hy] at HWr
              have HOn : Hid (∀ j, j < k + 1 → okp (ys.getD j 0) = true) := fun j hj => by
                by_cases e : j = k
                · subst e; exact hy
                · exact HA.out j (by omega)
              clear hy hcc hlk
              generalize ys.getD k 0 = y at g1 HWr hzk
              go_wp2_with (go_at_call 23; refine (HWr.out _).mono ?_; rintro e w2 ⟨rfl, hw2⟩; rw [hw2]; clear hw2 w2)
              go_round
              case rel => exact ⟨k + 1, by omega, by go_num, HOn.out⟩
              case measure => simp [intOf]; omega
            · rw [bool_false hy] at HWr
              have HNg : Hid (¬ egood zs ys) := fun h => hy (all_at.1 h.2.1 k hlk)
              clear hy hcc hlk
              generalize ys.getD k 0 = y at g1 HWr hzk
              go_wp2_with (go_at_call 23; refine (HWr.out _).mono ?_; rintro e w2 ⟨rfl, hw2⟩; rw [hw2]; clear hw2 w2)
              go_ret2
              exact enc_bad HNg.out HS1.out.below
          · obtain rfl : k = n' := by omega
            have hkn : ¬ (k : Int) < (k : Int) := by omega
            have HEg : Hid (egood zs ys) := ⟨H1.out, all_at.2 (fun i hi => HA.out i (by have := HL'.out; omega)), by have := HL.out; have := HL'.out; have := HD.out; omega⟩
            go_wp2
            obtain ⟨i0, hi, hz0, hz1, hz2⟩ := info_parts infoBy
            have hSw : w1.heap.size = w.heap.size := by rw [HS1.out.heap]
            go_loopw [10, 9] (fun i u wr => ∃ (j : Nat) (v : Value) (vs : List Value), j ≤ k ∧ i = .int .i64 j ∧ u = v ∧ vs.length = j ∧ Rb.Ro wr v w.heap.size vs (pay zs ys) ∧ Below w.heap.size w wr) (fun i _ _ => k - (intOf i).toNat)
            case atStart => exact ⟨0, _, [], Nat.zero_le _, rfl, rfl, rfl, Rb.Ro.nil _ _ _, HS1.out.below⟩
            case round =>
              obtain ⟨j, v, vs, hj, rfl, rfl, hvl, hro, hbel⟩ := hrel
              obtain ⟨av, cv, rfl⟩ := row_shape hro.row
              rw [hvl]
              rw [hvl] at hro
              have HVl := hide hvl
              have HRo := hide hro
              have HBe := hide hbel
              clear hvl hro hbel
              obtain ⟨W0, hW0⟩ : ∃ W, W = wr := ⟨_, rfl⟩
              subst hW0
              by_cases hlt2 : j < k
              · have hlj : (j : Int) < (k : Int) := by omega
                obtain ⟨J, hJ⟩ : ∃ J, J = 251 * j := ⟨_, rfl⟩
                have hIj : (251 : Int) * (j : Int) = (J : Int) := by omega
                have hJb : J ≤ 100000000 := by omega
                have HJd := hide hJ
                have HRow : Hid (∀ W, Below W0.heap.size W0 W → W.ownsRow 0 23 1 (.slice av j cv) j vs) := fun W hW => by
                  have h := (HRo.out.below hW).row
                  rw [HVl.out] at h
                  exact h
                obtain ⟨M, hM⟩ : ∃ M, M = min 251 (n - J) := ⟨_, rfl⟩
                have HMd := hide hM
                have hMb : M ≤ 251 := by omega
                clear hM hJ
                by_cases hnx : j + 1 < k
                · have hlk : j + 1 < ys.length := by have := HL'.out; omega
                  have hy := HZ'.out.at (j + 1)
                  obtain ⟨X, hX⟩ : ∃ X, X = ys.getD (j + 1) 0 := ⟨_, rfl⟩
                  have HXd : Hid ((if j + 1 < ys.length then ys.getD (j + 1) 0 else 0) = X) := by rw [Hid, if_pos hlk, hX]
                  rw [← hX] at hy
                  have HP := hide (rput_any W0 (.slice none 0 0) [] (Own.nil W0) X hy (by simp))
                  rcases HR'.out.below HBe.out with h0 | ⟨b, o, rfl, _, hcc⟩
                  · subst h0; simp at hlk
                  have g1 := hcc (j + 1) hlk
                  rw [← hX] at g1
                  clear hcc hlk hX
                  have hjn : (j : Int) + 1 < (k : Int) := by omega
                  go_wp2_with (go_at_call 24; refine HP.out.mono ?_; rintro e w3 ⟨v3, rfl, h1, h2, h3⟩; have HO3 := hide h1; have HH2 := hide h2; have HH3 := hide h3; clear h1 h2 h3)
                  have hb3' : Below W0.heap.size W0 w3 := HH3.out.below (Nat.le_refl _) (fun b hb => by simp [Value.ownBlock] at hb)
                  have hv3 : ∀ b, v3.ownBlock = some b → W0.heap.size ≤ b := fun b hb => by
                    rcases HH2.out with h | ⟨k', e, h⟩
                    · rw [h] at hb; simp [Value.ownBlock] at hb
                    · rw [e] at hb; cases hb; exact h
                  have HB3 := hide hb3'
                  have HV3 := hide hv3
                  clear hb3' hv3
                  go_loopw [12, 11] (fun i u wr2 => ∃ (q : Nat) (vb : Value), q ≤ M ∧ i = .int .i64 ((J + q : Nat) : Int) ∧ u = vb ∧ Own wr2 vb (le4 X ++ ((zs.drop (J)).take q).flatMap le4) ∧ (∀ b, vb.ownBlock = some b → W0.heap.size ≤ b) ∧ Below W0.heap.size W0 wr2) (fun i _ _ => 20000000 - (intOf i).toNat)
                  case atStart => exact ⟨0, _, Nat.zero_le _, by first | rfl | (rw [Nat.add_zero]), rfl, by simpa using HO3.out, HV3.out, HB3.out⟩
                  case round =>
                    obtain ⟨q, vb, hq, rfl, rfl, hob, hlb, hbb⟩ := hrel
                    obtain ⟨ab, nb, cb, rfl, hnb⟩ := hob.shape2
                    have HOb := hide hob
                    have HLb := hide hlb
                    have HBb := hide hbb
                    clear hob hlb hbb
                    have hMv := HMd.out
                    by_cases hqM : q < M
                    · have hKn : J + q < zs.length := by have := HL.out; omega
                      have hz9 := HZ.out.at (J + q)
                      have HTq : Hid (((zs.drop (J)).take (q + 1)).flatMap le4 = ((zs.drop (J)).take q).flatMap le4 ++ le4 (zs.getD (J + q) 0)) := by
                        have h9 : q < (zs.drop (J)).length := by rw [List.length_drop]; omega
                        rw [Hid, List.take_succ_eq_append_getElem h9, List.flatMap_append, List.getElem_drop, List.getD_eq_getElem?_getD, List.getElem?_eq_getElem hKn]; simp
                      have HPq := hide (rput_any wr _ _ HOb.out (zs.getD (J + q) 0) hz9 (by rw [List.length_append, le4_len, flat4_len, List.length_take]; omega))
                      rcases (HR.out.below HBe.out).below HBb.out with h0 | ⟨bz, oz, rfl, _, hcz⟩
                      · subst h0; simp at hKn
                      have gz := hcz (J + q) hKn
                      have t1 : ((J + q : Nat) : Int) < (J : Int) + 251 := by omega
                      have t2 : ((J + q : Nat) : Int) < (n : Int) := by have := HL.out; omega
                      have HKs : Hid (((J + q : Nat) : Int) + 1 = ((J + (q + 1) : Nat) : Int)) := by rw [Hid]; omega
                      have hKb : J + q ≤ 10000000 := by have := HL.out; omega
                      clear hcz hKn hz9 hMv
                      generalize zs.getD (J + q) 0 = y at *
                      generalize hKK : J + q = K at *
                      have HKK := hide hKK
                      clear hKK
                      go_wp2_with (go_at_call 24; refine HPq.out.mono ?_; rintro e w6 ⟨v6, rfl, h6, h7, h8⟩; have J6 := hide h6; have J7 := hide h7; have J8 := hide h8; clear h6 h7 h8)
                      go_roundw
                      case rel =>
                        refine ⟨q + 1, v6, by omega, by rw [← HKs.out], rfl, by rw [HTq.out, ← List.append_assoc]; exact J6.out, fun b hb => ?_, HBb.out.trans (J8.out.below HBb.out.size (fun b hb => HLb.out b hb))⟩
                        rcases J7.out with e | ⟨k', e, hk'⟩
                        · rw [e] at hb; exact HLb.out b hb
                        · rw [e] at hb; cases hb; exact Nat.le_trans HBb.out.size hk'
                      case measure => simp [intOf]; omega
                    · obtain rfl : q = M := by omega
                      have HPay : Hid (pay zs ys j = le4 X ++ ((zs.drop (J)).take q).flatMap le4) := by
                        rw [Hid, pay, HXd.out, ← HJd.out]
                        congr 2
                        by_cases h251 : 251 ≤ n - J
                        · rw [show q = 251 by omega]
                        · rw [List.take_of_length_le (by rw [List.length_drop, HL.out]; omega), List.take_of_length_le (by rw [List.length_drop, HL.out]; omega)]
                      have hrw7 := HRow.out wr HBb.out
                      have JR := hide hrw7
                      clear hrw7
                      by_cases h251 : q = 251
                      · have t1 : ¬ ((J + q : Nat) : Int) < (J : Int) + 251 := by omega
                        clear hMv
                        generalize hKK : J + q = K at *
                        have HKK := hide hKK
                        clear hKK
                        have H251 := hide h251
                        clear h251
                        go_wp2_with (at_builtin; refine wpList_append_own_at _ (by rfl) (.tmp 87) (.tmp 89) 25 (by rfl) 0 23 i0 (.slice none 0 0) 1 24 Try.underlying25 hi hz0 hz1 hz2 rfl (by omega) (.slice av j cv) j vs (by rfl) (World.ownsRow.alloc JR.out _) ⟨wr.heap.size, 0, none⟩ 1 1 [.slice ab nb cb] (by rfl) (by rfl) (cell_one_new _ _ _) (fun u hu => (by rw [List.mem_singleton.1 hu]; rfl)) (by unfold maxLen; omega) (by omega) (Nat.zero_le _) ?_; intro v9 w9 h1 h2 h3 h4; have K1 := hide h1; have K2 := hide h2; have K4 := hide h4; clear h1 h2 h3 h4)
                        go_roundw
                        case rel =>
                          refine ⟨j + 1, v9, _, by omega, by go_num, rfl, ?_, HRo.out.push HVl.out HBe.out.size HBb.out (by rw [HPay.out]; exact HOb.out) HLb.out K1.out K2.out K4.out, ?_⟩
                          · rw [List.length_append, HVl.out]; rfl
                          · refine (HBe.out.trans ((HBb.out.trans ((below_alloc wr (.cells #[.slice ab nb cb] 23)).mono HBb.out.size)).mono HBe.out.size)).grown K2.out (Nat.le_trans HBe.out.size (Nat.le_trans HBb.out.size (below_alloc wr (.cells #[.slice ab nb cb] 23)).size)) (fun b hb => ?_)
                            exact HRo.out.vlow b hb
                        case measure => simp [intOf]; omega
                      · have t1 : ((J + q : Nat) : Int) < (J : Int) + 251 := by omega
                        have t2 : ¬ ((J + q : Nat) : Int) < (n : Int) := by omega
                        clear hMv
                        generalize hKK : J + q = K at *
                        have HKK := hide hKK
                        clear hKK
                        go_wp2_with (at_builtin; refine wpList_append_own_at _ (by rfl) (.tmp 87) (.tmp 89) 25 (by rfl) 0 23 i0 (.slice none 0 0) 1 24 Try.underlying25 hi hz0 hz1 hz2 rfl (by omega) (.slice av j cv) j vs (by rfl) (World.ownsRow.alloc JR.out _) ⟨wr.heap.size, 0, none⟩ 1 1 [.slice ab nb cb] (by rfl) (by rfl) (cell_one_new _ _ _) (fun u hu => (by rw [List.mem_singleton.1 hu]; rfl)) (by unfold maxLen; omega) (by omega) (Nat.zero_le _) ?_; intro v9 w9 h1 h2 h3 h4; have K1 := hide h1; have K2 := hide h2; have K4 := hide h4; clear h1 h2 h3 h4)
                        go_roundw
                        case rel =>
                          refine ⟨j + 1, v9, _, by omega, by go_num, rfl, ?_, HRo.out.push HVl.out HBe.out.size HBb.out (by rw [HPay.out]; exact HOb.out) HLb.out K1.out K2.out K4.out, ?_⟩
                          · rw [List.length_append, HVl.out]; rfl
                          · refine (HBe.out.trans ((HBb.out.trans ((below_alloc wr (.cells #[.slice ab nb cb] 23)).mono HBb.out.size)).mono HBe.out.size)).grown K2.out (Nat.le_trans HBe.out.size (Nat.le_trans HBb.out.size (below_alloc wr (.cells #[.slice ab nb cb] 23)).size)) (fun b hb => ?_)
                            exact HRo.out.vlow b hb
                        case measure => simp [intOf]; omega
                · have HXd : Hid ((if j + 1 < ys.length then ys.getD (j + 1) 0 else 0) = 0) := by rw [Hid, if_neg (by have := HL'.out; omega)]
                  have HP := hide (rput_any W0 (.slice none 0 0) [] (Own.nil W0) 0 (by omega) (by simp))
                  obtain ⟨X, hX⟩ : ∃ X : Nat, X = 0 := ⟨_, rfl⟩
                  have hjn : ¬ (j : Int) + 1 < (k : Int) := by omega
                  go_wp2_with (go_at_call 24; refine HP.out.mono ?_; rintro e w3 ⟨v3, rfl, h1, h2, h3⟩; have HO3 := hide h1; have HH2 := hide h2; have HH3 := hide h3; clear h1 h2 h3)
                  have hb3' : Below W0.heap.size W0 w3 := HH3.out.below (Nat.le_refl _) (fun b hb => by simp [Value.ownBlock] at hb)
                  have hv3 : ∀ b, v3.ownBlock = some b → W0.heap.size ≤ b := fun b hb => by
                    rcases HH2.out with h | ⟨k', e, h⟩
                    · rw [h] at hb; simp [Value.ownBlock] at hb
                    · rw [e] at hb; cases hb; exact h
                  have HXe : Hid ((if j + 1 < ys.length then ys.getD (j + 1) 0 else 0) = X) := by rw [Hid, hX]; exact HXd.out
                  rw [← hX] at HO3
                  clear hX HXd
                  have HXd := HXe
                  have HB3 := hide hb3'
                  have HV3 := hide hv3
                  clear hb3' hv3
                  go_loopw [12, 11] (fun i u wr2 => ∃ (q : Nat) (vb : Value), q ≤ M ∧ i = .int .i64 ((J + q : Nat) : Int) ∧ u = vb ∧ Own wr2 vb (le4 X ++ ((zs.drop (J)).take q).flatMap le4) ∧ (∀ b, vb.ownBlock = some b → W0.heap.size ≤ b) ∧ Below W0.heap.size W0 wr2) (fun i _ _ => 20000000 - (intOf i).toNat)
                  case atStart => exact ⟨0, _, Nat.zero_le _, by first | rfl | (rw [Nat.add_zero]), rfl, by simpa using HO3.out, HV3.out, HB3.out⟩
                  case round =>
                    obtain ⟨q, vb, hq, rfl, rfl, hob, hlb, hbb⟩ := hrel
                    obtain ⟨ab, nb, cb, rfl, hnb⟩ := hob.shape2
                    have HOb := hide hob
                    have HLb := hide hlb
                    have HBb := hide hbb
                    clear hob hlb hbb
                    have hMv := HMd.out
                    by_cases hqM : q < M
                    · have hKn : J + q < zs.length := by have := HL.out; omega
                      have hz9 := HZ.out.at (J + q)
                      have HTq : Hid (((zs.drop (J)).take (q + 1)).flatMap le4 = ((zs.drop (J)).take q).flatMap le4 ++ le4 (zs.getD (J + q) 0)) := by
                        have h9 : q < (zs.drop (J)).length := by rw [List.length_drop]; omega
                        rw [Hid, List.take_succ_eq_append_getElem h9, List.flatMap_append, List.getElem_drop, List.getD_eq_getElem?_getD, List.getElem?_eq_getElem hKn]; simp
                      have HPq := hide (rput_any wr _ _ HOb.out (zs.getD (J + q) 0) hz9 (by rw [List.length_append, le4_len, flat4_len, List.length_take]; omega))
                      rcases (HR.out.below HBe.out).below HBb.out with h0 | ⟨bz, oz, rfl, _, hcz⟩
                      · subst h0; simp at hKn
                      have gz := hcz (J + q) hKn
                      have t1 : ((J + q : Nat) : Int) < (J : Int) + 251 := by omega
                      have t2 : ((J + q : Nat) : Int) < (n : Int) := by have := HL.out; omega
                      have HKs : Hid (((J + q : Nat) : Int) + 1 = ((J + (q + 1) : Nat) : Int)) := by rw [Hid]; omega
                      have hKb : J + q ≤ 10000000 := by have := HL.out; omega
                      clear hcz hKn hz9 hMv
                      generalize zs.getD (J + q) 0 = y at *
                      generalize hKK : J + q = K at *
                      have HKK := hide hKK
                      clear hKK
                      go_wp2_with (go_at_call 24; refine HPq.out.mono ?_; rintro e w6 ⟨v6, rfl, h6, h7, h8⟩; have J6 := hide h6; have J7 := hide h7; have J8 := hide h8; clear h6 h7 h8)
                      go_roundw
                      case rel =>
                        refine ⟨q + 1, v6, by omega, by rw [← HKs.out], rfl, by rw [HTq.out, ← List.append_assoc]; exact J6.out, fun b hb => ?_, HBb.out.trans (J8.out.below HBb.out.size (fun b hb => HLb.out b hb))⟩
                        rcases J7.out with e | ⟨k', e, hk'⟩
                        · rw [e] at hb; exact HLb.out b hb
                        · rw [e] at hb; cases hb; exact Nat.le_trans HBb.out.size hk'
                      case measure => simp [intOf]; omega
                    · obtain rfl : q = M := by omega
                      have HPay : Hid (pay zs ys j = le4 X ++ ((zs.drop (J)).take q).flatMap le4) := by
                        rw [Hid, pay, HXd.out, ← HJd.out]
                        congr 2
                        by_cases h251 : 251 ≤ n - J
                        · rw [show q = 251 by omega]
                        · rw [List.take_of_length_le (by rw [List.length_drop, HL.out]; omega), List.take_of_length_le (by rw [List.length_drop, HL.out]; omega)]
                      have hrw7 := HRow.out wr HBb.out
                      have JR := hide hrw7
                      clear hrw7
                      by_cases h251 : q = 251
                      · have t1 : ¬ ((J + q : Nat) : Int) < (J : Int) + 251 := by omega
                        clear hMv
                        generalize hKK : J + q = K at *
                        have HKK := hide hKK
                        clear hKK
                        have H251 := hide h251
                        clear h251
                        go_wp2_with (at_builtin; refine wpList_append_own_at _ (by rfl) (.tmp 87) (.tmp 89) 25 (by rfl) 0 23 i0 (.slice none 0 0) 1 24 Try.underlying25 hi hz0 hz1 hz2 rfl (by omega) (.slice av j cv) j vs (by rfl) (World.ownsRow.alloc JR.out _) ⟨wr.heap.size, 0, none⟩ 1 1 [.slice ab nb cb] (by rfl) (by rfl) (cell_one_new _ _ _) (fun u hu => (by rw [List.mem_singleton.1 hu]; rfl)) (by unfold maxLen; omega) (by omega) (Nat.zero_le _) ?_; intro v9 w9 h1 h2 h3 h4; have K1 := hide h1; have K2 := hide h2; have K4 := hide h4; clear h1 h2 h3 h4)
                        go_roundw
                        case rel =>
                          refine ⟨j + 1, v9, _, by omega, by go_num, rfl, ?_, HRo.out.push HVl.out HBe.out.size HBb.out (by rw [HPay.out]; exact HOb.out) HLb.out K1.out K2.out K4.out, ?_⟩
                          · rw [List.length_append, HVl.out]; rfl
                          · refine (HBe.out.trans ((HBb.out.trans ((below_alloc wr (.cells #[.slice ab nb cb] 23)).mono HBb.out.size)).mono HBe.out.size)).grown K2.out (Nat.le_trans HBe.out.size (Nat.le_trans HBb.out.size (below_alloc wr (.cells #[.slice ab nb cb] 23)).size)) (fun b hb => ?_)
                            exact HRo.out.vlow b hb
                        case measure => simp [intOf]; omega
                      · have t1 : ((J + q : Nat) : Int) < (J : Int) + 251 := by omega
                        have t2 : ¬ ((J + q : Nat) : Int) < (n : Int) := by omega
                        clear hMv
                        generalize hKK : J + q = K at *
                        have HKK := hide hKK
                        clear hKK
                        go_wp2_with (at_builtin; refine wpList_append_own_at _ (by rfl) (.tmp 87) (.tmp 89) 25 (by rfl) 0 23 i0 (.slice none 0 0) 1 24 Try.underlying25 hi hz0 hz1 hz2 rfl (by omega) (.slice av j cv) j vs (by rfl) (World.ownsRow.alloc JR.out _) ⟨wr.heap.size, 0, none⟩ 1 1 [.slice ab nb cb] (by rfl) (by rfl) (cell_one_new _ _ _) (fun u hu => (by rw [List.mem_singleton.1 hu]; rfl)) (by unfold maxLen; omega) (by omega) (Nat.zero_le _) ?_; intro v9 w9 h1 h2 h3 h4; have K1 := hide h1; have K2 := hide h2; have K4 := hide h4; clear h1 h2 h3 h4)
                        go_roundw
                        case rel =>
                          refine ⟨j + 1, v9, _, by omega, by go_num, rfl, ?_, HRo.out.push HVl.out HBe.out.size HBb.out (by rw [HPay.out]; exact HOb.out) HLb.out K1.out K2.out K4.out, ?_⟩
                          · rw [List.length_append, HVl.out]; rfl
                          · refine (HBe.out.trans ((HBb.out.trans ((below_alloc wr (.cells #[.slice ab nb cb] 23)).mono HBb.out.size)).mono HBe.out.size)).grown K2.out (Nat.le_trans HBe.out.size (Nat.le_trans HBb.out.size (below_alloc wr (.cells #[.slice ab nb cb] 23)).size)) (fun b hb => ?_)
                            exact HRo.out.vlow b hb
                        case measure => simp [intOf]; omega
              · obtain rfl : j = k := by omega
                have hlj : ¬ (j : Int) < (j : Int) := by omega
                go_wp2
                go_ret2
                have hN : encN zs ys = j := by unfold encN; rw [if_pos HEg.out, HL'.out]
                have hE : encE zs ys = 0 := by unfold encE; rw [if_pos HEg.out]
                exact ⟨⟨_, av, cv, vs, by rw [hN], by rw [hE]; rfl, by rw [hN]; exact HVl.out, HRo.out⟩, HBe.out⟩
  · have H1 := hide (bool_false h1)
    rw [bool_false h1] at HI
    clear h1
    go_enter Try.func8, Try.ntmps8
    go_wp2_with (first
      | (go_at_call 22; refine HI.out.mono ?_; rintro e w1 ⟨rfl, hs1⟩; have HS1 := hide hs1; clear hs1)
      | (go_at_call 17; refine (HNd.out _).mono ?_; rintro e w2 ⟨rfl, hw2⟩; rw [hw2]; clear hw2 w2))
    go_ret2
    exact enc_bad (fun h => by have := h.1; rw [H1.out] at this; cases this) HS1.out.below
end Go.Proofs.Ytejdlcahcimflaa
