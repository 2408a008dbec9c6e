/- Contract of asking whether rows of pairs are their owner's alone. -/
import Derived.Test.YtgohhlngnnmknaaDQ
namespace Go.Proofs.Ytgohhlngnnmknaa.Bp
open Go.RowKit Go.Proofs.Ytgohhlngnnmknaa.Bo
set_option linter.unusedVariables false

theorem infoEnt_e : (Try.prog.info? 74).map (fun i => (i.zero, i.size, i.bytes)) = some (some (.agg #[.slice none 0 0, .slice none 0 0]), 2, 48) := by kernel_rfl
theorem infoEnt_l : (Try.prog.info? 22).map (fun i => (i.zero, i.size, i.bytes)) = some (some (.slice none 0 0), 1, 24) := by kernel_rfl
set_option maxHeartbeats 3200000 in
set_option maxRecDepth 1000000 in
theorem ownX_some (lb n cap : Nat) (A : Nat → Option Addr) (C : Nat → Nat) (Z : Nat → List Q4) (N : Nat → Nat) (w : World) (h : Fe 22 w (.slice (some ⟨lb, 0, none⟩) n cap) n A C Z) (hn : n ≤ 100000000) (hN : ∀ i, i < n → (Z i).length = N i) (hz : ∀ i, i < n → N i ≤ 1000000000) :
    Calls Try.prog 57 #[.slice (some ⟨lb, 0, none⟩) n cap] w fun r w' => r = .returned (.bool true) ∧ Kp (rft n A) w w' := by
  obtain ⟨i0, hi, hz0, hz1, hz2⟩ := info_parts infoEnt_e
  obtain ⟨i1, hi1, hy0, hy1, hy2⟩ := info_parts infoEnt_l
  have HUL := hide (show Try.prog.underlying 22 = some (.slice 74) by kernel_rfl)
  have HULL := hide (show Try.prog.underlying 47 = some (.slice 22) by kernel_rfl)
  have H : Hid (P1 w w (.slice (some ⟨lb, 0, none⟩) n cap) n A C N 0 0 Z) := ⟨h, hN, fun j l _ _ hm => by rcases hm with hm | ⟨_, hm⟩ <;> omega, Kp.refl _ _⟩
  have HZ := hide hz
  clear h hz hN
  go_enter Try.func57, Try.ntmps57
  go_wp2
  go_loopw [3] (fun x wr' => ∃ (i : Nat) (Z : Nat → List Q4), i ≤ n ∧ x = .int .i64 (i : Int) ∧ P1 w wr' (.slice (some ⟨lb, 0, none⟩) n cap) n A C N i 0 Z) (fun x _ => n - (intOf x).toNat)
  case atStart => exact ⟨0, Z, Nat.zero_le _, rfl, H.out⟩
  case round =>
    clear H Z
    obtain ⟨i, Z, hin, rfl, hF⟩ := hrel
    have HF := hide hF
    clear hF
    by_cases hlt : i < n
    · have HF0 : Hid (∃ Z, P1 w wr (.slice (some ⟨lb, 0, none⟩) n cap) n A C N i 0 Z) := ⟨Z, HF.out⟩
      clear HF Z
      go_wp2
      go_loopw [4] (fun x wr' => ∃ (k : Nat) (Z : Nat → List Q4), k ≤ N i ∧ x = .int .i64 (k : Int) ∧ P1 w wr' (.slice (some ⟨lb, 0, none⟩) n cap) n A C N i k Z) (fun x _ => N i - (intOf x).toNat)
      case atStart => obtain ⟨Z, h0⟩ := HF0.out; exact ⟨0, Z, Nat.zero_le _, rfl, h0⟩
      case round =>
        clear HF0
        obtain ⟨k, Z, hk, rfl, hF⟩ := hrel
        have HF := hide hF
        have hc := hF.fam.cell i hlt
        rw [hF.len i hlt] at hc
        have hNb := HZ.out i hlt
        clear hF
        by_cases hkl : k < N i
        · obtain ⟨b, ha, hb, hf⟩ := row_at (HF.out.fam.rows i hlt) k (by rw [HF.out.len i hlt]; exact hkl)
          have HS := hide (HF.out.step hlt hkl ha)
          rw [ha] at hc
          have b0 := hb 0 _ rfl
          have b1 := hb 1 _ rfl
          rw [Nat.add_zero] at b0
          have hblt := World.block_lt_of_cell? wr _ b0
          have f0 : (wr.alloc (.cells #[.int .u8 (((i : Int) * 97 + (k : Int) * 13) % 256)] 5)).frozen? ⟨b, k * 2, none⟩ = false := fr_alloc (w := wr) _ (by simpa [World.setCell] using hblt) (by simp [hf])
          have f1 : ((wr.setCell ⟨b, k * 2, none⟩ (.slice (some ⟨wr.heap.size, 0, none⟩) 1 1)).alloc (.cells #[.int .u8 (((i : Int) * 97 + (k : Int) * 13) % 256)] 5)).frozen? ⟨b, k * 2 + 1, none⟩ = false := fr_alloc (w := (wr.setCell ⟨b, k * 2, none⟩ (.slice (some ⟨wr.heap.size, 0, none⟩) 1 1))) _ (by simpa [World.setCell] using hblt) (by simp [hf])
          clear hb hf
          generalize ((Z i).getD k q0).a = o0 at b0
          generalize ((Z i).getD k q0).b = o1 at b1
          have HM : Hid (mkE i k = ((i : Int) * 97 + (k : Int) * 13) % 256) := rfl
          rw [HM.out] at HS
          have nn0 := World.new_ne wr _ b0
          generalize hNN : N i = M at *
          have HNN := hide hNN
          clear hNN
          go_wp2
          go_roundw
          case rel => exact ⟨k + 1, _, by omega, by go_num, HS.out⟩
          case measure => first | (simp [intOf]; omega) | (simp [intOf]; done)
        · have hke : k = N i := by omega
          have HF2 : Hid (P1 w wr (.slice (some ⟨lb, 0, none⟩) n cap) n A C N (i + 1) 0 Z) := P1.next (hke ▸ HF.out)
          clear HF
          generalize hNN : N i = M at *
          have HNN := hide hNN
          clear hNN
          subst hke
          go_wp2
          go_roundw
          case rel => exact ⟨i + 1, Z, by omega, by go_num, HF2.out⟩
          case measure => first | (simp [intOf]; omega) | (simp [intOf]; done)
    · have hie : n = i := by omega
      subst hie
      clear hin hlt
      obtain ⟨W0, hW0⟩ : ∃ W, W = wr := ⟨_, rfl⟩
      subst hW0
      have HS0 := hide (HF.out.fam.lt)
      go_wp2
      go_loopw [5, 6] (fun x y wr' => ∃ (i : Nat) (T : Nat → List Q4) (X : Nat → Value), i ≤ n ∧ y = .int .i64 (i : Int) ∧ Lg 22 n A C (.slice (some ⟨lb, 0, none⟩) n cap) W0 wr' x i Z T X ∧ ∀ j, j < i → (T j).length = 8 ∧ ∀ l, l < 8 → Mk wr' ((T j).getD l q0) (nkE j l)) (fun _ y _ => n - (intOf y).toNat)
      case atStart => exact ⟨0, fun _ => [], fun _ => .slice none 0 0, Nat.zero_le _, rfl, ⟨Kp.refl _ _, HF.out.fam, World.ownsRow_nil _ _ _ _, fun j hj => by omega, fun j hj => by omega, fun k hk => by cases hk⟩, fun j hj => by omega⟩
      case round =>
        obtain ⟨i, T, X, hin, rfl, hL, hT⟩ := hrel
        obtain ⟨va, vm, vc, rfl, HVm⟩ := list_shape hL.list
        have HL := hide hL
        have HT := hide hT
        clear hL hT
        by_cases hlt : i < n
        · obtain ⟨W1, hW1⟩ : ∃ W, W = wr := ⟨_, rfl⟩
          subst hW1
          have HFr := hide HL.out.fam
          have hc := HFr.out.cell i hlt
          have HR := hide (HFr.out.rows i hlt)
          have hNb := HZ.out i hlt
          have hlz := HF.out.len i hlt
          rw [hlz] at hc
          have HN2 := hide hlz
          clear HFr hlz
          go_wp2
          go_loopw [7, 8] (fun x y wr' => ∃ (k : Nat) (ts : List Q4), k ≤ 8 ∧ y = .int .i64 (k : Int) ∧ Gs (rv (A i) (C i) (Z i)) (Z i) W1 wr' x ts ∧ ts.length = k ∧ ∀ l, l < k → Mk wr' (ts.getD l q0) (nkE i l)) (fun _ y _ => 8 - (intOf y).toNat)
          case atStart =>
            refine ⟨0, [], by omega, rfl, ⟨?_, HR.out, fun b hb => ?_, Kp.refl _ _⟩, rfl, fun l hl => by omega⟩
            · have h := HR.out
              unfold rv at h
              rw [HN2.out] at h
              simpa using h
            · exact .inl ((blks_rv _ _ _ b).2 ((blks_slice _ _ _ b).1 hb))
          case round =>
            obtain ⟨k, ts, hk, rfl, hgs, htl, hmk⟩ := hrel
            obtain ⟨xa, xm, xc, rfl, HXm⟩ := hgs.own.shape2
            have HO := hide hgs.own
            have HGs := hide hgs
            have HTl := hide htl
            have HMk := hide hmk
            clear hgs htl hmk
            by_cases hk8 : k < 8
            · have HBW : Hid (Below wr.heap.size wr ((wr.alloc (.cells #[.int .u8 (((-1 - (i : Int)) * 97 + (k : Int) * 13) % 256)] 5)).alloc (.cells #[.slice (some ⟨wr.heap.size, 0, none⟩) 1 1, .slice none 0 0] 74))) := hide (((Below.refl _ _).alloc (Nat.le_refl _) _).alloc (by simp) _)
              have HOl := hide (HGs.out.own.below HBW.out)
              have hsr := src_four (P := Try.prog) (wr.alloc (.cells #[.int .u8 (((-1 - (i : Int)) * 97 + (k : Int) * 13) % 256)] 5)) wr.heap.size HUL.out
              rw [World.size_alloc] at hsr
              have HSr := hide hsr
              have HMW : Hid (Mk ((wr.alloc (.cells #[.int .u8 (((-1 - (i : Int)) * 97 + (k : Int) * 13) % 256)] 5)).alloc (.cells #[.slice (some ⟨wr.heap.size, 0, none⟩) 1 1, .slice none 0 0] 74)) (mq wr.heap.size) (nkE i k)) := hide ⟨wr.heap.size, rfl, (Below.heap_alloc _ _ _ (by simp)).trans (heap_alloc_new wr _)⟩
              clear hsr
              have hlen : (Z i ++ ts).length = N i + k := by rw [List.length_append, HN2.out, HTl.out]
              have HB1 : Hid (((Z i ++ ts).length + 1) * i0.bytes ≤ 140737488355328) := by rw [Hid, hlen, hz2]; omega
              have HB2 : Hid ((Z i ++ ts).length + 1 ≤ 140737488355328) := by rw [Hid, hlen]; omega
              clear hlen
              go_wp2_with (at_builtin; refine wpList_append_four (by rfl) _ _ 22 22 74 (by rfl) i0 _ HUL.out hi hz0 hz1 rfl (.slice xa xm xc) _ _ (by rfl) HOl.out _ 1 _ (by rfl) HSr.out HB1.out HB2.out ?_; intro v' w1 h1 h2 h3 h4; have HG := hide (grow_step HGs.out HBW.out h1 h2 h3 h4); have HMo : Hid (∀ x m, Mk wr x m → Mk w1 x m) := hide (fun x m hx => (hx.below HBW.out).grown h2 fun b hb => HOl.out.typ hb); have HMn := hide (HMW.out.grown h2 fun b hb => HOl.out.typ hb); clear h1 h2 h3 h4)
              go_roundw
              case rel =>
                refine ⟨k + 1, _, by omega, by go_num, HG.out, by rw [List.length_append, HTl.out]; rfl, fun l hl => ?_⟩
                by_cases e : l < k
                · have e3 : (ts ++ [mq wr.heap.size]).getD l q0 = ts.getD l q0 := by simp only [List.getD_eq_getElem?_getD]; rw [List.getElem?_append_left (by rw [HTl.out]; exact e)]
                  rw [e3]
                  exact HMo.out _ _ (HMk.out l e)
                · obtain rfl : l = k := by omega
                  have e3 : (ts ++ [mq wr.heap.size]).getD l q0 = mq wr.heap.size := by simp only [List.getD_eq_getElem?_getD]; rw [List.getElem?_append_right (by rw [HTl.out]; exact Nat.le_refl _), HTl.out]; simp
                  rw [e3]
                  exact HMn.out
              case measure => simp [intOf]; omega
            · obtain rfl : k = 8 := by omega
              have hls : ((List.range i).map X).length = i := by simp
              have HLl := hide (list_of_block HL.out.list (w' := wr) (fun b hb => HGs.out.kp.block b (list_lt HL.out.list b hb) (fun hr => by have h5 := HL.out.low b hb; have h6 := HS0.out b (.inr ⟨i, hlt, (blks_rv _ _ _ b).1 hr⟩); omega)))
              have HLa : Hid ((wr.alloc (.cells #[.slice xa xm xc] 22)).ownsRow 0 22 1 (.slice va vm vc) ((List.range i).map X).length ((List.range i).map X)) := by rw [Hid, hls]; exact list_of_block HLl.out (fun b hb => Below.heap_alloc wr _ b (list_lt HLl.out b hb))
              have HSr := hide (src_laid (P := Try.prog) wr (.slice xa xm xc) HULL.out rfl)
              have HB1 : Hid ((((List.range i).map X).length + 1) * i1.bytes ≤ 140737488355328) := by rw [Hid, hls, hy2]; omega
              have HB2 : Hid (((List.range i).map X).length + 1 ≤ 140737488355328) := by rw [Hid, hls]; omega
              clear hls
              go_wp2_with (at_builtin; refine wpList_append_one (by rfl) _ _ 47 47 22 (by rfl) i1 (.slice none 0 0) HULL.out hi1 hy0 hy1 rfl (.slice va vm vc) _ (by rfl) HLa.out _ 1 [.slice xa xm xc] (by rfl) HSr.out HB1.out HB2.out ?_; intro v' w1 h1 h2 h3 h4; have HG := hide (HL.out.more hlt HGs.out (fun k hk => HS0.out k (.inr hk)) (fun k hk => HS0.out k (.inl hk)) h1 h2 h3); have HMo : Hid (∀ x m, Mk wr x m → Mk w1 x m) := hide (fun x m hx => (hx.below (below_alloc wr _)).grown h2 fun b hb => by obtain ⟨cs, h9⟩ := own_typ HLa.out hb; exact ⟨cs, _, by decide, h9⟩); clear h1 h2 h3 h4)
              go_roundw
              case rel =>
                refine ⟨i + 1, _, _, by omega, by go_num, HG.out, fun j hj => ?_⟩
                by_cases e : j = i
                · subst e
                  rw [putf_same]
                  exact ⟨HTl.out, fun l hl => HMo.out _ _ (HMk.out l hl)⟩
                · rw [putf_other _ _ _ _ e]
                  have hj' := HT.out j (by omega)
                  exact ⟨hj'.1, fun l hl => HMo.out _ _ ((hj'.2 l hl).kp HGs.out.kp fun b hb => HR.out.typ hb)⟩
              case measure => simp [intOf]; omega
        · have hie : n = i := by omega
          subst hie
          clear hin hlt
          obtain ⟨W3, hW3⟩ : ∃ W, W = wr := ⟨_, rfl⟩
          subst hW3
          have HF3 := hide HL.out.fam
          have HK3 : Hid (Kp (rft n A) w W3) := HF.out.kp.trans HL.out.kp
          have HMz : Hid (∀ j l, j < n → l < N j → Mk W3 ((Z j).getD l q0) (mkE j l)) := fun j l hj hl => (HF.out.mrk j l hj hl (.inl hj)).kp HL.out.kp fun k hk => by
            obtain ⟨i, hi, hh⟩ := hk
            exact (HF.out.fam.rows i hi).typ ((blks_rv _ _ _ k).2 hh)
          rcases HL.out.list.2 with ⟨e, h0⟩ | ⟨g, cap2, cur, e, -, -, -, -, -, -⟩
          · subst h0
            go_wp2
            go_loopw [9] (fun x wr' => x = .int .i64 0 ∧ wr' = W3) (fun _ _ => 0)
            case atStart => exact ⟨rfl, rfl⟩
            case round =>
              obtain ⟨rfl, rfl⟩ := hrel
              go_wp2
              go_ret
              exact ⟨rfl, HK3.out⟩
          · cases e
            go_wp2
            go_loopw [9] (fun x wr' => ∃ i : Nat, i ≤ n ∧ x = .int .i64 (i : Int) ∧ wr' = W3) (fun x _ => n - (intOf x).toNat)
            case atStart => exact ⟨0, Nat.zero_le _, rfl, rfl⟩
            case round =>
              obtain ⟨i, hin, rfl, rfl⟩ := hrel
              by_cases hlt : i < n
              · have hc := HF3.out.cell i hlt
                have hNb := HZ.out i hlt
                have hlz := HF.out.len i hlt
                rw [hlz] at hc
                have HR := hide (HF3.out.rows i hlt)
                have hd := list_cell HL.out.list rfl i (X i) (by simp [hlt])
                obtain ⟨b2, c2, hXe, hX4⟩ := long_at (HL.out.rows i hlt) hlz (HT.out i hlt).1
                rw [hXe] at hd
                have HX4 := hide hX4
                have HMi : Hid (∀ l, l < N i → Mk wr ((Z i).getD l q0) (mkE i l)) := fun l hl => HMz.out i l hlt hl
                have HTi := hide (HT.out i hlt)
                have HLz := hide hlz
                clear hXe hX4 hlz
                generalize N i = M at *
                go_wp2
                go_loopw [11] (fun x wr' => ∃ k : Nat, k ≤ M ∧ x = .int .i64 (k : Int) ∧ wr' = wr) (fun x _ => M - (intOf x).toNat)
                case atStart => exact ⟨0, Nat.zero_le _, rfl, rfl⟩
                case round =>
                  obtain ⟨k, hk, rfl, rfl⟩ := hrel
                  by_cases hkl : k < M
                  · obtain ⟨b, ha, hb, hf⟩ := row_at HR.out k (by rw [HLz.out]; exact hkl)
                    rw [ha] at hc
                    obtain ⟨q1, hmk, hq1⟩ := HMi.out k hkl
                    have hg2 : (Z i ++ T i).getD k q0 = mq q1 := by rw [← hmk]; simp only [List.getD_eq_getElem?_getD]; rw [List.getElem?_append_left (by rw [HLz.out]; exact hkl)]
                    rw [hmk] at hb
                    have e2 := hb 0 (.slice (some ⟨q1, 0, none⟩) 1 1) rfl
                    have d2 := HX4.out k 0 (.slice (some ⟨q1, 0, none⟩) 1 1) (by omega) (by rw [hg2]; rfl)
                    rw [Nat.add_zero] at e2 d2
                    have q2 := cell_of_one hq1
                    have HM : Hid (mkE i k = ((i : Int) * 97 + (k : Int) * 13) % 256) := rfl
                    rw [HM.out] at q2
                    have hmm : ((((i : Int) * 97 + (k : Int) * 13) % 256) != (((i : Int) * 97 + (k : Int) * 13) % 256)) = false := by simp
                    have hm1 : ((1 : Int) != 1) = false := by simp
                    clear hq1
                    clear hf hmk hg2 hb
                    go_wp2
                    go_roundw
                    case rel => exact ⟨k + 1, by omega, by go_num, by trivial⟩
                    case measure => simp [intOf]; omega
                  · obtain rfl : k = M := by omega
                    go_wp2
                    go_loopw [12] (fun x wr' => ∃ j : Nat, j ≤ 8 ∧ x = .int .i64 (j : Int) ∧ wr' = wr) (fun x _ => 8 - (intOf x).toNat)
                    case atStart => exact ⟨0, Nat.zero_le _, rfl, rfl⟩
                    case round =>
                      obtain ⟨j, hj, rfl, rfl⟩ := hrel
                      by_cases hj8 : j < 8
                      · obtain ⟨q1, hmk, hq1⟩ := HTi.out.2 j hj8
                        have hg2 : (Z i ++ T i).getD (k + j) q0 = mq q1 := by rw [← hmk]; simp only [List.getD_eq_getElem?_getD]; rw [List.getElem?_append_right (by rw [HLz.out]; omega), HLz.out, Nat.add_sub_cancel_left]
                        have d2 := HX4.out (k + j) 0 (.slice (some ⟨q1, 0, none⟩) 1 1) (by omega) (by rw [hg2]; rfl)
                        rw [Nat.add_zero] at d2
                        have q2 := cell_of_one hq1
                        have HM : Hid (nkE i j = ((-1 - (i : Int)) * 97 + (j : Int) * 13) % 256) := rfl
                        rw [HM.out] at q2
                        have hmm : ((((-1 - (i : Int)) * 97 + (j : Int) * 13) % 256) != (((-1 - (i : Int)) * 97 + (j : Int) * 13) % 256)) = false := by simp
                        have hm1 : ((1 : Int) != 1) = false := by simp
                        clear hq1 hmk
                        clear hg2
                        go_wp2
                        go_roundw
                        case rel => exact ⟨j + 1, by omega, by go_num, by trivial⟩
                        case measure => simp [intOf]; omega
                      · obtain rfl : j = 8 := by omega
                        go_wp2
                        go_roundw
                        case rel => exact ⟨i + 1, by omega, by go_num, by trivial⟩
                        case measure => simp [intOf]; omega
              · go_wp2
                go_ret
                exact ⟨rfl, HK3.out⟩
end Go.Proofs.Ytgohhlngnnmknaa.Bp
