/- Contract of asking whether lists of bytes, with what room they have, are their owner's alone. -/
import Derived.Test.YtpoanlbjhhlagaaGD
namespace Go.Proofs.Ytpoanlbjhhlagaa.Bo
open Go.RowKit
set_option linter.unusedVariables false

theorem infoBytes_e : (Try.prog.info? 5).map (fun i => (i.zero, i.size, i.bytes)) = some (some (.int .u8 0), 1, 1) := by kernel_rfl
theorem infoBytes_l : (Try.prog.info? 33).map (fun i => (i.zero, i.size, i.bytes)) = some (some (.slice none 0 0), 1, 24) := by kernel_rfl
def mkBytes (i k : Nat) : Int := ((i : Int) * 97 + (k : Int) * 13) % 256
def nkBytes (i k : Nat) : Int := ((-1 - (i : Int)) * 97 + (k : Int) * 13) % 256
set_option maxHeartbeats 3200000 in
set_option maxRecDepth 1000000 in
theorem ownBytes_some (lb n cap : Nat) (A : Nat → Option Addr) (C : Nat → Nat) (Z : Nat → List Int) (w : World) (h : Fam .u8 5 33 w (.slice (some ⟨lb, 0, none⟩) n cap) n A C Z) (hn : n ≤ 100000000) (hz : ∀ i, i < n → (Z i).length ≤ 140737488351232) :
    Calls Try.prog 43 #[.slice (some ⟨lb, 0, none⟩) n cap] w fun r w' => r = .returned (.bool true) ∧ Kp (rft n A) w w' := by
  obtain ⟨i0, hi, hz0, hz1, hz2⟩ := info_parts infoBytes_e
  obtain ⟨i1, hi1, hy0, hy1, hy2⟩ := info_parts infoBytes_l
  have HUL := hide (show Try.prog.underlying 33 = some (.slice 5) by kernel_rfl)
  have HULL := hide (show Try.prog.underlying 22 = some (.slice 33) by kernel_rfl)
  have H := hide h
  have HZ := hide hz
  clear h hz
  go_enter Try.func43, Try.ntmps43
  go_wp2
  go_loopw [3] (fun x wr' => ∃ i : Nat, i ≤ n ∧ x = .int .i64 (i : Int) ∧ Fam .u8 5 33 wr' (.slice (some ⟨lb, 0, none⟩) n cap) n A C (zf mkBytes Z i 0) ∧ Kp (rft n A) w wr') (fun x _ => n - (intOf x).toNat)
  case atStart => exact ⟨0, Nat.zero_le _, rfl, by rw [zf_start]; exact H.out, Kp.refl _ _⟩
  case round =>
    obtain ⟨i, hin, rfl, hF, hK⟩ := hrel
    have HF := hide hF
    have HK := hide hK
    clear hF hK
    by_cases hlt : i < n
    · go_wp2
      go_loopw [4] (fun x wr' => ∃ k : Nat, k ≤ (Z i).length ∧ x = .int .i64 (k : Int) ∧ Fam .u8 5 33 wr' (.slice (some ⟨lb, 0, none⟩) n cap) n A C (zf mkBytes Z i k) ∧ Kp (rft n A) w wr') (fun x _ => (Z i).length - (intOf x).toNat)
      case atStart => exact ⟨0, Nat.zero_le _, rfl, HF.out, HK.out⟩
      case round =>
        clear HF HK
        obtain ⟨k, hk, rfl, hF, hK⟩ := hrel
        have HF := hide hF
        have HK := hide hK
        have hc := hF.cell i hlt
        rw [zf_len Z i k i hk] at hc
        have hN := HZ.out i hlt
        clear hF hK
        by_cases hkl : k < (Z i).length
        · obtain ⟨b, ha, hb, hf⟩ := row_at (HF.out.rows i hlt) k (by rw [zf_len Z i k i hk]; exact hkl)
          have HS := hide (HF.out.set i k b hlt (by rw [zf_len Z i k i hk]; exact hkl) ha (mkBytes i k))
          rw [zf_set Z i k hkl] at HS
          rw [ha] at hc
          generalize (zf mkBytes Z i k i).getD k 0 = old at hb
          have HM : Hid (mkBytes i k = ((i : Int) * 97 + (k : Int) * 13) % 256) := rfl
          rw [HM.out] at HS
          generalize hNN : (Z i).length = N at *
          go_wp2
          go_roundw
          case rel => exact ⟨k + 1, by omega, by go_num, HS.out.1, HK.out.trans HS.out.2⟩
          case measure => first | (simp [intOf]; omega) | (simp [intOf]; done)
        · have hke : k = (Z i).length := by omega
          have HF2 : Hid (Fam .u8 5 33 wr (.slice (some ⟨lb, 0, none⟩) n cap) n A C (zf mkBytes Z (i + 1) 0)) := HF.out.same (by rw [hke]; exact zf_next Z i)
          clear HF
          generalize hNN : (Z i).length = N at *
          subst hke
          go_wp2
          go_roundw
          case rel => exact ⟨i + 1, by omega, by go_num, HF2.out, HK.out⟩
          case measure => first | (simp [intOf]; omega) | (simp [intOf]; done)
    · have hie : n = i := by omega
      subst hie
      clear hin hlt
      obtain ⟨W0, hW0⟩ : ∃ W, W = wr := ⟨_, rfl⟩
      subst hW0
      have HS0 := hide (HF.out.lt)
      go_wp2
      go_loopw [5, 6] (fun x y wr' => ∃ (i : Nat) (X : Nat → Value), i ≤ n ∧ y = .int .i64 (i : Int) ∧ Lg .u8 5 33 mkBytes nkBytes n A C (.slice (some ⟨lb, 0, none⟩) n cap) W0 wr' x i Z X) (fun _ y _ => n - (intOf y).toNat)
      case atStart => exact ⟨0, fun _ => .slice none 0 0, Nat.zero_le _, rfl, Kp.refl _ _, HF.out, World.ownsRow_nil _ _ _ _, fun j hj => by omega, fun j hj => by omega, fun k hk => by cases hk⟩
      case round =>
        obtain ⟨i, X, hin, rfl, hL⟩ := hrel
        obtain ⟨va, vm, vc, rfl, HVm⟩ := list_shape hL.list
        have HL := hide hL
        clear hL
        by_cases hlt : i < n
        · obtain ⟨W1, hW1⟩ : ∃ W, W = wr := ⟨_, rfl⟩
          subst hW1
          have HFr := hide HL.out.fam
          have hc := HFr.out.cell i hlt
          have hR := HFr.out.rows i hlt
          have hN := HZ.out i hlt
          rw [zf_end Z n i hlt] at hc hR
          rw [mks_len] at hc
          have HR := hide hR
          have HN2 : Hid ((mks mkBytes i (Z i).length).length = (Z i).length) := mks_len _ _
          clear hR HFr
          go_wp2
          go_loopw [7, 8] (fun x y wr' => ∃ k : Nat, k ≤ 16 ∧ y = .int .i64 (k : Int) ∧ Gs .u8 5 (rv (A i) (C i) (mks mkBytes i (Z i).length)) (mks mkBytes i (Z i).length) W1 wr' x (mks nkBytes i k)) (fun _ y _ => 16 - (intOf y).toNat)
          case atStart =>
            refine ⟨0, by omega, rfl, ?_, HR.out, ?_, Kp.refl _ _⟩
            · have h := HR.out
              unfold rv at h
              rw [HN2.out] at h
              simpa [mks] using h
            · intro b hb
              exact .inl ((blks_rv _ _ _ b).2 ((blks_rv _ _ (Z i) b).1 hb))
          case round =>
            obtain ⟨k, hk, rfl, hgs⟩ := hrel
            obtain ⟨xa, xm, xc, rfl, HXm⟩ := hgs.own.shape2
            have HO := hide hgs.own
            have HGs := hide hgs
            clear hgs
            by_cases hk16 : k < 16
            · have HM : Hid (nkBytes i k = ((-1 - (i : Int)) * 97 + (k : Int) * 13) % 256) := rfl
              have HOl := hide (HO.out.alloc (.cells #[.int .u8 (((-1 - (i : Int)) * 97 + (k : Int) * 13) % 256)] 5)).list
              have HSr := hide (src_laid (P := Try.prog) wr (.int .u8 (((-1 - (i : Int)) * 97 + (k : Int) * 13) % 256)) HUL.out rfl)
              have hlen : ((mks mkBytes i (Z i).length ++ mks nkBytes i k).map (Value.int .u8)).length = (Z i).length + k := by rw [List.length_map, List.length_append, mks_len, mks_len]
              have HB1 : Hid ((((mks mkBytes i (Z i).length ++ mks nkBytes i k).map (Value.int .u8)).length + 1) * i0.bytes ≤ 140737488355328) := by rw [Hid, hlen, hz2]; omega
              have HB2 : Hid (((mks mkBytes i (Z i).length ++ mks nkBytes i k).map (Value.int .u8)).length + 1 ≤ 140737488355328) := by rw [Hid, hlen]; omega
              clear hlen
              go_wp2_with (at_builtin; refine wpList_append_one (by rfl) _ _ 33 33 5 (by rfl) i0 (.int .u8 0) HUL.out hi hz0 hz1 rfl (.slice xa xm xc) _ (by rfl) HOl.out _ 1 [.int .u8 (((-1 - (i : Int)) * 97 + (k : Int) * 13) % 256)] (by rfl) HSr.out HB1.out HB2.out ?_; intro v' w1 h1 h2 h3 h4; have HG := hide (grow_step HGs.out h1 h2 h3 h4); clear h1 h2 h3 h4)
              go_roundw
              case rel => exact ⟨k + 1, by omega, by go_num, by rw [mks_succ, HM.out]; exact HG.out⟩
              case measure => simp [intOf]; omega
            · obtain rfl : k = 16 := by omega
              have hls : ((List.range i).map X).length = i := by simp
              have HLl := hide (list_of_block HL.out.list (w' := wr) (fun b hb => HGs.out.kp.block b (list_lt HL.out.list b hb) (fun hr => by have h5 := HL.out.low b hb; have h6 := HS0.out b (.inr ⟨i, hlt, (blks_rv _ _ _ b).1 hr⟩); omega)))
              have HLa : Hid ((wr.alloc (.cells #[.slice xa xm xc] 33)).ownsRow 0 33 1 (.slice va vm vc) ((List.range i).map X).length ((List.range i).map X)) := by rw [Hid, hls]; exact list_of_block HLl.out (fun b hb => Below.heap_alloc wr _ b (list_lt HLl.out b hb))
              have HSr := hide (src_laid (P := Try.prog) wr (.slice xa xm xc) HULL.out rfl)
              have HB1 : Hid ((((List.range i).map X).length + 1) * i1.bytes ≤ 140737488355328) := by rw [Hid, hls, hy2]; omega
              have HB2 : Hid (((List.range i).map X).length + 1 ≤ 140737488355328) := by rw [Hid, hls]; omega
              clear hls
              go_wp2_with (at_builtin; refine wpList_append_one (by rfl) _ _ 22 22 33 (by rfl) i1 (.slice none 0 0) HULL.out hi1 hy0 hy1 rfl (.slice va vm vc) _ (by rfl) HLa.out _ 1 [.slice xa xm xc] (by rfl) HSr.out HB1.out HB2.out ?_; intro v' w1 h1 h2 h3 h4; have HG := hide (HL.out.more hlt HGs.out (fun k hk => HS0.out k (.inr hk)) (fun k hk => HS0.out k (.inl hk)) h1 h2 h3); clear h1 h2 h3 h4)
              go_roundw
              case rel => exact ⟨i + 1, _, by omega, by go_num, HG.out⟩
              case measure => simp [intOf]; omega
        · have hie : n = i := by omega
          subst hie
          clear hin hlt
          obtain ⟨W3, hW3⟩ : ∃ W, W = wr := ⟨_, rfl⟩
          subst hW3
          have HF3 := hide HL.out.fam
          have HK3 : Hid (Kp (rft n A) w W3) := HK.out.trans HL.out.kp
          rcases HL.out.list.2 with ⟨e, h0⟩ | ⟨g, cap2, cur, e, -, -, -, -, -, -⟩
          · subst h0
            go_wp2
            go_loopw [9] (fun x wr' => x = .int .i64 0 ∧ wr' = W3) (fun _ _ => 0)
            case atStart => exact ⟨rfl, rfl⟩
            case round =>
              obtain ⟨rfl, rfl⟩ := hrel
              go_wp2
              go_ret
              exact ⟨rfl, HK3.out⟩
          · cases e
            go_wp2
            go_loopw [9] (fun x wr' => ∃ i : Nat, i ≤ n ∧ x = .int .i64 (i : Int) ∧ wr' = W3) (fun x _ => n - (intOf x).toNat)
            case atStart => exact ⟨0, Nat.zero_le _, rfl, rfl⟩
            case round =>
              obtain ⟨i, hin, rfl, rfl⟩ := hrel
              by_cases hlt : i < n
              · have hc := HF3.out.cell i hlt
                have hR := HF3.out.rows i hlt
                have hN := HZ.out i hlt
                rw [zf_end Z n i hlt] at hc hR
                rw [mks_len] at hc
                have hd := list_cell HL.out.list rfl i (X i) (by simp [hlt])
                obtain ⟨b2, c2, hXe, hX4⟩ := long_at (HL.out.rows i hlt)
                rw [hXe] at hd
                have HX4 := hide hX4
                have HR := hide hR
                clear hXe hX4 hR
                generalize (Z i).length = N at *
                go_wp2
                go_loopw [11] (fun x wr' => ∃ k : Nat, k ≤ N ∧ x = .int .i64 (k : Int) ∧ wr' = wr) (fun x _ => N - (intOf x).toNat)
                case atStart => exact ⟨0, Nat.zero_le _, rfl, rfl⟩
                case round =>
                  obtain ⟨k, hk, rfl, rfl⟩ := hrel
                  by_cases hkl : k < N
                  · obtain ⟨b, ha, hb, hf⟩ := row_at HR.out k (by rw [mks_len]; exact hkl)
                    rw [mks_at _ _ _ hkl] at hb
                    rw [ha] at hc
                    have hb2 := (HX4.out k (by omega)).trans (by rw [both_left _ _ _ _ hkl])
                    unfold mkBytes at hb hb2
                    clear hf
                    go_wp2
                    go_roundw
                    case rel => exact ⟨k + 1, by omega, by go_num, by trivial⟩
                    case measure => simp [intOf]; omega
                  · obtain rfl : k = N := by omega
                    go_wp2
                    go_loopw [12] (fun x wr' => ∃ j : Nat, j ≤ 16 ∧ x = .int .i64 (j : Int) ∧ wr' = wr) (fun x _ => 16 - (intOf x).toNat)
                    case atStart => exact ⟨0, Nat.zero_le _, rfl, rfl⟩
                    case round =>
                      obtain ⟨j, hj, rfl, rfl⟩ := hrel
                      by_cases hj16 : j < 16
                      · have hb2 := (HX4.out (k + j) (by omega)).trans (by rw [both_right _ _ _ _ hj16])
                        unfold nkBytes at hb2
                        go_wp2
                        go_roundw
                        case rel => exact ⟨j + 1, by omega, by go_num, by trivial⟩
                        case measure => simp [intOf]; omega
                      · obtain rfl : j = 16 := by omega
                        go_wp2
                        go_roundw
                        case rel => exact ⟨i + 1, by omega, by go_num, by trivial⟩
                        case measure => simp [intOf]; omega
              · go_wp2
                go_ret
                exact ⟨rfl, HK3.out⟩
end Go.Proofs.Ytpoanlbjhhlagaa.Bo
