/- Contract of asking whether lists of bytes are their owner's alone. -/
import Derived.Test.YtobkmjkcbihfbaaW
namespace Go.Proofs.Ytobkmjkcbihfbaa
open Go.RowKit
set_option linter.unusedVariables false

theorem Fam.same {w : World} {v : Value} {n : Nat} {A : Nat → Option Addr} {Z Y : Nat → List Int} (h : Fam w v n A Z) (e : Z = Y) : Fam w v n A Y := e ▸ h

theorem Own.list {w : World} {v : Value} {zs : List Int} (h : Own w v zs) : w.ownsRow 0 5 1 v (zs.map (Value.int .u8)).length (zs.map (Value.int .u8)) := by rw [List.length_map]; exact h
theorem Own.of_list {w : World} {v : Value} {zs : List Int} {c : Int} (h : w.ownsRow 0 5 1 v (zs.map (Value.int .u8) ++ [Value.int .u8 c]).length (zs.map (Value.int .u8) ++ [Value.int .u8 c])) : Own w v (zs ++ [c]) := by
  have e : zs.map (Value.int .u8) ++ [Value.int .u8 c] = (zs ++ [c]).map (Value.int .u8) := by simp
  rw [e, List.length_map] at h
  exact h
/-- lists that have grown: each is its marks and those behind them. -/
structure Lg (B : Nat) (w0 w : World) (v : Value) (i : Nat) (Z : Nat → List Int) (X : Nat → Value) : Prop where
  below : Below B w0 w
  size : B ≤ w.heap.size
  list : w.ownsRow 0 27 1 v i ((List.range i).map X)
  rows : ∀ j, j < i → Own w (X j) (mks j (Z j).length ++ nks j 16)
  low : ∀ k, blks v k → B ≤ k
theorem grow_step {Bi k : Nat} {Wi wr w' : World} {x v' : Value} {zs : List Int} {c : Int} {o : Obj} (hown : Own wr x zs) (hfull : k = 0 → ∃ a, x = .slice a zs.length zs.length) (hlow : 0 < k → ∀ b, blks x b → Bi ≤ b) (hbel : Below Bi Wi wr) (hB : Bi ≤ wr.heap.size)
    (h1 : w'.ownsRow 0 5 1 v' (zs.map (Value.int .u8) ++ [Value.int .u8 c]).length (zs.map (Value.int .u8) ++ [Value.int .u8 c])) (h2 : (wr.alloc o).grownBy w' x.ownBlock) (h3 : ∀ k, v'.ownBlock = some k → x.ownBlock = some k ∨ (wr.alloc o).heap.size ≤ k)
    (h4 : ∀ a, x = .slice a (zs.map (Value.int .u8)).length (zs.map (Value.int .u8)).length → 0 < 1 → Below (wr.alloc o).heap.size (wr.alloc o) w' ∧ ∀ k, v'.ownBlock = some k → (wr.alloc o).heap.size ≤ k) :
    Own w' v' (zs ++ [c]) ∧ (∀ b, blks v' b → Bi ≤ b) ∧ Below Bi Wi w' ∧ Bi ≤ w'.heap.size := by
  have hs : wr.heap.size ≤ (wr.alloc o).heap.size := (below_alloc wr o).size
  have hb0 : Below Bi Wi (wr.alloc o) := hbel.alloc hB o
  refine ⟨Own.of_list h1, ?_⟩
  by_cases hk : k = 0
  · obtain ⟨a, ha⟩ := hfull hk
    obtain ⟨h5, h6⟩ := h4 a (by rw [List.length_map]; exact ha) (by omega)
    refine ⟨fun b hb => by have := h6 b hb; omega, hb0.trans (h5.mono (by omega)), by have := h5.size; omega⟩
  · have hl := hlow (by omega)
    refine ⟨fun b hb => ?_, hb0.grown h2 (by omega) (fun b hb => hl b hb), by have := h2.size; omega⟩
    rcases h3 b hb with h | h
    · exact hl b h
    · omega
theorem Lg.more {B Bi i : Nat} {w0 wi w w' : World} {v v' x : Value} {Z : Nat → List Int} {X : Nat → Value} {o : Obj} (h : Lg B w0 wi v i Z X) (hBi : Bi = wi.heap.size) (hb : Below Bi wi w) (hBw : Bi ≤ w.heap.size) (hx : Own w x (mks i (Z i).length ++ nks i 16))
    (h1 : w'.ownsRow 0 27 1 v' ((List.range i).map X ++ [x]).length ((List.range i).map X ++ [x])) (h2 : (w.alloc o).grownBy w' v.ownBlock) (h3 : ∀ k, v'.ownBlock = some k → v.ownBlock = some k ∨ (w.alloc o).heap.size ≤ k) :
    Lg B w0 w' v' (i + 1) Z (put X i x) := by
  subst hBi
  have hs : w.heap.size ≤ (w.alloc o).heap.size := (below_alloc w o).size
  have hbw : Below wi.heap.size wi (w.alloc o) := hb.alloc hBw o
  have hlist : (w.alloc o).ownsRow 0 27 1 v i ((List.range i).map X) := list_of_block h.list fun k hk => hbw.block k (list_lt h.list k hk)
  have keep : ∀ u ys, Own (w.alloc o) u ys → Own w' u ys := fun u ys hu => hu.of_block fun k hk => h2.block k (hu.lt hk) (fun e => list_ne_row hlist hu k e.symm hk)
  refine ⟨h.below.trans ((hbw.mono h.size).trans ((Below.refl B _).grown h2 (by have := h.size; have := hbw.size; omega) (fun k hk => h.low k hk))), by have := h.size; have := hbw.size; have := h2.size; omega, ?_, ?_, ?_⟩
  · have e : (List.range (i + 1)).map (put X i x) = (List.range i).map X ++ [x] := by
      rw [List.range_succ, List.map_append]
      congr 1
      · apply List.map_congr_left
        intro j hj
        exact put_other _ _ _ _ (by have := List.mem_range.1 hj; omega)
      · simp [put_same]
    rw [e]
    have e2 : ((List.range i).map X ++ [x]).length = i + 1 := by simp
    rw [e2] at h1
    exact h1
  · intro j hj
    by_cases e : j = i
    · subst e
      rw [put_same]
      exact keep _ _ (hx.alloc o)
    · rw [put_other _ _ _ _ e]
      exact keep _ _ ((h.rows j (by omega)).of_block fun k hk => hbw.block k ((h.rows j (by omega)).lt hk))
  · intro k hk
    rcases h3 k hk with h4 | h4
    · exact h.low k h4
    · have := h.size; have := hbw.size; omega

theorem long_at {w : World} {x : Value} {i N : Nat} (h : Own w x (mks i N ++ nks i 16)) : ∃ b c, x = .slice (some ⟨b, 0, none⟩) (N + 16) c ∧ ∀ k, k < N + 16 → w.cell? ⟨b, k, none⟩ = some (.int .u8 ((mks i N ++ nks i 16).getD k 0)) := by
  have e : (mks i N ++ nks i 16).length = N + 16 := by rw [List.length_append, mks_len, nks_len]
  rcases h.2 with ⟨_, h0⟩ | ⟨g, cap, cur, rfl, _⟩
  · omega
  · obtain ⟨_, _, _, h4, _⟩ := h.at_
    rw [e] at h4 ⊢
    exact ⟨g, cap, rfl, h4⟩
theorem both_left (i N m k : Nat) (h : k < N) : (mks i N ++ nks i m).getD k 0 = mk i k := by
  rw [List.getD_eq_getElem?_getD, List.getElem?_append_left (by rw [mks_len]; exact h), ← List.getD_eq_getElem?_getD, mks_at _ _ _ h]
theorem both_right (i N m k : Nat) (h : k < m) : (mks i N ++ nks i m).getD (N + k) 0 = nk i k := by
  rw [List.getD_eq_getElem?_getD, List.getElem?_append_right (by rw [mks_len]; omega), mks_len, Nat.add_sub_cancel_left, ← List.getD_eq_getElem?_getD, nks_at _ _ _ h]

set_option maxHeartbeats 3200000 in
set_option maxRecDepth 1000000 in
theorem ownBytes_some (lb n cap : Nat) (A : Nat → Option Addr) (Z : Nat → List Int) (w : World) (h : Fam w (.slice (some ⟨lb, 0, none⟩) n cap) n A Z) (hn : n ≤ 100000) (hz : ∀ i, i < n → (Z i).length ≤ 10000000) :
    Calls Try.prog 47 #[.slice (some ⟨lb, 0, none⟩) n cap] w fun r w' => r = .returned (.bool true) ∧ Kp (rft n A) w w' := by
  obtain ⟨i0, hi, hz0, hz1, hz2⟩ := info_parts Try.info5
  obtain ⟨i1, hi1, hy0, hy1, hy2⟩ := info_parts Try.info27
  have H := hide h
  have HZ := hide hz
  clear h hz
  go_enter Try.func47, Try.ntmps47
  go_wp2
  go_loopw [3] (fun x wr' => ∃ i : Nat, i ≤ n ∧ x = .int .i64 (i : Int) ∧ Fam wr' (.slice (some ⟨lb, 0, none⟩) n cap) n A (zf Z i 0) ∧ Kp (rft n A) w wr') (fun x _ => n - (intOf x).toNat)
  case atStart => exact ⟨0, Nat.zero_le _, rfl, by rw [zf_start]; exact H.out, Kp.refl _ _⟩
  case round =>
    obtain ⟨i, hin, rfl, hF, hK⟩ := hrel
    have HF := hide hF
    have HK := hide hK
    clear hF hK
    by_cases hlt : i < n
    · go_wp2
      go_loopw [4] (fun x wr' => ∃ k : Nat, k ≤ (Z i).length ∧ x = .int .i64 (k : Int) ∧ Fam wr' (.slice (some ⟨lb, 0, none⟩) n cap) n A (zf Z i k) ∧ Kp (rft n A) w wr') (fun x _ => (Z i).length - (intOf x).toNat)
      case atStart => exact ⟨0, Nat.zero_le _, rfl, HF.out, HK.out⟩
      case round =>
        clear HF HK
        obtain ⟨k, hk, rfl, hF, hK⟩ := hrel
        have HF := hide hF
        have HK := hide hK
        have hc := hF.cell i hlt
        rw [zf_len Z i k i hk] at hc
        have hN := HZ.out i hlt
        clear hF hK
        by_cases hkl : k < (Z i).length
        · obtain ⟨b, ha, hb, hf⟩ := row_at (HF.out.rows i hlt) k (by rw [zf_len Z i k i hk]; exact hkl)
          have HS := hide (HF.out.set i k b hlt (by rw [zf_len Z i k i hk]; exact hkl) ha (mk i k))
          rw [zf_set Z i k hkl] at HS
          rw [ha] at hc
          generalize (zf Z i k i).getD k 0 = old at hb
          have HM : Hid (mk i k = ((i : Int) * 97 + (k : Int) * 13) % 256) := rfl
          rw [HM.out] at HS
          generalize hNN : (Z i).length = N at *
          go_wp2
          go_roundw
          case rel => exact ⟨k + 1, by omega, by go_num, HS.out.1, HK.out.trans HS.out.2⟩
          case measure => first | (simp [intOf]; omega) | (simp [intOf]; done)
        · have hke : k = (Z i).length := by omega
          have HF2 : Hid (Fam wr (.slice (some ⟨lb, 0, none⟩) n cap) n A (zf Z (i + 1) 0)) := HF.out.same (by rw [hke]; exact zf_next Z i)
          clear HF
          generalize hNN : (Z i).length = N at *
          subst hke
          go_wp2
          go_roundw
          case rel => exact ⟨i + 1, by omega, by go_num, HF2.out, HK.out⟩
          case measure => first | (simp [intOf]; omega) | (simp [intOf]; done)
    · have hie : n = i := by omega
      subst hie
      clear hin hlt
      obtain ⟨W0, hW0⟩ : ∃ W, W = wr := ⟨_, rfl⟩
      subst hW0
      have HS0 := hide (HF.out.lt)
      go_wp2
      go_loopw [5, 6] (fun x y wr' => ∃ (i : Nat) (X : Nat → Value), i ≤ n ∧ y = .int .i64 (i : Int) ∧ Lg W0.heap.size W0 wr' x i Z X) (fun _ y _ => n - (intOf y).toNat)
      case atStart => exact ⟨0, fun _ => .slice none 0 0, Nat.zero_le _, rfl, Below.refl _ _, Nat.le_refl _, World.ownsRow_nil _ _ _ _, fun j hj => by omega, fun k hk => by cases hk⟩
      case round =>
        obtain ⟨i, X, hin, rfl, hL⟩ := hrel
        obtain ⟨va, vm, vc, rfl, HVm⟩ := list_shape hL.list
        have HL := hide hL
        clear hL
        by_cases hlt : i < n
        · obtain ⟨W1, hW1⟩ : ∃ W, W = wr := ⟨_, rfl⟩
          subst hW1
          have HFr := hide (HF.out.of_block (w' := W1) fun k hk => HL.out.below.block k (HS0.out k hk))
          have hc := HFr.out.cell i hlt
          have hR := HFr.out.rows i hlt
          have hN := HZ.out i hlt
          rw [zf_end Z n i hlt] at hc hR
          rw [mks_len] at hc
          have HR := hide hR
          have HN2 : Hid ((mks i (Z i).length).length = (Z i).length) := mks_len _ _
          clear hR HFr
          go_wp2
          go_loopw [7, 8] (fun x y wr' => ∃ k : Nat, k ≤ 16 ∧ y = .int .i64 (k : Int) ∧ Own wr' x (mks i (Z i).length ++ nks i k) ∧ (k = 0 → ∃ a, x = .slice a (mks i (Z i).length ++ nks i k).length (mks i (Z i).length ++ nks i k).length) ∧ (0 < k → ∀ b, blks x b → W1.heap.size ≤ b) ∧ Below W1.heap.size W1 wr' ∧ W1.heap.size ≤ wr'.heap.size) (fun _ y _ => 16 - (intOf y).toNat)
          case atStart =>
            refine ⟨0, by omega, rfl, ?_, fun _ => ⟨A i, ?_⟩, fun h => by omega, Below.refl _ _, Nat.le_refl _⟩
            · have h := HR.out
              unfold rv at h
              rw [HN2.out] at h
              simpa [nks] using h
            · simp [nks, mks_len]
          case round =>
            obtain ⟨k, hk, rfl, hown, hfull, hlow, hbel, hBw⟩ := hrel
            obtain ⟨xa, xm, xc, rfl, HXm⟩ := hown.shape2
            have HO := hide hown
            have HFu := hide hfull
            have HLo := hide hlow
            have HBe := hide hbel
            have HBw := hide hBw
            clear hown hfull hlow hbel hBw
            by_cases hk16 : k < 16
            · have HM : Hid (nk i k = ((-1 - (i : Int)) * 97 + (k : Int) * 13) % 256) := rfl
              have HOl := hide (HO.out.alloc (.cells #[.int .u8 (((-1 - (i : Int)) * 97 + (k : Int) * 13) % 256)] 5)).list
              have HSr := hide (src_one wr (((-1 - (i : Int)) * 97 + (k : Int) * 13) % 256))
              have hlen : ((mks i (Z i).length ++ nks i k).map (Value.int .u8)).length = (Z i).length + k := by rw [List.length_map, List.length_append, mks_len, nks_len]
              have HB1 : Hid ((((mks i (Z i).length ++ nks i k).map (Value.int .u8)).length + 1) * i0.bytes ≤ 140737488355328) := by rw [Hid, hlen, hz2]; omega
              have HB2 : Hid (((mks i (Z i).length ++ nks i k).map (Value.int .u8)).length + 1 ≤ 140737488355328) := by rw [Hid, hlen]; omega
              clear hlen
              go_wp2_with (at_builtin; refine wpList_append_one (by rfl) (.tmp 54) (.tmp 62) 27 27 5 (by rfl) i0 (.int .u8 0) Try.underlying27 hi hz0 hz1 rfl (.slice xa xm xc) _ (by rfl) HOl.out _ 1 [.int .u8 (((-1 - (i : Int)) * 97 + (k : Int) * 13) % 256)] (by rfl) HSr.out HB1.out HB2.out ?_; intro v' w1 h1 h2 h3 h4; have HG := hide (grow_step HO.out HFu.out HLo.out HBe.out HBw.out h1 h2 h3 h4); clear h1 h2 h3 h4)
              go_roundw
              case rel => exact ⟨k + 1, by omega, by go_num, by rw [nks_succ, ← List.append_assoc, HM.out]; exact HG.out.1, fun h => by omega, fun _ => HG.out.2.1, HG.out.2.2.1, HG.out.2.2.2⟩
              case measure => simp [intOf]; omega
            · obtain rfl : k = 16 := by omega
              have hls : ((List.range i).map X).length = i := by simp
              have HLl := hide (list_of_block HL.out.list (w' := wr) (fun b hb => HBe.out.block b (list_lt HL.out.list b hb)))
              have HLa : Hid ((wr.alloc (.cells #[.slice xa xm xc] 27)).ownsRow 0 27 1 (.slice va vm vc) ((List.range i).map X).length ((List.range i).map X)) := by rw [Hid, hls]; exact list_of_block HLl.out (fun b hb => Below.heap_alloc wr _ b (list_lt HLl.out b hb))
              have HSr := hide (src_list wr (.slice xa xm xc) rfl)
              have HB1 : Hid ((((List.range i).map X).length + 1) * i1.bytes ≤ 140737488355328) := by rw [Hid, hls, hy2]; omega
              have HB2 : Hid (((List.range i).map X).length + 1 ≤ 140737488355328) := by rw [Hid, hls]; omega
              clear hls
              go_wp2_with (at_builtin; refine wpList_append_one (by rfl) (.tmp 64) (.tmp 66) 29 29 27 (by rfl) i1 (.slice none 0 0) Try.underlying29 hi1 hy0 hy1 rfl (.slice va vm vc) _ (by rfl) HLa.out _ 1 [.slice xa xm xc] (by rfl) HSr.out HB1.out HB2.out ?_; intro v' w1 h1 h2 h3 h4; have HG := hide (HL.out.more rfl HBe.out HBw.out HO.out h1 h2 h3); clear h1 h2 h3 h4)
              go_roundw
              case rel => exact ⟨i + 1, _, by omega, by go_num, HG.out⟩
              case measure => simp [intOf]; omega
        · have hie : n = i := by omega
          subst hie
          clear hin hlt
          obtain ⟨W3, hW3⟩ : ∃ W, W = wr := ⟨_, rfl⟩
          subst hW3
          have HF3 := hide (HF.out.of_block (w' := W3) fun k hk => HL.out.below.block k (HS0.out k hk))
          have HK3 : Hid (Kp (rft n A) w W3) := HK.out.trans (Kp.of_below HL.out.below)
          rcases HL.out.list.2 with ⟨e, h0⟩ | ⟨g, cap2, cur, e, -, -, -, -, -, -⟩
          · subst h0
            go_wp2
            go_loopw [9] (fun x wr' => x = .int .i64 0 ∧ wr' = W3) (fun _ _ => 0)
            case atStart => exact ⟨rfl, rfl⟩
            case round =>
              obtain ⟨rfl, rfl⟩ := hrel
              go_wp2
              go_ret
              exact ⟨rfl, HK3.out⟩
          · cases e
            go_wp2
            go_loopw [9] (fun x wr' => ∃ i : Nat, i ≤ n ∧ x = .int .i64 (i : Int) ∧ wr' = W3) (fun x _ => n - (intOf x).toNat)
            case atStart => exact ⟨0, Nat.zero_le _, rfl, rfl⟩
            case round =>
              obtain ⟨i, hin, rfl, rfl⟩ := hrel
              by_cases hlt : i < n
              · have hc := HF3.out.cell i hlt
                have hR := HF3.out.rows i hlt
                have hN := HZ.out i hlt
                rw [zf_end Z n i hlt] at hc hR
                rw [mks_len] at hc
                have hd := list_cell HL.out.list rfl i (X i) (by simp [hlt])
                obtain ⟨b2, c2, hXe, hX4⟩ := long_at (HL.out.rows i hlt)
                rw [hXe] at hd
                have HX4 := hide hX4
                have HR := hide hR
                clear hXe hX4 hR
                generalize (Z i).length = N at *
                go_wp2
                go_loopw [11] (fun x wr' => ∃ k : Nat, k ≤ N ∧ x = .int .i64 (k : Int) ∧ wr' = wr) (fun x _ => N - (intOf x).toNat)
                case atStart => exact ⟨0, Nat.zero_le _, rfl, rfl⟩
                case round =>
                  obtain ⟨k, hk, rfl, rfl⟩ := hrel
                  by_cases hkl : k < N
                  · obtain ⟨b, ha, hb, hf⟩ := row_at HR.out k (by rw [mks_len]; exact hkl)
                    rw [mks_at _ _ _ hkl] at hb
                    rw [ha] at hc
                    have hb2 := (HX4.out k (by omega)).trans (by rw [both_left _ _ _ _ hkl])
                    unfold mk at hb hb2
                    clear hf
                    go_wp2
                    go_roundw
                    case rel => exact ⟨k + 1, by omega, by go_num, by trivial⟩
                    case measure => simp [intOf]; omega
                  · obtain rfl : k = N := by omega
                    go_wp2
                    go_loopw [12] (fun x wr' => ∃ j : Nat, j ≤ 16 ∧ x = .int .i64 (j : Int) ∧ wr' = wr) (fun x _ => 16 - (intOf x).toNat)
                    case atStart => exact ⟨0, Nat.zero_le _, rfl, rfl⟩
                    case round =>
                      obtain ⟨j, hj, rfl, rfl⟩ := hrel
                      by_cases hj16 : j < 16
                      · have hb2 := (HX4.out (k + j) (by omega)).trans (by rw [both_right _ _ _ _ hj16])
                        unfold nk at hb2
                        go_wp2
                        go_roundw
                        case rel => exact ⟨j + 1, by omega, by go_num, by trivial⟩
                        case measure => simp [intOf]; omega
                      · obtain rfl : j = 16 := by omega
                        go_wp2
                        go_roundw
                        case rel => exact ⟨i + 1, by omega, by go_num, by trivial⟩
                        case measure => simp [intOf]; omega
              · go_wp2
                go_ret
                exact ⟨rfl, HK3.out⟩
end Go.Proofs.Ytobkmjkcbihfbaa
