/- OverParts, walked. -/
import Derived.Test.YtcefgkkapcobiaaOG
import Derived.Test.YtcefgkkapcobiaaFQ
namespace Go.Proofs.Ytcefgkkapcobiaa
open Go.RowKit Go.Maps
set_option linter.unusedVariables false
variable {w w' : World}
/-- the pages that the law takes. -/
def ats (f : Nat) (k : Nat) : List Nat := (List.range k).map fun i => 2 + (f + i) % 16000
theorem ats_len (f k : Nat) : (ats f k).length = k := by simp [ats]
theorem ats_succ (f k : Nat) : ats f (k + 1) = ats f k ++ [2 + (f + k) % 16000] := by simp [ats, List.range_succ]
theorem ats_ok (f k : Nat) : (ats f k).all okp = true := by
  rw [List.all_eq_true]
  intro x hx
  obtain ⟨i, _, rfl⟩ := List.mem_map.1 hx
  unfold okp
  simp
  omega
theorem ats_w (f k : Nat) : W32 (ats f k) := fun z hz => by
  obtain ⟨i, _, rfl⟩ := List.mem_map.1 hz
  omega
theorem Ro.at {g n cap B : Nat} {vs : List Value} {L : Nat → List Int} (h : Ro w (.slice (some ⟨g, 0, none⟩) n cap) B vs L) {j : Nat} (hj : j < vs.length) (hb : Below w.heap.size w w') : ∃ a c, w'.cell? ⟨g, j, none⟩ = some (.slice a (L j).length c) ∧ (L j).length ≤ c ∧ c ≤ maxLen ∧ Row w' a (L j) := by
  obtain ⟨g', cap', a, c, e, hlt, hc, h1, h2, h3, h4⟩ := h.first hj
  obtain ⟨rfl, -, -⟩ : g = g' ∧ n = vs.length ∧ cap = cap' := by simpa using e
  exact ⟨a, c, (hb.cell (p := ⟨g, j, none⟩) hlt).trans hc, h1, h2, h3.below hb⟩
theorem pay_len (zs : List Int) (ys : List Nat) (j : Nat) : (pay zs ys j).length = 4 + min 1004 (zs.length - 1004 * j) := by
  unfold pay
  rw [List.length_append, le4_len, List.length_take, List.length_drop]
theorem pay_drop (zs : List Int) (ys : List Nat) (j : Nat) : (pay zs ys j).drop 4 = (zs.drop (1004 * j)).take 1004 := by
  unfold pay
  rw [List.drop_append_of_le_length (by rw [le4_len]; omega), List.drop_of_length_le (by rw [le4_len]; omega)]
  rfl
theorem take_more (zs : List Int) (j : Nat) : zs.take (1004 * j) ++ (zs.drop (1004 * j)).take 1004 = zs.take (1004 * (j + 1)) := by
  rw [Nat.mul_add, Nat.mul_one, List.take_add]
set_option maxHeartbeats 3200000 in
set_option maxRecDepth 1000000 in
theorem parts_walk (a : Option Addr) (n c : Nat) (zs : List Int) (f : Nat) (hf : f ≤ 65535) (w : World) (h : Inn w a n c zs) :
    Calls Try.prog 3 #[.slice a n c, .int .u16 (f : Int)] w fun e w' => e = .returned (.bool true) ∧ Below w.heap.size w w' := by
  have hnm : n ≤ 9223372036854775807 := Nat.le_trans h.cap h.max
  have HK := hide (fun W => known_any W)
  have HI := hide h
  by_cases hbig : 40000 < n
  · have hb1 : (40000 : Int) < (n : Int) := by omega
    clear h
    go_enter Try.func3, Try.ntmps3
    go_wp2_with (go_at_call 4; refine (HK.out _).mono ?_; rintro e w1 ⟨rfl, h1⟩; have H1 := hide h1; clear h1)
    go_ret
    exact ⟨rfl, H1.out⟩
  · have hb1 : ¬ (40000 : Int) < (n : Int) := by omega
    obtain ⟨m, hm⟩ : ∃ m, m = need n := ⟨_, rfl⟩
    have hm9 : m ≤ 9 := by rw [hm]; exact need_le n
    have HN : Hid (∀ W, Calls Try.prog 5 #[.int .i64 (n : Int)] W fun e w' => e = .returned (.int .i64 (m : Int)) ∧ w' = W) := fun W => by rw [hm]; exact need_any W n hnm
    have HM := hide hm
    clear h hm
    go_enter Try.func3, Try.ntmps3
    go_wp2_with (first
      | (go_at_call 4; refine (HK.out _).mono ?_; rintro e w1 ⟨rfl, h1⟩; have H1 := hide h1; clear h1)
      | (go_at_call 5; refine (HN.out _).mono ?_; rintro e w2 ⟨rfl, hw2⟩; rw [hw2]; clear hw2 w2))
    obtain ⟨i0, hi, hz0, hz1, hz2⟩ := info_parts infoU32
    go_loopw [7, 6] (fun i u wr => ∃ (k : Nat) (v : Value), k ≤ m ∧ i = .int .i64 k ∧ u = v ∧ OwnW wr v (ats f k) ∧ (∀ b, v.ownBlock = some b → w.heap.size ≤ b) ∧ Below w.heap.size w wr) (fun i _ _ => m - (intOf i).toNat)
    case atStart => exact ⟨0, _, Nat.zero_le _, rfl, rfl, OwnW.nil _, fun b hb => by simp [Value.ownBlock] at hb, H1.out⟩
    case round =>
      obtain ⟨k, v, hk, rfl, rfl, hown, hlow, hbel⟩ := hrel
      have HOw := hide hown
      have HLo := hide hlow
      have HBe := hide hbel
      have hlen := ats_len f k
      obtain ⟨a2, c2, rfl, hc2, hcm2, hrw2, -⟩ := hown.shape
      have HRw2 := hide hrw2
      clear hown hlow hbel hrw2
      by_cases hlt : k < m
      · have HAs := hide (ats_succ f k)
        have hkm : (k : Int) < (m : Int) := by omega
        rw [hlen] at HOw HLo hc2 ⊢
        generalize ats f k = ys at *
        have HLen := hide hlen
        clear hlen
        go_wp2_with (at_builtin; refine wpList_append_own_at _ (by rfl) (.tmp 28) (.tmp 36) 26 (by rfl) 0 27 i0 (.int .u32 0) 1 4 Try.underlying26 hi hz0 hz1 hz2 rfl (by omega) (.slice a2 k c2) ys.length (ys.map fun (z : Nat) => Value.int .u32 (z : Int)) (by rfl) (World.ownsRow.alloc HOw.out _) ⟨wr.heap.size, 0, none⟩ 1 1 [.int .u32 (2 + ((f : Int) + (k : Int)) % 16000)] (by rfl) (by rfl) (cell_one_new _ _ _) (fun u hu => by rw [List.mem_singleton.1 hu]; rfl) (by have := HLen.out; unfold maxLen; omega) (by have := HLen.out; omega) (Nat.zero_le _) ?_; intro v4 w4 h1 h2 h3 h4; have J1 := hide h1; have J2 := hide h2; have J4 := hide h4; clear h1 h2 h3 h4)
        go_roundw
        case rel =>
          refine ⟨k + 1, v4, by omega, by go_num, rfl, ?_, fun j hj => ?_, ?_⟩
          · have := J1.out
            rw [HAs.out]
            unfold OwnW
            rw [List.length_append, List.map_append, List.length_singleton]
            rw [show (2 + ((f : Int) + (k : Int)) % 16000) = ((2 + (f + k) % 16000 : Nat) : Int) by omega] at this
            exact this
          · rcases J4.out with e | e
            · rw [e] at hj; exact HLo.out j hj
            · rw [e] at hj; cases hj; have := HBe.out.size; simp; omega
          · exact HBe.out.trans ((Mv.below (((Mv.refl (fun j => (Value.slice a2 k c2).ownBlock = some j) wr).alloc _).grown J2.out (fun j hj => .inl hj)) HBe.out.size (fun j hj => HLo.out j hj)))
        case measure => simp [intOf]; omega
      · obtain rfl : k = m := by omega
        have hkm : ¬ (k : Int) < (k : Int) := by omega
        rw [hlen] at hc2 HOw HLo ⊢
        have HRv := hide (HI.out.row.below HBe.out)
        by_cases h0 : k = 0
        · have HEn := hide (encode_no wr a a2 n c k c2 hnm (ats f k) hlen (by omega) HRw2.out (ats_w f k) (.inl h0))
          have hk0 : ((k : Int) == 0) = true := by rw [beq_iff_eq]; omega
          have H0 := hide h0
          clear h0
          go_wp2_with (go_at_call 6; refine HEn.out.mono ?_; rintro e w5 ⟨rfl, h5⟩; have H5 := hide h5; clear h5)
          go_ret
          exact ⟨rfl, HBe.out.trans (H5.out.mono HBe.out.size)⟩
        · have hk0 : ((k : Int) == 0) = false := by rw [beq_eq_false_iff_ne]; omega
          have hkk : ((k : Int) != (k : Int)) = false := by simp
          obtain ⟨hn65, hn81, hnk⟩ := need_pos (n := n) (by rw [← HM.out]; omega)
          rw [← HM.out] at hnk
          have HNk := hide hnk
          clear hnk
          obtain ⟨b0, off, rfl⟩ : ∃ b0 off, a = some ⟨b0, off, none⟩ := by
            have hl := HI.out.len
            rcases HRv.out with e | ⟨b, o, e, _⟩
            · rw [e] at hl; simp at hl; omega
            · exact ⟨b, o, e⟩
          have HEn := hide (encode_ok wr a2 b0 off n c k c2 zs (ats f k) HI.out.len HI.out.cap HI.out.max HRv.out hlen HM.out (by omega) hc2 HRw2.out (ats_w f k) (ats_ok f k))
          have hk1 : 0 < k := by omega
          clear h0 HK HN
          go_wp2_with (go_at_call 6; refine HEn.out.mono ?_; rintro e w5 ⟨v5, vs, rfl, hl5, hro5, hb5⟩; obtain ⟨g5, cap5, _, _, rfl, _⟩ := hro5.first (j := 0) (by omega); rw [hl5]; rw [hl5] at hro5; have HL5 := hide hl5; have HRo5 := hide hro5; have HB5 := hide (HBe.out.trans (hb5.mono HBe.out.size)); clear hl5 hro5 hb5)
          obtain ⟨i1, hi1, hy0, hy1, hy2⟩ := info_parts infoU8
          have HLz := hide HI.out.len
          have HRv5 := hide (HI.out.row.below HB5.out)
          clear HEn
          go_loopw [11, 10] (fun i u wr => ∃ (j : Nat) (v : Value), j ≤ k ∧ i = .int .i64 j ∧ u = v ∧ Own wr v (zs.take (1004 * j)) ∧ (∀ b, v.ownBlock = some b → w5.heap.size ≤ b) ∧ Below w5.heap.size w5 wr) (fun i _ _ => k - (intOf i).toNat)
          case atStart => exact ⟨0, _, Nat.zero_le _, rfl, rfl, by simpa using Own.nil w5, fun b hb => by simp [Value.ownBlock] at hb, Below.refl _ _⟩
          case round =>
            obtain ⟨j, v, hj, rfl, rfl, hown, hlow, hbel⟩ := hrel
            obtain ⟨a6, n6, c6, rfl, hn6⟩ := hown.shape2
            have HOw6 := hide hown
            have HLo6 := hide hlow
            have HBe6 := hide hbel
            clear hown hlow hbel
            by_cases hlt : j < k
            · obtain ⟨aj, cj, e1, hcj, hcm, hrj⟩ := HRo5.out.at (j := j) (by rw [HL5.out]; exact hlt) HBe6.out
              have hlj := pay_len zs (ats f k) j
              rw [HLz.out] at hlj
              have hnk := HNk.out
              obtain ⟨bj, oj, rfl, hrj4⟩ : ∃ bj oj, aj = some ⟨bj, oj, none⟩ ∧ Row wr (some ⟨bj, oj + 4, none⟩) ((zs.drop (1004 * j)).take 1004) := by
                have hcut := hrj.cut 4 cj hcj
                rw [if_neg (by omega), pay_drop] at hcut
                rcases hrj with h0 | ⟨b, o, rfl, _⟩
                · rw [h0] at hlj; simp at hlj; omega
                · exact ⟨b, o, rfl, by rw [Option.map_some, Addr.add_lit] at hcut; exact hcut⟩
              have hpl : ((zs.drop (1004 * j)).take 1004).length = (pay zs (ats f k) j).length - 4 := by rw [hlj, List.length_take, List.length_drop, HLz.out]; omega
              have hL5 : ¬ (((pay zs (ats f k) j).length : Nat) : Int) < 5 := by omega
              have hL8 : ¬ (1008 : Int) < (((pay zs (ats f k) j).length : Nat) : Int) := by omega
              have hL9 : j + 1 < k → ((((pay zs (ats f k) j).length : Nat) : Int) != 1008) = false := fun h => by rw [bne_eq_false_iff_eq]; omega
              have hne : ¬ cj = 4 := by omega
              have h4L : (4 : Int) ≤ (((pay zs (ats f k) j).length : Nat) : Int) := by omega
              have HTm := hide (take_more zs j)
              have hjk : (j : Int) < (k : Int) := by omega
              have hz6 : (zs.take (1004 * j)).length ≤ 8192 := by rw [List.length_take, HLz.out]; omega
              have HZ6 := hide hz6
              clear hz6 hrj hlj hnk
              generalize (zs.drop (1004 * j)).take 1004 = ps at *
              generalize (pay zs (ats f k) j).length = L at *
              have HSr := hide (src_row wr (some ⟨bj, oj + 4, none⟩) (L - 4) (cj - 4) ps hpl (fun e => by cases e) hrj4)
              have HPl := hide hpl
              have hLm : L ≤ 1008 := by omega
              clear hrj4 hpl
              generalize zs.take (1004 * j) = qs at *
              by_cases hlast : j + 1 < k
              · have hL9' := hL9 hlast
                have hd1 : (j : Int) < (k : Int) - 1 := by omega
                clear hL9
                go_wp2_with (at_builtin; refine wpList_append_src (by rfl) (.tmp 94) (.tmp 99) 22 22 (by rfl) i1 Try.underlying22 hi1 hy0 hy1 hy2 (.slice a6 n6 c6) qs (by rfl) HOw6.out (.slice (some ⟨bj, oj + 4, none⟩) (L - 4) (cj - 4)) (L - 4) ps (by rfl) HSr.out (by have := HZ6.out; omega) ?_; intro v7 w7 hown7 hg7 hf7; have HO7 := hide hown7; have HG7 := hide hg7; have HF7 := hide hf7; clear hown7 hg7 hf7)
                go_roundw
                case rel =>
                  refine ⟨j + 1, v7, by omega, by go_num, rfl, by rw [← HTm.out]; exact HO7.out, fun b hb => ?_, HBe6.out.trans (Below.grown (Below.refl _ _) HG7.out (by exact HBe6.out.size) (fun b hb => HLo6.out b hb))⟩
                  rcases HF7.out b hb with h | h
                  · exact HLo6.out b h
                  · exact Nat.le_trans HBe6.out.size h
                case measure => simp [intOf]; omega
              · have hd1 : ¬ (j : Int) < (k : Int) - 1 := by omega
                clear hL9
                go_wp2_with (at_builtin; refine wpList_append_src (by rfl) (.tmp 94) (.tmp 99) 22 22 (by rfl) i1 Try.underlying22 hi1 hy0 hy1 hy2 (.slice a6 n6 c6) qs (by rfl) HOw6.out (.slice (some ⟨bj, oj + 4, none⟩) (L - 4) (cj - 4)) (L - 4) ps (by rfl) HSr.out (by have := HZ6.out; omega) ?_; intro v7 w7 hown7 hg7 hf7; have HO7 := hide hown7; have HG7 := hide hg7; have HF7 := hide hf7; clear hown7 hg7 hf7)
                go_roundw
                case rel =>
                  refine ⟨j + 1, v7, by omega, by go_num, rfl, by rw [← HTm.out]; exact HO7.out, fun b hb => ?_, HBe6.out.trans (Below.grown (Below.refl _ _) HG7.out (by exact HBe6.out.size) (fun b hb => HLo6.out b hb))⟩
                  rcases HF7.out b hb with h | h
                  · exact HLo6.out b h
                  · exact Nat.le_trans HBe6.out.size h
                case measure => simp [intOf]; omega
            · obtain rfl : j = k := by omega
              have hjk : ¬ (j : Int) < (j : Int) := by omega
              have htk : zs.take (1004 * j) = zs := List.take_of_length_le (by have := HLz.out; have := HNk.out; omega)
              rw [htk] at HOw6 hn6
              obtain ⟨a7, c7, e7, _, _, _, hr7, _⟩ := HOw6.out.shape
              rw [e7]
              have HSm := hide (sameb_any a7 (some ⟨b0, off, none⟩) zs.length n c7 c zs zs wr rfl HLz.out (by have := HLz.out; omega) (by omega) hr7 (HRv5.out.below HBe6.out))
              rw [show sameB zs zs = true by unfold sameB; simp] at HSm
              clear hr7 e7
              go_wp2_with (go_at_call 7; refine HSm.out.mono ?_; rintro e w8 ⟨rfl, h8⟩; have H8 := hide h8; clear h8)
              go_ret
              exact ⟨rfl, (HB5.out.trans (HBe6.out.mono HB5.out.size)).trans (H8.out.mono (Nat.le_trans HB5.out.size HBe6.out.size))⟩
end Go.Proofs.Ytcefgkkapcobiaa
