/- PoolDoes: the walk (an image that is longer than the file). -/
import Derived.Test.YtobokocpapfjbaaGreatVV
import Derived.Deep.RegionHeld3
import Derived.BigQuiet
import Derived.Deep.CutBlock
namespace Go.Proofs.YtobokocpapfjbaaGreat
open Go.RowKit Go.Maps
set_option linter.unusedVariables false
set_option maxHeartbeats 12800000 in
set_option maxRecDepth 1000000 in
theorem does_b (w : World) (pages : Nat) (hpA : 1 ≤ pages) (hpB : pages ≤ 60) (M : Int) (hM : -9223372036854775808 ≤ M ∧ M ≤ 9223372036854775807) (ia : Option Addr) (il ic : Nat) (hil : il ≤ 200000) (hcs : 1024 * pages + 1024 ≤ il) (iz : List Int) (hi : Inn w ia il ic iz) (a : Option Addr) (n c : Nat) (xs : List Ac) (hx : Acs w a n c xs) (hs : Sza xs) :
    Calls Tryz.prog 3 #[.int .i64 (pages : Int), .int .i64 M, .slice ia il ic, .slice a n c] w fun e w' => e = .returned (.bool true) ∧ Below w.heap.size w w' := by
  have HX := hide hx
  have HZ := hide hs
  have HI := hide hi
  have hicap := hi.cap
  have himax := hi.max
  have hza := zeroA
  have hbk := buildB
  clear hx hs hi
  have hil' : ¬ (200000 : Int) < (il : Int) := by omega
  have hp60 : ¬ (60 : Int) < (pages : Int) := by omega
  have hp1 : ¬ (pages : Int) < 1 := by omega
  go_enter Tryz.func3, Tryz.ntmps3
  go_wp2_with (go_at_call 4; refine (known_any _).mono ?_; rintro e w1 ⟨rfl, hb1⟩; have HB1 := hide hb1; clear hb1)
  refine (much_any a n c xs w1 (HX.out.below HB1.out) HZ.out).mono ?_
  rintro e w2 ⟨hmu, hb2⟩
  have HB2 := hide (HB1.out.trans (hb2.mono HB1.out.size))
  clear hb2
  rcases hmu with rfl | ⟨rfl, h200, hszs⟩
  · go_wp2
    go_ret
    exact ⟨rfl, HB2.out⟩
  have HZs := hide hszs
  clear hszs
  go_wp2_with (first
    | (go_at_call 6; refine (new_at pages (pages : Int) w2 rfl (by omega) (by omega)).mono ?_; rintro e w3 ⟨O3, d, q, rfl, hd3, hf3⟩; have HD3 := hide hd3; have HF3 := hide hf3; clear hd3 hf3)
    | (go_at_call 7; refine (rnew_any pages w3 (by omega) (by omega)).mono ?_; rintro e w4 ⟨r, f4, vl4, Ls4, rfl, g1, g2, g3⟩; have HR4 := hide g1; have HO4 := hide g2; have HB4 := hide g3; clear g1 g2 g3))
  have HSd : Hid (Sd w w4 d q r (imS (DS.new (8 * pages)) iz 0) (imS (DS.new (8 * pages)) iz 0)) := by
    have h1 := HR4.out
    rw [new_of] at h1
    exact sd_new (O1 := O3) HD3.out (fun k hk => Nat.le_trans HB2.out.size (HF3.out.own k hk)) (HB2.out.trans (HF3.out.below.mono HB2.out.size)) ⟨vl4, Ls4, _, _, f4, h1, fun k => Iff.rfl⟩ HO4.out HB4.out
  have HLv := hide (fun k (h1 : k ≤ pages) (h2 : 1024 * k ≤ iz.length) => imS_live (Live.new pages) iz k h1 h2)
  have hwq : ∀ k : Nat, k ≤ 300 → IntKind.i64.wrap (1024 * (k : Int) + 1024) = 1024 * (k : Int) + 1024 := fun k hk => by rw [IntKind.wrap_i64]; omega
  clear HD3 HF3 HR4 HO4 HB4
  go_loopw [13] (fun j wr => ∃ k : Nat, k ≤ pages ∧ 1024 * k ≤ il ∧ j = .int .i64 (1024 * (k : Int)) ∧ Hid (Sd w wr d q r (imS (DS.new (8 * pages)) iz k) (imS (DS.new (8 * pages)) iz k))) (fun j _ => 400000 - (intOf j).toNat)
  case atStart => exact ⟨0, Nat.zero_le _, by omega, by simp, HSd⟩
  case round =>
    obtain ⟨k, hk, hkl, rfl, HS⟩ := hrel
    have wk := hwq k (by omega)
    have dv : (1024 * (k : Int)).tdiv 1024 = (k : Int) := Int.mul_tdiv_cancel_left _ (by decide)
    by_cases h0 : k < pages
    · have h1 : 1024 * k + 1024 ≤ il := by omega
      have d1 : 1024 * (k : Int) + 1024 ≤ (il : Int) := by omega
      have d2 : (k : Int) < (pages : Int) := by omega
      obtain ⟨b, off, rfl⟩ : ∃ b off, ia = some ⟨b, off, none⟩ := by
        rcases HI.out.row with h0 | ⟨b, off, e, _⟩
        · have := HI.out.len; rw [h0] at this; simp at this; omega
        · exact ⟨b, off, e⟩
      have e1 : (0 : Int) ≤ 1024 * (k : Int) := by omega
      have e2 : 1024 * (k : Int) ≤ 1024 * (k : Int) + 1024 := by omega
      have e3 : 1024 * (k : Int) + 1024 ≤ (ic : Int) := by omega
      have e4 : (1024 * (k : Int)).toNat = 1024 * k := by omega
      have e5 : (1024 * (k : Int) + 1024).toNat = 1024 * k + 1024 := by omega
      have e6 : ¬ ic = 1024 * k := by omega
      have e7 : 1024 * k + 1024 - 1024 * k = 1024 := by omega
      obtain ⟨r1, r2, r3⟩ := img_row HI.out k h1
      have hlk := HLv.out k hk (by rw [HI.out.len]; omega)
      obtain ⟨z1, HW1⟩ := sd_write HS.out hlk (by omega) k (some ⟨b, off + 1024 * k, none⟩) (ic - 1024 * k) _ r1 r3 r2 (by omega) (by omega)
      have HW1 := hide HW1
      have HW2 := hide (fun W (hW : Sd w W d q r (imS (DS.new (8 * pages)) iz (k + 1)) (imS (DS.new (8 * pages)) iz k)) => sd_rwrite hW hlk (by omega) k (some ⟨b, off + 1024 * k, none⟩) (ic - 1024 * k) _ r1 r3 r2 (by omega) (by omega))
      clear r1 r2 r3 hlk
      go_wp2_with (first
        | (go_at_call 8; refine HW1.out.mono ?_; rintro e w5 ⟨rfl, hs5⟩; obtain ⟨z2, hw2⟩ := HW2.out w5 hs5; have HW3 := hide hw2; clear hs5 hw2)
        | (go_at_call 9; refine HW3.out.mono ?_; rintro e w6 ⟨rfl, hs6⟩; have HS6 := hide hs6; clear hs6))
      go_roundw
      case rel => exact ⟨k + 1, by omega, by omega, by go_num, HS6⟩
      case measure => simp [intOf]; omega
    · have d1 : 1024 * (k : Int) + 1024 ≤ (il : Int) := by omega
      have d2 : ¬ (k : Int) < (pages : Int) := by omega
      have hlk := HLv.out k hk (by rw [HI.out.len]; omega)
      have HLk := hide (hlk.mono (show k ≤ 60 by omega))
      clear hlk HLv
      generalize imS (DS.new (8 * pages)) iz k = SS at HS HLk
      by_cases hM1 : M < 1
      · have HN := hide hM1
        clear hM1
        go_wp2_with (first
          | (go_at_call 10; refine (pnew_no M _ HN.out).mono ?_; rintro e w5 ⟨rfl, rfl⟩)
          | (go_at_call 11; refine (qnew_no M _ HN.out).mono ?_; rintro e w6 ⟨rfl, rfl⟩))
        go_ret
        exact ⟨rfl, HS.out.bel⟩
      obtain ⟨mo, rfl⟩ : ∃ mo : Nat, M = (mo : Int) := ⟨M.toNat, by omega⟩
      have hmo1 : 1 ≤ mo := by omega
      have hmo2 : mo ≤ 9223372036854775807 := by omega
      clear hM1 hM
      go_wp2_with (first
        | (go_at_call 10; refine (sd_pnew HS.out mo hmo1 hmo2).mono ?_; rintro e w5 ⟨p, rfl, hs5⟩; have HP5 := hide hs5; clear hs5)
        | (go_at_call 11; refine (sp_qnew HP5.out hmo1 hmo2).mono ?_; rintro e w6 ⟨p2, rfl, hs6⟩; have HQ6 := hide hs6; clear hs6))
      have HSw := hide (sq_book HQ6.out _ (Bo.book_new w6))
      clear HQ6 HP5 HS HSd
      go_loopw [19] (fun j wr => ∃ (m nb : Nat) (S : DS) (A : List Pge), m ≤ n ∧ j = .int .i64 (m : Int) ∧ nb ≤ m ∧ A.length ≤ m ∧ Hid (Live S pages (60 + m)) ∧ Hid (Sw ⟨p, d, q, p2, r, w6.heap.size, mo⟩ w wr S A S A nb Emp)) (fun j _ => n - (intOf j).toNat)
      case atStart => exact ⟨0, 0, SS, [], Nat.zero_le _, rfl, Nat.le_refl _, Nat.le_refl _, HLk, HSw⟩
      case round =>
        obtain ⟨m, nb, S, A, hmn, rfl, hnb, hAm, HLi, HSt⟩ := hrel
        by_cases hlt : m < n
        · have hki : (m : Int) < (n : Int) := by omega
          obtain ⟨W0, hW0⟩ : ∃ W, W = wr := ⟨_, rfl⟩
          subst hW0
          obtain ⟨x, b, off, hxk, rfl, hbl, hat, -⟩ := (HX.out.below HSt.out.bel).at hlt
          have hok := HX.out.each x (List.mem_of_getElem? hxk)
          have hsz := HZs.out x (List.mem_of_getElem? hxk)
          obtain ⟨c0, c1, c2, c3, c4, c5⟩ := hat
          obtain ⟨K, N, F, nn, da, dc, db, ka, kc, kb⟩ := x
          obtain ⟨HDt, HKp, -, hkk, hN, hF, hnn⟩ := hok
          simp only [] at c0 c1 c2 c3 c4 c5 HDt HKp hkk hN hF hnn hsz
          have HDt := hide HDt
          have HKp := hide HKp
          obtain ⟨hs1, hs2⟩ := hsz
          have hnn2 := hnn.2
          clear hxk
          obtain ⟨ld, HLd⟩ : ∃ ld, Hid (ld = db.length) := ⟨_, rfl⟩
          rw [← HLd.out] at c4 hs1 HDt
          obtain ⟨kd, hkd, hk9⟩ : ∃ kd : Nat, kd < 9 ∧ (K : Int) % 9 = (kd : Int) := ⟨K % 9, by omega, by omega⟩
          have hcase : kd = 0 ∨ kd = 1 ∨ kd = 2 ∨ kd = 3 ∨ kd = 4 ∨ kd = 5 ∨ kd = 6 ∨ kd = 7 ∨ kd = 8 := by omega
          have HSb := hide (HSt.out.box (.cells #[.int .u8 (K : Int), .int .u32 (N : Int), .int .u8 (F : Int), .int .i64 nn, .slice da ld dc, .slice ka kb.length kc] 70))
          have HC : Hid (∀ (W : World), W.heap[W0.heap.size]? = some (.cells #[.int .u8 (K : Int), .int .u32 (N : Int), .int .u8 (F : Int), .int .i64 nn, .slice da ld dc, .slice ka kb.length kc] 70 (0, 0)) → W.cell? ⟨W0.heap.size, 1, none⟩ = some (.int .u32 (N : Int)) ∧ W.cell? ⟨W0.heap.size, 2, none⟩ = some (.int .u8 (F : Int)) ∧ W.cell? ⟨W0.heap.size, 3, none⟩ = some (.int .i64 nn) ∧ W.cell? ⟨W0.heap.size, 4, none⟩ = some (.slice da ld dc) ∧ W.cell? ⟨W0.heap.size, 5, none⟩ = some (.slice ka kb.length kc)) := fun W h => ⟨by simp [World.cell?, h], by simp [World.cell?, h], by simp [World.cell?, h], by simp [World.cell?, h], by simp [World.cell?, h]⟩
          go_upto_block 4 with fail
          go_cut [] from 130 to 299 (fun wx => ∃ (nb' : Nat) (S' : DS) (A' : List Pge), nb' ≤ m + 1 ∧ A'.length ≤ m + 1 ∧ Hid (Live S' pages (60 + (m + 1))) ∧ Hid (Sw ⟨p, d, q, p2, r, w6.heap.size, mo⟩ w wx S' A' S' A' nb' Emp))
          case first =>
            rcases hcase with rfl | rfl | rfl | rfl | rfl | rfl | rfl | rfl | rfl
            · as_aux_lemma =>
                have hk0 : (K : Int) % 9 = 0 := by omega
                clear hk9 hkd
                obtain ⟨K1, E1, pl, S', A', l1, l2, l3, hr1, hr2⟩ := sw_read HSb.out HLi.out (by omega) (by omega) N hN
                have HR1 := hide hr1
                have HR2 := hide hr2
                have HLi' := hide (l1.mono (show 60 + m + 1 ≤ 60 + (m + 1) by omega))
                have hA' : A'.length ≤ m + 1 := by omega
                have hz1 : ((K1 : Int) != (K1 : Int)) = false := by simp
                have hz2 : ((E1 : Int) != (E1 : Int)) = false := by simp
                clear hr1 hr2 l1 l2
                obtain ⟨d1, d2, d3, d4, d5⟩ := HC.out _ (HSb.out.bx)
                go_wp2_with (first
                  | (go_at_call 12; refine HR1.out.mono ?_; rintro e w7 ⟨a7, n7, c7, rfl, s7⟩; have S7 := hide s7; clear d1 d2 d3 d4 d5; obtain ⟨d1, d2, d3, d4, d5⟩ := HC.out w7 s7.bx2; clear s7)
                  | (go_at_call 13; refine (HR2.out _ _ S7.out).mono ?_; rintro e w8 ⟨a8, n8, c8, rfl, f8, s8⟩; have S8 := hide s8; have F8 := hide f8.1; clear d1 d2 d3 d4 d5; obtain ⟨d1, d2, d3, d4, d5⟩ := HC.out w8 s8.bx2; clear s8 f8)
                  | (go_at_call 14; refine (sw_bytes goodBx S8.out (by omega) l3).mono ?_; rintro e w9 ⟨rfl, s9, t9, u9⟩; have S9 := hide s9; have T9 := hide (t9 _ _ F8.out); have U9 := hide u9; clear d1 d2 d3 d4 d5; obtain ⟨d1, d2, d3, d4, d5⟩ := HC.out w9 s9.bx; clear s9 t9 u9)
                  | (go_at_call 15; refine (same_own U9.out T9.out (by omega)).mono ?_; rintro e w10 ⟨rfl, b10⟩; have SN := hide (S9.out.on b10); clear d1 d2 d3 d4 d5; clear b10))
                have hnb' : nb + 1 ≤ m + 1 := by omega
                go_wp2
                go_meet
                case rel => exact ⟨nb + 1, S', A', hnb', hA', HLi', hide SN.out.out⟩
            · as_aux_lemma =>
                have hk0 : (K : Int) % 9 = 1 := by omega
                clear hk9 hkd
                obtain ⟨K1, E1, pl, S', A', l1, l2, l3, hr1, hr2⟩ := sw_read HSb.out HLi.out (by omega) (by omega) N hN
                have HR1 := hide hr1
                have HR2 := hide hr2
                have HLi' := hide (l1.mono (show 60 + m + 1 ≤ 60 + (m + 1) by omega))
                have hA' : A'.length ≤ m + 1 := by omega
                have hz1 : ((K1 : Int) != (K1 : Int)) = false := by simp
                have hz2 : ((E1 : Int) != (E1 : Int)) = false := by simp
                clear hr1 hr2 l1 l2
                obtain ⟨d1, d2, d3, d4, d5⟩ := HC.out _ (HSb.out.bx)
                go_wp2_with (first
                  | (go_at_call 12; refine HR1.out.mono ?_; rintro e w7 ⟨a7, n7, c7, rfl, s7⟩; have S7 := hide s7; clear d1 d2 d3 d4 d5; obtain ⟨d1, d2, d3, d4, d5⟩ := HC.out w7 s7.bx2; clear s7)
                  | (go_at_call 13; refine (HR2.out _ _ S7.out).mono ?_; rintro e w8 ⟨a8, n8, c8, rfl, f8, s8⟩; have S8 := hide s8; have F8 := hide f8.1; clear d1 d2 d3 d4 d5; obtain ⟨d1, d2, d3, d4, d5⟩ := HC.out w8 s8.bx2; clear s8 f8)
                  | (go_at_call 14; refine (sw_bytes goodBx S8.out (by omega) l3).mono ?_; rintro e w9 ⟨rfl, s9, t9, u9⟩; have S9 := hide s9; have T9 := hide (t9 _ _ F8.out); have U9 := hide u9; clear d1 d2 d3 d4 d5; obtain ⟨d1, d2, d3, d4, d5⟩ := HC.out w9 s9.bx; clear s9 t9 u9)
                  | (go_at_call 15; refine (same_own U9.out T9.out (by omega)).mono ?_; rintro e w10 ⟨rfl, b10⟩; have SN := hide (S9.out.on b10); clear d1 d2 d3 d4 d5; clear b10))
                have hnb' : nb + 1 ≤ m + 1 := by omega
                go_wp2
                go_meet
                case rel => exact ⟨nb + 1, S', A', hnb', hA', HLi', hide SN.out.out⟩
            · as_aux_lemma =>
                have hk0 : (K : Int) % 9 = 2 := by omega
                clear hk9 hkd
                obtain ⟨K1, E1, pl, S', A', l1, l2, l3, hr1, hr2⟩ := sw_read HSb.out HLi.out (by omega) (by omega) N hN
                have HR1 := hide hr1
                have HR2 := hide hr2
                have HLi' := hide (l1.mono (show 60 + m + 1 ≤ 60 + (m + 1) by omega))
                have hA' : A'.length ≤ m + 1 := by omega
                have hz1 : ((K1 : Int) != (K1 : Int)) = false := by simp
                have hz2 : ((E1 : Int) != (E1 : Int)) = false := by simp
                clear hr1 hr2 l1 l2
                obtain ⟨d1, d2, d3, d4, d5⟩ := HC.out _ (HSb.out.bx)
                go_wp2_with (first
                  | (go_at_call 12; refine HR1.out.mono ?_; rintro e w7 ⟨a7, n7, c7, rfl, s7⟩; have S7 := hide s7; clear d1 d2 d3 d4 d5; obtain ⟨d1, d2, d3, d4, d5⟩ := HC.out w7 s7.bx2; clear s7)
                  | (go_at_call 13; refine (HR2.out _ _ S7.out).mono ?_; rintro e w8 ⟨a8, n8, c8, rfl, f8, s8⟩; have S8 := hide s8; have F8 := hide f8.1; clear d1 d2 d3 d4 d5; obtain ⟨d1, d2, d3, d4, d5⟩ := HC.out w8 s8.bx2; clear s8 f8)
                  | (go_at_call 14; refine (sw_bytes goodBx S8.out (by omega) l3).mono ?_; rintro e w9 ⟨rfl, s9, t9, u9⟩; have S9 := hide s9; have T9 := hide (t9 _ _ F8.out); have U9 := hide u9; clear d1 d2 d3 d4 d5; obtain ⟨d1, d2, d3, d4, d5⟩ := HC.out w9 s9.bx; clear s9 t9 u9)
                  | (go_at_call 15; refine (same_own U9.out T9.out (by omega)).mono ?_; rintro e w10 ⟨rfl, b10⟩; have SN := hide (S9.out.on b10); clear d1 d2 d3 d4 d5; clear b10))
                have hnb' : nb + 1 ≤ m + 1 := by omega
                go_wp2
                go_meet
                case rel => exact ⟨nb + 1, S', A', hnb', hA', HLi', hide SN.out.out⟩
            · as_aux_lemma =>
                have hk0 : (K : Int) % 9 = 3 := by omega
                clear hk9 hkd
                have HL1 := hide (sw_lent HSb.out da ld dc db HDt.out hs1)
                have HW : Hid (∀ W g, Sw ⟨p, d, q, p2, r, w6.heap.size, mo⟩ w W S A S A nb (Bes (Bx W0.heap.size (.cells #[.int .u8 (K : Int), .int .u32 (N : Int), .int .u8 (F : Int), .int .i64 nn, .slice da ld dc, .slice ka kb.length kc] 70)) (Ln g ld db)) → _) := fun W g hW => sw_write hW HLi.out (by omega) (by omega) N F hN da dc HDt.out
                obtain ⟨d1, d2, d3, d4, d5⟩ := HC.out _ (HSb.out.bx)
                go_wp2_with (go_at_call 16; refine HL1.out.mono ?_; rintro e w7 ⟨g7, rfl, s7⟩; obtain ⟨E1, S', A', l1, l2, hr1, hr2⟩ := HW.out _ _ s7; have HR1 := hide hr1; have HR2 := hide hr2; have HLi' := hide (l1.mono (show 60 + m + 1 ≤ 60 + (m + 1) by omega)); have hA' : A'.length ≤ m + 1 := (by omega); have hz2 : ((E1 : Int) != (E1 : Int)) = false := (by simp); clear d1 d2 d3 d4 d5; obtain ⟨d1, d2, d3, d4, d5⟩ := HC.out w7 s7.bx2; clear s7 hr1 hr2 l1 l2)
                go_wp2_with (first
                  | (go_at_call 17; refine HR1.out.mono ?_; rintro e w8 ⟨rfl, s8⟩; have S8 := hide s8; clear d1 d2 d3 d4 d5; obtain ⟨d1, d2, d3, d4, d5⟩ := HC.out w8 s8.bx2; clear s8)
                  | (go_at_call 18; refine (sw_whole S8.out da dc HDt.out hs1).mono ?_; rintro e w9 ⟨rfl, s9⟩; have S9 := hide s9; clear d1 d2 d3 d4 d5; obtain ⟨d1, d2, d3, d4, d5⟩ := HC.out w9 s9.bx2; clear s9)
                  | (go_at_call 19; refine (sw_spoil goodBx S9.out hs1).mono ?_; rintro e w10 ⟨rfl, s10⟩; have S10 := hide s10; clear d1 d2 d3 d4 d5; obtain ⟨d1, d2, d3, d4, d5⟩ := HC.out w10 s10.bx; clear s10)
                  | (go_at_call 20; refine (HR2.out _ _ S10.out).mono ?_; rintro e w11 ⟨rfl, s11⟩; have SN := hide s11; clear d1 d2 d3 d4 d5; clear s11))
                have hnb' : nb ≤ m + 1 := by omega
                go_wp2
                go_meet
                case rel => exact ⟨nb, S', A', hnb', hA', HLi', hide SN.out.out⟩
            · as_aux_lemma =>
                have hk0 : (K : Int) % 9 = 4 := by omega
                clear hk9 hkd
                have HL1 := hide (sw_lent HSb.out da ld dc db HDt.out hs1)
                have HW : Hid (∀ W g, Sw ⟨p, d, q, p2, r, w6.heap.size, mo⟩ w W S A S A nb (Bes (Bx W0.heap.size (.cells #[.int .u8 (K : Int), .int .u32 (N : Int), .int .u8 (F : Int), .int .i64 nn, .slice da ld dc, .slice ka kb.length kc] 70)) (Ln g ld db)) → _) := fun W g hW => sw_write hW HLi.out (by omega) (by omega) N F hN da dc HDt.out
                obtain ⟨d1, d2, d3, d4, d5⟩ := HC.out _ (HSb.out.bx)
                go_wp2_with (go_at_call 16; refine HL1.out.mono ?_; rintro e w7 ⟨g7, rfl, s7⟩; obtain ⟨E1, S', A', l1, l2, hr1, hr2⟩ := HW.out _ _ s7; have HR1 := hide hr1; have HR2 := hide hr2; have HLi' := hide (l1.mono (show 60 + m + 1 ≤ 60 + (m + 1) by omega)); have hA' : A'.length ≤ m + 1 := (by omega); have hz2 : ((E1 : Int) != (E1 : Int)) = false := (by simp); clear d1 d2 d3 d4 d5; obtain ⟨d1, d2, d3, d4, d5⟩ := HC.out w7 s7.bx2; clear s7 hr1 hr2 l1 l2)
                go_wp2_with (first
                  | (go_at_call 17; refine HR1.out.mono ?_; rintro e w8 ⟨rfl, s8⟩; have S8 := hide s8; clear d1 d2 d3 d4 d5; obtain ⟨d1, d2, d3, d4, d5⟩ := HC.out w8 s8.bx2; clear s8)
                  | (go_at_call 18; refine (sw_whole S8.out da dc HDt.out hs1).mono ?_; rintro e w9 ⟨rfl, s9⟩; have S9 := hide s9; clear d1 d2 d3 d4 d5; obtain ⟨d1, d2, d3, d4, d5⟩ := HC.out w9 s9.bx2; clear s9)
                  | (go_at_call 19; refine (sw_spoil goodBx S9.out hs1).mono ?_; rintro e w10 ⟨rfl, s10⟩; have S10 := hide s10; clear d1 d2 d3 d4 d5; obtain ⟨d1, d2, d3, d4, d5⟩ := HC.out w10 s10.bx; clear s10)
                  | (go_at_call 20; refine (HR2.out _ _ S10.out).mono ?_; rintro e w11 ⟨rfl, s11⟩; have SN := hide s11; clear d1 d2 d3 d4 d5; clear s11))
                have hnb' : nb ≤ m + 1 := by omega
                go_wp2
                go_meet
                case rel => exact ⟨nb, S', A', hnb', hA', HLi', hide SN.out.out⟩
            · as_aux_lemma =>
                have hk0 : (K : Int) % 9 = 5 := by omega
                clear hk9 hkd
                have HLi' := hide (HLi.out.mono (show 60 + m ≤ 60 + (m + 1) by omega))
                have hwl := wo_len A N
                have hA' : (wo A N).length ≤ m + 1 := by omega
                have HAl : Hid (A.length ≤ 1000) := by rw [Hid]; omega
                obtain ⟨d1, d2, d3, d4, d5⟩ := HC.out _ (HSb.out.bx)
                go_wp2_with (first
                  | (go_at_call 21; refine (sw_forget HSb.out N hN).mono ?_; rintro e w8 ⟨rfl, s8⟩; have S8 := hide s8; clear d1 d2 d3 d4 d5; obtain ⟨d1, d2, d3, d4, d5⟩ := HC.out w8 s8.bx; clear s8)
                  | (go_at_call 22; refine (sw_rforget S8.out HAl.out N).mono ?_; rintro e w9 ⟨rfl, s9⟩; have SN := hide s9; clear d1 d2 d3 d4 d5; clear s9))
                clear hwl
                generalize wo A N = A' at *
                obtain ⟨S', hS'⟩ : ∃ S', S' = S := ⟨_, rfl⟩
                subst hS'
                have hnb' : nb ≤ m + 1 := by omega
                go_wp2
                go_meet
                case rel => exact ⟨nb, S', A', hnb', hA', HLi', hide SN.out.out⟩
            · as_aux_lemma =>
                have hk0 : (K : Int) % 9 = 6 := by omega
                clear hk9 hkd
                have HLi' := hide (HLi.out.sy.mono (show 60 + m + 1 ≤ 60 + (m + 1) by omega))
                have hA' : A.length ≤ m + 1 := by omega
                have HLc : Hid (60 + m ≤ 5000) := by rw [Hid]; omega
                obtain ⟨E1, HE1⟩ : ∃ E1, Hid (E1 = S.er S.s3 S.l3) := ⟨_, rfl⟩
                have HY1 := hide (sw_sync HSb.out HLi.out HLc.out)
                have HY2 := hide (fun W X (hW : Sw ⟨p, d, q, p2, r, w6.heap.size, mo⟩ w W S.sy A S A nb X) => sw_rsync hW HLi.out HLc.out)
                rw [← HE1.out] at HY1 HY2
                have hz2 : ((E1 : Int) != (E1 : Int)) = false := by simp
                obtain ⟨d1, d2, d3, d4, d5⟩ := HC.out _ (HSb.out.bx)
                go_wp2_with (first
                  | (go_at_call 23; refine HY1.out.mono ?_; rintro e w8 ⟨rfl, s8⟩; have S8 := hide s8; clear d1 d2 d3 d4 d5; obtain ⟨d1, d2, d3, d4, d5⟩ := HC.out w8 s8.bx; clear s8)
                  | (go_at_call 24; refine (HY2.out _ _ S8.out).mono ?_; rintro e w9 ⟨rfl, s9⟩; have SN := hide s9; clear d1 d2 d3 d4 d5; clear s9))
                clear HY1 HY2 S8 HE1
                generalize S.sy = S' at SN HLi'
                obtain ⟨A', hS'⟩ : ∃ A', A' = A := ⟨_, rfl⟩
                subst hS'
                have hnb' : nb ≤ m + 1 := by omega
                go_wp2
                go_meet
                case rel => exact ⟨nb, S', A', hnb', hA', HLi', hide SN.out.out⟩
            · as_aux_lemma =>
                have hk0 : (K : Int) % 9 = 7 := by omega
                clear hk9 hkd
                have HLi' := hide ((HLi.out.fl (IntKind.i64.wrap ((F : Int).tmod 4)) nn).mono (show 60 + m ≤ 60 + (m + 1) by omega))
                have hA' : A.length ≤ m + 1 := by omega
                obtain ⟨E1, HE1⟩ : ∃ E1, Hid (E1 = flE S (IntKind.i64.wrap ((F : Int).tmod 4)) nn) := ⟨_, rfl⟩
                have HY1 := hide (fun W X (hW : Sw ⟨p, d, q, p2, r, w6.heap.size, mo⟩ w W S A S A nb X) => sw_fail hW (IntKind.i64.wrap ((F : Int).tmod 4)) nn hnn2)
                have HY2 := hide (fun W X (hW : Sw ⟨p, d, q, p2, r, w6.heap.size, mo⟩ w W (flS S (IntKind.i64.wrap ((F : Int).tmod 4)) nn) A S A nb X) => sw_rfail hW (IntKind.i64.wrap ((F : Int).tmod 4)) nn hnn2)
                rw [← HE1.out] at HY1 HY2
                have hz2 : ((E1 : Int) != (E1 : Int)) = false := by simp
                have HSd2 := hide (HSb.out.on (Below.refl _ _).drew)
                obtain ⟨d1, d2, d3, d4, d5⟩ := HC.out _ (HSb.out.bx)
                go_wp2_with fail
                go_region_held3 (fun W => W.cell? ⟨W0.heap.size, 2, none⟩ = some (.int .u8 (F : Int)) ∧ W.cell? ⟨W0.heap.size, 3, none⟩ = some (.int .i64 nn)) ((refine ⟨?_, ?_⟩ <;> assumption)) ((first
                  | (go_at_call 25; refine (HY1.out _ _ HSd2.out).mono ?_; rintro e w8 ⟨rfl, s8⟩; have S8 := hide s8; clear d1 d2 d3 d4 d5; obtain ⟨d1, d2, d3, d4, d5⟩ := HC.out w8 s8.bx; clear s8)
                  | (go_at_call 26; refine (HY2.out _ _ S8.out).mono ?_; rintro e w9 ⟨rfl, s9⟩; have SN := hide s9; clear d1 d2 d3 d4 d5; obtain ⟨d1, d2, d3, d4, d5⟩ := HC.out w9 s9.bx; clear s9)))
                clear HY1 HY2 S8 HE1 HSd2
                generalize flS S (IntKind.i64.wrap ((F : Int).tmod 4)) nn = S' at SN HLi'
                obtain ⟨A', hS'⟩ : ∃ A', A' = A := ⟨_, rfl⟩
                subst hS'
                have hnb' : nb ≤ m + 1 := by omega
                go_wp2
                go_meet
                case rel => exact ⟨nb, S', A', hnb', hA', HLi', hide SN.out.out⟩
            · as_aux_lemma =>
                have hk0 : (K : Int) % 9 = 8 := by omega
                clear hk9 hkd
                have HLi' := hide ((HLi.out.cut kb).mono (show 60 + m ≤ 60 + (m + 1) by omega))
                have hA' : A.length ≤ m + 1 := by omega
                obtain ⟨d1, d2, d3, d4, d5⟩ := HC.out _ (HSb.out.bx)
                go_wp2_with (first
                  | (go_at_call 27; refine (sw_cut HSb.out ka kc kb HKp.out hs2).mono ?_; rintro e w8 ⟨rfl, s8⟩; have S8 := hide s8; clear d1 d2 d3 d4 d5; obtain ⟨d1, d2, d3, d4, d5⟩ := HC.out w8 s8.bx; clear s8)
                  | (go_at_call 28; refine (sw_rcut S8.out ka kc kb HKp.out hs2).mono ?_; rintro e w9 ⟨rfl, s9⟩; have SN := hide s9; clear d1 d2 d3 d4 d5; clear s9))
                clear S8
                generalize S.cut kb = S' at SN HLi'
                obtain ⟨A', hS'⟩ : ∃ A', A' = A := ⟨_, rfl⟩
                subst hS'
                have hnb' : nb ≤ m + 1 := by omega
                go_wp2
                go_meet
                case rel => exact ⟨nb, S', A', hnb', hA', HLi', hide SN.out.out⟩
          case rest =>
            as_aux_lemma =>
              obtain ⟨nb', S', A', hnb', hA', HLi', SN⟩ := hcut
              obtain ⟨q5, q6, q7, la, lc, q2, -⟩ := sw_cells SN.out
              obtain ⟨AL, HAL⟩ : ∃ AL, Hid (AL = A'.length) := ⟨_, rfl⟩
              obtain ⟨N1, HN1⟩ : ∃ N1 : Int, Hid (N1 = S'.n1) := ⟨_, rfl⟩
              obtain ⟨N2, HN2⟩ : ∃ N2 : Int, Hid (N2 = S'.n2) := ⟨_, rfl⟩
              obtain ⟨N3, HN3⟩ : ∃ N3 : Int, Hid (N3 = S'.n3) := ⟨_, rfl⟩
              rw [← HN1.out] at q5
              rw [← HN2.out] at q6
              rw [← HN3.out] at q7
              rw [← HAL.out] at q2
              have hAL : AL ≤ 300 := by rw [HAL.out]; omega
              have HKeep : Hid (∀ W, Below wc.heap.size wc W → W.cell? ⟨r, 5, none⟩ = some (.int .i64 N1) ∧ W.cell? ⟨r, 6, none⟩ = some (.int .i64 N2) ∧ W.cell? ⟨r, 7, none⟩ = some (.int .i64 N3) ∧ W.cell? ⟨p2, 2, none⟩ = some (.slice la AL lc)) := fun W hW => ⟨cell_bel hW q5, cell_bel hW q6, cell_bel hW q7, cell_bel hW q2⟩
              have HCt : Hid (∀ W, Below wc.heap.size wc W → Calls Tryz.prog 29 #[.pointer (some ⟨d, 0, none⟩)] W fun e w' => e = .returned (.agg #[.int .i64 N1, .int .i64 N2, .int .i64 N3]) ∧ Below wc.heap.size wc w') := fun W hW => by
                have h1 := sw_counts (SN.out.on hW)
                rw [← HN1.out, ← HN2.out, ← HN3.out] at h1
                refine h1.mono ?_
                rintro e w' ⟨rfl, hb⟩
                exact ⟨rfl, hW.trans (hb.mono hW.size)⟩
              have HLe : Hid (∀ W, Below wc.heap.size wc W → Calls Tryz.prog 30 #[.pointer (some ⟨p, 0, none⟩)] W fun e w' => e = .returned (.int .i64 (AL : Int)) ∧ Below wc.heap.size wc w') := fun W hW => by
                have h1 := sw_len (SN.out.on hW)
                rw [← HAL.out] at h1
                refine h1.mono ?_
                rintro e w' ⟨rfl, hb⟩
                exact ⟨rfl, hW.trans (hb.mono hW.size)⟩
              have HPa : Hid (∀ W, Below wc.heap.size wc W → Calls Tryz.prog 31 #[.pointer (some ⟨p, 0, none⟩)] W fun e w' => e = .returned (.int .i64 (pages : Int)) ∧ Below wc.heap.size wc w') := fun W hW => by
                refine (sw_pages (SN.out.on hW) HLi'.out).mono ?_
                rintro e w' ⟨rfl, hb⟩
                exact ⟨rfl, hW.trans (hb.mono hW.size)⟩
              have hx1 : ((AL : Int) != (AL : Int)) = false := by simp
              have hx2 : ((pages : Int) != (pages : Int)) = false := by simp
              have hx3 : (N1 == N1) = true := by simp
              have hx4 : (N2 == N2) = true := by simp
              have hx5 : (N3 == N3) = true := by simp
              go_wp2_with fail
              go_region_held3 (fun W => W.cell? ⟨r, 5, none⟩ = some (.int .i64 N1) ∧ W.cell? ⟨r, 6, none⟩ = some (.int .i64 N2) ∧ W.cell? ⟨r, 7, none⟩ = some (.int .i64 N3) ∧ W.cell? ⟨p2, 2, none⟩ = some (.slice la AL lc)) ((refine ⟨?_, ?_, ?_, ?_⟩ <;> assumption)) ((first
                | (go_at_call 29; refine (HCt.out _ (Below.refl _ _).drew).mono ?_; rintro e w21 ⟨rfl, b21⟩; have B21 := hide b21; clear q5 q6 q7 q2; obtain ⟨q5, q6, q7, q2⟩ := HKeep.out _ b21; clear b21)
                | (go_at_call 30; refine (HLe.out _ B21.out).mono ?_; rintro e w22 ⟨rfl, b22⟩; have B22 := hide b22; clear q5 q6 q7 q2; obtain ⟨q5, q6, q7, q2⟩ := HKeep.out _ b22; clear b22)
                | (go_at_call 31; refine (HPa.out _ B22.out).mono ?_; rintro e w23 ⟨rfl, b23⟩; have B23 := hide b23; clear q5 q6 q7 q2; obtain ⟨q5, q6, q7, q2⟩ := HKeep.out _ b23; clear b23)))
              have SM := hide (SN.out.on B23.out)
              clear q5 q6 q7 q2 HKeep HCt HLe HPa B21 B22 B23 SN
              go_wp2
              go_loopw [30] (fun j wr2 => ∃ k2 : Nat, k2 ≤ AL ∧ j = .int .i64 (k2 : Int) ∧ Hid (Sw ⟨p, d, q, p2, r, w6.heap.size, mo⟩ w wr2 S' A' S' A' (nb') Emp)) (fun j _ => AL - (intOf j).toNat)
              case atStart => exact ⟨0, Nat.zero_le _, rfl, SM⟩
              case round =>
                obtain ⟨k2, hk2, rfl, HS3⟩ := hrel
                obtain ⟨-, -, -, la3, lc3, q3, qh3⟩ := sw_cells HS3.out
                rw [← HAL.out] at q3
                by_cases hlt3 : k2 < AL
                · have d31 : (k2 : Int) < (AL : Int) := by omega
                  have d32 : (0 : Int) ≤ (k2 : Int) := by omega
                  obtain ⟨y, hy⟩ : ∃ y, A'[k2]? = some y := ⟨_, List.getElem?_eq_getElem (by have := HAL.out; omega)⟩
                  obtain ⟨g3, o3, rfl, q4⟩ := qh3 k2 y hy
                  have HH := hide (sw_has HS3.out y (List.mem_of_getElem? hy))
                  clear hy qh3
                  generalize y.n = yn at q4 HH
                  go_wp2_with (go_at_call 32; refine HH.out.mono ?_; rintro e w31 ⟨rfl, b31⟩; have S31 := hide (HS3.out.on b31); clear b31)
                  go_roundw
                  case rel => exact ⟨k2 + 1, by omega, by go_num, S31⟩
                  case measure => simp [intOf]; omega
                · have d31 : ¬ (k2 : Int) < (AL : Int) := by omega
                  go_wp2
                  go_roundw
                  case rel => exact ⟨m + 1, nb', S', A', by omega, by go_num, hnb', hA', HLi', HS3⟩
                  case measure => simp [intOf]; omega
        · have d3 : ¬ (m : Int) < (n : Int) := by omega
          obtain ⟨ZZ, HZZ⟩ : ∃ ZZ, Hid (ZZ = S.ls.flatten) := ⟨_, rfl⟩
          have hzl : ZZ.length ≤ 1000000 := by
            rw [HZZ.out]
            have h1 := flat_tlen S.ls (fun s hs => ((HSt.out.good).ls s hs).1) S.ls.length (Nat.le_refl _)
            rw [List.take_length, HLi.out.len] at h1
            omega
          have hsm : sameB ZZ ZZ = true := sameB_self ZZ
          go_wp2_with (first
            | (go_at_call 33; refine (sw_image HSt.out).mono ?_; rintro e w7 ⟨v7, rfl, ho7, hb7⟩; rw [← HZZ.out] at ho7; obtain ⟨a7, n7, c7, rfl, HN7⟩ := Own.shape2 ho7; have HO7 := hide ho7; have HS7 := hide (HSt.out.on hb7); clear ho7 hb7)
            | (go_at_call 34; refine (sw_rimage HS7.out).mono ?_; rintro e w8 ⟨v8, rfl, ho8, hb8⟩; rw [← HZZ.out] at ho8; obtain ⟨a8, n8, c8, rfl, HN8⟩ := Own.shape2 ho8; have HO8 := hide ho8; have HO7' := hide (own_below HO7.out hb8); have HS8 := hide (HS7.out.on hb8); clear ho8 hb8)
            | (go_at_call 15; refine (same_own HO7'.out HO8.out hzl).mono ?_; rintro e w9 ⟨rfl, hb9⟩; have HS9 := hide (HS8.out.on hb9); clear hb9)
            | (go_at_call 35; refine (sw_own HS9.out (by omega)).mono ?_; rintro e w10 ⟨rfl, hb10⟩; have HB10 := hide hb10; clear hb10))
          go_ret
          exact ⟨rfl, HB10.out⟩
end Go.Proofs.YtobokocpapfjbaaGreat
