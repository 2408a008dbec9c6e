/- FreeDoes: a list answers any calls as the chapter says, and so does a clone, which goes its own way; what comes out is its owner's. -/
import Derived.Test.YtlahkeapfcfbbaaDoorYN
import Derived.Deep.RegionHeld3
namespace Go.Proofs.YtlahkeapfcfbbaaDoor
open Go.RowKit Go.Maps
set_option linter.unusedVariables false
theorem st_fin {w0 w : World} {l r q n : Nat} {M L : List Pg} {el wa : Value} {X : Th} (h : St w0 w l r q n M L el wa X) (hrel : Rel M L) (hl : M.length ≤ 300) (N : Nat) (hN : M.length = N) :
    ∃ ra rc, w.cell? ⟨r, 0, none⟩ = some (.slice ra N rc) ∧ ∀ W, Same w W → Calls Tryd.prog 18 #[.pointer (some ⟨l, 0, none⟩)] W fun e w' => e = .returned (.int .i64 (N : Int)) ∧ Same w w' ∧ w'.cell? ⟨r, 0, none⟩ = some (.slice ra N rc) := by
  obtain ⟨ra, rc, h1⟩ := h.rl
  rw [← hrel.len, hN] at h1
  refine ⟨ra, rc, h1, fun W hW => (st_len (h.same hW) hl).mono ?_⟩
  rintro e w' ⟨rfl, hs⟩
  rw [hN]
  refine ⟨rfl, hW.trans hs, ?_⟩
  rw [← h1]
  unfold World.cell?
  rw [(hW.trans hs).heap]
set_option maxHeartbeats 6400000 in
set_option maxRecDepth 1000000 in
theorem does_walk (w : World) (ht : Tb w) (a : Option Addr) (n c : Nat) (xs : List Ac) (hx : Acs w a n c xs) : Calls Tryd.prog 3 #[.slice a n c] w fun e w' => e = .returned (.bool true) ∧ Below w.heap.size w w' := by
  have HX := hide hx
  have HT := hide ht
  have HK := hide (fun W => known_any W)
  have hmx := hx.max
  clear hx ht
  by_cases h3 : 300 < n
  · have h3' : (300 : Int) < (n : Int) := by omega
    go_enter Tryd.func3, Tryd.ntmps3
    go_wp2
    go_ret
    exact ⟨rfl, Below.refl _ _⟩
  · have h3' : ¬ (300 : Int) < (n : Int) := by omega
    go_enter Tryd.func3, Tryd.ntmps3
    go_wp2_with (first
      | (go_at_call 4; refine (new_any _).mono ?_; rintro e w1 ⟨l, O, rfl, f1, f2, f3⟩; have F1 := hide f1; have F2 := hide f2; have F3 := hide f3; clear f1 f2 f3)
      | (go_at_call 5; refine (HK.out _).mono ?_; rintro e w2 ⟨rfl, b1⟩; have B1 := hide b1; clear b1))
    have HS := hide (st_new F1.out F2.out F3.out B1.out (fun W => Bo.book_new W))
    go_loopw [3, 4, 6, 7, 8] (fun x r el wa i wr => ∃ (k m l r' : Nat) (M L : List Pg), k ≤ n ∧ i = .int .i64 k ∧ x = .pointer (some ⟨l, 0, none⟩) ∧ r = .pointer (some ⟨r', 0, none⟩) ∧ Hid (Rel M L) ∧ M.length ≤ k ∧ m ≤ k ∧ Hid (St w wr l r' (w2.heap.size + 1) m M L el wa Emp)) (fun _ _ _ _ i _ => n - (intOf i).toNat)
    case atStart => exact ⟨0, 0, l, _, [], [], Nat.zero_le _, rfl, rfl, rfl, ⟨List.Perm.refl _, List.Pairwise.nil⟩, by simp, Nat.le_refl _, HS⟩
    case round =>
      obtain ⟨k, m, l1, r1, M, L, hk, rfl, rfl, rfl, HRel, hml, hmk, HSt⟩ := hrel
      by_cases hlt : k < n
      · obtain ⟨x, b, off, hxk, rfl, hbl, hat, hok⟩ := (HX.out.below HSt.out.bel).at hlt
        obtain ⟨c0, c1, c2⟩ := hat
        have hp := hok.p
        have hkk := hok.k
        clear hok hxk
        have hki : (k : Int) < (n : Int) := by omega
        obtain ⟨kd, hkd, hk9⟩ : ∃ kd : Nat, kd < 5 ∧ (x.k : Int) % 5 = (kd : Int) := ⟨x.k % 5, by omega, by omega⟩
        have hcase : kd = 0 ∨ kd = 1 ∨ kd = 2 ∨ kd = 3 ∨ kd = 4 := by omega
        obtain ⟨K, P, g⟩ := x
        simp only [] at c0 c1 c2 hp hkk hk9
        have HSb := hide (HSt.out.box (.cells #[.int .u8 (K : Int), .int .u32 (P : Int), .int .u64 g] 59))
        have HC : Hid (∀ (W : World), W.heap[wr.heap.size]? = some (.cells #[.int .u8 (K : Int), .int .u32 (P : Int), .int .u64 g] 59 (0, 0)) → W.cell? ⟨wr.heap.size, 1, none⟩ = some (.int .u32 (P : Int)) ∧ W.cell? ⟨wr.heap.size, 2, none⟩ = some (.int .u64 g)) := fun W h => ⟨by simp [World.cell?, h], by simp [World.cell?, h]⟩
        obtain ⟨d1, d2⟩ := HC.out _ (heap_alloc_new wr (.cells #[.int .u8 (K : Int), .int .u32 (P : Int), .int .u64 g] 59))
        rcases hcase with rfl | rfl | rfl | rfl | rfl
        · have hk0 : (K : Int) % 5 = 0 := by omega
          clear hk9
          obtain ⟨z, M1, L1, a1, a2, a3, a4⟩ := st_add HSb.out HRel.out (by omega) P hp g
          have HA := hide a3
          have HB := hide a4
          have hz : (z != z) = false := by simp
          obtain ⟨N, hN⟩ : ∃ N, M1.length = N := ⟨_, rfl⟩
          have HRl := hide a1
          have HN := hide hN
          have hN1 : N ≤ k + 1 := by omega
          have HF := hide (fun W X (hW : St w W l1 r1 (w2.heap.size + 1) m M1 L1 u6 u7 X) => st_fin hW HRl.out (by have := HN.out; omega) N HN.out)
          have hNN : ((N : Int) != (N : Int)) = false := by simp
          clear a1 a3 a4 hN a2
          go_wp2
          go_region_held3 (fun W => W.cell? ⟨wr.heap.size, 1, none⟩ = some (.int .u32 (P : Int)) ∧ W.cell? ⟨wr.heap.size, 2, none⟩ = some (.int .u64 g)) ((refine ⟨?_, ?_⟩ <;> assumption)) ((first
            | (go_at_call 6; refine (HA.out _ (Same.refl _).drew).mono ?_; rintro e w3 ⟨rfl, s3⟩; have S3 := hide s3; clear d1 d2; obtain ⟨d1, d2⟩ := HC.out w3 s3.bx; clear s3)
            | (go_at_call 7; refine (HB.out _ S3.out).mono ?_; rintro e w4 ⟨rfl, s4⟩; obtain ⟨ra, rc, hrc, hln⟩ := HF.out _ _ s4; have HLn := hide hln; have S4 := hide s4; clear d1 d2; obtain ⟨d1, d2⟩ := HC.out w4 s4.bx; clear s4 hln)))
          go_wp2
          go_region_held3 (fun W => W.cell? ⟨r1, 0, none⟩ = some (.slice ra N rc)) (assumption) ((first | (go_at_call 18; refine (HLn.out _ (Same.refl _).drew).mono ?_; rintro e w9 ⟨rfl, s9, hrc9⟩; have S9 := hide (S4.out.same s9); clear hrc s9; have hrc := hrc9; clear hrc9)))
          go_wp2
          go_roundw
          case rel => exact ⟨k + 1, m, l1, r1, M1, L1, by omega, by go_num, rfl, rfl, HRl, by have := HN.out; omega, by omega, hide S9.out.out⟩
          case measure => simp [intOf]; omega
        · have hk0 : (K : Int) % 5 = 1 := by omega
          clear hk9
          obtain ⟨z, M1, L1, a1, a2, a3, a4⟩ := st_add HSb.out HRel.out (by omega) P hp g
          have HA := hide a3
          have HB := hide a4
          have hz : (z != z) = false := by simp
          obtain ⟨N, hN⟩ : ∃ N, M1.length = N := ⟨_, rfl⟩
          have HRl := hide a1
          have HN := hide hN
          have hN1 : N ≤ k + 1 := by omega
          have HF := hide (fun W X (hW : St w W l1 r1 (w2.heap.size + 1) m M1 L1 u6 u7 X) => st_fin hW HRl.out (by have := HN.out; omega) N HN.out)
          have hNN : ((N : Int) != (N : Int)) = false := by simp
          clear a1 a3 a4 hN a2
          go_wp2
          go_region_held3 (fun W => W.cell? ⟨wr.heap.size, 1, none⟩ = some (.int .u32 (P : Int)) ∧ W.cell? ⟨wr.heap.size, 2, none⟩ = some (.int .u64 g)) ((refine ⟨?_, ?_⟩ <;> assumption)) ((first
            | (go_at_call 6; refine (HA.out _ (Same.refl _).drew).mono ?_; rintro e w3 ⟨rfl, s3⟩; have S3 := hide s3; clear d1 d2; obtain ⟨d1, d2⟩ := HC.out w3 s3.bx; clear s3)
            | (go_at_call 7; refine (HB.out _ S3.out).mono ?_; rintro e w4 ⟨rfl, s4⟩; obtain ⟨ra, rc, hrc, hln⟩ := HF.out _ _ s4; have HLn := hide hln; have S4 := hide s4; clear d1 d2; obtain ⟨d1, d2⟩ := HC.out w4 s4.bx; clear s4 hln)))
          go_wp2
          go_region_held3 (fun W => W.cell? ⟨r1, 0, none⟩ = some (.slice ra N rc)) (assumption) ((first | (go_at_call 18; refine (HLn.out _ (Same.refl _).drew).mono ?_; rintro e w9 ⟨rfl, s9, hrc9⟩; have S9 := hide (S4.out.same s9); clear hrc s9; have hrc := hrc9; clear hrc9)))
          go_wp2
          go_roundw
          case rel => exact ⟨k + 1, m, l1, r1, M1, L1, by omega, by go_num, rfl, rfl, HRl, by have := HN.out; omega, by omega, hide S9.out.out⟩
          case measure => simp [intOf]; omega
        · have hk0 : (K : Int) % 5 = 2 := by omega
          clear hk9
          obtain ⟨z, tb, M1, L1, a1, a2, a3, a4⟩ := st_take HSb.out HRel.out (by omega) g
          have HA := hide a3
          have HB := hide a4
          have hz : (z != z) = false := by simp
          have htb : (tb != tb) = false := by simp
          obtain ⟨N, hN⟩ : ∃ N, M1.length = N := ⟨_, rfl⟩
          have HRl := hide a1
          have HN := hide hN
          have hN1 : N ≤ k + 1 := by omega
          have HF := hide (fun W X (hW : St w W l1 r1 (w2.heap.size + 1) m M1 L1 u6 u7 X) => st_fin hW HRl.out (by have := HN.out; omega) N HN.out)
          have hNN : ((N : Int) != (N : Int)) = false := by simp
          clear a1 a3 a4 hN a2
          go_wp2_with (first
            | (go_at_call 8; refine (HA.out _ (Same.refl _)).mono ?_; rintro e w3 ⟨rfl, s3⟩; have S3 := hide s3; clear d1 d2; obtain ⟨d1, d2⟩ := HC.out w3 s3.bx; clear s3)
            | (go_at_call 9; refine (HB.out _ S3.out).mono ?_; rintro e w4 ⟨rfl, s4⟩; obtain ⟨ra, rc, hrc, hln⟩ := HF.out _ _ s4; have HLn := hide hln; have S4 := hide s4; clear d1 d2; obtain ⟨d1, d2⟩ := HC.out w4 s4.bx; clear s4 hln))
          go_wp2
          go_region_held3 (fun W => W.cell? ⟨r1, 0, none⟩ = some (.slice ra N rc)) (assumption) ((first | (go_at_call 18; refine (HLn.out _ (Same.refl _).drew).mono ?_; rintro e w9 ⟨rfl, s9, hrc9⟩; have S9 := hide (S4.out.same s9); clear hrc s9; have hrc := hrc9; clear hrc9)))
          go_wp2
          go_roundw
          case rel => exact ⟨k + 1, m, l1, r1, M1, L1, by omega, by go_num, rfl, rfl, HRl, by have := HN.out; omega, by omega, hide S9.out.out⟩
          case measure => simp [intOf]; omega
        · have hk0 : (K : Int) % 5 = 3 := by omega
          clear hk9
          have HA := hide (st_all HSb.out HT.out (by omega) (by omega))
          obtain ⟨M1, L1, hM1, hL1⟩ : ∃ M1 L1, M1 = M ∧ L1 = L := ⟨_, _, rfl, rfl⟩
          subst hM1 hL1
          have a1 := HRel.out
          obtain ⟨N, hN⟩ : ∃ N, M1.length = N := ⟨_, rfl⟩
          have HRl := hide a1
          have HN := hide hN
          have hN1 : N ≤ k + 1 := by omega
          have HF := hide (fun W X (hW : St w W l1 r1 (w2.heap.size + 1) (m + 1) M1 L1 u6 u7 X) => st_fin hW HRl.out (by have := HN.out; omega) N HN.out)
          have hNN : ((N : Int) != (N : Int)) = false := by simp
          obtain ⟨cn, hcn⟩ : ∃ cn, M1.countP (fun x => decide (x.2 ≤ g)) = cn := ⟨_, rfl⟩
          have hcc : ((cn : Int) != (cn : Int)) = false := by simp
          have HCn := hide hcn
          have HMa := hide (fun W X (hW : St w W l1 r1 (w2.heap.size + 1) (m + 1) M1 L1 u6 u7 X) => (show Calls Tryd.prog 12 #[.pointer (some ⟨l1, 0, none⟩), .int .u64 g] W (fun e w' => e = .returned (.int .i64 (cn : Int)) ∧ St w w' l1 r1 (w2.heap.size + 1) (m + 1) M1 L1 u6 u7 X ∧ Below W.heap.size W w') by rw [← HCn.out]; exact st_may hW (by have := HN.out; omega) g))
          have HMr := hide (fun W X (hW : St w W l1 r1 (w2.heap.size + 1) (m + 1) M1 L1 u6 u7 X) => (show Calls Tryd.prog 13 #[.pointer (some ⟨r1, 0, none⟩), .int .u64 g] W (fun e w' => e = .returned (.int .i64 (cn : Int)) ∧ w' = W) by rw [← HCn.out]; exact st_rmay hW HRl.out (by have := HN.out; omega) g))
          have HRa := hide (fun W X Z (hW : St w W l1 r1 (w2.heap.size + 1) (m + 1) M1 L1 u6 u7 X) (hT : Told Z M1) => st_rall hW HRl.out hT (by have := HN.out; omega))
          clear a1 hN hcn
          go_wp2_with (first
            | (go_at_call 10; refine HA.out.mono ?_; rintro e w3 ⟨a5, c5, m5, Z, rfl, h5⟩; have H5 := h5; clear h5)
            | (go_at_call 11; refine H5.out.2.2.2.2.2.mono ?_; rintro e w4 ⟨rfl, s4, r4⟩; have S4 := hide s4; have R4 := hide r4; clear d1 d2; obtain ⟨d1, d2⟩ := HC.out w4 s4.bx; clear s4 r4))
          have HZl : Hid (Z.length ≤ 1000000) := hide (by have := H5.out.1.len; have := HN.out; omega)
          go_region_held3 (fun W => W.cell? ⟨wr.heap.size, 2, none⟩ = some (.int .u64 g)) (assumption) ((first
            | (go_at_call 12; refine (HMa.out _ _ (S4.out.same (Same.refl _).drew)).mono ?_; rintro e w5 ⟨rfl, s5, b5⟩; have S5 := hide s5; have R5 := hide ((R4.out.below ((Same.refl _).drew).below).below b5); clear d1 d2; obtain ⟨d1, d2⟩ := HC.out w5 s5.bx; clear s5 b5)
            | (go_at_call 13; refine (HMr.out _ _ S5.out).mono ?_; rintro e w6 ⟨rfl, hw6⟩; rw [hw6]; clear hw6)
            | (go_at_call 15; refine (HRa.out _ _ Z S5.out H5.out.1).mono ?_; rintro e w7 ⟨a7, c7, m7, rfl, h7⟩; have em : m7 = m5 := h7.out.1.trans H5.out.2.1.symm; rw [em]; clear em; have S7 := hide (S5.out.on h7.out.2.2); have HSW := hide (samew_eq w7 a5 a7 m5 c5 c7 Z H5.out.2.1.symm (by rw [H5.out.2.1]; exact HZl.out) (R5.out.below h7.out.2.2) h7.out.2.1); clear d1 d2; obtain ⟨d1, d2⟩ := HC.out w7 S7.out.bx; clear h7)
            | (go_at_call 14; refine HSW.out.mono ?_; rintro e w8 ⟨rfl, s8⟩; clear S4; have S4 := hide (S7.out.same s8); obtain ⟨ra, rc, hrc, hln⟩ := HF.out _ _ S4.out; have HLn := hide hln; clear d1 d2; obtain ⟨d1, d2⟩ := HC.out w8 S4.out.bx; clear hln s8)))
          go_wp2
          go_region_held3 (fun W => W.cell? ⟨r1, 0, none⟩ = some (.slice ra N rc)) (assumption) ((first | (go_at_call 18; refine (HLn.out _ (Same.refl _).drew).mono ?_; rintro e w9 ⟨rfl, s9, hrc9⟩; have S9 := hide (S4.out.same s9); clear hrc s9; have hrc := hrc9; clear hrc9)))
          go_wp2
          go_roundw
          case rel => exact ⟨k + 1, m + 1, l1, r1, M1, L1, by omega, by go_num, rfl, rfl, HRl, by have := HN.out; omega, by omega, hide S9.out.out⟩
          case measure => simp [intOf]; omega
        · have hk0 : (K : Int) % 5 = 4 := by omega
          clear hk9
          have HA := hide (st_clone HSb.out HRel.out (by omega))
          obtain ⟨M1, L1, hM1, hL1⟩ : ∃ M1 L1, M1 = M ∧ L1 = L := ⟨_, _, rfl, rfl⟩
          subst hM1 hL1
          obtain ⟨N, hN⟩ : ∃ N, M1.length = N := ⟨_, rfl⟩
          have HRl := HRel
          have HN := hide hN
          have hN1 : N ≤ k + 1 := by omega
          have hNN : ((N : Int) != (N : Int)) = false := by simp
          have HF := hide (fun W l3 r3 el wa X (hW : St w W l3 r3 (w2.heap.size + 1) m M1 L1 el wa X) => st_fin hW HRl.out (by have := HN.out; omega) N HN.out)
          clear hN
          go_wp2_with (first
            | (go_at_call 16; refine HA.out.mono ?_; rintro e w3 ⟨l3, rfl, h3⟩; have H3 := h3; clear h3)
            | (go_at_call 17; refine H3.out.mono ?_; rintro e w4 ⟨r3, rfl, s4⟩; obtain ⟨ra, rc, hrc, hln⟩ := HF.out _ _ _ _ _ _ s4; have HLn := hide hln; have S4 := hide s4; clear s4 hln d1 d2))
          go_wp2
          go_region_held3 (fun W => W.cell? ⟨r3, 0, none⟩ = some (.slice ra N rc)) (assumption) ((first | (go_at_call 18; refine (HLn.out _ (Same.refl _).drew).mono ?_; rintro e w9 ⟨rfl, s9, hrc9⟩; have S9 := hide (S4.out.same s9); clear hrc s9; have hrc := hrc9; clear hrc9)))
          go_wp2
          go_roundw
          case rel => exact ⟨k + 1, m, l3, r3, M1, L1, by omega, by go_num, rfl, rfl, HRl, by have := HN.out; omega, by omega, hide S9.out.out⟩
          case measure => simp [intOf]; omega
      · obtain rfl : k = n := by omega
        have hki : ¬ (k : Int) < (k : Int) := by omega
        have H2 := hide (fun W (hW : St w W l1 r1 (w2.heap.size + 1) m M L u6 u7 Emp) => st_two hW HRel.out HT.out (by omega))
        have HOw := hide (fun W (hW : St w W l1 r1 (w2.heap.size + 1) m M L u6 u7 Emp) => st_own hW (by omega))
        have HE := hide HSt.out.ee
        rcases HE.out with ⟨e1, e2⟩ | ⟨l', r', M', L', O1, v, e1, e2, e3, e4, e5, e6⟩
        · subst e1 e2
          clear HE
          go_wp2_with (first
            | (go_at_call 10; refine (H2.out _ HSt.out).mono ?_; rintro e w3 ⟨a3, c3, m3, rfl, h3⟩; have H3 := h3; clear h3)
            | (go_at_call 15; refine H3.out.2.mono ?_; rintro e w4 ⟨b4, d4, rfl, h4⟩; have H4 := h4; clear h4)
            | (go_at_call 14; refine H4.out.2.mono ?_; rintro e w5 ⟨rfl, s5⟩; have S5 := hide (((HSt.out.on H3.out.1).on H4.out.1).same s5); clear s5)
            | (go_at_call 19; refine (HOw.out _ S5.out).mono ?_; rintro e w6 ⟨rfl, b6⟩; have B6 := hide b6; clear b6))
          go_ret
          exact ⟨rfl, B6.out⟩
        · subst e1 e2
          unfold ptr at *
          have H1 := hide (two_all e5 e6 e3 (HT.out.below HSt.out.bel) e4)
          clear HE e3 e4 e5 e6
          have M1 := hide trivial
          go_wp2_with (first
            | (go_at_call 10; have hmk := M1; clear hmk M1; refine H1.out.mono ?_; rintro e w3 ⟨a3, c3, m3, rfl, h3⟩; have H3 := h3; clear h3; have M2 := hide trivial)
            | (go_at_call 15; have hmk := M2; clear hmk M2; refine H3.out.2.mono ?_; rintro e w4 ⟨b4, d4, rfl, h4⟩; have H4 := h4; clear h4; have M3 := hide trivial)
            | (go_at_call 14; have hmk := M3; clear hmk M3; refine H4.out.2.mono ?_; rintro e w5 ⟨rfl, s5⟩; have S5 := hide (((HSt.out.on H3.out.1).on H4.out.1).same s5); clear s5 H1 H3 H4; have M4 := hide trivial)
            | (go_at_call 10; have hmk := M4; clear hmk M4; refine (H2.out _ S5.out).mono ?_; rintro e w6 ⟨a6, c6, m6, rfl, h6⟩; have H6 := h6; clear h6; have M5 := hide trivial)
            | (go_at_call 15; have hmk := M5; clear hmk M5; refine H6.out.2.mono ?_; rintro e w7 ⟨b7, d7, rfl, h7⟩; have H7 := h7; clear h7; have M6 := hide trivial)
            | (go_at_call 14; have hmk := M6; clear hmk M6; refine H7.out.2.mono ?_; rintro e w8 ⟨rfl, s8⟩; have S8 := hide (((S5.out.on H6.out.1).on H7.out.1).same s8); clear s8)
            | (go_at_call 19; refine (HOw.out _ S8.out).mono ?_; rintro e w9 ⟨rfl, b9⟩; have B9 := hide b9; clear b9))
          go_ret
          exact ⟨rfl, B9.out⟩
end Go.Proofs.YtlahkeapfcfbbaaDoor
