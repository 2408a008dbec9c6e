/- Contract of asking a book of bytes, pairs and changes whether they are their owner's alone. -/
import Derived.Test.YtgohhlngnnmknaaDX
import Derived.Test.YtgohhlngnnmknaaGN
namespace Go.Proofs.Ytgohhlngnnmknaa.Bd
open Go.RowKit Go.Maps Go.Proofs.Ytgohhlngnnmknaa.Bo
set_option linter.unusedVariables false

theorem ownBytes_any (v : Value) (n : Nat) (A : Nat → Option Addr) (C : Nat → Nat) (Z : Nat → List Int) (w : World) (h : Fam .u8 5 60 w v n A C Z) (hn : n ≤ 100000000) (hz : ∀ i, i < n → (Z i).length ≤ 140737488351232) :
    Calls Try.prog 44 #[v] w fun r w' => r = .returned (.bool true) ∧ Kp (rft n A) w w' := by
  rcases h.list.2 with ⟨rfl, h0⟩ | ⟨g, cap, cur, rfl, _⟩
  · refine (ownBytes_nil w).mono ?_
    rintro r w' ⟨rfl, rfl⟩
    exact ⟨rfl, Kp.refl _ _⟩
  · exact ownBytes_some g n cap A C Z w h hn hz
theorem ownPairs_any (v : Value) (n : Nat) (A : Nat → Option Addr) (C : Nat → Nat) (Z : Nat → List Bp.Q4) (w : World) (h : Bp.Fe 22 w v n A C Z) (hn : n ≤ 100000000) (hz : ∀ i, i < n → (Z i).length ≤ 1000000000) :
    Calls Try.prog 57 #[v] w fun r w' => r = .returned (.bool true) ∧ Kp (rft n A) w w' := by
  rcases h.list.2 with ⟨rfl, h0⟩ | ⟨g, cap, cur, rfl, _⟩
  · refine (ownPairs_nil w).mono ?_
    rintro r w' ⟨rfl, rfl⟩
    exact ⟨rfl, Kp.refl _ _⟩
  · exact Bp.ownX_some g n cap A C Z (fun i => (Z i).length) w h hn (fun _ _ => rfl) hz
theorem ownChanges_any (v : Value) (n : Nat) (A : Nat → Option Addr) (C : Nat → Nat) (Z : Nat → List Bc.Q4) (w : World) (h : Bc.Fe 30 w v n A C Z) (hn : n ≤ 100000000) (hz : ∀ i, i < n → (Z i).length ≤ 1000000000) :
    Calls Try.prog 58 #[v] w fun r w' => r = .returned (.bool true) ∧ Kp (rft n A) w w' := by
  rcases h.list.2 with ⟨rfl, h0⟩ | ⟨g, cap, cur, rfl, _⟩
  · refine (ownChanges_nil w).mono ?_
    rintro r w' ⟨rfl, rfl⟩
    exact ⟨rfl, Kp.refl _ _⟩
  · exact Bc.ownX_some g n cap A C Z (fun i => (Z i).length) w h hn (fun _ _ => rfl) hz
set_option maxHeartbeats 3200000 in
set_option maxRecDepth 1000000 in
theorem bookOwn_any (q : Nat) (f : Nat → Value) (n0 : Nat) (A0 : Nat → Option Addr) (C0 : Nat → Nat) (Z0 : Nat → List Int) (n1 : Nat) (A1 : Nat → Option Addr) (C1 : Nat → Nat) (Z1 : Nat → List Bp.Q4) (n2 : Nat) (A2 : Nat → Option Addr) (C2 : Nat → Nat) (Z2 : Nat → List Bc.Q4) (w : World) (hb : Bb w q f n0 A0 C0 Z0 n1 A1 C1 Z1 n2 A2 C2 Z2) (hn0 : n0 ≤ 100000000) (hn1 : n1 ≤ 100000000) (hn2 : n2 ≤ 100000000) (hz0 : ∀ i, i < n0 → (Z0 i).length ≤ 140737488351232) (hz1 : ∀ i, i < n1 → (Z1 i).length ≤ 1000000000) (hz2 : ∀ i, i < n2 → (Z2 i).length ≤ 1000000000) :
    Calls Try.prog 13 #[.pointer (some ⟨q, 0, none⟩)] w fun r w' => r = .returned (.bool true) ∧ Kp (fun k => rft n0 A0 k ∨ rft n1 A1 k ∨ rft n2 A2 k) w w' := by
  have cs : ∀ W, Bk W q f → W.cell? ⟨q, 0, none⟩ = some (f 0) ∧ W.cell? ⟨q, 1, none⟩ = some (.slice none 0 0) ∧ W.cell? ⟨q, 2, none⟩ = some (.slice none 0 0) ∧ W.cell? ⟨q, 3, none⟩ = some (.slice none 0 0) ∧ W.cell? ⟨q, 4, none⟩ = some (.slice none 0 0) ∧ W.cell? ⟨q, 5, none⟩ = some (.slice none 0 0) ∧ W.cell? ⟨q, 6, none⟩ = some (.slice none 0 0) ∧ W.cell? ⟨q, 7, none⟩ = some (.slice none 0 0) ∧ W.cell? ⟨q, 8, none⟩ = some (.slice none 0 0) ∧ W.cell? ⟨q, 9, none⟩ = some (.slice none 0 0) ∧ W.cell? ⟨q, 10, none⟩ = some (.slice none 0 0) ∧ W.cell? ⟨q, 11, none⟩ = some (.slice none 0 0) ∧ W.cell? ⟨q, 12, none⟩ = some (.slice none 0 0) ∧ W.cell? ⟨q, 13, none⟩ = some (f 13) ∧ W.cell? ⟨q, 14, none⟩ = some (f 14) ∧ W.cell? ⟨q, 15, none⟩ = some (.slice none 0 0) ∧ W.cell? ⟨q, 16, none⟩ = some (.slice none 0 0) ∧ W.cell? ⟨q, 17, none⟩ = some (.slice none 0 0) ∧ W.cell? ⟨q, 18, none⟩ = some (.slice none 0 0) ∧ W.cell? ⟨q, 19, none⟩ = some (.slice none 0 0) ∧ W.cell? ⟨q, 20, none⟩ = some (.slice none 0 0) ∧ W.cell? ⟨q, 21, none⟩ = some (.slice none 0 0) ∧ W.cell? ⟨q, 22, none⟩ = some (.slice none 0 0) := by
    intro W hW
    refine ⟨?_, ?_, ?_, ?_, ?_, ?_, ?_, ?_, ?_, ?_, ?_, ?_, ?_, ?_, ?_, ?_, ?_, ?_, ?_, ?_, ?_, ?_, ?_⟩
    · rw [hW.c 0 (by omega)]
    · rw [hW.c 1 (by omega), hb.nl 1 (by omega) (by omega) (by omega)]
    · rw [hW.c 2 (by omega), hb.nl 2 (by omega) (by omega) (by omega)]
    · rw [hW.c 3 (by omega), hb.nl 3 (by omega) (by omega) (by omega)]
    · rw [hW.c 4 (by omega), hb.nl 4 (by omega) (by omega) (by omega)]
    · rw [hW.c 5 (by omega), hb.nl 5 (by omega) (by omega) (by omega)]
    · rw [hW.c 6 (by omega), hb.nl 6 (by omega) (by omega) (by omega)]
    · rw [hW.c 7 (by omega), hb.nl 7 (by omega) (by omega) (by omega)]
    · rw [hW.c 8 (by omega), hb.nl 8 (by omega) (by omega) (by omega)]
    · rw [hW.c 9 (by omega), hb.nl 9 (by omega) (by omega) (by omega)]
    · rw [hW.c 10 (by omega), hb.nl 10 (by omega) (by omega) (by omega)]
    · rw [hW.c 11 (by omega), hb.nl 11 (by omega) (by omega) (by omega)]
    · rw [hW.c 12 (by omega), hb.nl 12 (by omega) (by omega) (by omega)]
    · rw [hW.c 13 (by omega)]
    · rw [hW.c 14 (by omega)]
    · rw [hW.c 15 (by omega), hb.nl 15 (by omega) (by omega) (by omega)]
    · rw [hW.c 16 (by omega), hb.nl 16 (by omega) (by omega) (by omega)]
    · rw [hW.c 17 (by omega), hb.nl 17 (by omega) (by omega) (by omega)]
    · rw [hW.c 18 (by omega), hb.nl 18 (by omega) (by omega) (by omega)]
    · rw [hW.c 19 (by omega), hb.nl 19 (by omega) (by omega) (by omega)]
    · rw [hW.c 20 (by omega), hb.nl 20 (by omega) (by omega) (by omega)]
    · rw [hW.c 21 (by omega), hb.nl 21 (by omega) (by omega) (by omega)]
    · rw [hW.c 22 (by omega), hb.nl 22 (by omega) (by omega) (by omega)]
  have CS := hide cs
  have HB0 := hide hb.bk
  have HF0 := hide hb.byt
  have HP0 := hide hb.prs
  have HC0 := hide hb.chs
  have HZ0 := hide hz0
  have HZ1 := hide hz1
  have HZ2 := hide hz2
  clear cs hb hz0 hz1 hz2
  go_enter Try.func13, Try.ntmps13
  obtain ⟨c0, c1, c2, c3, c4, c5, c6, c7, c8, c9, c10, c11, c12, c13, c14, c15, c16, c17, c18, c19, c20, c21, c22⟩ := CS.out w HB0.out
  go_wp2_with fail
  refine (ownBytes_any (f 0) n0 A0 C0 Z0 _ HF0.out hn0 HZ0.out).mono ?_
  rintro r W1 ⟨rfl, hk⟩
  clear c0 c1 c2 c3 c4 c5 c6 c7 c8 c9 c10 c11 c12 c13 c14 c15 c16 c17 c18 c19 c20 c21 c22
  have HB1 : Hid (Bk W1 q f) := HB0.out.of_block (hk.block q HB0.out.lt (by
    rintro ⟨i, hi, hr⟩
    exact Bo.book_ne HB0.out (HF0.out.rows i hi) (by decide) ((Bo.blks_rv _ _ _ _).2 hr)))
  have HP1 : Hid (Bp.Fe 22 W1 (f 13) n1 A1 C1 Z1) := fp_keep HP0.out hk (by
    rintro k ⟨i, hi, hr⟩ ⟨j, hj, hr2⟩
    exact Bp.rows_ne (HF0.out.rows i hi) (HP0.out.rows j hj) (by decide) k ((Bo.blks_rv _ _ _ _).2 hr) ((Bp.blks_rv _ _ _ _).2 hr2)) (by
    rintro k ⟨i, hi, hr⟩ hv
    exact Bp.rows_ne (HF0.out.rows i hi) HP0.out.list (by decide) k ((Bo.blks_rv _ _ _ _).2 hr) hv)
  have HC1 : Hid (Bc.Fe 30 W1 (f 14) n2 A2 C2 Z2) := fc_keep HC0.out hk (by
    rintro k ⟨i, hi, hr⟩ ⟨j, hj, hr2⟩
    exact Bc.rows_ne (HF0.out.rows i hi) (HC0.out.rows j hj) (by decide) k ((Bo.blks_rv _ _ _ _).2 hr) ((Bc.blks_rv _ _ _ _).2 hr2)) (by
    rintro k ⟨i, hi, hr⟩ hv
    exact Bc.rows_ne (HF0.out.rows i hi) HC0.out.list (by decide) k ((Bo.blks_rv _ _ _ _).2 hr) hv)
  have HK1 : Hid (Kp (fun k => rft n0 A0 k ∨ rft n1 A1 k ∨ rft n2 A2 k) w W1) := hk.wider fun k h _ => .inl h
  clear hk
  obtain ⟨c0, c1, c2, c3, c4, c5, c6, c7, c8, c9, c10, c11, c12, c13, c14, c15, c16, c17, c18, c19, c20, c21, c22⟩ := CS.out W1 HB1.out
  go_wp2_with fail
  refine (ownTexts_nil _).mono ?_
  rintro r WX ⟨rfl, hw⟩
  cases hw
  go_wp2_with fail
  refine (ownInts_nil _).mono ?_
  rintro r WX ⟨rfl, hw⟩
  cases hw
  go_wp2_with fail
  refine (ownLongs_nil _).mono ?_
  rintro r WX ⟨rfl, hw⟩
  cases hw
  go_wp2_with fail
  refine (ownNumbers_nil _).mono ?_
  rintro r WX ⟨rfl, hw⟩
  cases hw
  go_wp2_with fail
  refine (ownWords_nil _).mono ?_
  rintro r WX ⟨rfl, hw⟩
  cases hw
  go_wp2_with fail
  refine (ownSteps_nil _).mono ?_
  rintro r WX ⟨rfl, hw⟩
  cases hw
  go_wp2_with fail
  refine (ownParts_nil _).mono ?_
  rintro r WX ⟨rfl, hw⟩
  cases hw
  go_wp2_with fail
  refine (ownDones_nil _).mono ?_
  rintro r WX ⟨rfl, hw⟩
  cases hw
  go_wp2_with fail
  refine (ownRows_nil _).mono ?_
  rintro r WX ⟨rfl, hw⟩
  cases hw
  go_wp2_with fail
  refine (ownLists_nil _).mono ?_
  rintro r WX ⟨rfl, hw⟩
  cases hw
  go_wp2_with fail
  refine (ownIntLists_nil _).mono ?_
  rintro r WX ⟨rfl, hw⟩
  cases hw
  go_wp2_with fail
  refine (ownPaths_nil _).mono ?_
  rintro r WX ⟨rfl, hw⟩
  cases hw
  go_wp2_with fail
  refine (ownPairs_any (f 13) n1 A1 C1 Z1 _ HP1.out hn1 HZ1.out).mono ?_
  rintro r W4 ⟨rfl, hk⟩
  clear c0 c1 c2 c3 c4 c5 c6 c7 c8 c9 c10 c11 c12 c13 c14 c15 c16 c17 c18 c19 c20 c21 c22
  have HB4 : Hid (Bk W4 q f) := HB1.out.of_block (hk.block q HB1.out.lt (by
    rintro ⟨i, hi, hr⟩
    exact Bp.book_ne HB1.out (HP1.out.rows i hi) (by decide) ((Bp.blks_rv _ _ _ _).2 hr)))
  have HC4 : Hid (Bc.Fe 30 W4 (f 14) n2 A2 C2 Z2) := fc_keep HC1.out hk (by
    rintro k ⟨i, hi, hr⟩ ⟨j, hj, hr2⟩
    exact Bc.rows_ne (HP1.out.rows i hi) (HC1.out.rows j hj) (by decide) k ((Bp.blks_rv _ _ _ _).2 hr) ((Bc.blks_rv _ _ _ _).2 hr2)) (by
    rintro k ⟨i, hi, hr⟩ hv
    exact Bc.rows_ne (HP1.out.rows i hi) HC1.out.list (by decide) k ((Bp.blks_rv _ _ _ _).2 hr) hv)
  have HK4 : Hid (Kp (fun k => rft n0 A0 k ∨ rft n1 A1 k ∨ rft n2 A2 k) w W4) := HK1.out.trans (hk.wider fun k h _ => .inr (.inl h))
  clear hk
  obtain ⟨c0, c1, c2, c3, c4, c5, c6, c7, c8, c9, c10, c11, c12, c13, c14, c15, c16, c17, c18, c19, c20, c21, c22⟩ := CS.out W4 HB4.out
  go_wp2_with fail
  refine (ownChanges_any (f 14) n2 A2 C2 Z2 _ HC4.out hn2 HZ2.out).mono ?_
  rintro r W2 ⟨rfl, hk⟩
  clear c0 c1 c2 c3 c4 c5 c6 c7 c8 c9 c10 c11 c12 c13 c14 c15 c16 c17 c18 c19 c20 c21 c22
  have HB2 : Hid (Bk W2 q f) := HB4.out.of_block (hk.block q HB4.out.lt (by
    rintro ⟨i, hi, hr⟩
    exact Bc.book_ne HB4.out (HC4.out.rows i hi) (by decide) ((Bc.blks_rv _ _ _ _).2 hr)))
  have HK2 : Hid (Kp (fun k => rft n0 A0 k ∨ rft n1 A1 k ∨ rft n2 A2 k) w W2) := HK4.out.trans (hk.wider fun k h _ => .inr (.inr h))
  clear hk
  obtain ⟨c0, c1, c2, c3, c4, c5, c6, c7, c8, c9, c10, c11, c12, c13, c14, c15, c16, c17, c18, c19, c20, c21, c22⟩ := CS.out W2 HB2.out
  go_wp2_with fail
  refine (ownSpans_nil _).mono ?_
  rintro r WX ⟨rfl, hw⟩
  cases hw
  go_wp2_with fail
  refine (ownEntries_nil _).mono ?_
  rintro r WX ⟨rfl, hw⟩
  cases hw
  go_wp2_with fail
  refine (ownBools_nil _).mono ?_
  rintro r W3 ⟨rfl, hbl⟩
  clear c0 c1 c2 c3 c4 c5 c6 c7 c8 c9 c10 c11 c12 c13 c14 c15 c16 c17 c18 c19 c20 c21 c22
  have HB3 := hide (HB2.out.below hbl)
  have HK3 := hide (HK2.out.trans (Kp.of_below hbl))
  clear hbl
  obtain ⟨c0, c1, c2, c3, c4, c5, c6, c7, c8, c9, c10, c11, c12, c13, c14, c15, c16, c17, c18, c19, c20, c21, c22⟩ := CS.out W3 HB3.out
  go_wp2_with fail
  refine (ownValues_nil _).mono ?_
  rintro r WX ⟨rfl, hw⟩
  cases hw
  go_wp2_with fail
  refine (ownFields_nil _).mono ?_
  rintro r WX ⟨rfl, hw⟩
  cases hw
  go_wp2_with fail
  refine (ownIndexes_nil _).mono ?_
  rintro r WX ⟨rfl, hw⟩
  cases hw
  go_wp2_with fail
  refine (ownEvents_nil _).mono ?_
  rintro r WX ⟨rfl, hw⟩
  cases hw
  go_wp2_with fail
  refine (ownCommits_nil _).mono ?_
  rintro r WX ⟨rfl, hw⟩
  cases hw
  go_wp2
  go_ret
  exact ⟨rfl, HK3.out⟩
end Go.Proofs.Ytgohhlngnnmknaa.Bd
