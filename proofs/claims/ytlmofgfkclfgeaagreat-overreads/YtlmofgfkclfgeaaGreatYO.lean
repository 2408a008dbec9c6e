/- A book of bytes and words is asked whether they are their owner's. -/
import Derived.Test.YtlmofgfkclfgeaaGreatGG
import Derived.Test.YtlmofgfkclfgeaaGreatGX
namespace Go.Proofs.YtlmofgfkclfgeaaGreat.Bo
open Go.RowKit
set_option linter.unusedVariables false

/-- asking one family turns nothing of another. -/
theorem Fam.other {K K' : IntKind} {et lty et' lty' : TypeId} {w w' : World} {v u : Value} {n m : Nat} {A B : Nat → Option Addr} {C D : Nat → Nat} {Z Y : Nat → List Int} (h : Fam K et lty w v n A C Z) (h2 : Fam K' et' lty' w u m B D Y) (k : Kp (rft n A) w w') (e1 : et ≠ lty') (e2 : et ≠ et') : Fam K' et' lty' w' u m B D Y := by
  refine h2.of_block fun j hj => k.block j (h2.lt j hj) ?_
  rintro ⟨i, hi, hr⟩
  have hb : blks (rv (A i) (C i) (Z i)) j := (blks_rv _ _ _ j).2 hr
  rcases hj with hj | ⟨l, hl, hj⟩
  · exact rows_ne (h.rows i hi) h2.list e1 j hb hj
  · exact rows_ne (h.rows i hi) (h2.rows l hl) e2 j hb ((blks_rv _ _ _ j).2 hj)
theorem Fam.book {K : IntKind} {et lty : TypeId} {w w' : World} {v : Value} {n : Nat} {A : Nat → Option Addr} {C : Nat → Nat} {Z : Nat → List Int} {q : Nat} {f : Nat → Value} (h : Fam K et lty w v n A C Z) (hb : Bk w q f) (k : Kp (rft n A) w w') (e : et ≠ 68) : Bk w' q f := by
  refine hb.of_block (k.block q hb.lt ?_)
  rintro ⟨i, hi, hr⟩
  exact book_ne hb (h.rows i hi) e ((blks_rv _ _ _ q).2 hr)
theorem ownBytes_any (v : Value) (n : Nat) (A : Nat → Option Addr) (C : Nat → Nat) (Z : Nat → List Int) (w : World) (h : Fam .u8 5 22 w v n A C Z) (hn : n ≤ 100000000) (hz : ∀ i, i < n → (Z i).length ≤ 1000000000) :
    Calls Tryz.prog 27 #[v] w fun r w' => r = .returned (.bool true) ∧ Kp (rft n A) w w' := by
  rcases h.list.2 with ⟨rfl, h0⟩ | ⟨g, cap, cur, rfl, _⟩
  · refine (ownBytes_nil w).mono ?_
    rintro r w' ⟨rfl, rfl⟩
    exact ⟨rfl, Kp.refl _ _⟩
  · exact ownBytes_some g n cap A C Z w h hn hz
theorem ownWords_any (v : Value) (n : Nat) (A : Nat → Option Addr) (C : Nat → Nat) (Z : Nat → List Int) (w : World) (h : Fam .u32 23 39 w v n A C Z) (hn : n ≤ 100000000) (hz : ∀ i, i < n → (Z i).length ≤ 1000000000) :
    Calls Tryz.prog 32 #[v] w fun r w' => r = .returned (.bool true) ∧ Kp (rft n A) w w' := by
  rcases h.list.2 with ⟨rfl, h0⟩ | ⟨g, cap, cur, rfl, _⟩
  · refine (ownWords_nil w).mono ?_
    rintro r w' ⟨rfl, rfl⟩
    exact ⟨rfl, Kp.refl _ _⟩
  · exact ownWords_some g n cap A C Z w h hn hz
set_option maxHeartbeats 3200000 in
set_option maxRecDepth 1000000 in
theorem bookOwn_any (q : Nat) (f : Nat → Value) (v0 : Value) (hv0 : f 0 = v0) (n0 : Nat) (A0 : Nat → Option Addr) (C0 : Nat → Nat) (Z0 : Nat → List Int) (v5 : Value) (hv5 : f 5 = v5) (n5 : Nat) (A5 : Nat → Option Addr) (C5 : Nat → Nat) (Z5 : Nat → List Int) (w : World) (hb : Bk w q f) (hf : ∀ j, j ≠ 0 → j ≠ 5 → f j = .slice none 0 0) (h0 : Fam .u8 5 22 w v0 n0 A0 C0 Z0) (hn0 : n0 ≤ 100000000) (hz0 : ∀ i, i < n0 → (Z0 i).length ≤ 1000000000) (h5 : Fam .u32 23 39 w v5 n5 A5 C5 Z5) (hn5 : n5 ≤ 100000000) (hz5 : ∀ i, i < n5 → (Z5 i).length ≤ 1000000000) :
    Calls Tryz.prog 16 #[.pointer (some ⟨q, 0, none⟩)] w fun r w' => r = .returned (.bool true) ∧ Kp (fun k => rft n0 A0 k ∨ rft n5 A5 k) w w' := by
  have cs : ∀ W, Bk W q f → W.cell? ⟨q, 0, none⟩ = some v0 ∧ W.cell? ⟨q, 1, none⟩ = some (.slice none 0 0) ∧ W.cell? ⟨q, 2, none⟩ = some (.slice none 0 0) ∧ W.cell? ⟨q, 3, none⟩ = some (.slice none 0 0) ∧ W.cell? ⟨q, 4, none⟩ = some (.slice none 0 0) ∧ W.cell? ⟨q, 5, none⟩ = some v5 ∧ W.cell? ⟨q, 6, none⟩ = some (.slice none 0 0) ∧ W.cell? ⟨q, 7, none⟩ = some (.slice none 0 0) ∧ W.cell? ⟨q, 8, none⟩ = some (.slice none 0 0) ∧ W.cell? ⟨q, 9, none⟩ = some (.slice none 0 0) ∧ W.cell? ⟨q, 10, none⟩ = some (.slice none 0 0) ∧ W.cell? ⟨q, 11, none⟩ = some (.slice none 0 0) ∧ W.cell? ⟨q, 12, none⟩ = some (.slice none 0 0) ∧ W.cell? ⟨q, 13, none⟩ = some (.slice none 0 0) ∧ W.cell? ⟨q, 14, none⟩ = some (.slice none 0 0) ∧ W.cell? ⟨q, 15, none⟩ = some (.slice none 0 0) ∧ W.cell? ⟨q, 16, none⟩ = some (.slice none 0 0) ∧ W.cell? ⟨q, 17, none⟩ = some (.slice none 0 0) ∧ W.cell? ⟨q, 18, none⟩ = some (.slice none 0 0) ∧ W.cell? ⟨q, 19, none⟩ = some (.slice none 0 0) ∧ W.cell? ⟨q, 20, none⟩ = some (.slice none 0 0) ∧ W.cell? ⟨q, 21, none⟩ = some (.slice none 0 0) ∧ W.cell? ⟨q, 22, none⟩ = some (.slice none 0 0) := by
    intro W hW
    refine ⟨?_, ?_, ?_, ?_, ?_, ?_, ?_, ?_, ?_, ?_, ?_, ?_, ?_, ?_, ?_, ?_, ?_, ?_, ?_, ?_, ?_, ?_, ?_⟩
    · rw [hW.c 0 (by omega), hv0]
    · rw [hW.c 1 (by omega), hf 1 (by omega) (by omega)]
    · rw [hW.c 2 (by omega), hf 2 (by omega) (by omega)]
    · rw [hW.c 3 (by omega), hf 3 (by omega) (by omega)]
    · rw [hW.c 4 (by omega), hf 4 (by omega) (by omega)]
    · rw [hW.c 5 (by omega), hv5]
    · rw [hW.c 6 (by omega), hf 6 (by omega) (by omega)]
    · rw [hW.c 7 (by omega), hf 7 (by omega) (by omega)]
    · rw [hW.c 8 (by omega), hf 8 (by omega) (by omega)]
    · rw [hW.c 9 (by omega), hf 9 (by omega) (by omega)]
    · rw [hW.c 10 (by omega), hf 10 (by omega) (by omega)]
    · rw [hW.c 11 (by omega), hf 11 (by omega) (by omega)]
    · rw [hW.c 12 (by omega), hf 12 (by omega) (by omega)]
    · rw [hW.c 13 (by omega), hf 13 (by omega) (by omega)]
    · rw [hW.c 14 (by omega), hf 14 (by omega) (by omega)]
    · rw [hW.c 15 (by omega), hf 15 (by omega) (by omega)]
    · rw [hW.c 16 (by omega), hf 16 (by omega) (by omega)]
    · rw [hW.c 17 (by omega), hf 17 (by omega) (by omega)]
    · rw [hW.c 18 (by omega), hf 18 (by omega) (by omega)]
    · rw [hW.c 19 (by omega), hf 19 (by omega) (by omega)]
    · rw [hW.c 20 (by omega), hf 20 (by omega) (by omega)]
    · rw [hW.c 21 (by omega), hf 21 (by omega) (by omega)]
    · rw [hW.c 22 (by omega), hf 22 (by omega) (by omega)]
  have CS := hide cs
  have HB0 := hide hb
  have HF0_0 := hide h0
  have HN0 := hide hn0
  have HZ0 := hide hz0
  have HF5_0 := hide h5
  have HN5 := hide hn5
  have HZ5 := hide hz5
  have HK0 : Hid (Kp (fun k => rft n0 A0 k ∨ rft n5 A5 k) w w) := hide (Kp.refl _ _)
  clear cs hb hf h0 hn0 hz0 hv0 h5 hn5 hz5 hv5
  go_enter Tryz.func16, Tryz.ntmps16
  obtain ⟨c0, c1, c2, c3, c4, c5, c6, c7, c8, c9, c10, c11, c12, c13, c14, c15, c16, c17, c18, c19, c20, c21, c22⟩ := CS.out w HB0.out
  go_wp2_with fail
  refine (ownBytes_any v0 n0 A0 C0 Z0 _ HF0_0.out HN0.out HZ0.out).mono ?_
  rintro r W1 ⟨rfl, hk⟩
  clear c0 c1 c2 c3 c4 c5 c6 c7 c8 c9 c10 c11 c12 c13 c14 c15 c16 c17 c18 c19 c20 c21 c22
  have HB1 := hide (HF0_0.out.book HB0.out hk (by decide))
  have HF5_1 := hide (HF0_0.out.other HF5_0.out hk (by decide) (by decide))
  have HK1 := hide (HK0.out.trans (hk.wider fun k h _ => (.inl h)))
  clear hk
  obtain ⟨c0, c1, c2, c3, c4, c5, c6, c7, c8, c9, c10, c11, c12, c13, c14, c15, c16, c17, c18, c19, c20, c21, c22⟩ := CS.out W1 HB1.out
  go_wp2_with fail
  refine (ownTexts_nil _).mono ?_
  rintro r WX ⟨rfl, hw⟩
  cases hw
  go_wp2_with fail
  refine (ownInts_nil _).mono ?_
  rintro r WX ⟨rfl, hw⟩
  cases hw
  go_wp2_with fail
  refine (ownLongs_nil _).mono ?_
  rintro r WX ⟨rfl, hw⟩
  cases hw
  go_wp2_with fail
  refine (ownNumbers_nil _).mono ?_
  rintro r WX ⟨rfl, hw⟩
  cases hw
  go_wp2_with fail
  refine (ownWords_any v5 n5 A5 C5 Z5 _ HF5_1.out HN5.out HZ5.out).mono ?_
  rintro r W2 ⟨rfl, hk⟩
  clear c0 c1 c2 c3 c4 c5 c6 c7 c8 c9 c10 c11 c12 c13 c14 c15 c16 c17 c18 c19 c20 c21 c22
  have HB2 := hide (HF5_1.out.book HB1.out hk (by decide))
  have HK2 := hide (HK1.out.trans (hk.wider fun k h _ => (.inr h)))
  clear hk
  obtain ⟨c0, c1, c2, c3, c4, c5, c6, c7, c8, c9, c10, c11, c12, c13, c14, c15, c16, c17, c18, c19, c20, c21, c22⟩ := CS.out W2 HB2.out
  go_wp2_with fail
  refine (ownSteps_nil _).mono ?_
  rintro r WX ⟨rfl, hw⟩
  cases hw
  go_wp2_with fail
  refine (ownParts_nil _).mono ?_
  rintro r WX ⟨rfl, hw⟩
  cases hw
  go_wp2_with fail
  refine (ownDones_nil _).mono ?_
  rintro r WX ⟨rfl, hw⟩
  cases hw
  go_wp2_with fail
  refine (ownRows_nil _).mono ?_
  rintro r WX ⟨rfl, hw⟩
  cases hw
  go_wp2_with fail
  refine (ownLists_nil _).mono ?_
  rintro r WX ⟨rfl, hw⟩
  cases hw
  go_wp2_with fail
  refine (ownIntLists_nil _).mono ?_
  rintro r WX ⟨rfl, hw⟩
  cases hw
  go_wp2_with fail
  refine (ownPaths_nil _).mono ?_
  rintro r WX ⟨rfl, hw⟩
  cases hw
  go_wp2_with fail
  refine (ownPairs_nil _).mono ?_
  rintro r WX ⟨rfl, hw⟩
  cases hw
  go_wp2_with fail
  refine (ownChanges_nil _).mono ?_
  rintro r WX ⟨rfl, hw⟩
  cases hw
  go_wp2_with fail
  refine (ownSpans_nil _).mono ?_
  rintro r WX ⟨rfl, hw⟩
  cases hw
  go_wp2_with fail
  refine (ownEntries_nil _).mono ?_
  rintro r WX ⟨rfl, hw⟩
  cases hw
  go_wp2_with fail
  refine (ownBools_nil _).mono ?_
  rintro r W3 ⟨rfl, hbl⟩
  clear c0 c1 c2 c3 c4 c5 c6 c7 c8 c9 c10 c11 c12 c13 c14 c15 c16 c17 c18 c19 c20 c21 c22
  have HB3 := hide (HB2.out.below hbl)
  have HK3 := hide (HK2.out.trans (Kp.of_below hbl))
  clear hbl
  obtain ⟨c0, c1, c2, c3, c4, c5, c6, c7, c8, c9, c10, c11, c12, c13, c14, c15, c16, c17, c18, c19, c20, c21, c22⟩ := CS.out W3 HB3.out
  go_wp2_with fail
  refine (ownValues_nil _).mono ?_
  rintro r WX ⟨rfl, hw⟩
  cases hw
  go_wp2_with fail
  refine (ownFields_nil _).mono ?_
  rintro r WX ⟨rfl, hw⟩
  cases hw
  go_wp2_with fail
  refine (ownIndexes_nil _).mono ?_
  rintro r WX ⟨rfl, hw⟩
  cases hw
  go_wp2_with fail
  refine (ownEvents_nil _).mono ?_
  rintro r WX ⟨rfl, hw⟩
  cases hw
  go_wp2_with fail
  refine (ownCommits_nil _).mono ?_
  rintro r WX ⟨rfl, hw⟩
  cases hw
  go_wp2
  go_ret
  exact ⟨rfl, HK3.out⟩
end Go.Proofs.YtlmofgfkclfgeaaGreat.Bo
