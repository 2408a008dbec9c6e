/- A book of rows of bytes, of words, and of rows of rows; it is asked whether they are their owner's alone. -/
import Derived.Test.YtejdlcahcimflaaHD
import Derived.Test.YtejdlcahcimflaaGN
import Derived.Test.YtejdlcahcimflaaGX
namespace Go.Proofs.Ytejdlcahcimflaa.Bv
open Go.RowKit Go.Proofs.Ytejdlcahcimflaa.Bo
set_option linter.unusedVariables false

/-- the book. -/
structure Bc (w : World) (q : Nat) (f : Nat → Value) (n0 : Nat) (A0 : Nat → Option Addr) (C0 : Nat → Nat) (Z0 : Nat → List Int) (n5 : Nat) (A5 : Nat → Option Addr) (C5 : Nat → Nat) (Z5 : Nat → List Int) (n9 : Nat) (A9 : Nat → Option Addr) (C9 : Nat → Nat) (Z9 : Nat → List Value) : Prop where
  bk : Bk w q f
  nl : ∀ j, j ≠ 0 → j ≠ 5 → j ≠ 9 → f j = .slice none 0 0
  byt : Fam .u8 5 23 w (f 0) n0 A0 C0 Z0
  wrd : Fam .u32 32 22 w (f 5) n5 A5 C5 Z5
  row : Fv 23 25 w (f 9) n9 A9 C9 Z9
  small : ∀ i, i < n0 → (Z0 i).length ≤ 1000000
  small5 : ∀ i, i < n5 → (Z5 i).length ≤ 1000000
theorem Bc.below {w w' : World} {q : Nat} {f : Nat → Value} {n0 : Nat} {A0 : Nat → Option Addr} {C0 : Nat → Nat} {Z0 : Nat → List Int} {n5 : Nat} {A5 : Nat → Option Addr} {C5 : Nat → Nat} {Z5 : Nat → List Int} {n9 : Nat} {A9 : Nat → Option Addr} {C9 : Nat → Nat} {Z9 : Nat → List Value} (h : Bc w q f n0 A0 C0 Z0 n5 A5 C5 Z5 n9 A9 C9 Z9) (hb : Below w.heap.size w w') : Bc w' q f n0 A0 C0 Z0 n5 A5 C5 Z5 n9 A9 C9 Z9 :=
  ⟨h.bk.below hb, h.nl, h.byt.below hb, h.wrd.below hb, h.row.below hb, h.small, h.small5⟩
theorem kw_of {w : World} {v : Value} {zs : List Nat} (h : OwnW w v zs) : OwnK .u32 32 w v (zs.map Int.ofNat) := by
  unfold OwnW at h
  unfold OwnK
  rw [List.map_map, List.length_map]
  exact h
/-- words are put into a book of rows. -/
theorem bookWords_bc (q : Nat) (f : Nat → Value) (n0 : Nat) (A0 : Nat → Option Addr) (C0 : Nat → Nat) (Z0 : Nat → List Int) (n9 : Nat) (A9 : Nat → Option Addr) (C9 : Nat → Nat) (Z9 : Nat → List Value) (w : World) (hb : Bb w q f n0 A0 C0 Z0 n9 A9 C9 Z9) (a : Option Addr) (c m : Nat) (zs : List Nat) (hm : zs.length = m) (ho : OwnW w (.slice a m c) zs) (hz : m ≤ 1000000) :
    Calls Try.prog 12 #[.pointer (some ⟨q, 0, none⟩), .slice a m c] w fun r w' => r = .returned (.tuple #[]) ∧ ∃ f', Bc w' q f' n0 A0 C0 Z0 1 (putf (fun _ => none) 0 a) (putf (fun _ => 0) 0 c) (putf (fun _ => []) 0 (zs.map Int.ofNat)) n9 A9 C9 Z9 ∧ Kp (fun k => k = q) w w' := by
  have h5 : f 5 = .slice none 0 0 := hb.nl 5 (by omega) (by omega)
  refine (bookWords_any q f (.slice none 0 0) h5 0 (fun _ => none) (fun _ => 0) (fun _ => []) a c (zs.map Int.ofNat) m (by rw [List.length_map]; exact hm) w hb.bk (Bo.fam_none w (by decide)) (kw_of ho) (fun k hk => by obtain ⟨i, hi, _⟩ := hk; omega) (by omega)).mono ?_
  rintro r w' ⟨rfl, v', h1, h2, h3, h4⟩
  have hk : Kp (fun k => k = q) w w' := h3.wider (fun k h _ => h.elim id (fun h => by simp [blks, Value.ownBlock] at h))
  refine ⟨rfl, putf f 5 v', ⟨h1, fun j j0 j5 j9 => by rw [putf_other _ _ _ _ j5]; exact hb.nl j j0 j9, ?_, by rw [putf_same]; exact h2, ?_, hb.small, fun i hi => ?_⟩, hk⟩
  · rw [putf_other _ _ _ _ (by omega)]
    refine hb.byt.of_block fun k hkk => hk.block k (hb.byt.lt k hkk) ?_
    rintro rfl
    rcases hkk with hv | ⟨i, hi, hr⟩
    · exact book_ne hb.bk hb.byt.list (by decide) hv
    · exact book_ne hb.bk (hb.byt.rows i hi) (by decide) ((Bo.blks_rv _ _ _ _).2 hr)
  · rw [putf_other _ _ _ _ (by omega)]
    refine fv_keep hb.row hk ?_ ?_
    · rintro k rfl ⟨i, hi, hr⟩
      exact book_ne hb.bk (hb.row.rows i hi) (by decide) ((blks_rv _ _ _ _).2 hr)
    · rintro k rfl hv
      exact book_ne hb.bk hb.row.list (by decide) hv
  · obtain rfl : i = 0 := by omega
    rw [putf_same, List.length_map, hm]
    exact hz
theorem ownBytes_any (v : Value) (n : Nat) (A : Nat → Option Addr) (C : Nat → Nat) (Z : Nat → List Int) (w : World) (h : Fam .u8 5 23 w v n A C Z) (hn : n ≤ 100000000) (hz : ∀ i, i < n → (Z i).length ≤ 1000000000) :
    Calls Try.prog 34 #[v] w fun r w' => r = .returned (.bool true) ∧ Kp (rft n A) w w' := by
  rcases h.list.2 with ⟨rfl, h0⟩ | ⟨g, cap, cur, rfl, _⟩
  · refine (ownBytes_nil w).mono ?_
    rintro r w' ⟨rfl, rfl⟩
    exact ⟨rfl, Kp.refl _ _⟩
  · exact ownBytes_some g n cap A C Z w h hn hz
theorem ownWords_any (v : Value) (n : Nat) (A : Nat → Option Addr) (C : Nat → Nat) (Z : Nat → List Int) (w : World) (h : Fam .u32 32 22 w v n A C Z) (hn : n ≤ 100000000) (hz : ∀ i, i < n → (Z i).length ≤ 1000000000) :
    Calls Try.prog 39 #[v] w fun r w' => r = .returned (.bool true) ∧ Kp (rft n A) w w' := by
  rcases h.list.2 with ⟨rfl, h0⟩ | ⟨g, cap, cur, rfl, _⟩
  · refine (ownWords_nil w).mono ?_
    rintro r w' ⟨rfl, rfl⟩
    exact ⟨rfl, Kp.refl _ _⟩
  · exact ownWords_some g n cap A C Z w h hn hz
theorem ownRows_any (v : Value) (n : Nat) (A : Nat → Option Addr) (C : Nat → Nat) (Z : Nat → List Value) (w : World) (h : Fv 23 25 w v n A C Z) (hn : n ≤ 100000000) (hz : ∀ i, i < n → (Z i).length ≤ 1000000000) :
    Calls Try.prog 43 #[v] w fun r w' => r = .returned (.bool true) ∧ Kp (rft n A) w w' := by
  rcases h.list.2 with ⟨rfl, h0⟩ | ⟨g, cap, cur, rfl, _⟩
  · refine (ownRows_nil w).mono ?_
    rintro r w' ⟨rfl, rfl⟩
    exact ⟨rfl, Kp.refl _ _⟩
  · exact ownRows_some g n cap A C Z (fun i => (Z i).length) w h hn (fun _ _ => rfl) hz
set_option maxHeartbeats 3200000 in
set_option maxRecDepth 1000000 in
theorem bookOwn_any (q : Nat) (f : Nat → Value) (n0 : Nat) (A0 : Nat → Option Addr) (C0 : Nat → Nat) (Z0 : Nat → List Int) (n5 : Nat) (A5 : Nat → Option Addr) (C5 : Nat → Nat) (Z5 : Nat → List Int) (n9 : Nat) (A9 : Nat → Option Addr) (C9 : Nat → Nat) (Z9 : Nat → List Value) (w : World) (hb : Bc w q f n0 A0 C0 Z0 n5 A5 C5 Z5 n9 A9 C9 Z9) (hn0 : n0 ≤ 100000000) (hn5 : n5 ≤ 100000000) (hn9 : n9 ≤ 100000000) (hz9 : ∀ i, i < n9 → (Z9 i).length ≤ 1000000000) :
    Calls Try.prog 18 #[.pointer (some ⟨q, 0, none⟩)] w fun r w' => r = .returned (.bool true) ∧ Kp (fun k => rft n0 A0 k ∨ rft n5 A5 k ∨ rft n9 A9 k) w w' := by
  have cs : ∀ W, Bk W q f → W.cell? ⟨q, 0, none⟩ = some (f 0) ∧ W.cell? ⟨q, 1, none⟩ = some (.slice none 0 0) ∧ W.cell? ⟨q, 2, none⟩ = some (.slice none 0 0) ∧ W.cell? ⟨q, 3, none⟩ = some (.slice none 0 0) ∧ W.cell? ⟨q, 4, none⟩ = some (.slice none 0 0) ∧ W.cell? ⟨q, 5, none⟩ = some (f 5) ∧ W.cell? ⟨q, 6, none⟩ = some (.slice none 0 0) ∧ W.cell? ⟨q, 7, none⟩ = some (.slice none 0 0) ∧ W.cell? ⟨q, 8, none⟩ = some (.slice none 0 0) ∧ W.cell? ⟨q, 9, none⟩ = some (f 9) ∧ W.cell? ⟨q, 10, none⟩ = some (.slice none 0 0) ∧ W.cell? ⟨q, 11, none⟩ = some (.slice none 0 0) ∧ W.cell? ⟨q, 12, none⟩ = some (.slice none 0 0) ∧ W.cell? ⟨q, 13, none⟩ = some (.slice none 0 0) ∧ W.cell? ⟨q, 14, none⟩ = some (.slice none 0 0) ∧ W.cell? ⟨q, 15, none⟩ = some (.slice none 0 0) ∧ W.cell? ⟨q, 16, none⟩ = some (.slice none 0 0) ∧ W.cell? ⟨q, 17, none⟩ = some (.slice none 0 0) ∧ W.cell? ⟨q, 18, none⟩ = some (.slice none 0 0) ∧ W.cell? ⟨q, 19, none⟩ = some (.slice none 0 0) ∧ W.cell? ⟨q, 20, none⟩ = some (.slice none 0 0) ∧ W.cell? ⟨q, 21, none⟩ = some (.slice none 0 0) ∧ W.cell? ⟨q, 22, none⟩ = some (.slice none 0 0) := by
    intro W hW
    refine ⟨?_, ?_, ?_, ?_, ?_, ?_, ?_, ?_, ?_, ?_, ?_, ?_, ?_, ?_, ?_, ?_, ?_, ?_, ?_, ?_, ?_, ?_, ?_⟩
    · rw [hW.c 0 (by omega)]
    · rw [hW.c 1 (by omega), hb.nl 1 (by omega) (by omega) (by omega)]
    · rw [hW.c 2 (by omega), hb.nl 2 (by omega) (by omega) (by omega)]
    · rw [hW.c 3 (by omega), hb.nl 3 (by omega) (by omega) (by omega)]
    · rw [hW.c 4 (by omega), hb.nl 4 (by omega) (by omega) (by omega)]
    · rw [hW.c 5 (by omega)]
    · rw [hW.c 6 (by omega), hb.nl 6 (by omega) (by omega) (by omega)]
    · rw [hW.c 7 (by omega), hb.nl 7 (by omega) (by omega) (by omega)]
    · rw [hW.c 8 (by omega), hb.nl 8 (by omega) (by omega) (by omega)]
    · rw [hW.c 9 (by omega)]
    · rw [hW.c 10 (by omega), hb.nl 10 (by omega) (by omega) (by omega)]
    · rw [hW.c 11 (by omega), hb.nl 11 (by omega) (by omega) (by omega)]
    · rw [hW.c 12 (by omega), hb.nl 12 (by omega) (by omega) (by omega)]
    · rw [hW.c 13 (by omega), hb.nl 13 (by omega) (by omega) (by omega)]
    · rw [hW.c 14 (by omega), hb.nl 14 (by omega) (by omega) (by omega)]
    · rw [hW.c 15 (by omega), hb.nl 15 (by omega) (by omega) (by omega)]
    · rw [hW.c 16 (by omega), hb.nl 16 (by omega) (by omega) (by omega)]
    · rw [hW.c 17 (by omega), hb.nl 17 (by omega) (by omega) (by omega)]
    · rw [hW.c 18 (by omega), hb.nl 18 (by omega) (by omega) (by omega)]
    · rw [hW.c 19 (by omega), hb.nl 19 (by omega) (by omega) (by omega)]
    · rw [hW.c 20 (by omega), hb.nl 20 (by omega) (by omega) (by omega)]
    · rw [hW.c 21 (by omega), hb.nl 21 (by omega) (by omega) (by omega)]
    · rw [hW.c 22 (by omega), hb.nl 22 (by omega) (by omega) (by omega)]
  have CS := hide cs
  have HB0 := hide hb.bk
  have HF0 := hide hb.byt
  have HF5 := hide hb.wrd
  have HF9 := hide hb.row
  have HZ0 : Hid (∀ i, i < n0 → (Z0 i).length ≤ 1000000000) := fun i hi => Nat.le_trans (hb.small i hi) (by omega)
  have HZ5 : Hid (∀ i, i < n5 → (Z5 i).length ≤ 1000000000) := fun i hi => Nat.le_trans (hb.small5 i hi) (by omega)
  have HZ9 := hide hz9
  clear cs hb hz9
  go_enter Try.func18, Try.ntmps18
  obtain ⟨c0, c1, c2, c3, c4, c5, c6, c7, c8, c9, c10, c11, c12, c13, c14, c15, c16, c17, c18, c19, c20, c21, c22⟩ := CS.out w HB0.out
  go_wp2_with fail
  refine (ownBytes_any (f 0) n0 A0 C0 Z0 _ HF0.out hn0 HZ0.out).mono ?_
  rintro r W1 ⟨rfl, hk⟩
  clear c0 c1 c2 c3 c4 c5 c6 c7 c8 c9 c10 c11 c12 c13 c14 c15 c16 c17 c18 c19 c20 c21 c22
  have HB1 : Hid (Bk W1 q f) := HB0.out.of_block (hk.block q HB0.out.lt (by
    rintro ⟨i, hi, hr⟩
    exact book_ne HB0.out (HF0.out.rows i hi) (by decide) ((Bo.blks_rv _ _ _ _).2 hr)))
  have HF91 : Hid (Fv 23 25 W1 (f 9) n9 A9 C9 Z9) := fv_keep HF9.out hk (by
    rintro k ⟨i, hi, hr⟩ ⟨j, hj, hr2⟩
    exact rows_ne (HF0.out.rows i hi) (HF9.out.rows j hj) (by decide) k ((Bo.blks_rv _ _ _ _).2 hr) ((blks_rv _ _ _ _).2 hr2)) (by
    rintro k ⟨i, hi, hr⟩ hv
    exact rows_ne (HF0.out.rows i hi) HF9.out.list (by decide) k ((Bo.blks_rv _ _ _ _).2 hr) hv)
  have HF51 : Hid (Fam .u32 32 22 W1 (f 5) n5 A5 C5 Z5) := HF5.out.of_block fun j hj => hk.block j (HF5.out.lt j hj) (by
    rintro ⟨i, hi, hr⟩
    rcases hj with hj | ⟨l, hl, hj⟩
    · exact rows_ne (HF0.out.rows i hi) HF5.out.list (by decide) j ((Bo.blks_rv _ _ _ _).2 hr) hj
    · exact rows_ne (HF0.out.rows i hi) (HF5.out.rows l hl) (by decide) j ((Bo.blks_rv _ _ _ _).2 hr) ((Bo.blks_rv _ _ _ _).2 hj))
  have HK1 : Hid (Kp (fun k => rft n0 A0 k ∨ rft n5 A5 k ∨ rft n9 A9 k) w W1) := hk.wider fun k h _ => .inl h
  clear hk
  obtain ⟨c0, c1, c2, c3, c4, c5, c6, c7, c8, c9, c10, c11, c12, c13, c14, c15, c16, c17, c18, c19, c20, c21, c22⟩ := CS.out W1 HB1.out
  go_wp2_with fail
  refine (ownTexts_nil _).mono ?_
  rintro r WX ⟨rfl, hw⟩
  cases hw
  go_wp2_with fail
  refine (ownInts_nil _).mono ?_
  rintro r WX ⟨rfl, hw⟩
  cases hw
  go_wp2_with fail
  refine (ownLongs_nil _).mono ?_
  rintro r WX ⟨rfl, hw⟩
  cases hw
  go_wp2_with fail
  refine (ownNumbers_nil _).mono ?_
  rintro r WX ⟨rfl, hw⟩
  cases hw
  go_wp2_with fail
  refine (ownWords_any (f 5) n5 A5 C5 Z5 _ HF51.out hn5 HZ5.out).mono ?_
  rintro r W4 ⟨rfl, hk⟩
  clear c0 c1 c2 c3 c4 c5 c6 c7 c8 c9 c10 c11 c12 c13 c14 c15 c16 c17 c18 c19 c20 c21 c22
  have HB4 : Hid (Bk W4 q f) := HB1.out.of_block (hk.block q HB1.out.lt (by
    rintro ⟨i, hi, hr⟩
    exact book_ne HB1.out (HF51.out.rows i hi) (by decide) ((Bo.blks_rv _ _ _ _).2 hr)))
  have HF94 : Hid (Fv 23 25 W4 (f 9) n9 A9 C9 Z9) := fv_keep HF91.out hk (by
    rintro k ⟨i, hi, hr⟩ ⟨j, hj, hr2⟩
    exact rows_ne (HF51.out.rows i hi) (HF91.out.rows j hj) (by decide) k ((Bo.blks_rv _ _ _ _).2 hr) ((blks_rv _ _ _ _).2 hr2)) (by
    rintro k ⟨i, hi, hr⟩ hv
    exact rows_ne (HF51.out.rows i hi) HF91.out.list (by decide) k ((Bo.blks_rv _ _ _ _).2 hr) hv)
  have HK4 : Hid (Kp (fun k => rft n0 A0 k ∨ rft n5 A5 k ∨ rft n9 A9 k) w W4) := HK1.out.trans (hk.wider fun k h _ => .inr (.inl h))
  clear hk
  obtain ⟨c0, c1, c2, c3, c4, c5, c6, c7, c8, c9, c10, c11, c12, c13, c14, c15, c16, c17, c18, c19, c20, c21, c22⟩ := CS.out W4 HB4.out
  go_wp2_with fail
  refine (ownSteps_nil _).mono ?_
  rintro r WX ⟨rfl, hw⟩
  cases hw
  go_wp2_with fail
  refine (ownParts_nil _).mono ?_
  rintro r WX ⟨rfl, hw⟩
  cases hw
  go_wp2_with fail
  refine (ownDones_nil _).mono ?_
  rintro r WX ⟨rfl, hw⟩
  cases hw
  go_wp2_with fail
  refine (ownRows_any (f 9) n9 A9 C9 Z9 _ HF94.out hn9 HZ9.out).mono ?_
  rintro r W2 ⟨rfl, hk⟩
  clear c0 c1 c2 c3 c4 c5 c6 c7 c8 c9 c10 c11 c12 c13 c14 c15 c16 c17 c18 c19 c20 c21 c22
  have HB2 : Hid (Bk W2 q f) := HB4.out.of_block (hk.block q HB4.out.lt (by
    rintro ⟨i, hi, hr⟩
    exact book_ne HB4.out (HF94.out.rows i hi) (by decide) ((blks_rv _ _ _ _).2 hr)))
  have HK2 : Hid (Kp (fun k => rft n0 A0 k ∨ rft n5 A5 k ∨ rft n9 A9 k) w W2) := HK4.out.trans (hk.wider fun k h _ => .inr (.inr h))
  clear hk
  obtain ⟨c0, c1, c2, c3, c4, c5, c6, c7, c8, c9, c10, c11, c12, c13, c14, c15, c16, c17, c18, c19, c20, c21, c22⟩ := CS.out W2 HB2.out
  go_wp2_with fail
  refine (ownLists_nil _).mono ?_
  rintro r WX ⟨rfl, hw⟩
  cases hw
  go_wp2_with fail
  refine (ownIntLists_nil _).mono ?_
  rintro r WX ⟨rfl, hw⟩
  cases hw
  go_wp2_with fail
  refine (ownPaths_nil _).mono ?_
  rintro r WX ⟨rfl, hw⟩
  cases hw
  go_wp2_with fail
  refine (ownPairs_nil _).mono ?_
  rintro r WX ⟨rfl, hw⟩
  cases hw
  go_wp2_with fail
  refine (ownChanges_nil _).mono ?_
  rintro r WX ⟨rfl, hw⟩
  cases hw
  go_wp2_with fail
  refine (ownSpans_nil _).mono ?_
  rintro r WX ⟨rfl, hw⟩
  cases hw
  go_wp2_with fail
  refine (ownEntries_nil _).mono ?_
  rintro r WX ⟨rfl, hw⟩
  cases hw
  go_wp2_with fail
  refine (ownBools_nil _).mono ?_
  rintro r W3 ⟨rfl, hbl⟩
  clear c0 c1 c2 c3 c4 c5 c6 c7 c8 c9 c10 c11 c12 c13 c14 c15 c16 c17 c18 c19 c20 c21 c22
  have HB3 := hide (HB2.out.below hbl)
  have HK3 := hide (HK2.out.trans (Kp.of_below hbl))
  clear hbl
  obtain ⟨c0, c1, c2, c3, c4, c5, c6, c7, c8, c9, c10, c11, c12, c13, c14, c15, c16, c17, c18, c19, c20, c21, c22⟩ := CS.out W3 HB3.out
  go_wp2_with fail
  refine (ownValues_nil _).mono ?_
  rintro r WX ⟨rfl, hw⟩
  cases hw
  go_wp2_with fail
  refine (ownFields_nil _).mono ?_
  rintro r WX ⟨rfl, hw⟩
  cases hw
  go_wp2_with fail
  refine (ownIndexes_nil _).mono ?_
  rintro r WX ⟨rfl, hw⟩
  cases hw
  go_wp2_with fail
  refine (ownEvents_nil _).mono ?_
  rintro r WX ⟨rfl, hw⟩
  cases hw
  go_wp2_with fail
  refine (ownCommits_nil _).mono ?_
  rintro r WX ⟨rfl, hw⟩
  cases hw
  go_wp2
  go_ret
  exact ⟨rfl, HK3.out⟩
end Go.Proofs.Ytejdlcahcimflaa.Bv
