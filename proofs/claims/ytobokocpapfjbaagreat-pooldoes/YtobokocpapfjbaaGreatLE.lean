/- Contract of asking a book whether its lists are their owner's alone. -/
import Derived.Test.YtobokocpapfjbaaGreatGG
import Derived.Test.YtobokocpapfjbaaGreatGN
import Derived.Test.YtobokocpapfjbaaGreatXF
import Derived.Test.YtobokocpapfjbaaGreatRD
namespace Go.Proofs.YtobokocpapfjbaaGreat.Bo
open Go.RowKit
set_option linter.unusedVariables false

/-- asking one family turns nothing of another. -/
theorem Fam.other {K K' : IntKind} {et lty et' lty' : TypeId} {w w' : World} {v u : Value} {n m : Nat} {A B : Nat → Option Addr} {C D : Nat → Nat} {Z Y : Nat → List Int} (h : Fam K et lty w v n A C Z) (h2 : Fam K' et' lty' w u m B D Y) (k : Kp (rft n A) w w') (e1 : et ≠ lty') (e2 : et ≠ et') : Fam K' et' lty' w' u m B D Y := by
  refine h2.of_block fun j hj => k.block j (h2.lt j hj) ?_
  rintro ⟨i, hi, hr⟩
  have hb : blks (rv (A i) (C i) (Z i)) j := (blks_rv _ _ _ j).2 hr
  rcases hj with hj | ⟨l, hl, hj⟩
  · exact rows_ne (h.rows i hi) h2.list e1 j hb hj
  · exact rows_ne (h.rows i hi) (h2.rows l hl) e2 j hb ((blks_rv _ _ _ j).2 hj)
theorem Fam.book {K : IntKind} {et lty : TypeId} {w w' : World} {v : Value} {n : Nat} {A : Nat → Option Addr} {C : Nat → Nat} {Z : Nat → List Int} {q : Nat} {f : Nat → Value} (h : Fam K et lty w v n A C Z) (hb : Bk w q f) (k : Kp (rft n A) w w') (e : et ≠ 66) : Bk w' q f := by
  refine hb.of_block (k.block q hb.lt ?_)
  rintro ⟨i, hi, hr⟩
  exact book_ne hb (h.rows i hi) e ((blks_rv _ _ _ q).2 hr)
theorem ownBytes_any (v : Value) (n : Nat) (A : Nat → Option Addr) (C : Nat → Nat) (Z : Nat → List Int) (w : World) (h : Fam .u8 5 22 w v n A C Z) (hn : n ≤ 100000000) (hz : ∀ i, i < n → (Z i).length ≤ 1000000000) :
    Calls Tryz.prog 62 #[v] w fun r w' => r = .returned (.bool true) ∧ Kp (rft n A) w w' := by
  rcases h.list.2 with ⟨rfl, h0⟩ | ⟨g, cap, cur, rfl, _⟩
  · refine (ownBytes_nil w).mono ?_
    rintro r w' ⟨rfl, rfl⟩
    exact ⟨rfl, Kp.refl _ _⟩
  · exact ownBytes_some g n cap A C Z w h hn hz
set_option maxHeartbeats 3200000 in
set_option maxRecDepth 1000000 in
theorem bookOwn_any (q : Nat) (f : Nat → Value) (v0 : Value) (hv0 : f 0 = v0) (n0 : Nat) (A0 : Nat → Option Addr) (C0 : Nat → Nat) (Z0 : Nat → List Int) (w : World) (hb : Bk w q f) (hf : ∀ j, j ≠ 0 → f j = .slice none 0 0) (h0 : Fam .u8 5 22 w v0 n0 A0 C0 Z0) (hn0 : n0 ≤ 100000000) (hz0 : ∀ i, i < n0 → (Z0 i).length ≤ 1000000000) :
    Calls Tryz.prog 35 #[.pointer (some ⟨q, 0, none⟩)] w fun r w' => r = .returned (.bool true) ∧ Kp (fun k => rft n0 A0 k) w w' := by
  have cs : ∀ W, Bk W q f → W.cell? ⟨q, 0, none⟩ = some v0 ∧ W.cell? ⟨q, 1, none⟩ = some (.slice none 0 0) ∧ W.cell? ⟨q, 2, none⟩ = some (.slice none 0 0) ∧ W.cell? ⟨q, 3, none⟩ = some (.slice none 0 0) ∧ W.cell? ⟨q, 4, none⟩ = some (.slice none 0 0) ∧ W.cell? ⟨q, 5, none⟩ = some (.slice none 0 0) ∧ W.cell? ⟨q, 6, none⟩ = some (.slice none 0 0) ∧ W.cell? ⟨q, 7, none⟩ = some (.slice none 0 0) ∧ W.cell? ⟨q, 8, none⟩ = some (.slice none 0 0) ∧ W.cell? ⟨q, 9, none⟩ = some (.slice none 0 0) ∧ W.cell? ⟨q, 10, none⟩ = some (.slice none 0 0) ∧ W.cell? ⟨q, 11, none⟩ = some (.slice none 0 0) ∧ W.cell? ⟨q, 12, none⟩ = some (.slice none 0 0) ∧ W.cell? ⟨q, 13, none⟩ = some (.slice none 0 0) ∧ W.cell? ⟨q, 14, none⟩ = some (.slice none 0 0) ∧ W.cell? ⟨q, 15, none⟩ = some (.slice none 0 0) ∧ W.cell? ⟨q, 16, none⟩ = some (.slice none 0 0) ∧ W.cell? ⟨q, 17, none⟩ = some (.slice none 0 0) ∧ W.cell? ⟨q, 18, none⟩ = some (.slice none 0 0) ∧ W.cell? ⟨q, 19, none⟩ = some (.slice none 0 0) ∧ W.cell? ⟨q, 20, none⟩ = some (.slice none 0 0) ∧ W.cell? ⟨q, 21, none⟩ = some (.slice none 0 0) ∧ W.cell? ⟨q, 22, none⟩ = some (.slice none 0 0) := by
    intro W hW
    refine ⟨?_, ?_, ?_, ?_, ?_, ?_, ?_, ?_, ?_, ?_, ?_, ?_, ?_, ?_, ?_, ?_, ?_, ?_, ?_, ?_, ?_, ?_, ?_⟩
    · rw [hW.c 0 (by omega), hv0]
    · rw [hW.c 1 (by omega), hf 1 (by omega)]
    · rw [hW.c 2 (by omega), hf 2 (by omega)]
    · rw [hW.c 3 (by omega), hf 3 (by omega)]
    · rw [hW.c 4 (by omega), hf 4 (by omega)]
    · rw [hW.c 5 (by omega), hf 5 (by omega)]
    · rw [hW.c 6 (by omega), hf 6 (by omega)]
    · rw [hW.c 7 (by omega), hf 7 (by omega)]
    · rw [hW.c 8 (by omega), hf 8 (by omega)]
    · rw [hW.c 9 (by omega), hf 9 (by omega)]
    · rw [hW.c 10 (by omega), hf 10 (by omega)]
    · rw [hW.c 11 (by omega), hf 11 (by omega)]
    · rw [hW.c 12 (by omega), hf 12 (by omega)]
    · rw [hW.c 13 (by omega), hf 13 (by omega)]
    · rw [hW.c 14 (by omega), hf 14 (by omega)]
    · rw [hW.c 15 (by omega), hf 15 (by omega)]
    · rw [hW.c 16 (by omega), hf 16 (by omega)]
    · rw [hW.c 17 (by omega), hf 17 (by omega)]
    · rw [hW.c 18 (by omega), hf 18 (by omega)]
    · rw [hW.c 19 (by omega), hf 19 (by omega)]
    · rw [hW.c 20 (by omega), hf 20 (by omega)]
    · rw [hW.c 21 (by omega), hf 21 (by omega)]
    · rw [hW.c 22 (by omega), hf 22 (by omega)]
  have CS := hide cs
  have HB0 := hide hb
  have HF0_0 := hide h0
  have HN0 := hide hn0
  have HZ0 := hide hz0
  have HK0 : Hid (Kp (fun k => rft n0 A0 k) w w) := hide (Kp.refl _ _)
  clear cs hb hf h0 hn0 hz0 hv0
  go_enter Tryz.func35, Tryz.ntmps35
  obtain ⟨c0, c1, c2, c3, c4, c5, c6, c7, c8, c9, c10, c11, c12, c13, c14, c15, c16, c17, c18, c19, c20, c21, c22⟩ := CS.out w HB0.out
  go_wp2_with fail
  refine (ownBytes_any v0 n0 A0 C0 Z0 _ HF0_0.out HN0.out HZ0.out).mono ?_
  rintro r W1 ⟨rfl, hk⟩
  clear c0 c1 c2 c3 c4 c5 c6 c7 c8 c9 c10 c11 c12 c13 c14 c15 c16 c17 c18 c19 c20 c21 c22
  have HB1 := hide (HF0_0.out.book HB0.out hk (by decide))
  have HK1 := hide (HK0.out.trans (hk.wider fun k h _ => h))
  clear hk
  obtain ⟨c0, c1, c2, c3, c4, c5, c6, c7, c8, c9, c10, c11, c12, c13, c14, c15, c16, c17, c18, c19, c20, c21, c22⟩ := CS.out W1 HB1.out
  go_wp2_with fail
  refine (ownTexts_nil _).mono ?_
  rintro r WX ⟨rfl, hw⟩
  cases hw
  go_wp2_with fail
  refine (ownInts_nil _).mono ?_
  rintro r WX ⟨rfl, hw⟩
  cases hw
  go_wp2_with fail
  refine (ownLongs_nil _).mono ?_
  rintro r WX ⟨rfl, hw⟩
  cases hw
  go_wp2_with fail
  refine (ownNumbers_nil _).mono ?_
  rintro r WX ⟨rfl, hw⟩
  cases hw
  go_wp2_with fail
  refine (ownWords_nil _).mono ?_
  rintro r WX ⟨rfl, hw⟩
  cases hw
  go_wp2_with fail
  refine (ownSteps_nil _).mono ?_
  rintro r WX ⟨rfl, hw⟩
  cases hw
  go_wp2_with fail
  refine (ownParts_nil _).mono ?_
  rintro r WX ⟨rfl, hw⟩
  cases hw
  go_wp2_with fail
  refine (ownDones_nil _).mono ?_
  rintro r WX ⟨rfl, hw⟩
  cases hw
  go_wp2_with fail
  refine (ownRows_nil _).mono ?_
  rintro r WX ⟨rfl, hw⟩
  cases hw
  go_wp2_with fail
  refine (ownLists_nil _).mono ?_
  rintro r WX ⟨rfl, hw⟩
  cases hw
  go_wp2_with fail
  refine (ownIntLists_nil _).mono ?_
  rintro r WX ⟨rfl, hw⟩
  cases hw
  go_wp2_with fail
  refine (ownPaths_nil _).mono ?_
  rintro r WX ⟨rfl, hw⟩
  cases hw
  go_wp2_with fail
  refine (ownPairs_nil _).mono ?_
  rintro r WX ⟨rfl, hw⟩
  cases hw
  go_wp2_with fail
  refine (ownChanges_nil _).mono ?_
  rintro r WX ⟨rfl, hw⟩
  cases hw
  go_wp2_with fail
  refine (ownSpans_nil _).mono ?_
  rintro r WX ⟨rfl, hw⟩
  cases hw
  go_wp2_with fail
  refine (ownEntries_nil _).mono ?_
  rintro r WX ⟨rfl, hw⟩
  cases hw
  go_wp2_with fail
  refine (ownBools_nil _).mono ?_
  rintro r W2 ⟨rfl, hbl⟩
  clear c0 c1 c2 c3 c4 c5 c6 c7 c8 c9 c10 c11 c12 c13 c14 c15 c16 c17 c18 c19 c20 c21 c22
  have HB2 := hide (HB1.out.below hbl)
  have HK2 := hide (HK1.out.trans (Kp.of_below hbl))
  clear hbl
  obtain ⟨c0, c1, c2, c3, c4, c5, c6, c7, c8, c9, c10, c11, c12, c13, c14, c15, c16, c17, c18, c19, c20, c21, c22⟩ := CS.out W2 HB2.out
  go_wp2_with fail
  refine (ownValues_nil _).mono ?_
  rintro r WX ⟨rfl, hw⟩
  cases hw
  go_wp2_with fail
  refine (ownFields_nil _).mono ?_
  rintro r WX ⟨rfl, hw⟩
  cases hw
  go_wp2_with fail
  refine (ownIndexes_nil _).mono ?_
  rintro r WX ⟨rfl, hw⟩
  cases hw
  go_wp2_with fail
  refine (ownEvents_nil _).mono ?_
  rintro r WX ⟨rfl, hw⟩
  cases hw
  go_wp2_with fail
  refine (ownCommits_nil _).mono ?_
  rintro r WX ⟨rfl, hw⟩
  cases hw
  go_wp2
  go_ret
  exact ⟨rfl, HK2.out⟩
end Go.Proofs.YtobokocpapfjbaaGreat.Bo
/- Contracts of lending bytes, of asking whether what was lent is whole, and of writing over it. -/
namespace Go.Proofs.YtobokocpapfjbaaGreat.Le
open Go.RowKit
set_option linter.unusedVariables false

theorem row_grown {w w' : World} {a : Option Addr} {zs : List Int} {row : Option Nat} (h : Row w a zs) (hg : w.grownBy w' row) (hne : ∀ k, row = some k → w.heap.size ≤ k) : Row w' a zs := by
  rcases h with h | ⟨b, off, rfl, hlt, hc⟩
  · exact .inl h
  · refine .inr ⟨b, off, rfl, Nat.lt_of_lt_of_le hlt hg.size, fun i hi => hg.cell (hc i hi) (fun e => ?_)⟩
    have := hne b e.symm; omega
theorem two_new (w : World) (x y : Value) : ∀ j u, [x, y][j]? = some u → (w.alloc (.cells #[x, y] 5)).cell? ((⟨w.heap.size, 0, none⟩ : Addr).add j) = some u := by
  intro j u h
  rw [Addr.add_lit, World.cell?_alloc_at _ _ _ _ rfl, Nat.zero_add]
  rw [← h]; simp
theorem of_base {w : World} {base : Nat} {v : Value} {n : Nat} {zs : List Int} (h : w.ownsRow base 5 1 v n (zs.map (Value.int .u8))) : Own w v zs := by
  have e : n = zs.length := by have := h.1; simpa using this.symm
  subst e
  refine ⟨by simp, ?_⟩
  rcases h.2 with h | ⟨g, cap, cur, h1, _, h2⟩
  · exact .inl h
  · exact .inr ⟨g, cap, cur, h1, Nat.zero_le _, h2⟩

set_option maxHeartbeats 800000 in
set_option maxRecDepth 1000000 in
theorem lent_any (a : Option Addr) (len cap : Nat) (zs : List Int) (w : World) (hl : zs.length = len) (hbig : len ≤ 100000000) (hn : a = none → len = 0 ∧ cap = 0) (hr : Row w a zs) :
    Calls Tryz.prog 16 #[.slice a len cap] w fun e w' => e = .returned (.slice (some ⟨w.heap.size, 0, none⟩) len (len + 2)) ∧ Own w' (.slice (some ⟨w.heap.size, 0, none⟩) (len + 2) (len + 2)) (zs ++ [91, 92]) ∧ Below w.heap.size w w' := by
  obtain ⟨i0, hi, hz0, hz1, hz2⟩ := info_parts Bo.infoBytes_e
  have HL := hide hl
  have HR := hide hr
  have HN := hide hn
  clear hl hr hn
  go_enter Tryz.func16, Tryz.ntmps16
  go_wp2_with (at_make; refine wpList_make_own _ rfl _ _ 22 rfl w.heap.size 5 i0 (.int .u8 0) 1 Tryz.underlying22 hi hz0 hz1 _ _ _ (len + 2) rfl rfl (by omega) ?b2 ?b3 (Nat.le_refl _) ?_)
  case b2 => rw [hz2]; omega
  case b3 => unfold maxLen; omega
  intro w0 hown0 hgrow0
  have hr0 := row_grown HR.out hgrow0 (by intro k h; cases h)
  have hb0 := (Below.refl w.heap.size w).grown hgrow0 (Nat.le_refl _) (fun k h => by cases h)
  go_wp2_with (first | (at_builtin; refine wpList_append_fits_any _ rfl (.tmp 8) (.tmp 9) 22 rfl w.heap.size 5 i0 1 Tryz.underlying22 hi hz1 w.heap.size 0 (len + 2) [] rfl hown0 a len cap (zs.map (Value.int .u8)) rfl (by have := HL.out; simp [this]) HN.out hr0.news (ints_oneCell _ _) (by omega) ?_; intro w1 hown1 hgrow1; simp only [Nat.zero_add, List.nil_append] at hown1) | (at_builtin; refine wpList_append_fits _ rfl (.tmp 11) (.tmp 12) 22 rfl w.heap.size 5 i0 1 Tryz.underlying22 hi hz1 w.heap.size len (len + 2) (zs.map (Value.int .u8)) rfl (hown1.alloc _) ⟨w1.heap.size, 0, none⟩ 2 2 [.int .u8 91, .int .u8 92] rfl rfl (two_new _ _ _) (ints_oneCell .u8 [91, 92]) (by omega) ?_; intro w2 hown2 hgrow2))
  have hb1 := hb0.grown hgrow1 hb0.size (fun k hk => by cases hk; exact Nat.le_refl _)
  have hb2 := (hb1.alloc hb1.size (.cells #[.int .u8 91, .int .u8 92] 5)).grown hgrow2 (by have := hb1.size; simp; omega) (fun k hk => by cases hk; exact Nat.le_refl _)
  go_ret
  refine ⟨rfl, of_base (base := w.heap.size) (n := len + 2) ?_, hb2⟩
  simpa using hown2

theorem row_left {w : World} {a : Option Addr} {zs ys : List Int} (h : Row w a (zs ++ ys)) : Row w a zs := by
  rcases h with h | ⟨b, off, rfl, hlt, hc⟩
  · exact .inl (List.append_eq_nil_iff.1 h).1
  · refine .inr ⟨b, off, rfl, hlt, fun i hi => ?_⟩
    have := hc i (by simp; omega)
    rw [this]; simp [List.getElem?_append_left hi]
theorem row_last {w : World} {g : Nat} {zs : List Int} (h : Row w (some ⟨g, 0, none⟩) (zs ++ [91, 92])) : w.cell? ⟨g, zs.length, none⟩ = some (.int .u8 91) ∧ w.cell? ⟨g, zs.length + 1, none⟩ = some (.int .u8 92) := by
  rcases h with h | ⟨b, off, e, hlt, hc⟩
  · simp at h
  · cases e
    have h1 := hc zs.length (by simp)
    have h2 := hc (zs.length + 1) (by simp)
    rw [Nat.zero_add] at h1 h2
    rw [h1, h2]
    simp

set_option maxHeartbeats 800000 in
set_option maxRecDepth 1000000 in
theorem whole_any (g : Nat) (b : Option Addr) (len cap2 : Nat) (zs : List Int) (w : World) (hl : zs.length = len) (hbig : len ≤ 100000000) (hr : Row w (some ⟨g, 0, none⟩) (zs ++ [91, 92])) (hr2 : Row w b zs) :
    Calls Tryz.prog 18 #[.slice (some ⟨g, 0, none⟩) len (len + 2), .slice b len cap2] w fun e w' => e = .returned (.bool true) ∧ Below w.heap.size w w' := by
  obtain ⟨c1, c2⟩ := row_last hr
  rw [hl] at c1 c2
  have H := hide (sameb_any (some ⟨g, 0, none⟩) b len len (len + 2) cap2 zs zs w hl hl (by omega) (by omega) (row_left hr) hr2)
  rw [show sameB zs zs = true by unfold sameB; simp] at H
  clear hl hr hr2
  go_enter Tryz.func18, Tryz.ntmps18
  go_wp2_with fail
  refine H.out.mono ?_
  rintro e w1 ⟨rfl, hb1⟩
  go_wp2
  go_ret
  exact ⟨rfl, hb1⟩

/-- a block of bytes that is written over. -/
def Blk (w : World) (g n : Nat) : Prop := ∃ cur, w.heap[g]? = some (.cells cur 5 (0, 0)) ∧ cur.size = n
theorem Blk.f {w : World} {g n : Nat} (h : Blk w g n) (i : Nat) : w.frozen? ⟨g, i, none⟩ = false := by obtain ⟨cur, h1, _⟩ := h; simp [World.frozen?, h1]
theorem Blk.c {w : World} {g n : Nat} (h : Blk w g n) (i : Nat) (hi : i < n) : ∃ v, w.cell? ⟨g, i, none⟩ = some v := by
  obtain ⟨cur, h1, h2⟩ := h
  exact ⟨cur[i]'(by omega), by simp [World.cell?, h1, h2, hi]⟩
theorem Blk.set {w : World} {g n : Nat} (h : Blk w g n) (i : Nat) (v : Value) : Blk (w.setCell ⟨g, i, none⟩ v) g n := by
  obtain ⟨cur, h1, h2⟩ := h
  exact ⟨_, heap_setCell_same w g i _ 5 _ h1, by simpa using h2⟩
theorem own_blk {w : World} {g n c : Nat} {zs : List Int} (h : Own w (.slice (some ⟨g, 0, none⟩) n c) zs) : Blk w g c := by
  rcases h.2 with ⟨e, _⟩ | ⟨g', cap, cur, e, _, hg, _, _, hs, _⟩
  · cases e
  · simp at e
    obtain ⟨rfl, rfl, rfl⟩ := e
    exact ⟨cur, hg, by simpa using hs⟩

set_option maxHeartbeats 800000 in
set_option maxRecDepth 1000000 in
theorem spoil_any (g len n : Nat) (w : World) (h : Blk w g n) (hl : len ≤ n) (hn : n ≤ 1000000000) :
    Calls Tryz.prog 19 #[.slice (some ⟨g, 0, none⟩) len n] w fun e w' => e = .returned (.tuple #[]) ∧ w.grownBy w' (some g) := by
  have H := hide h
  clear h
  go_enter Tryz.func19, Tryz.ntmps19
  go_wp2
  go_loopw [3] (fun i wr' => ∃ k : Nat, k ≤ n ∧ i = .int .i64 (k : Int) ∧ Blk wr' g n ∧ w.grownBy wr' (some g)) (fun i _ => n - (intOf i).toNat)
  case atStart => exact ⟨0, Nat.zero_le _, rfl, H.out, grown_refl _ _⟩
  case round =>
    obtain ⟨k, hk, rfl, hb, hg⟩ := hrel
    have HB := hide hb
    have HG := hide hg
    clear hb hg
    by_cases hlt : k < n
    · obtain ⟨v, hc⟩ := HB.out.c k hlt
      have hf := HB.out.f k
      go_wp2
      go_roundw
      case rel => exact ⟨k + 1, by omega, by go_num, HB.out.set k _, grown_trans HG.out (grown_setCell _ _ _ _)⟩
      case measure => simp [intOf]; omega
    · go_wp2
      go_end0
      exact ⟨rfl, HG.out⟩
end Go.Proofs.YtobokocpapfjbaaGreat.Le
