/- Contracts of asking whether two rows of bytes are the same, and of the known example. -/
import Derived.Test.YtobkmjkcbihfbaaE
namespace Go.Proofs.Ytobkmjkcbihfbaa
open Go.RowKit
set_option linter.unusedVariables false

set_option maxHeartbeats 400000 in
theorem same_any (a b : Option Addr) (len cap cap2 : Nat) (zs : List Int) (w : World) (hl : zs.length = len) (hbig : len ≤ 9223372036854775807) (hr : Row w a zs) (hr2 : Row w b zs) :
    Calls Try.prog 18 #[.slice a len cap, .slice b len cap2] w fun e w' => e = .returned (.bool true) ∧ Below w.heap.size w w' := by
  have HL := hide hl
  have HR := hide hr
  have HR2 := hide hr2
  clear hl hr hr2
  have hne : ((len : Int) != (len : Int)) = false := by simp
  go_enter Try.func18, Try.ntmps18
  go_wp2
  go_loopw [5] (fun i wr => ∃ k : Nat, k ≤ len ∧ i = .int .i64 k ∧ Below w.heap.size w wr) (fun i _ => len - (intOf i).toNat)
  case atStart => exact ⟨0, Nat.zero_le _, rfl, Below.refl _ _⟩
  case round =>
    obtain ⟨k, hk, rfl, hbel⟩ := hrel
    by_cases hlt : k < len
    · have hlk : k < zs.length := by have := HL.out; omega
      rcases HR.out.below hbel with h0 | ⟨b1, o1, rfl, _, hc1⟩
      · subst h0; simp at hlk
      rcases HR2.out.below hbel with h0 | ⟨b2, o2, rfl, _, hc2⟩
      · subst h0; simp at hlk
      have g1 := hc1 k hlk
      have g2 := hc2 k hlk
      generalize zs.getD k 0 = c at *
      clear hc1 hc2
      have hbn : (c != c) = false := by simp
      have HBel := hide hbel
      clear hbel
      go_wp2
      go_quiet (fail)
      go_wp2
      go_roundw
      case rel => exact ⟨k + 1, by omega, by go_num, below_drewN HBel.out _⟩
      case measure => simp [intOf]; omega
    · go_wp2
      go_ret
      exact ⟨rfl, hbel⟩

/-- a writer at p that has written zs; nothing below B has turned since w0. -/
structure St (B : Nat) (w0 w : World) (p : Nat) (zs : List Int) : Prop where
  below : Below B w0 w
  size : B ≤ w.heap.size
  wr : Wr w p zs
  new : New B w p
theorem St.wrote {B : Nat} {w0 w w' : World} {p : Nat} {zs ys : List Int} (h : St B w0 w p zs) (hw : Wr w' p ys) (ho : Wrote p w w') : St B w0 w' p ys :=
  ⟨Below.wrote h.below ho h.new h.size, Nat.le_trans h.size ho.size, hw, h.new.wrote ho h.size⟩
theorem St.on {B : Nat} {w0 w w' : World} {p : Nat} {zs : List Int} (h : St B w0 w p zs) (hb : Below w.heap.size w w') : St B w0 w' p zs :=
  ⟨h.below.trans (hb.mono h.size), Nat.le_trans h.size hb.size, h.wr.below hb, h.new.below h.wr.lt hb⟩
theorem new_wr (w : World) : Wr (w.alloc (.cells #[.slice none 0 0] 88)) w.heap.size [] :=
  ⟨.slice none 0 0, heap_alloc_new w _, Own.nil _, by simp [Value.ownBlock]⟩
theorem new_foot (w : World) (k : Nat) (h : foot (w.alloc (.cells #[.slice none 0 0] 88)) w.heap.size k) : k = w.heap.size := by
  rcases h with h | ⟨v, h1, h2⟩
  · exact h
  · rw [heap_alloc_new] at h1
    have e : v = .slice none 0 0 := by simpa using h1.symm
    rw [e] at h2
    simp [Value.ownBlock] at h2
theorem new_st (B : Nat) (w0 w : World) (hb : Below B w0 w) (hB : B ≤ w.heap.size) : St B w0 (w.alloc (.cells #[.slice none 0 0] 88)) w.heap.size [] :=
  ⟨hb.alloc hB _, by simp; omega, new_wr w, fun k hk => by rw [new_foot w k hk]; exact hB⟩

theorem Own.row {w : World} {a : Option Addr} {n c : Nat} {zs : List Int} (h : Own w (.slice a n c) zs) : Row w a zs := by
  obtain ⟨a', c', e, _, _, _, hr, _⟩ := h.shape
  cases e
  exact hr
/-- a reader at p; nothing below B has turned since w0. -/
structure Sr (B : Nat) (w0 w : World) (p : Nat) (a : Option Addr) (bs : List Int) (i e : Nat) : Prop where
  below : Below B w0 w
  size : B ≤ w.heap.size
  rd : Rd w p a bs i e
  new : B ≤ p
theorem Sr.grown {B : Nat} {w0 w w' : World} {p : Nat} {a : Option Addr} {bs : List Int} {i e i' e' : Nat} (h : Sr B w0 w p a bs i e) (hr : Rd w' p a bs i' e') (hg : w.grownBy w' (some p)) : Sr B w0 w' p a bs i' e' :=
  ⟨h.below.grown hg h.size (fun k hk => by cases hk; exact h.new), Nat.le_trans h.size hg.size, hr, h.new⟩
theorem Sr.on {B : Nat} {w0 w w' : World} {p : Nat} {a : Option Addr} {bs : List Int} {i e : Nat} (h : Sr B w0 w p a bs i e) (hb : Below w.heap.size w w') : Sr B w0 w' p a bs i e :=
  ⟨h.below.trans (hb.mono h.size), Nat.le_trans h.size hb.size, h.rd.below hb, h.new⟩

theorem kn1 : fb 258 2 = [1, 2] := by decide
theorem kn2 : vb 300 = [172, 2] := by rw [vb_big 300 (by omega), vb_small _ (by omega)]; rfl
theorem kn3 : vb (zz (-1)) = [1] := by rw [show zz (-1) = 1 from rfl, vb_small _ (by omega)]; rfl
theorem kn4 : vb 2 = [2] := by rw [vb_small _ (by omega)]; rfl
def knb : List Int := [1, 2, 172, 2, 1, 2, 97, 98]
theorem knb_byts : Byts knb := by unfold Byts knb; decide
theorem kr1 : tk knb 0 0 2 = (2, 0, [1, 2]) := by decide
theorem kr2 : jn [1, 2] = 258 := by decide
theorem kr3 : nm knb 2 0 = (300, 2, 0) := by decide
theorem kr4 : tk knb 2 0 2 = (4, 0, [172, 2]) := by decide
theorem kr5 : nm knb 4 0 = (1, 1, 0) := by decide
theorem kr6 : tk knb 4 0 1 = (5, 0, [1]) := by decide
theorem kr7 : rt knb 5 0 = ([97, 98], 8, 0) := by decide

theorem row_new (w : World) (zs : List Int) (cs : Array Value) (f : Nat × Nat) (h : cs = (zs.map (Value.int .u8)).toArray) : Row (w.alloc (.cells cs 5 f)) (some ⟨w.heap.size, 0, none⟩) zs := by
  refine .inr ⟨_, _, rfl, by simp, fun i hi => ?_⟩
  rw [World.cell?_alloc_mark, h]
  simp [hi]

set_option maxHeartbeats 1600000 in
set_option maxRecDepth 1000000 in
theorem known_any (w : World) : Calls Try.prog 10 #[] w fun e w' => e = .returned (.bool true) ∧ Below w.heap.size w w' := by
  go_enter Try.func10, Try.ntmps10
  go_wp2_with fail
  refine (new_any _).mono ?_
  rintro e w1 ⟨rfl, rfl⟩
  have S1 := hide (new_st w.heap.size w w (Below.refl _ _) (Nat.le_refl _))
  generalize w.alloc (.cells #[.slice none 0 0] 88) = W1 at *
  generalize hp : w.heap.size = p at S1 ⊢
  have HP := hide hp
  clear hp
  go_wp2_with fail
  refine (wu16_any p 258 [] W1 S1.out.wr (by omega) (by simp)).mono ?_
  rintro e W2 ⟨rfl, hw, ho⟩
  have S2 := hide (S1.out.wrote hw ho)
  clear hw ho S1
  go_wp2_with fail
  refine (wvarint_any p 300 _ W2 S2.out.wr (by omega) (by rw [kn1]; simp)).mono ?_
  rintro e W3 ⟨rfl, hw, ho⟩
  have S3 := hide (S2.out.wrote hw ho)
  clear hw ho S2
  go_wp2_with fail
  refine (wsigned_any p (-1) _ W3 S3.out.wr (by omega) (by omega) (by rw [kn1, kn2]; simp)).mono ?_
  rintro e W4 ⟨rfl, hw, ho⟩
  have S4 := hide (S3.out.wrote hw ho)
  clear hw ho S3
  go_wp2_with fail
  refine (wtext_any p ⟨#[97, 98]⟩ _ W4 S4.out.wr (by decide) (by rw [kn1, kn2, kn3]; simp)).mono ?_
  rintro e W5 ⟨rfl, hw, ho⟩
  have hz : ([] ++ fb 258 2 ++ vb 300 ++ vb (zz (-1)) ++ (vb (ByteArray.mk #[97, 98]).size ++ sb ⟨#[97, 98]⟩) : List Int) = knb := by
    rw [kn1, kn2, kn3, show (ByteArray.mk #[97, 98]).size = 2 from rfl, kn4]; rfl
  rw [hz] at hw
  have S5 := hide (S4.out.wrote hw ho)
  clear hw ho S4 hz
  go_wp2_with fail
  refine (wbytes_any p knb W5 S5.out.wr (by decide)).mono ?_
  rintro e W6 ⟨a1, rfl, hown, hfr, hb⟩
  have R6 := hide hown.row
  have B6 := hide (S5.out.below.trans (hb.mono S5.out.size))
  have Z6 := hide (Nat.le_trans S5.out.size hb.size)
  clear hown hfr hb S5
  rw [show knb.length = 8 from rfl]
  go_wp2_with fail
  refine (read_any a1 8 8 knb W6 rfl R6.out knb_byts (by decide)).mono ?_
  rintro e W7 ⟨q, a2, rfl, hrd, hq, -, hb⟩
  have S7 : Hid (Sr p w W7 q a2 knb 0 0) := ⟨B6.out.trans (hb.mono Z6.out), Nat.le_trans Z6.out hb.size, hrd, Nat.le_trans Z6.out hq⟩
  have R7 := hide (R6.out.below hb)
  clear hrd hq hb R6 B6 Z6
  go_wp2_with fail
  refine (same_any a1 _ 8 8 8 knb _ rfl (by omega) (R7.out.below (below_alloc _ _)) (row_new _ knb _ _ rfl)).mono ?_
  rintro e W8 ⟨rfl, hb⟩
  have S8 := hide ((S7.out.on (below_alloc _ _)).on hb)
  clear hb S7 R7
  go_wp2_with fail
  refine (ru16_any q a2 knb 0 0 W8 S8.out.rd).mono ?_
  rintro e W9 ⟨rfl, hrd, hg⟩
  have S9 := hide (S8.out.grown hrd hg)
  clear hrd hg S8
  rw [kr1] at S9 ⊢
  go_wp2_with fail
  refine (rvarint_any q a2 knb 2 0 W9 S9.out.rd).mono ?_
  rintro e W10 ⟨rfl, hrd, hg⟩
  have S10 := hide (S9.out.grown hrd hg)
  clear hrd hg S9
  rw [kr3] at S10 ⊢
  have hk4 : tk knb 2 ((300, 2, 0) : Nat × Nat × Nat).2.2 (((300, 2, 0) : Nat × Nat × Nat).2.1 : Int) = (4, 0, [172, 2]) := kr4
  rw [hk4] at S10
  clear hk4
  go_wp2_with fail
  refine (rsigned_any q a2 knb 4 0 W10 S10.out.rd).mono ?_
  rintro e W11 ⟨rfl, hrd, hg⟩
  have S11 := hide (S10.out.grown hrd hg)
  clear hrd hg S10
  rw [kr5] at S11 ⊢
  have hk6 : tk knb 4 ((1, 1, 0) : Nat × Nat × Nat).2.2 (((1, 1, 0) : Nat × Nat × Nat).2.1 : Int) = (5, 0, [1]) := kr6
  rw [hk6] at S11
  clear hk6
  go_wp2_with fail
  refine (rtext_any q a2 knb 5 0 W11 S11.out.rd).mono ?_
  rintro e W12 ⟨rfl, hrd, hg⟩
  have S12 := hide (S11.out.grown hrd hg)
  clear hrd hg S11
  rw [kr7] at S12 ⊢
  have hk8 : bk ((([97, 98], 8, 0) : List Int × Nat × Nat).1) = ⟨#[97, 98]⟩ := rfl
  have hk10 : zr 1 = -1 := rfl
  rw [hk8, kr2, hk10]
  clear hk8 hk10
  go_wp2_with fail
  refine (end_any q a2 knb 8 0 W12 S12.out.rd).mono ?_
  rintro e W13 ⟨rfl, hb⟩
  have S13 := hide (S12.out.on hb)
  clear hb S12
  have hk11 : enEr knb.length 8 0 = 0 := rfl
  rw [hk11]
  clear hk11
  go_wp2
  go_ret
  exact ⟨rfl, by rw [HP.out]; exact S13.out.below⟩
end Go.Proofs.Ytobkmjkcbihfbaa
