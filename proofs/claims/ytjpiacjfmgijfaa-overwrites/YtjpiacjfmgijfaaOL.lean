/- OverWrites, walked. -/
import Derived.Test.YtjpiacjfmgijfaaOK
import Derived.Test.YtjpiacjfmgijfaaHE
import Derived.Test.YtjpiacjfmgijfaaLW
import Derived.Test.YtjpiacjfmgijfaaFQ
namespace Go.Proofs.Ytjpiacjfmgijfaa
open Go.RowKit Go.Maps Go.Proofs.Ytjpiacjfmgijfaa.Bo
set_option linter.unusedVariables false
variable {w w' : World}
/-- words that came in. -/
structure InW (w : World) (a : Option Addr) (n c : Nat) (zs : List Nat) : Prop where
  len : zs.length = n
  cap : n ≤ c
  max : c ≤ 9223372036854775807
  bare : a = none → n = 0 ∧ c = 0
  row : Rw w a zs
  w32 : W32 zs
theorem Rw.left {a : Option Addr} {zs ys : List Nat} (h : Rw w a (zs ++ ys)) : Rw w a zs := Lw.row_left h
theorem pay_le (zs : List Int) (ys : List Nat) (j : Nat) : (pay zs ys j).length ≤ 1000000 := by
  unfold pay
  rw [List.length_append, le4_len, List.length_take]
  omega
theorem fv_none (w : World) : Bv.Fv 22 26 w (.slice none 0 0) 0 (fun _ => none) (fun _ => 0) (fun _ => []) :=
  ⟨by decide, World.ownsRow_nil _ _ _ _, fun i hi => by omega, fun i j hi => by omega⟩
theorem bb_none {w : World} {q : Nat} (h : Bk w q nilf) : Bv.Bb w q nilf 0 (fun _ => none) (fun _ => 0) (fun _ => []) 0 (fun _ => none) (fun _ => 0) (fun _ => []) :=
  ⟨h, fun _ _ _ => rfl, fam_none w (by decide), fv_none w, fun k hk => by simp [nilf, blks, Value.ownBlock] at hk, fun i hi => by omega⟩
theorem blks_nilf (j k : Nat) : ¬ blks (nilf j) k := by simp [nilf, blks, Value.ownBlock]
theorem Bb.below {w w' : World} {q : Nat} {f : Nat → Value} {n0 : Nat} {A0 : Nat → Option Addr} {C0 : Nat → Nat} {Z0 : Nat → List Int} {n9 : Nat} {A9 : Nat → Option Addr} {C9 : Nat → Nat} {Z9 : Nat → List Value} (h : Bv.Bb w q f n0 A0 C0 Z0 n9 A9 C9 Z9) (hb : Below w.heap.size w w') : Bv.Bb w' q f n0 A0 C0 Z0 n9 A9 C9 Z9 :=
  ⟨h.bk.below hb, h.nl, h.byt.below hb, h.row.below hb, h.ap, h.small⟩
/-- rows stay where nothing but newer blocks turns. -/
theorem ro_on {w w' : World} {v : Value} {B q : Nat} {vs : List Value} {L : Nat → List Int} (h : Ro w v B vs L) (hq : ∀ k, k < w.heap.size → k < q → w'.heap[k]? = w.heap[k]?) (h1 : ∀ k, blks v k → k < q) (h2 : ∀ j k, j < vs.length → blks (vs.getD j nilv) k → k < q) : Ro w' v B vs L :=
  ⟨row_of_block h.row (fun k hk => hq k (h.lt.1 k hk) (h1 k hk)), h.vlow, fun j hj => Own.of_block (h.own j hj) (fun k hk => hq k (h.lt.2 j k hj hk) (h2 j k hj hk)), h.low, h.apart⟩
set_option maxHeartbeats 6400000 in
set_option maxRecDepth 1000000 in
theorem writes_walk (a : Option Addr) (n c : Nat) (zs : List Int) (a' : Option Addr) (m c' : Nat) (ys : List Nat) (z : Int) (hz1 : -9223372036854775808 ≤ z) (hz2 : z ≤ 9223372036854775807) (w : World) (h : Inn w a n c zs) (h' : InW w a' m c' ys) :
    Calls Try.prog 3 #[.slice a n c, .slice a' m c', .int .i64 z] w fun e w' => e = .returned (.bool true) ∧ Below w.heap.size w w' := by
  have hnm : n ≤ 9223372036854775807 := Nat.le_trans h.cap h.max
  have hmm : m ≤ 9223372036854775807 := Nat.le_trans h'.cap h'.max
  have HI := hide h
  have HW := hide h'
  by_cases hbig : 40000 < n
  · have hb1 : (40000 : Int) < (n : Int) := by omega
    clear h h'
    go_enter Try.func3, Try.ntmps3
    go_wp2
    go_ret
    exact ⟨rfl, Below.refl _ _⟩
  · have hb1 : ¬ (40000 : Int) < (n : Int) := by omega
    by_cases hbig2 : 40000 < m
    · have hb2 : (40000 : Int) < (m : Int) := by omega
      clear h h'
      go_enter Try.func3, Try.ntmps3
      go_wp2
      go_ret
      exact ⟨rfl, Below.refl _ _⟩
    · have hb2 : ¬ (40000 : Int) < (m : Int) := by omega
      have HL1 := hide (Le.lent_any a n c zs w h.len (by omega) h.bare h.row)
      clear h h'
      go_enter Try.func3, Try.ntmps3
      go_wp2_with (go_at_call 4; refine HL1.out.mono ?_; rintro e W1 ⟨rfl, ho1, hb1'⟩; have HO1 := hide ho1; have HB1 := hide hb1'; clear ho1 hb1')
      have HL2 := hide (Lw.lent_any a' m c' ys W1 HW.out.len (by omega) HW.out.bare (HW.out.row.below HB1.out))
      refine HL2.out.mono ?_
      rintro e W2 ⟨rfl, ho2, hb2'⟩
      have HO2 := hide ho2
      have hS1 : w.heap.size < W1.heap.size := Own.lt HO1.out rfl
      have hS2 : W1.heap.size < W2.heap.size := OwnW.lt ho2 rfl
      have HB12 := hide hb2'
      have HB2 : Hid (Below w.heap.size w W2) := HB1.out.trans (hb2'.mono HB1.out.size)
      obtain ⟨x1, d1, e1, _, _, _, r1, _⟩ := HO1.out.shape
      obtain ⟨x2, d2, e2, _, _, r2, _⟩ := ho2.shape
      have r1' : Row W2 (some ⟨w.heap.size, 0, none⟩) (zs ++ [91, 92]) := by simp at e1; rw [e1.1]; exact r1.below hb2'
      have r2' : Rw W2 (some ⟨W1.heap.size, 0, none⟩) (ys ++ [771, 772]) := by simp at e2; rw [e2.1]; exact r2
      have HR1 := hide r1'
      have HR2 := hide r2'
      clear e1 e2 r1 r2 r1' r2' ho2 hb2' HL1 HL2
      have HE : Hid (∀ W, Below W2.heap.size W2 W → Calls Try.prog 6 #[.slice (some ⟨w.heap.size, 0, none⟩) n (n + 2), .slice (some ⟨W1.heap.size, 0, none⟩) m (m + 2)] W (EncOut W n zs ys)) := fun W hW =>
        encode_all W _ _ n (n + 2) m (m + 2) zs ys HI.out.len (by omega) (by omega) (Le.row_left (HR1.out.below hW)) HW.out.len (by omega) (by omega) (Rw.left (HR2.out.below hW)) HW.out.w32
      go_wp2_with fail
      refine (HE.out W2 (Below.refl _ _)).mono ?_
      rintro e W3 ⟨⟨va, aa, ca, vs, rfl, rfl, hl3, hro3⟩, hb3⟩
      have HL3 := hide hl3
      have HRoA3 := hide hro3
      have HB23 := hide hb3
      clear hl3 hro3 hb3
      obtain ⟨N, hN⟩ : ∃ N, N = encN n ys := ⟨_, rfl⟩
      obtain ⟨E, hE⟩ : ∃ E, E = encE n ys := ⟨_, rfl⟩
      have hN9 : N ≤ 9 := by rw [hN]; exact encN_le n ys
      have hE9 : E ≤ 120 := by rw [hE]; unfold encE; split <;> omega
      rw [← hN, ← hE]
      rw [← hN] at HL3 HRoA3
      have HNn := hide hN
      have HEe := hide hE
      clear hN hE
      go_wp2_with fail
      refine (HE.out W3 HB23.out).mono ?_
      rintro e W4 ⟨⟨vb, ab, cb, us, rfl, rfl, hl4, hro4⟩, hb4⟩
      rw [← HNn.out, ← HEe.out]
      rw [← HNn.out] at hl4 hro4
      have HL4 := hide hl4
      have HRoB4 := hide hro4
      have HB34 := hide hb4
      have HB24 : Hid (Below W2.heap.size W2 W4) := HB23.out.trans (hb4.mono HB23.out.size)
      clear hl4 hro4 hb4
      have HWb := hide (Le.whole_any w.heap.size a n c zs W4 HI.out.len (by omega) (HR1.out.below HB24.out) (HI.out.row.below (HB2.out.trans (HB24.out.mono HB2.out.size))))
      go_wp2_with fail
      refine HWb.out.mono ?_
      rintro e W5 ⟨rfl, hb5⟩
      have HB25 : Hid (Below W2.heap.size W2 W5) := HB24.out.trans (hb5.mono HB24.out.size)
      have HB45 := hide hb5
      clear hb5
      have HWw := hide (Lw.whole_any W1.heap.size a' m c' ys W5 HW.out.len (by omega) (HR2.out.below HB25.out) (HW.out.row.below (HB2.out.trans (HB25.out.mono HB2.out.size))))
      go_wp2_with fail
      refine HWw.out.mono ?_
      rintro e W6 ⟨rfl, hb6⟩
      have HB26 : Hid (Below W2.heap.size W2 W6) := HB25.out.trans (hb6.mono HB25.out.size)
      have HB46 : Hid (Below W4.heap.size W4 W6) := HB45.out.trans (hb6.mono HB45.out.size)
      clear hb6 HWw HWb HE
      have hbl1 : Le.Blk W6 w.heap.size (n + 2) := Le.own_blk ((HO1.out.below HB12.out).below HB26.out)
      have hS26 := HB26.out.size
      have HSp := hide (Le.spoil_any w.heap.size n (n + 2) W6 hbl1 (by omega) (by omega))
      have ho26 : OwnW W6 (.slice (some ⟨W1.heap.size, 0, none⟩) (m + 2) (m + 2)) (ys ++ [771, 772]) := HO2.out.of_block (fun k hk => HB26.out.block k (HO2.out.lt hk))
      have HBl2 := hide (Lw.own_blk ho26)
      clear hbl1 ho26
      go_wp2_with fail
      refine HSp.out.mono ?_
      rintro e W7 ⟨rfl, hg7⟩
      have hbl2 : Lw.Blk W7 W1.heap.size (m + 2) := by
        obtain ⟨cur, q1, q2⟩ := HBl2.out
        exact ⟨cur, (hg7.block _ (by omega) (fun e => by have e' : w.heap.size = W1.heap.size := by simpa using e.symm
                                                         omega)).trans q1, q2⟩
      have HSq := hide (Lw.spoil_any W1.heap.size m (m + 2) W7 hbl2 (by omega) (by omega))
      have HG7 := hide hg7
      clear hg7 hbl2
      go_wp2_with fail
      refine HSq.out.mono ?_
      rintro e W8 ⟨rfl, hg8⟩
      have HG8 := hide hg8
      have hS7 := HG7.out.size
      have hS8 := hg8.size
      have HB6 : Hid (Below w.heap.size w W6) := HB2.out.trans (HB26.out.mono HB2.out.size)
      have HB8 : Hid (Below w.heap.size w W8) := (HB6.out.grown HG7.out HB6.out.size (fun k hk => by cases hk; exact Nat.le_refl _)).grown hg8 (by omega) (fun k hk => by cases hk; omega)
      have HK68 : Hid (∀ k, W2.heap.size ≤ k → k < W6.heap.size → W8.heap[k]? = W6.heap[k]?) := fun k h1 h2 => by
        rw [hg8.block k (by omega) (fun e => by have e' : W1.heap.size = k := by simpa using e.symm
                                                omega), HG7.out.block k h2 (fun e => by have e' : w.heap.size = k := by simpa using e.symm
                                                                                        omega)]
      clear hg8 HSp HSq HBl2
      have hS34 := HB34.out.size
      have hS23 := HB23.out.size
      have hS46 := HB46.out.size
      have HRoA : Hid (Ro W8 (.slice aa N ca) W2.heap.size vs (pay zs ys)) := ((HRoA3.out.below HB34.out).below HB46.out).stays (fun k h1 h2 => HK68.out k h1 h2)
      have HRoB : Hid (Ro W8 (.slice ab N cb) W3.heap.size us (pay zs ys)) := (HRoB4.out.below HB46.out).stays (fun k h1 h2 => HK68.out k (by omega) h2)
      have HLtA : Hid ((∀ k, blks (.slice aa N ca) k → k < W3.heap.size) ∧ ∀ j k, j < vs.length → blks (vs.getD j nilv) k → k < W3.heap.size) := ⟨HRoA3.out.lt.1, HRoA3.out.lt.2⟩
      have HRe := hide (rencode_all W8 a a' n c m c' zs ys HI.out.len HI.out.cap HI.out.max (HI.out.row.below HB8.out) HW.out.len (by omega) HW.out.cap (HW.out.row.below HB8.out) HW.out.w32)
      clear HRoA3 HRoB4 HK68 HG7 HG8 HB34 HB46 HB45 HB26 HB25 HB24 HB23 HB12 HR1 HR2 HO1 HO2
      go_wp2_with fail
      refine HRe.out.mono ?_
      rintro e W9 ⟨⟨vw, aw, cw, ts, rfl, rfl, hl9, hro9⟩, hb9⟩
      rw [← HNn.out, ← HEe.out]
      rw [← HNn.out] at hl9 hro9
      have HL9 := hide hl9
      have HRoW := hide hro9
      have HB89 := hide hb9
      have HB9 : Hid (Below w.heap.size w W9) := HB8.out.trans (hb9.mono HB8.out.size)
      clear hl9 hro9 hb9 HRe
      have hS89 := HB89.out.size
      have HRoA9 := hide (HRoA.out.below HB89.out)
      have HRoB9 := hide (HRoB.out.below HB89.out)
      clear HRoA HRoB
      go_wp2_with fail
      have hbk := book_new W9
      have hb10 := below_alloc W9 (.cells #[.slice none 0 0, .slice none 0 0, .slice none 0 0, .slice none 0 0, .slice none 0 0, .slice none 0 0, .slice none 0 0, .slice none 0 0, .slice none 0 0, .slice none 0 0, .slice none 0 0, .slice none 0 0, .slice none 0 0, .slice none 0 0, .slice none 0 0, .slice none 0 0, .slice none 0 0, .slice none 0 0, .slice none 0 0, .slice none 0 0, .slice none 0 0, .slice none 0 0, .slice none 0 0] 59)
      have hs10 : (W9.alloc (.cells #[.slice none 0 0, .slice none 0 0, .slice none 0 0, .slice none 0 0, .slice none 0 0, .slice none 0 0, .slice none 0 0, .slice none 0 0, .slice none 0 0, .slice none 0 0, .slice none 0 0, .slice none 0 0, .slice none 0 0, .slice none 0 0, .slice none 0 0, .slice none 0 0, .slice none 0 0, .slice none 0 0, .slice none 0 0, .slice none 0 0, .slice none 0 0, .slice none 0 0, .slice none 0 0] 59)).heap.size = W9.heap.size + 1 := by simp
      generalize W9.alloc (.cells #[.slice none 0 0, .slice none 0 0, .slice none 0 0, .slice none 0 0, .slice none 0 0, .slice none 0 0, .slice none 0 0, .slice none 0 0, .slice none 0 0, .slice none 0 0, .slice none 0 0, .slice none 0 0, .slice none 0 0, .slice none 0 0, .slice none 0 0, .slice none 0 0, .slice none 0 0, .slice none 0 0, .slice none 0 0, .slice none 0 0, .slice none 0 0, .slice none 0 0, .slice none 0 0] 59) = W10 at *
      have HBb0 := hide (bb_none hbk)
      have HB910 := hide hb10
      obtain ⟨q, hq⟩ : ∃ q, q = W9.heap.size := ⟨_, rfl⟩
      rw [← hq] at HBb0 ⊢
      have HQ := hide hq
      clear hbk hb10 hq
      have HRoA10 := hide (HRoA9.out.below HB910.out)
      have HRw := hide (Bv.bookRows_any q nilf 0 (fun _ => none) (fun _ => 0) (fun _ => []) 0 (fun _ => none) (fun _ => 0) (fun _ => []) W10 HBb0.out aa N ca vs HL3.out (by omega) (by omega) (by omega) (pay zs ys) W2.heap.size HRoA10.out (fun j _ => pay_le zs ys j) (fun k _ => blks_nilf 0 k) (fun k _ hr => by obtain ⟨i, hi, _⟩ := hr; omega) (fun j k _ _ hr => by obtain ⟨i, hi, _⟩ := hr; omega))
      refine HRw.out.mono ?_
      rintro r W11 ⟨rfl, ⟨f1, A1, C1, Z1, hBb1, hrf1, hkp1, hf10, hf19⟩⟩
      have hS10 : W9.heap.size < W10.heap.size := by omega
      have hS11 := hkp1.size
      have HK11 : Hid (∀ k, k < q → W11.heap[k]? = W9.heap[k]?) := fun k hk => by
        rw [hkp1.block k (by have := HQ.out; omega) (fun h => by
          rcases h with h | h | h
          · omega
          · exact blks_nilf 0 k h
          · exact blks_nilf 9 k h), HB910.out.block k (by have := HQ.out; omega)]
      have HB911 : Hid (Below q W9 W11) := ⟨hkp1.os.trans HB910.out.os, hkp1.tape.trans HB910.out.tape, hkp1.output.trans HB910.out.output, by omega, fun k hk => HK11.out k hk⟩
      have HBb1 := hide hBb1
      have HRf1 := hide hrf1
      have HF10 : Hid (∀ k, blks (f1 0) k → W10.heap.size ≤ k) := fun k hk => (hf10 k hk).elim (fun h => absurd h (blks_nilf 0 k)) id
      have HF19 : Hid (∀ k, blks (f1 9) k → W10.heap.size ≤ k) := fun k hk => (hf19 k hk).elim (fun h => absurd h (blks_nilf 9 k)) id
      clear hBb1 hrf1 hkp1 hf10 hf19 HRw HBb0 HRoA10
      have HLb : Hid ((∀ k, blks (.slice ab N cb) k → k < q) ∧ ∀ j k, j < us.length → blks (us.getD j nilv) k → k < q) := by rw [HQ.out]; exact ⟨HRoB9.out.lt.1, HRoB9.out.lt.2⟩
      have HRoB11 : Hid (Ro W11 (.slice ab N cb) W3.heap.size us (pay zs ys)) := ro_on HRoB9.out (fun k _ hk => HK11.out k hk) HLb.out.1 HLb.out.2
      have HRw := hide (Bv.bookRows_any q f1 (0 + N) A1 C1 Z1 (0 + 1) (putf (fun _ => none) 0 aa) (putf (fun _ => 0) 0 ca) (putf (fun _ => []) 0 vs) W11 HBb1.out ab N cb us HL4.out (by omega) (by omega) (by omega) (pay zs ys) W3.heap.size HRoB11.out (fun j _ => pay_le zs ys j)
        (fun k h1 h2 => by have := HLb.out.1 k h1; have := HF10.out k h2; have := HQ.out; omega)
        (fun k h1 h2 => by
          rcases rft_putf _ _ _ _ h2 with ⟨i, hi, _⟩ | h
          · omega
          · have := HLtA.out.1 k ((Bv.blks_slice _ _ _ k).2 h)
            have := HRoB11.out.vlow k h1
            omega)
        (fun j k hj h1 h2 => by
          rcases HRf1.out k h2 with ⟨i, hi, _⟩ | ⟨i, hi, h⟩
          · omega
          · have := HLtA.out.2 i k (by rw [HL3.out]; exact hi) h
            have := (HRoB11.out.low j k (by rw [HL4.out]; exact hj) h1).1
            omega))
      go_wp2_with fail
      refine HRw.out.mono ?_
      rintro r W12 ⟨rfl, ⟨f2, A2, C2, Z2, hBb2, hrf2, hkp2, hf20, hf29⟩⟩
      have hS12 := hkp2.size
      have HK12 : Hid (∀ k, k < q → W12.heap[k]? = W9.heap[k]?) := fun k hk => by
        rw [hkp2.block k (by have := HQ.out; omega) (fun h => by
          rcases h with h | h | h
          · omega
          · have := HF10.out k h; have := HQ.out; omega
          · have := HF19.out k h; have := HQ.out; omega), HK11.out k hk]
      have HB912 : Hid (Below q W9 W12) := ⟨hkp2.os.trans HB911.out.os, hkp2.tape.trans HB911.out.tape, hkp2.output.trans HB911.out.output, by have := HB911.out.size; omega, fun k hk => HK12.out k hk⟩
      have HBb2 := hide hBb2
      have HRf2 := hide hrf2
      clear hBb2 hrf2 hkp2 hf20 hf29 HRw HBb1 HRoB11
      have hSq : w.heap.size ≤ q := by have := HQ.out; have := HB9.out.size; omega
      have HB12' : Hid (Below w.heap.size w W12) := HB9.out.trans (HB912.out.mono hSq)
      have HLa9 : Hid ((∀ k, blks (.slice aa N ca) k → k < q) ∧ ∀ j k, j < vs.length → blks (vs.getD j nilv) k → k < q) := by rw [HQ.out]; exact ⟨HRoA9.out.lt.1, HRoA9.out.lt.2⟩
      have HLw9 : Hid ((∀ k, blks (.slice aw N cw) k → k < q) ∧ ∀ j k, j < ts.length → blks (ts.getD j nilv) k → k < q) := by rw [HQ.out]; exact ⟨HRoW.out.lt.1, HRoW.out.lt.2⟩
      have HRoA12 : Hid (Ro W12 (.slice aa N ca) W2.heap.size vs (pay zs ys)) := ro_on HRoA9.out (fun k _ hk => HK12.out k hk) HLa9.out.1 HLa9.out.2
      have HRoB12 : Hid (Ro W12 (.slice ab N cb) W3.heap.size us (pay zs ys)) := ro_on HRoB9.out (fun k _ hk => HK12.out k hk) HLb.out.1 HLb.out.2
      have HRoW12 : Hid (Ro W12 (.slice aw N cw) W8.heap.size ts (pay zs ys)) := ro_on HRoW.out (fun k _ hk => HK12.out k hk) HLw9.out.1 HLw9.out.2
      have HKn := hide (known_any W12)
      have hEE : ((E : Int) == (E : Int)) = true := by simp
      have hZZ : (((needZ z : Nat) : Int) == ((needZ z : Nat) : Int)) = true := by simp
      go_wp2_with fail
      refine HKn.out.mono ?_
      rintro e W13 ⟨rfl, h13⟩
      have HB13 := hide h13
      have HSa := hide (samer_eq W13 aa aw N ca cw _ _ rfl rfl _ _ vs ts HL3.out HL9.out (by omega) (pay zs ys) (fun j _ => pay_le zs ys j) (HRoA12.out.below h13) (HRoW12.out.below h13))
      clear h13
      go_wp2_with fail
      refine HSa.out.mono ?_
      rintro e W14 ⟨rfl, h14⟩
      have HB14 : Hid (Below W12.heap.size W12 W14) := HB13.out.trans (h14.mono HB13.out.size)
      have HSb := hide (samer_eq W14 ab aw N cb cw _ _ rfl rfl _ _ us ts HL4.out HL9.out (by omega) (pay zs ys) (fun j _ => pay_le zs ys j) (HRoB12.out.below HB14.out) (HRoW12.out.below HB14.out))
      clear h14
      go_wp2_with fail
      refine HSb.out.mono ?_
      rintro e W15 ⟨rfl, h15⟩
      have HB15 : Hid (Below W12.heap.size W12 W15) := HB14.out.trans (h15.mono HB14.out.size)
      clear h15
      go_wp2_with fail
      refine (need_z W15 z hz1 hz2).mono ?_
      rintro e Wx ⟨rfl, hwx⟩
      rw [hwx]
      clear hwx
      go_wp2_with fail
      refine (rneed_z W15 z hz1 hz2).mono ?_
      rintro e Wx ⟨rfl, hwx⟩
      rw [hwx]
      clear hwx
      generalize needZ z = Z at *
      have HOw := hide (Bv.bookOwn_any q f2 _ A2 C2 Z2 _ _ _ _ W15 (Bb.below HBb2.out HB15.out) (by omega) (by omega) (fun i hi => by
        have : i = 1 ∨ i = 0 := by omega
        rcases this with rfl | rfl
        · rw [putf_same, HL4.out]; omega
        · rw [putf_other _ _ _ _ (by omega), putf_same, HL3.out]; omega))
      go_wp2_with fail
      refine HOw.out.mono ?_
      rintro e W16 ⟨rfl, h16⟩
      have HK16 := hide h16
      clear h16
      go_wp2
      go_ret
      have hS15 := HB15.out.size
      have hSW12 := HB12'.out.size
      have hlowA : ∀ j k, j < N → blks (vs.getD j nilv) k → w.heap.size ≤ k := fun j k hj hk => by
        have := (HRoA12.out.low j k (by rw [HL3.out]; exact hj) hk).1
        omega
      have hlowB : ∀ j k, j < N → blks (us.getD j nilv) k → w.heap.size ≤ k := fun j k hj hk => by
        have := (HRoB12.out.low j k (by rw [HL4.out]; exact hj) hk).1
        omega
      refine ⟨rfl, (HB12'.out.trans (HB15.out.mono hSW12)).trans (HK16.out.below (fun k hk => ?_) (by omega))⟩
      rcases hk with hk | hk
      · rcases HRf2.out k hk with hk | ⟨j, hj, hk⟩
        · rcases HRf1.out k hk with ⟨i, hi, _⟩ | ⟨j, hj, hk⟩
          · omega
          · exact hlowA j k hj hk
        · exact hlowB j k hj hk
      · rcases rft_putf _ _ _ _ hk with hk | hk
        · rcases rft_putf _ _ _ _ hk with ⟨i, hi, _⟩ | hk
          · omega
          · have := HRoA12.out.vlow k ((Bv.blks_slice _ _ _ k).2 hk)
            omega
        · have := HRoB12.out.vlow k ((Bv.blks_slice _ _ _ k).2 hk)
          omega
end Go.Proofs.Ytjpiacjfmgijfaa
