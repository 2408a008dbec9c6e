/- FreeWrites, walked. -/
import Derived.Test.YtejdlcahcimflaaSB
import Derived.Test.YtejdlcahcimflaaHE
import Derived.Test.YtejdlcahcimflaaVW
import Derived.Test.YtejdlcahcimflaaFQ
import Derived.Test.YtejdlcahcimflaaKN
namespace Go.Proofs.Ytejdlcahcimflaa
open Go.RowKit Go.Maps Go.Proofs.Ytejdlcahcimflaa.Bo
set_option linter.unusedVariables false
variable {w w' : World}
/-- words that came in. -/
structure InW (w : World) (a : Option Addr) (n c : Nat) (zs : List Nat) : Prop where
  len : zs.length = n
  cap : n ≤ c
  max : c ≤ 9223372036854775807
  bare : a = none → n = 0 ∧ c = 0
  row : Rw w a zs
  w32 : W32 zs
theorem Rw.left {a : Option Addr} {zs ys : List Nat} (h : Rw w a (zs ++ ys)) : Rw w a zs := Lw.row_left h
theorem pay_le (zs ys : List Nat) (j : Nat) : (pay zs ys j).length ≤ 1000000 := by
  unfold pay
  rw [List.length_append, le4_len, flat4_len, List.length_take]
  omega
theorem bb_none {w : World} {q : Nat} (h : Bk w q nilf) : Bv.Bb w q nilf 0 (fun _ => none) (fun _ => 0) (fun _ => []) 0 (fun _ => none) (fun _ => 0) (fun _ => []) :=
  ⟨h, fun _ _ _ => rfl, Bo.fam_none w (by decide), Bv.fam_none w (by decide), fun k hk => by simp [nilf, blks, Value.ownBlock] at hk, fun i hi => by omega⟩
theorem blks_nilf (j k : Nat) : ¬ blks (nilf j) k := by simp [nilf, blks, Value.ownBlock]
/-- rows stay where nothing but newer blocks turns. -/
theorem ro_on {w w' : World} {v : Value} {B q : Nat} {vs : List Value} {L : Nat → List Int} (h : Rb.Ro w v B vs L) (hq : ∀ k, k < w.heap.size → k < q → w'.heap[k]? = w.heap[k]?) (h1 : ∀ k, blks v k → k < q) (h2 : ∀ j k, j < vs.length → blks (vs.getD j Rb.nilv) k → k < q) : Rb.Ro w' v B vs L :=
  ⟨Rb.row_of_block h.row (fun k hk => hq k (h.lt.1 k hk) (h1 k hk)), h.vlow, fun j hj => Own.of_block (h.own j hj) (fun k hk => hq k (h.lt.2 j k hj hk) (h2 j k hj hk)), h.low, h.apart⟩
theorem encN_le {n : Nat} {zs ys : List Nat} (hl : zs.length ≤ 20000) : encN zs ys ≤ 81 := by
  unfold encN
  split
  · rename_i h; have := h.2.2; omega
  · omega
theorem wds_le : ∀ zs : List Int, (wds zs).length ≤ zs.length
  | a :: b :: c :: d :: r => by
    have := wds_le r
    simp only [wds, List.length_cons]
    omega
  | [] => by simp [wds]
  | [_] => by simp [wds]
  | [_, _] => by simp [wds]
  | [_, _, _] => by simp [wds]
theorem decL_le (n : Nat) (zs : List Int) : (decL n zs).length ≤ zs.length := by
  unfold decL
  split
  · have := wds_le zs
    rw [List.length_tail]
    omega
  · simp
theorem decX_le (n : Nat) (zs : List Int) (hb : Byts zs) (hl : zs.length = n) : decX n zs ≤ 4294967295 := by
  unfold decX
  split
  · rename_i h
    obtain ⟨m, hm⟩ : ∃ m, n = 4 * (m + 1) := ⟨n / 4 - 1, by have := h.1; have := h.2.2.1; omega⟩
    exact (wds_head (m := m) hb (by omega)).2.2.1
  · omega
theorem decE_le (n : Nat) (zs : List Int) : decE n zs ≤ 120 := by unfold decE; split <;> omega
theorem srcw {v : Value} {zs : List Nat} (h : OwnW w v zs) : Src Try.prog 1 22 v zs.length (zs.map fun (z : Nat) => Value.int .u32 (z : Int)) w := by
  rcases h.2 with ⟨rfl, h0⟩ | ⟨g, cap, cur, rfl, _⟩
  · have : zs = [] := List.eq_nil_of_length_eq_zero h0
    subst this
    exact Src.ofNil w Try.underlying22 0
  · exact Src.ofSlice w Try.underlying22 ⟨g, 0, none⟩ zs.length cap _ (by simp) (World.ownsRow.cells h (g := g) rfl) (Lw.words_one _)
/-- the next page of the page at j. -/
def nxt (ys : List Nat) (j : Nat) : Nat := if j + 1 < ys.length then ys.getD (j + 1) 0 else 0
theorem nxt_ok {ys : List Nat} (h : ys.all okp = true) (j : Nat) : nxt ys j = 0 ∨ okp (nxt ys j) = true := by
  unfold nxt
  split
  · rename_i h1; exact .inr (all_at.1 h (j + 1) h1)
  · exact .inl rfl
theorem nxt_le {ys : List Nat} (h : W32 ys) (j : Nat) : nxt ys j ≤ 4294967295 := by
  unfold nxt
  split
  · exact h.at _
  · omega
theorem seg_at (zs : List Nat) (o k i : Nat) (hi : i < ((zs.drop o).take k).length) : ((zs.drop o).take k).getD i 0 = zs.getD (o + i) 0 ∧ o + i < zs.length := by
  rw [List.length_take, List.length_drop] at hi
  refine ⟨?_, by omega⟩
  simp only [List.getD_eq_getElem?_getD]
  rw [List.getElem?_take_of_lt (by omega), List.getElem?_drop]
theorem seg_ok {zs : List Nat} (h : (rise zs && zs.all okp) = true) (o k : Nat) : (rise ((zs.drop o).take k) && ((zs.drop o).take k).all okp) = true := by
  rw [Bool.and_eq_true] at h ⊢
  refine ⟨rise_at.2 (fun i h0 h1 => ?_), all_at.2 (fun i hi => ?_)⟩
  · obtain ⟨e1, l1⟩ := seg_at zs o k i h1
    obtain ⟨e2, l2⟩ := seg_at zs o k (i - 1) (by omega)
    rw [e1, e2, show o + (i - 1) = o + i - 1 by omega]
    exact rise_at.1 h.1 (o + i) (by omega) l1
  · obtain ⟨e1, l1⟩ := seg_at zs o k i hi
    rw [e1]
    exact all_at.1 h.2 _ l1
theorem seg_w {zs : List Nat} (h : W32 zs) (o k : Nat) : W32 ((zs.drop o).take k) := fun z hz => h z (List.mem_of_mem_drop (List.mem_of_mem_take hz))
theorem take_seg (zs : List Nat) (j : Nat) : zs.take (251 * j) ++ (zs.drop (251 * j)).take 251 = zs.take (251 * (j + 1)) := by
  rw [Nat.mul_add, Nat.mul_one, List.take_add]
set_option maxHeartbeats 6400000 in
set_option maxRecDepth 1000000 in
theorem writes_walk (a : Option Addr) (n c : Nat) (zs : List Nat) (a' : Option Addr) (m c' : Nat) (ys : List Nat) (ap : Option Addr) (p cp : Nat) (bs : List Int) (z : Int) (hz1 : -9223372036854775808 ≤ z) (hz2 : z ≤ 9223372036854775807) (w : World) (h : InW w a n c zs) (h' : InW w a' m c' ys) (h'' : Inn w ap p cp bs) :
    Calls Try.prog 3 #[.slice a n c, .slice a' m c', .slice ap p cp, .int .i64 z] w fun e w' => e = .returned (.bool true) ∧ Below w.heap.size w w' := by
  have hnm : n ≤ 9223372036854775807 := Nat.le_trans h.cap h.max
  have hmm : m ≤ 9223372036854775807 := Nat.le_trans h'.cap h'.max
  have hpm : p ≤ 9223372036854775807 := Nat.le_trans h''.cap h''.max
  have HI := hide h
  have HW := hide h'
  have HP := hide h''
  by_cases hbig : 20000 < n
  · have hb1 : (20000 : Int) < (n : Int) := by omega
    clear h h' h''
    go_enter Try.func3, Try.ntmps3
    go_wp2
    go_ret
    exact ⟨rfl, Below.refl _ _⟩
  · have hb1 : ¬ (20000 : Int) < (n : Int) := by omega
    by_cases hbig2 : 20000 < m
    · have hb2 : (20000 : Int) < (m : Int) := by omega
      clear h h' h''
      go_enter Try.func3, Try.ntmps3
      go_wp2
      go_ret
      exact ⟨rfl, Below.refl _ _⟩
    · have hb2 : ¬ (20000 : Int) < (m : Int) := by omega
      by_cases hbig3 : 20000 < p
      · have hb3 : (20000 : Int) < (p : Int) := by omega
        clear h h' h''
        go_enter Try.func3, Try.ntmps3
        go_wp2
        go_ret
        exact ⟨rfl, Below.refl _ _⟩
      · have hb3 : ¬ (20000 : Int) < (p : Int) := by omega
        have HL1 := hide (Lw.lent_any a n c zs w h.len (by omega) h.bare h.row)
        clear h h' h''
        go_enter Try.func3, Try.ntmps3
        go_wp2_with fail
        refine HL1.out.mono ?_
        rintro e W1 ⟨rfl, ho1, hb1'⟩
        have HO1 := hide ho1
        have HB1 := hide hb1'
        clear ho1 hb1'
        have HL2 := hide (Lw.lent_any a' m c' ys W1 HW.out.len (by omega) HW.out.bare (HW.out.row.below HB1.out))
        go_wp2_with fail
        refine HL2.out.mono ?_
        rintro e W2 ⟨rfl, ho2, hb2'⟩
        have HO2 := hide ho2
        have hS1 : w.heap.size < W1.heap.size := OwnW.lt HO1.out rfl
        have hS2 : W1.heap.size < W2.heap.size := OwnW.lt ho2 rfl
        have HB12 := hide hb2'
        have HB2 : Hid (Below w.heap.size w W2) := HB1.out.trans (hb2'.mono HB1.out.size)
        obtain ⟨x1, d1, e1, _, _, r1, _⟩ := HO1.out.shape
        obtain ⟨x2, d2, e2, _, _, r2, _⟩ := ho2.shape
        have r1' : Rw W2 (some ⟨w.heap.size, 0, none⟩) (zs ++ [771, 772]) := by simp at e1; rw [e1.1]; exact r1.below hb2'
        have r2' : Rw W2 (some ⟨W1.heap.size, 0, none⟩) (ys ++ [771, 772]) := by simp at e2; rw [e2.1]; exact r2
        have HR1 := hide r1'
        have HR2 := hide r2'
        clear e1 e2 r1 r2 r1' r2' ho2 hb2' HL1 HL2
        have HE := hide (encode_all W2 (some ⟨w.heap.size, 0, none⟩) (some ⟨W1.heap.size, 0, none⟩) n (n + 2) m (m + 2) zs ys HI.out.len (by omega) (by omega) (Rw.left HR1.out) HI.out.w32 HW.out.len (by omega) (Rw.left HR2.out) HW.out.w32)
        go_wp2_with fail
        refine HE.out.mono ?_
        rintro e W3 ⟨⟨va, aa, ca, vs, rfl, rfl, hl3, hro3⟩, hb3'⟩
        have HL3 := hide hl3
        have HRoA3 := hide hro3
        have HB23 := hide hb3'
        clear hl3 hro3 hb3' HE
        obtain ⟨N, hN⟩ : ∃ N, N = encN zs ys := ⟨_, rfl⟩
        obtain ⟨E, hE⟩ : ∃ E, E = encE zs ys := ⟨_, rfl⟩
        have hN9 : N ≤ 81 := by rw [hN]; exact encN_le (n := n) (by have := HI.out.len; omega)
        have hE9 : E ≤ 120 := by rw [hE]; unfold encE; split <;> omega
        rw [← hN, ← hE]
        rw [← hN] at HL3 HRoA3
        have HNn := hide hN
        have HEe := hide hE
        clear hN hE
        have HWb := hide (Lw.whole_any w.heap.size a n c zs W3 HI.out.len (by omega) (HR1.out.below HB23.out) (HI.out.row.below (HB2.out.trans (HB23.out.mono HB2.out.size))))
        go_wp2_with fail
        refine HWb.out.mono ?_
        rintro e W5 ⟨rfl, hb5⟩
        have HB25 : Hid (Below W2.heap.size W2 W5) := HB23.out.trans (hb5.mono HB23.out.size)
        have HB35 := hide hb5
        clear hb5
        have HWw := hide (Lw.whole_any W1.heap.size a' m c' ys W5 HW.out.len (by omega) (HR2.out.below HB25.out) (HW.out.row.below (HB2.out.trans (HB25.out.mono HB2.out.size))))
        go_wp2_with fail
        refine HWw.out.mono ?_
        rintro e W6 ⟨rfl, hb6⟩
        have HB26 : Hid (Below W2.heap.size W2 W6) := HB25.out.trans (hb6.mono HB25.out.size)
        have HB36 : Hid (Below W3.heap.size W3 W6) := HB35.out.trans (hb6.mono HB35.out.size)
        clear hb6 HWw HWb
        have ho16 : OwnW W6 (.slice (some ⟨w.heap.size, 0, none⟩) (n + 2) (n + 2)) (zs ++ [771, 772]) := HO1.out.of_block (fun k hk => (HB26.out.block k (by have := HO1.out.lt hk; omega)).trans (HB12.out.block k (HO1.out.lt hk)))
        have hS26 := HB26.out.size
        have HSp := hide (Lw.spoil_any w.heap.size n (n + 2) W6 (Lw.own_blk ho16) (by omega) (by omega))
        have ho26 : OwnW W6 (.slice (some ⟨W1.heap.size, 0, none⟩) (m + 2) (m + 2)) (ys ++ [771, 772]) := HO2.out.of_block (fun k hk => HB26.out.block k (HO2.out.lt hk))
        have HBl2 := hide (Lw.own_blk ho26)
        clear ho16 ho26
        go_wp2_with fail
        refine HSp.out.mono ?_
        rintro e W7 ⟨rfl, hg7⟩
        have hbl2 : Lw.Blk W7 W1.heap.size (m + 2) := by
          obtain ⟨cur, q1, q2⟩ := HBl2.out
          exact ⟨cur, (hg7.block _ (by omega) (fun e => by have e' : w.heap.size = W1.heap.size := by simpa using e.symm
                                                           omega)).trans q1, q2⟩
        have HSq := hide (Lw.spoil_any W1.heap.size m (m + 2) W7 hbl2 (by omega) (by omega))
        have HG7 := hide hg7
        clear hg7 hbl2
        go_wp2_with fail
        refine HSq.out.mono ?_
        rintro e W8 ⟨rfl, hg8⟩
        have HG8 := hide hg8
        have hS7 := HG7.out.size
        have hS8 := hg8.size
        have HB6 : Hid (Below w.heap.size w W6) := HB2.out.trans (HB26.out.mono HB2.out.size)
        have HB8 : Hid (Below w.heap.size w W8) := (HB6.out.grown HG7.out HB6.out.size (fun k hk => by cases hk; exact Nat.le_refl _)).grown hg8 (by omega) (fun k hk => by cases hk; omega)
        have HK68 : Hid (∀ k, W2.heap.size ≤ k → k < W6.heap.size → W8.heap[k]? = W6.heap[k]?) := fun k h1 h2 => by
          rw [hg8.block k (by omega) (fun e => by have e' : W1.heap.size = k := by simpa using e.symm
                                                  omega), HG7.out.block k h2 (fun e => by have e' : w.heap.size = k := by simpa using e.symm
                                                                                          omega)]
        clear hg8 HSp HSq HBl2
        have hS23 := HB23.out.size
        have hS36 := HB36.out.size
        have HRoA : Hid (Rb.Ro W8 (.slice aa N ca) W2.heap.size vs (pay zs ys)) := (HRoA3.out.below HB36.out).stays (fun k h1 h2 => HK68.out k h1 h2)
        have HRe := hide (rencode_any W8 a a' n c m c' zs ys HI.out.len (by omega) (HI.out.row.below HB8.out) HI.out.w32 HW.out.len (by omega) (HW.out.row.below HB8.out) HW.out.w32)
        clear HRoA3 HK68 HG7 HG8 HB36 HB35 HB26 HB25 HB23 HB12 HR1 HR2 HO1 HO2
        go_wp2_with fail
        refine HRe.out.mono ?_
        rintro e W9 ⟨⟨vw, aw, cw, ts, rfl, rfl, hl9, hro9⟩, hb9⟩
        rw [← HNn.out, ← HEe.out]
        rw [← HNn.out] at hl9 hro9
        have HL9 := hide hl9
        have HRoW := hide hro9
        have HB89 := hide hb9
        have HB9 : Hid (Below w.heap.size w W9) := HB8.out.trans (hb9.mono HB8.out.size)
        have HRoA9 := hide (HRoA.out.below hb9)
        clear hl9 hro9 hb9 HRe HRoA
        have hS89 := HB89.out.size
        have HDc := hide (decode_all W9 ap p cp bs HP.out.len (by omega) HP.out.cap (HP.out.row.below HB9.out) HP.out.byts)
        go_wp2_with fail
        refine HDc.out.mono ?_
        rintro e W10 ⟨⟨vl, rfl, hol, hnl⟩, hb10⟩
        have hTl := decL_le p bs
        rw [HP.out.len] at hTl
        have hXb := decX_le p bs HP.out.byts HP.out.len
        have hGb := decE_le p bs
        have HB910 := hide hb10
        have HB10 : Hid (Below w.heap.size w W10) := HB9.out.trans (hb10.mono HB9.out.size)
        have HDd := hide (rdecode_all W10 ap p cp bs HP.out.len (by omega) HP.out.cap (HP.out.row.below HB10.out) HP.out.byts)
        obtain ⟨T, hT⟩ : ∃ T, T = decL p bs := ⟨_, rfl⟩
        obtain ⟨X, hX⟩ : ∃ X, X = decX p bs := ⟨_, rfl⟩
        obtain ⟨G, hG⟩ : ∃ G, G = decE p bs := ⟨_, rfl⟩
        rw [← hT] at hol hTl
        rw [← hX] at hXb ⊢
        rw [← hG] at hGb ⊢
        have HTt := hide hT
        have HXx := hide hX
        have HGg := hide hG
        obtain ⟨al, cl, rfl, _, _, hrl, _⟩ := hol.shape
        have HOl := hide hol
        have HNl := hide hnl
        clear hT hX hG hol hnl hb10 HDc hrl
        go_wp2_with fail
        refine HDd.out.mono ?_
        rintro e W11 ⟨⟨vm, rfl, hom, hnm'⟩, hb11⟩
        rw [← HXx.out, ← HGg.out]
        rw [← HTt.out] at hom
        obtain ⟨am, cm, rfl, _, _, hrm, _⟩ := hom.shape
        have HOm := hide hom
        have HB1011 := hide hb11
        have HB911 : Hid (Below W9.heap.size W9 W11) := HB910.out.trans (hb11.mono HB910.out.size)
        have HB11 : Hid (Below w.heap.size w W11) := HB10.out.trans (hb11.mono HB10.out.size)
        clear hom hnm' hb11 HDd hrm
        have hS910 := HB910.out.size
        have hS1011 := HB1011.out.size
        have HRoA11 := hide (HRoA9.out.below HB911.out)
        have HRoW11 := hide (HRoW.out.below HB911.out)
        have HOl11 : Hid (OwnW W11 (.slice al T.length cl) T) := HOl.out.of_block (fun k hk => HB1011.out.block k (HOl.out.lt hk))
        clear HRoA9 HRoW HOl
        go_wp2_with fail
        have hbk := book_new W11
        have hb12 := below_alloc W11 (.cells #[.slice none 0 0, .slice none 0 0, .slice none 0 0, .slice none 0 0, .slice none 0 0, .slice none 0 0, .slice none 0 0, .slice none 0 0, .slice none 0 0, .slice none 0 0, .slice none 0 0, .slice none 0 0, .slice none 0 0, .slice none 0 0, .slice none 0 0, .slice none 0 0, .slice none 0 0, .slice none 0 0, .slice none 0 0, .slice none 0 0, .slice none 0 0, .slice none 0 0, .slice none 0 0] 59)
        have hs12 : (W11.alloc (.cells #[.slice none 0 0, .slice none 0 0, .slice none 0 0, .slice none 0 0, .slice none 0 0, .slice none 0 0, .slice none 0 0, .slice none 0 0, .slice none 0 0, .slice none 0 0, .slice none 0 0, .slice none 0 0, .slice none 0 0, .slice none 0 0, .slice none 0 0, .slice none 0 0, .slice none 0 0, .slice none 0 0, .slice none 0 0, .slice none 0 0, .slice none 0 0, .slice none 0 0, .slice none 0 0] 59)).heap.size = W11.heap.size + 1 := by simp
        generalize W11.alloc (.cells #[.slice none 0 0, .slice none 0 0, .slice none 0 0, .slice none 0 0, .slice none 0 0, .slice none 0 0, .slice none 0 0, .slice none 0 0, .slice none 0 0, .slice none 0 0, .slice none 0 0, .slice none 0 0, .slice none 0 0, .slice none 0 0, .slice none 0 0, .slice none 0 0, .slice none 0 0, .slice none 0 0, .slice none 0 0, .slice none 0 0, .slice none 0 0, .slice none 0 0, .slice none 0 0] 59) = W12 at *
        have HBb0 := hide (bb_none hbk)
        have HB1112 := hide hb12
        obtain ⟨q, hq⟩ : ∃ q, q = W11.heap.size := ⟨_, rfl⟩
        rw [← hq] at HBb0 ⊢
        have HQ := hide hq
        clear hbk hb12 hq
        have HLa : Hid ((∀ k, blks (.slice aa N ca) k → k < q) ∧ ∀ j k, j < vs.length → blks (vs.getD j Rb.nilv) k → k < q) := by rw [HQ.out]; exact ⟨HRoA11.out.lt.1, HRoA11.out.lt.2⟩
        have HLw : Hid ((∀ k, blks (.slice aw N cw) k → k < q) ∧ ∀ j k, j < ts.length → blks (ts.getD j Rb.nilv) k → k < q) := by rw [HQ.out]; exact ⟨HRoW11.out.lt.1, HRoW11.out.lt.2⟩
        have HRw := hide (Bv.bookRows_any q nilf 0 (fun _ => none) (fun _ => 0) (fun _ => []) 0 (fun _ => none) (fun _ => 0) (fun _ => []) W12 HBb0.out aa N ca vs HL3.out (by omega) (by omega) (by omega) (pay zs ys) W2.heap.size (HRoA11.out.below HB1112.out) (fun j _ => pay_le zs ys j) (fun k _ => blks_nilf 0 k) (fun k _ hr => by obtain ⟨i, hi, _⟩ := hr; omega) (fun j k _ _ hr => by obtain ⟨i, hi, _⟩ := hr; omega))
        refine HRw.out.mono ?_
        rintro r W13 ⟨rfl, ⟨f1, A1, C1, Z1, hBb1, hrf1, hkp1, hf10, hf19⟩⟩
        have hS13 := hkp1.size
        have HK13 : Hid (∀ k, k < q → W13.heap[k]? = W11.heap[k]?) := fun k hk => by
          rw [hkp1.block k (by have := HQ.out; omega) (fun h => by
            rcases h with h | h | h
            · omega
            · exact blks_nilf 0 k h
            · exact blks_nilf 9 k h), HB1112.out.block k (by have := HQ.out; omega)]
        have HB1113 : Hid (Below q W11 W13) := ⟨hkp1.os.trans HB1112.out.os, hkp1.tape.trans HB1112.out.tape, hkp1.output.trans HB1112.out.output, by omega, fun k hk => HK13.out k hk⟩
        have HBb1 := hide hBb1
        have HRf1 := hide hrf1
        clear hBb1 hrf1 hkp1 hf10 hf19 HRw HBb0
        have HOl13 : Hid (OwnW W13 (.slice al T.length cl) T) := HOl11.out.of_block (fun k hk => HK13.out k (by rw [HQ.out]; exact HOl11.out.lt hk))
        have HBw := hide (Bv.bookWords_bc q f1 _ A1 C1 Z1 _ _ _ _ W13 HBb1.out al cl T.length T rfl HOl13.out (by omega))
        go_wp2_with fail
        refine HBw.out.mono ?_
        rintro r W14 ⟨rfl, f2, hBc, hkp2⟩
        have hS14 := hkp2.size
        have HK14 : Hid (∀ k, k < q → W14.heap[k]? = W11.heap[k]?) := fun k hk => by
          rw [hkp2.block k (by have := HQ.out; omega) (fun h => by omega), HK13.out k hk]
        have HB1114 : Hid (Below q W11 W14) := ⟨hkp2.os.trans HB1113.out.os, hkp2.tape.trans HB1113.out.tape, hkp2.output.trans HB1113.out.output, by have := HB1113.out.size; omega, fun k hk => HK14.out k hk⟩
        have HBc := hide hBc
        clear hBc hkp2 HBw HBb1 HOl13
        have hSq : w.heap.size ≤ q := by have := HQ.out; have := HB11.out.size; omega
        have HB14 : Hid (Below w.heap.size w W14) := HB11.out.trans (HB1114.out.mono hSq)
        have HRoA14 : Hid (Rb.Ro W14 (.slice aa N ca) W2.heap.size vs (pay zs ys)) := ro_on HRoA11.out (fun k _ hk => HK14.out k hk) HLa.out.1 HLa.out.2
        have HRoW14 : Hid (Rb.Ro W14 (.slice aw N cw) W8.heap.size ts (pay zs ys)) := ro_on HRoW11.out (fun k _ hk => HK14.out k hk) HLw.out.1 HLw.out.2
        have HOl14 : Hid (OwnW W14 (.slice al T.length cl) T) := HOl11.out.of_block (fun k hk => HK14.out k (by rw [HQ.out]; exact HOl11.out.lt hk))
        have HOm14 : Hid (OwnW W14 (.slice am T.length cm) T) := HOm.out.of_block (fun k hk => HK14.out k (by rw [HQ.out]; exact HOm.out.lt hk))
        clear HK13 HK14 HB1113 HOl11 HOm HRoA11 HRoW11
        have HKn := hide (known_any W14)
        have hEE : ((E : Int) != (E : Int)) = false := by simp
        have hGG : ((G : Int) != (G : Int)) = false := by simp
        have hXX : ((X : Int) != (X : Int)) = false := by simp
        obtain ⟨Zn, hZn⟩ : ∃ Zn, Zn = needZ z := ⟨_, rfl⟩
        have hZZ : (Zn != Zn) = false := by simp
        have HNz : Hid (∀ W, Calls Try.prog 16 #[.int .i64 z] W fun e w' => e = .returned (.int .i64 Zn) ∧ w' = W) := fun W => by rw [hZn]; exact need_z W z hz1 hz2
        have HRz : Hid (∀ W, Calls Try.prog 17 #[.int .i64 z] W fun e w' => e = .returned (.int .i64 Zn) ∧ w' = W) := fun W => by rw [hZn]; exact rneed_z W z hz1 hz2
        clear hZn
        go_wp2_with fail
        refine HKn.out.mono ?_
        rintro e W15 ⟨rfl, h15⟩
        have HB15 := hide h15
        have HSa := hide (samer_eq W15 aa aw N ca cw _ _ rfl rfl _ _ vs ts HL3.out HL9.out (by omega) (pay zs ys) (fun j _ => pay_le zs ys j) (HRoA14.out.below h15) (HRoW14.out.below h15))
        clear h15
        go_wp2_with fail
        refine HSa.out.mono ?_
        rintro e W16 ⟨rfl, h16⟩
        have HB16 : Hid (Below W14.heap.size W14 W16) := HB15.out.trans (h16.mono HB15.out.size)
        obtain ⟨xl, dl, el, _, _, rl, _⟩ := HOl14.out.shape
        obtain ⟨xm, dm, em, _, _, rm, _⟩ := HOm14.out.shape
        have rl' : Rw W16 al T := by simp at el; rw [el.1]; exact rl.below HB16.out
        have rm' : Rw W16 am T := by simp at em; rw [em.1]; exact rm.below HB16.out
        have HSw := hide (samew_eq W16 al am T.length cl cm T rfl (by omega) rl' rm')
        clear h16 el em rl rm rl' rm'
        go_wp2_with fail
        refine HSw.out.mono ?_
        rintro e W17 ⟨rfl, h17⟩
        have HB17 : Hid (Below W14.heap.size W14 W17) := HB16.out.trans (h17.below.mono HB16.out.size)
        clear h17
        go_wp2_with fail
        refine (HNz.out W17).mono ?_
        rintro e Wx ⟨rfl, hwx⟩
        rw [hwx]
        clear hwx
        go_wp2_with fail
        refine (HRz.out W17).mono ?_
        rintro e Wx ⟨rfl, hwx⟩
        rw [hwx]
        clear hwx
        have HOw : Hid (∀ W, Below W14.heap.size W14 W → Calls Try.prog 18 #[.pointer (some ⟨q, 0, none⟩)] W fun r w' => r = .returned (.bool true) ∧ Below w.heap.size w w') := fun W hW => by
          refine (Bv.bookOwn_any q f2 _ A1 C1 Z1 _ _ _ _ _ _ _ _ W (Bv.Bc.below HBc.out hW) (by omega) (by omega) (by omega) (fun i hi => by
            obtain rfl : i = 0 := by omega
            rw [putf_same, HL3.out]; omega)).mono ?_
          rintro r w' ⟨rfl, hk⟩
          have hSW := hW.size
          have hS14w := HB14.out.size
          refine ⟨rfl, (HB14.out.trans (hW.mono hS14w)).trans (hk.below (fun k hk => ?_) (by omega))⟩
          rcases hk with hk | hk | hk
          · rcases HRf1.out k hk with ⟨i, hi, _⟩ | ⟨j, hj, hk⟩
            · omega
            · have := (HRoA14.out.low j k (by rw [HL3.out]; exact hj) hk).1
              omega
          · rcases rft_putf _ _ _ _ hk with ⟨i, hi, _⟩ | hk
            · omega
            · have := HNl.out k ((Bv.blks_slice _ _ _ k).2 hk)
              have := HB9.out.size
              omega
          · rcases rft_putf _ _ _ _ hk with ⟨i, hi, _⟩ | hk
            · omega
            · have := HRoA14.out.vlow k ((Bv.blks_slice _ _ _ k).2 hk)
              omega
        by_cases hg : egood zs ys
        · have hE0 : E = 0 := by rw [HEe.out]; unfold encE; rw [if_pos hg]
          subst hE0
          have hNm : N = m := by rw [HNn.out]; unfold encN; rw [if_pos hg, HW.out.len]
          have HG := hide hg
          clear hg
          go_wp2
          obtain ⟨i0, hi, hy0, hy1, hy2⟩ := info_parts infoWords_e
          have hS17 := HB17.out.size
          have HLz := hide HI.out.len
          have HLy := hide HW.out.len
          have hdm : 251 * m ≥ n := by have := HG.out.2.2; have := HLz.out; have := HLy.out; omega
          have HRoA17 := hide (HRoA14.out.below HB17.out)
          have hLm : vs.length = m := by rw [HL3.out]; exact hNm
          rw [hNm] at HRoA17
          have HLm := hide hLm
          have HRy17 := hide (HW.out.row.below (HB14.out.trans (HB17.out.mono HB14.out.size)))
          have HRz17 := hide (HI.out.row.below (HB14.out.trans (HB17.out.mono HB14.out.size)))
          have HZy := hide HW.out.w32
          have HZz := hide HI.out.w32
          clear hLm
          go_loopw [24, 23] (fun i u wr => ∃ (j : Nat) (v : Value), j ≤ m ∧ i = .int .i64 j ∧ u = v ∧ OwnW wr v (zs.take (251 * j)) ∧ (∀ b, v.ownBlock = some b → W17.heap.size ≤ b) ∧ Below W17.heap.size W17 wr) (fun i _ _ => m - (intOf i).toNat)
          case atStart => exact ⟨0, _, Nat.zero_le _, rfl, rfl, by rw [Nat.mul_zero, List.take_zero]; exact World.ownsRow_nil _ _ _ _, fun b hb => by simp [Value.ownBlock] at hb, Below.refl _ _⟩
          case round =>
            obtain ⟨j, v, hj, rfl, rfl, hown, hlow, hbel⟩ := hrel
            obtain ⟨aw2, cw2, rfl, _, _, _, _⟩ := hown.shape
            have HOw2 := hide hown
            have HLo2 := hide hlow
            have HBe2 := hide hbel
            clear hown hlow hbel
            by_cases hlt : j < m
            · have hjm : (j : Int) < (m : Int) := by omega
              obtain ⟨g, cap, aj, cj, ev, hglt, hcell, hlc, hcm, hrow, _⟩ := HRoA17.out.first (j := j) (by rw [HLm.out]; exact hlt)
              have ea : aa = some ⟨g, 0, none⟩ := by simp at ev; exact ev.1
              have hcell2 : wr.cell? ⟨g, j, none⟩ = some (.slice aj (pay zs ys j).length cj) := (HBe2.out.cell (p := ⟨g, j, none⟩) hglt).trans hcell
              have hpl : (pay zs ys j).length = 4 + 4 * ((zs.drop (251 * j)).take 251).length := by unfold pay; rw [List.length_append, le4_len, flat4_len]
              have hsl : ((zs.drop (251 * j)).take 251).length ≤ 251 := by rw [List.length_take]; omega
              have hDk := decode_ok wr aj (pay zs ys j).length cj (nxt ys j) ((zs.drop (251 * j)).take 251) (nxt_le HZy.out j) (seg_w HZz.out _ _) hsl hpl hlc (by have := hrow.below HBe2.out; exact this) (seg_ok HG.out.1 _ _) (nxt_ok HG.out.2.1 j)
              have HDk := hide hDk
              have HTs := hide (take_seg zs j)
              have hzl : (zs.take (251 * j)).length ≤ 20000 := by rw [List.length_take, HLz.out]; omega
              have HZl := hide hzl
              have HSl := hide hsl
              subst ea
              clear hDk hpl hlc hcm hrow ev hcell hsl hzl
              have hxb : nxt ys j ≤ 4294967295 := nxt_le HZy.out j
              by_cases hlast : j + 1 < m
              · have hl1 : ((j : Int) == (m : Int) - 1) = false := by rw [beq_eq_false_iff_ne]; omega
                have hlk : j + 1 < ys.length := by have := HLy.out; omega
                have hnx : nxt ys j = ys.getD (j + 1) 0 := by unfold nxt; rw [if_pos hlk]
                rcases HRy17.out.below HBe2.out with h0 | ⟨b, o, rfl, hblt, hcc⟩
                · subst h0; simp at hlk
                have gy := hcc (j + 1) hlk
                rw [← hnx] at gy
                have HGy : Hid (∀ W, Below wr.heap.size wr W → W.cell? ⟨b, o + (j + 1), none⟩ = some (.int .u32 ((nxt ys j : Nat) : Int))) := fun W hW => (hW.cell (p := ⟨b, o + (j + 1), none⟩) hblt).trans gy
                clear hcc hlk hnx gy
                generalize nxt ys j = x at *
                generalize (pay zs ys j).length = PL at *
                generalize (zs.drop (251 * j)).take 251 = ps at *
                generalize zs.take (251 * j) = qs at *
                have hxx : ((x : Int) != (x : Int)) = false := by simp
                have hjm1 : (j : Int) + 1 < (m : Int) := by omega
                go_wp2_with (first
                  | (go_at_call 9; refine HDk.out.mono ?_; rintro e w3 ⟨v3, rfl, h1, h2, h3⟩; obtain ⟨a3, c3, rfl, _, _, _, _⟩ := h1.shape; have gy3 := HGy.out w3 h3; have J1 := hide h1; have J2 := hide h2; have J3 := hide h3; clear h1 h2 h3)
                  | (at_builtin; refine wpList_append_one (by rfl) _ _ 22 22 32 (by rfl) i0 (.int .u32 0) Try.underlying22 hi hy0 hy1 rfl (.slice aw2 qs.length cw2) (qs.map fun (z : Nat) => Value.int .u32 (z : Int)) (by rfl) (by rw [List.length_map]; exact HOw2.out.of_block (fun k hk => J3.out.block k (HOw2.out.lt hk))) (.slice a3 ps.length c3) ps.length (ps.map fun (z : Nat) => Value.int .u32 (z : Int)) (by rfl) (srcw J1.out) (by rw [hy2, List.length_map]; have := HZl.out; have := HSl.out; omega) (by rw [List.length_map]; have := HZl.out; have := HSl.out; omega) ?_; intro v4 w4 h1 h2 h3 h4; have K1 := hide h1; have K2 := hide h2; have K3 := hide h3; clear h1 h2 h3 h4))
                have hb3 : Below W17.heap.size W17 w3 := HBe2.out.trans (J3.out.mono HBe2.out.size)
                go_roundw
                case rel =>
                  refine ⟨j + 1, v4, by omega, by go_num, rfl, ?_, fun b hb => ?_, hb3.trans (Below.grown (Below.refl _ _) K2.out hb3.size (fun b hb => HLo2.out b hb))⟩
                  · have := K1.out
                    rw [← HTs.out]
                    unfold OwnW
                    rw [List.length_append, List.map_append]
                    rw [List.length_append, List.length_map, List.length_map] at this
                    exact this
                  · rcases K3.out b hb with h | h
                    · exact HLo2.out b h
                    · exact Nat.le_trans hb3.size h
                case measure => simp [intOf]; omega
              · have hl1 : ((j : Int) == (m : Int) - 1) = true := by rw [beq_iff_eq]; omega
                have hnx : nxt ys j = 0 := by unfold nxt; rw [if_neg (by have := HLy.out; omega)]
                rw [hnx] at HDk
                clear hxb hnx
                generalize (pay zs ys j).length = PL at *
                generalize (zs.drop (251 * j)).take 251 = ps at *
                generalize zs.take (251 * j) = qs at *
                go_wp2_with (first
                  | (go_at_call 9; refine HDk.out.mono ?_; rintro e w3 ⟨v3, rfl, h1, h2, h3⟩; obtain ⟨a3, c3, rfl, _, _, _, _⟩ := h1.shape; have J1 := hide h1; have J2 := hide h2; have J3 := hide h3; clear h1 h2 h3)
                  | (at_builtin; refine wpList_append_one (by rfl) _ _ 22 22 32 (by rfl) i0 (.int .u32 0) Try.underlying22 hi hy0 hy1 rfl (.slice aw2 qs.length cw2) (qs.map fun (z : Nat) => Value.int .u32 (z : Int)) (by rfl) (by rw [List.length_map]; exact HOw2.out.of_block (fun k hk => J3.out.block k (HOw2.out.lt hk))) (.slice a3 ps.length c3) ps.length (ps.map fun (z : Nat) => Value.int .u32 (z : Int)) (by rfl) (srcw J1.out) (by rw [hy2, List.length_map]; have := HZl.out; have := HSl.out; omega) (by rw [List.length_map]; have := HZl.out; have := HSl.out; omega) ?_; intro v4 w4 h1 h2 h3 h4; have K1 := hide h1; have K2 := hide h2; have K3 := hide h3; clear h1 h2 h3 h4))
                have hb3 : Below W17.heap.size W17 w3 := HBe2.out.trans (J3.out.mono HBe2.out.size)
                go_roundw
                case rel =>
                  refine ⟨j + 1, v4, by omega, by go_num, rfl, ?_, fun b hb => ?_, hb3.trans (Below.grown (Below.refl _ _) K2.out hb3.size (fun b hb => HLo2.out b hb))⟩
                  · have := K1.out
                    rw [← HTs.out]
                    unfold OwnW
                    rw [List.length_append, List.map_append]
                    rw [List.length_append, List.length_map, List.length_map] at this
                    exact this
                  · rcases K3.out b hb with h | h
                    · exact HLo2.out b h
                    · exact Nat.le_trans hb3.size h
                case measure => simp [intOf]; omega
            · obtain rfl : j = m := by omega
              have hjm : ¬ (j : Int) < (j : Int) := by omega
              have htk : zs.take (251 * j) = zs := List.take_of_length_le (by have := HLz.out; omega)
              rw [htk] at HOw2 HLo2 ⊢
              obtain ⟨x3, d3, e3, _, _, r3, _⟩ := HOw2.out.shape
              have r3' : Rw wr aw2 zs := by simp at e3; rw [e3.1]; exact r3
              have HSm := hide (samew_eq wr aw2 a zs.length cw2 c zs rfl (by have := HLz.out; omega) r3' (HRz17.out.below HBe2.out))
              clear e3 r3 r3' htk
              rw [HLz.out] at HSm HOw2 ⊢
              go_wp2_with fail
              refine HSm.out.mono ?_
              rintro e w5 ⟨rfl, h5⟩
              have HB5 : Hid (Below W14.heap.size W14 w5) := (HB17.out.trans (HBe2.out.mono hS17)).trans (h5.below.mono (Nat.le_trans hS17 HBe2.out.size))
              clear h5
              go_wp2_with fail
              refine (HOw.out w5 HB5.out).mono ?_
              rintro e W18 ⟨rfl, h18⟩
              have H18 := hide h18
              clear h18
              go_wp2
              go_ret
              exact ⟨rfl, H18.out⟩
        · have hE0 : E = 110 := by rw [HEe.out]; unfold encE; rw [if_neg hg]
          subst hE0
          clear hg
          go_wp2_with fail
          refine (HOw.out W17 HB17.out).mono ?_
          rintro e W18 ⟨rfl, h18⟩
          have H18 := hide h18
          clear h18
          go_wp2
          go_ret
          exact ⟨rfl, H18.out⟩
end Go.Proofs.Ytejdlcahcimflaa
