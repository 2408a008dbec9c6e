/- Rows are put into a book, with the rows of bytes in them. -/
import Derived.Test.YtejdlcahcimflaaHC
import Derived.Test.YtejdlcahcimflaaGG
import Derived.Test.YtejdlcahcimflaaRB
namespace Go.Proofs.Ytejdlcahcimflaa.Bv
open Go.RowKit Go.Proofs.Ytejdlcahcimflaa.Bo
set_option linter.unusedVariables false

/-- a book of rows of bytes and of rows of these. -/
structure Bb (w : World) (q : Nat) (f : Nat → Value) (n0 : Nat) (A0 : Nat → Option Addr) (C0 : Nat → Nat) (Z0 : Nat → List Int) (n9 : Nat) (A9 : Nat → Option Addr) (C9 : Nat → Nat) (Z9 : Nat → List Value) : Prop where
  bk : Bk w q f
  nl : ∀ j, j ≠ 0 → j ≠ 9 → f j = .slice none 0 0
  byt : Fam .u8 5 23 w (f 0) n0 A0 C0 Z0
  row : Fv 23 25 w (f 9) n9 A9 C9 Z9
  ap : ∀ k, blks (f 0) k → ¬ rft n9 A9 k
  small : ∀ i, i < n0 → (Z0 i).length ≤ 1000000
theorem rf_lt {w : World} {v : Value} {n : Nat} {A : Nat → Option Addr} {C : Nat → Nat} {Z : Nat → List Value} (h : Fv 23 25 w v n A C Z) {k : Nat} (hk : rft n A k) : k < w.heap.size := h.lt k (.inr hk)
theorem el_shape {w : World} {x : Value} {zs : List Int} (h : Own w x zs) : ∃ a c, x = .slice a zs.length c := by
  obtain ⟨a, c, e, _⟩ := h.shape
  exact ⟨a, c, e⟩
theorem fv_keep {w w' : World} {v : Value} {n : Nat} {A : Nat → Option Addr} {C : Nat → Nat} {Z : Nat → List Value} (h : Fv 23 25 w v n A C Z) {g : Nat → Prop} (hk : Kp g w w') (h1 : ∀ k, g k → ¬ rft n A k) (h2 : ∀ k, g k → ¬ blks v k) : Fv 23 25 w' v n A C Z :=
  h.of_block fun k hk' => hk.block k (h.lt k hk') (fun hg => hk'.elim (h2 k hg) (h1 k hg))
theorem ro_keep {w w' : World} {v : Value} {B : Nat} {vs : List Value} {L : Nat → List Int} (h : Rb.Ro w v B vs L) {g : Nat → Prop} (hk : Kp g w w') (h1 : ∀ k, blks v k → ¬ g k) (h2 : ∀ j k, j < vs.length → blks (vs.getD j Go.Proofs.Ytejdlcahcimflaa.Rb.nilv) k → ¬ g k) : Rb.Ro w' v B vs L :=
  ⟨Rb.row_of_block h.row (fun k hv => hk.block k (h.lt.1 k hv) (h1 k hv)), h.vlow, fun j hj => Own.of_block (h.own j hj) (fun k hv => hk.block k (h.lt.2 j k hj hv) (h2 j k hj hv)), h.low, h.apart⟩
theorem ro_el {w : World} {a : Option Addr} {m c B : Nat} {vs : List Value} {L : Nat → List Int} (h : Rb.Ro w (.slice a m c) B vs L) {j : Nat} (hj : j < vs.length) : ∃ g aj cj, a = some ⟨g, 0, none⟩ ∧ w.cell? ⟨g, j, none⟩ = some (.slice aj (L j).length cj) ∧ vs.getD j Go.Proofs.Ytejdlcahcimflaa.Rb.nilv = .slice aj (L j).length cj := by
  rcases h.row.2 with ⟨_, h0⟩ | ⟨g, cap, cur, e, _, hg, _⟩
  · omega
  · obtain ⟨aj, cj, ej⟩ := el_shape (h.own j hj)
    have ea : a = some ⟨g, 0, none⟩ := by simp at e; exact e.1
    subst ea
    refine ⟨g, aj, cj, rfl, ?_, ej⟩
    have hr := h.row
    rw [e] at hr
    have := World.ownsRow.cells hr (g := g) rfl j (.slice aj (L j).length cj) (by rw [← ej, List.getD_eq_getElem?_getD, List.getElem?_eq_getElem hj]; rfl)
    rwa [Addr.add_lit, Nat.zero_add] at this
theorem kp_on {g g2 : Nat → Prop} {a b c : World} (h : Kp g a b) (k : Kp g2 b c) (hg : ∀ i, g2 i → g i ∨ a.heap.size ≤ i) : Kp g a c :=
  ⟨k.os.trans h.os, k.tape.trans h.tape, k.output.trans h.output, Nat.le_trans h.size k.size, fun i hi hn => (k.block i (Nat.lt_of_lt_of_le hi h.size) (fun h2 => (hg i h2).elim hn (fun h3 => by omega))).trans (h.block i hi hn)⟩
/-- what a book is behind rows that were put into it. -/
def RowsOut (q : Nat) (f : Nat → Value) (n0 : Nat) (A0 : Nat → Option Addr) (n9 : Nat) (A9 : Nat → Option Addr) (C9 : Nat → Nat) (Z9 : Nat → List Value) (a : Option Addr) (m c : Nat) (vs : List Value) (w w' : World) : Prop :=
  ∃ f' A0' C0' Z0', Bb w' q f' (n0 + m) A0' C0' Z0' (n9 + 1) (putf A9 n9 a) (putf C9 n9 c) (putf Z9 n9 vs) ∧
      (∀ k, rft (n0 + m) A0' k → rft n0 A0 k ∨ ∃ j, j < m ∧ blks (vs.getD j Go.Proofs.Ytejdlcahcimflaa.Rb.nilv) k) ∧ Kp (fun k => k = q ∨ blks (f 0) k ∨ blks (f 9) k) w w' ∧ (∀ k, blks (f' 0) k → blks (f 0) k ∨ w.heap.size ≤ k) ∧ (∀ k, blks (f' 9) k → blks (f 9) k ∨ w.heap.size ≤ k)
set_option maxHeartbeats 3200000 in
set_option maxRecDepth 1000000 in
theorem bookRows_any (q : Nat) (f : Nat → Value) (n0 : Nat) (A0 : Nat → Option Addr) (C0 : Nat → Nat) (Z0 : Nat → List Int) (n9 : Nat) (A9 : Nat → Option Addr) (C9 : Nat → Nat) (Z9 : Nat → List Value) (w : World) (hb : Bb w q f n0 A0 C0 Z0 n9 A9 C9 Z9)
    (a : Option Addr) (m c : Nat) (vs : List Value) (hm : vs.length = m) (hm9 : m ≤ 1000) (hn0 : n0 ≤ 1000) (hn9 : n9 ≤ 1000) (L : Nat → List Int) (B : Nat) (hr : Rb.Ro w (.slice a m c) B vs L) (hL : ∀ j, j < m → (L j).length ≤ 1000000)
    (h1 : ∀ k, blks (.slice a m c) k → ¬ blks (f 0) k) (h2 : ∀ k, blks (.slice a m c) k → ¬ rft n9 A9 k) (h3 : ∀ j k, j < m → blks (vs.getD j Go.Proofs.Ytejdlcahcimflaa.Rb.nilv) k → ¬ rft n0 A0 k) :
    Calls Try.prog 11 #[.pointer (some ⟨q, 0, none⟩), .slice a m c] w fun r w' => r = .returned (.tuple #[]) ∧ RowsOut q f n0 A0 n9 A9 C9 Z9 a m c vs w w' := by
  subst hm
  obtain ⟨i0, hi, hz0, hz1, hz2⟩ := info_parts infoRows_l
  have HB := hide hb
  have HR := hide hr
  have HLl := hide hL
  have H1 := hide h1
  have H2 := hide h2
  have H3 := hide h3
  have c9 := hb.bk.c 9 (by omega)
  have HULL := hide (show Try.prog.underlying 44 = some (.slice 25) by kernel_rfl)
  have hlen : ((List.range n9).map fun i => rv (A9 i) (C9 i) (Z9 i)).length = n9 := by simp
  have HL : Hid (w.ownsRow 0 25 1 (f 9) ((List.range n9).map fun i => rv (A9 i) (C9 i) (Z9 i)).length ((List.range n9).map fun i => rv (A9 i) (C9 i) (Z9 i))) := by rw [hlen]; exact hb.row.list
  have HSz : Hid ((((List.range n9).map fun i => rv (A9 i) (C9 i) (Z9 i)).length + 1) * i0.bytes ≤ 140737488355328) := by rw [hlen, hz2]; show _ ≤ _; omega
  have HSz2 : Hid (((List.range n9).map fun i => rv (A9 i) (C9 i) (Z9 i)).length + 1 ≤ 140737488355328) := by rw [hlen]; show _ ≤ _; omega
  have HL1 := hide (list_of_block HL.out (w' := w.alloc (.cells #[.slice a vs.length c] 25)) (fun k hk => Below.heap_alloc w _ k (list_lt HL.out k hk)))
  have HS := hide (src_laid (P := Try.prog) w (.slice a vs.length c) HULL.out rfl)
  clear hlen hb hr hL h1 h2 h3
  go_enter Try.func11, Try.ntmps11
  go_wp2_with (at_builtin; refine wpList_append_one (by rfl) _ _ 44 44 25 (by rfl) i0 (.slice none 0 0) HULL.out hi hz0 hz1 rfl (f 9) _ (by rfl) HL1.out _ 1 [.slice a vs.length c] (by rfl) HS.out HSz.out HSz2.out ?_; intro v' w1 hown1 hg1 hf1 hfull; obtain ⟨x3, n3, c3, rfl, HN3⟩ := list_shape hown1; have HO1 := hide hown1; have HG1 := hide hg1; have HF1 := hide hf1; have hb1 : Bk w1 q f := ((hg1.block q (by have := HB.out.bk.lt; simp; omega) (fun e => book_ne HB.out.bk HL.out (by decide) e.symm)).trans (Below.heap_alloc w _ q HB.out.bk.lt)).trans HB.out.bk; have c1 := hb1.c 9 (by omega); have f1 := hb1.f 9; have HB1 := hide hb1; clear hown1 hg1 hf1 hfull hb1)
  have hkp : Kp (fun k => k = q ∨ blks (f 9) k) w (w1.setCell ⟨q, 9, none⟩ (.slice x3 n3 c3)) :=
    ((Kp.of_below (below_alloc w _)).trans (Kp.grown HG1.out (fun k hk => .inr hk))).trans (Kp.grown (grown_setCell w1 q 9 (.slice x3 n3 c3)) (fun k hk => .inl (by cases hk; rfl)))
  have hrb : ∀ k, blks (.slice a vs.length c) k ↔ ∃ ad, a = some ad ∧ ad.block = k := fun k => blks_slice _ _ _ k
  have hx9 : ∀ k, blks (.slice x3 n3 c3) k → blks (f 9) k ∨ w.heap.size ≤ k := fun k hk => by
    rcases HF1.out k hk with h | h
    · exact .inl h
    · exact .inr (Nat.le_trans (below_alloc w (.cells #[.slice a vs.length c] 25)).size h)
  have HE2 : Hid (Bb (w1.setCell ⟨q, 9, none⟩ (.slice x3 n3 c3)) q (putf f 9 (.slice x3 n3 c3)) n0 A0 C0 Z0 (n9 + 1) (putf A9 n9 a) (putf C9 n9 c) (putf Z9 n9 vs)) := by
    refine ⟨HB1.out.set 9, fun j h0 h9 => by rw [putf_other _ _ _ _ h9]; exact HB.out.nl j h0 h9, ?_, ?_, ?_, HB.out.small⟩
    · rw [putf_other _ _ _ _ (by omega)]
      refine HB.out.byt.of_block fun k hk => hkp.block k (HB.out.byt.lt k hk) ?_
      rintro (rfl | h9)
      · rcases hk with hk | ⟨i, hi, hk⟩
        · exact book_ne HB.out.bk HB.out.byt.list (by decide) hk
        · exact book_ne HB.out.bk (HB.out.byt.rows i hi) (by decide) ((Bo.blks_rv _ _ _ _).2 hk)
      · rcases hk with hk | ⟨i, hi, hk⟩
        · exact rows_ne HB.out.row.list HB.out.byt.list (by decide) k h9 hk
        · exact rows_ne HB.out.row.list (HB.out.byt.rows i hi) (by decide) k h9 ((Bo.blks_rv _ _ _ _).2 hk)
    · rw [putf_same]
      refine HB.out.row.more HR.out.row (fun k h h' => H2.out k h' h) (list_of_block HO1.out fun k hk => Below.heap_setCell _ _ _ _ (fun e => ?_)) (by decide) (fun k hk hv => ?_)
      · subst e
        exact book_ne HB1.out HO1.out (by decide) hk
      · by_cases e : k = q
        · subst e; exact .inr ⟨k, rfl, f, HB.out.bk⟩
        · exact .inl (hkp.block k hk (fun h => h.elim e hv))
    · intro k hk hf
      rw [putf_other _ _ _ _ (by omega)] at hk
      rcases rft_putf _ _ _ _ hf with h | h
      · exact HB.out.ap k hk h
      · exact H1.out k ((hrb k).2 h) hk
  have HRo2 : Hid (Rb.Ro (w1.setCell ⟨q, 9, none⟩ (.slice x3 n3 c3)) (.slice a vs.length c) B vs L) := by
    refine ro_keep HR.out hkp ?_ ?_
    · rintro k hk (rfl | h9)
      · exact book_ne HB.out.bk HR.out.row (by decide) hk
      · exact rows_ne HB.out.row.list HR.out.row (by decide) k h9 hk
    · rintro j k hj hk (rfl | h9)
      · exact book_ne HB.out.bk (HR.out.own j hj) (by decide) hk
      · exact rows_ne HB.out.row.list (HR.out.own j hj) (by decide) k h9 hk
  have HK2 : Hid (Kp (fun k => k = q ∨ blks (f 0) k ∨ blks (f 9) k) w (w1.setCell ⟨q, 9, none⟩ (.slice x3 n3 c3))) := hkp.wider (fun k h _ => h.elim .inl (fun h => .inr (.inr h)))
  have HX9 := hide hx9
  clear hkp hx9 c9 c1 f1 HB1 HO1 HG1 HF1 HL1 HS HL
  generalize w1.setCell ⟨q, 9, none⟩ (.slice x3 n3 c3) = W2 at *
  go_loopw [4] (fun x wr => ∃ (j : Nat) (f' : Nat → Value) (A : Nat → Option Addr) (C : Nat → Nat) (Z : Nat → List Int), j ≤ vs.length ∧ x = .int .i64 (j : Int) ∧ f' 9 = .slice x3 n3 c3 ∧ Bb wr q f' (n0 + j) A C Z (n9 + 1) (putf A9 n9 a) (putf C9 n9 c) (putf Z9 n9 vs) ∧ Rb.Ro wr (.slice a vs.length c) B vs L ∧
      (∀ k, rft (n0 + j) A k → rft n0 A0 k ∨ ∃ i, i < j ∧ blks (vs.getD i Go.Proofs.Ytejdlcahcimflaa.Rb.nilv) k) ∧ Kp (fun k => k = q ∨ blks (f 0) k ∨ blks (f 9) k) w wr ∧ (∀ k, blks (f' 0) k → blks (f 0) k ∨ w.heap.size ≤ k)) (fun x _ => vs.length - (intOf x).toNat)
  case atStart => exact ⟨0, _, A0, C0, Z0, Nat.zero_le _, rfl, putf_same _ _ _, HE2.out, HRo2.out, fun k hk => .inl hk, HK2.out, fun k hk => .inl (by rw [putf_other _ _ _ _ (by omega)] at hk; exact hk)⟩
  case round =>
    obtain ⟨j, f', A, C, Z, hj, rfl, hf9, hB, hRo, hrf, hK, hf0⟩ := hrel
    have HBj := hide hB
    have HRj := hide hRo
    have HRf := hide hrf
    have HKj := hide hK
    have HF0 := hide hf0
    have HF9 := hide hf9
    clear hB hRo hrf hK hf0 hf9 HE2 HRo2 HK2
    by_cases hlt : j < vs.length
    · obtain ⟨g, aj, cj, rfl, hcell, hel⟩ := ro_el HRj.out hlt
      have hob := HRj.out.own j hlt
      rw [hel] at hob
      have HBy := hide (bookBytes_any q f' (f' 0) rfl (n0 + j) A C Z aj cj (L j) (L j).length rfl wr HBj.out.bk HBj.out.byt hob (fun k hk hh => by
        have hbj : blks (vs.getD j Go.Proofs.Ytejdlcahcimflaa.Rb.nilv) k := by rw [hel]; exact (blks_slice _ _ _ k).2 hh
        rcases HRf.out k hk with h | ⟨i, hi, h⟩
        · exact H3.out j k hlt hbj h
        · exact HRj.out.apart i j k (by omega) hlt (by omega) h hbj) (by omega))
      have hLj := HLl.out j hlt
      have HLj := hide hLj
      have HEl := hide hel
      clear hel hob hLj
      have hlj : (j : Int) < (vs.length : Int) := by omega
      have hsm : vs.length ≤ 1000 := hm9
      go_wp2_with (go_at_call 28; refine HBy.out.mono ?_; rintro r w3 ⟨rfl, v', g1, g2, g3, g4⟩; have G1 := hide g1; have G2 := hide g2; have G3 := hide g3; have G4 := hide g4; clear g1 g2 g3 g4)
      have hbq : ∀ k, blks (f' 0) k → ¬ rft (n9 + 1) (putf A9 n9 (some ⟨g, 0, none⟩)) k := HBj.out.ap
      have hgr : ∀ k, (k = q ∨ blks (f' 0) k) → ¬ rft (n9 + 1) (putf A9 n9 (some ⟨g, 0, none⟩)) k := by
        rintro k (rfl | h0) hr
        · obtain ⟨i, hi, hh⟩ := hr
          exact book_ne HBj.out.bk (HBj.out.row.rows i hi) (by decide) ((blks_rv _ _ _ _).2 hh)
        · exact hbq k h0 hr
      have HE3 : Hid (Bb w3 q (putf f' 0 v') (n0 + (j + 1)) (putf A (n0 + j) aj) (putf C (n0 + j) cj) (putf Z (n0 + j) (L j)) (n9 + 1) (putf A9 n9 (some ⟨g, 0, none⟩)) (putf C9 n9 c) (putf Z9 n9 vs)) := by
        refine ⟨G1.out, fun i h0 h9 => by rw [putf_other _ _ _ _ h0]; exact HBj.out.nl i h0 h9, by rw [putf_same]; exact G2.out, ?_, ?_, ?_⟩
        · rw [putf_other _ _ _ _ (by omega)]
          refine fv_keep HBj.out.row G3.out hgr ?_
          rintro k (rfl | h0) h9
          · exact book_ne HBj.out.bk HBj.out.row.list (by decide) h9
          · exact rows_ne HBj.out.row.list HBj.out.byt.list (by decide) k h9 h0
        · intro k hk hr
          rw [putf_same] at hk
          rcases G4.out k hk with h | h
          · exact hbq k h hr
          · have := rf_lt HBj.out.row hr
            omega
        · intro i hi
          by_cases e : i = n0 + j
          · subst e; rw [putf_same]; exact HLj.out
          · rw [putf_other _ _ _ _ e]; exact HBj.out.small i (by omega)
      have HRo3 : Hid (Rb.Ro w3 (.slice (some ⟨g, 0, none⟩) vs.length c) B vs L) := by
        refine ro_keep HRj.out G3.out ?_ ?_
        · rintro k hk hg
          refine hgr k hg ⟨n9, by omega, ?_⟩
          rw [putf_same]
          exact (blks_slice _ _ _ k).1 hk
        · rintro i k hi hk (rfl | h0)
          · exact book_ne HBj.out.bk (HRj.out.own i hi) (by decide) hk
          · exact rows_ne HBj.out.byt.list (HRj.out.own i hi) (by decide) k h0 hk
      go_roundw
      case rel =>
        refine ⟨j + 1, _, _, _, _, by omega, by go_num, by rw [putf_other _ _ _ _ (by omega)]; exact HF9.out, HE3.out, HRo3.out, fun k hk => ?_, kp_on HKj.out G3.out (fun k h => ?_), fun k hk => ?_⟩
        · rcases rft_putf _ _ _ _ hk with h | h
          · rcases HRf.out k h with h | ⟨i, hi, h⟩
            · exact .inl h
            · exact .inr ⟨i, by omega, h⟩
          · exact .inr ⟨j, by omega, by rw [HEl.out]; exact (blks_slice _ _ _ k).2 h⟩
        · rcases h with h | h
          · exact .inl (.inl h)
          · rcases HF0.out k h with h | h
            · exact .inl (.inr (.inl h))
            · exact .inr h
        · rw [putf_same] at hk
          rcases G4.out k hk with h | h
          · exact HF0.out k h
          · exact .inr (Nat.le_trans HKj.out.size h)
      case measure => simp [intOf]; omega
    · obtain rfl : j = vs.length := by omega
      have hlj : ¬ (vs.length : Int) < (vs.length : Int) := by omega
      go_wp2
      go_end0
      exact ⟨rfl, f', A, C, Z, HBj.out, HRf.out, HKj.out, HF0.out, fun k hk => by rw [HF9.out] at hk; exact HX9.out k hk⟩
end Go.Proofs.Ytejdlcahcimflaa.Bv
