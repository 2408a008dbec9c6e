/- Entries are put into a book, with the rows of bytes in them. -/
import Derived.Test.YtjojpohnmfkanaaEC
import Derived.Test.YtjojpohnmfkanaaGG
namespace Go.Proofs.Ytjojpohnmfkanaa.Be
open Go.RowKit Go.Proofs.Ytjojpohnmfkanaa.Bo
set_option linter.unusedVariables false

/-- a book of rows of bytes and of rows of entries. -/
structure Bb (w : World) (q : Nat) (f : Nat → Value) (n0 : Nat) (A0 : Nat → Option Addr) (C0 : Nat → Nat) (Z0 : Nat → List Int) (n9 : Nat) (A9 : Nat → Option Addr) (C9 : Nat → Nat) (Z9 : Nat → List Q4) : Prop where
  bk : Bk w q f
  nl : ∀ j, j ≠ 0 → j ≠ 16 → f j = .slice none 0 0
  byt : Fam .u8 5 22 w (f 0) n0 A0 C0 Z0
  row : Fe 23 w (f 16) n9 A9 C9 Z9
  small : ∀ i, i < n0 → (Z0 i).length ≤ 1000000
theorem rf_lt {w : World} {v : Value} {n : Nat} {A : Nat → Option Addr} {C : Nat → Nat} {Z : Nat → List Q4} (h : Fe 23 w v n A C Z) {k : Nat} (hk : rft n A k) : k < w.heap.size := h.lt k (.inr hk)
theorem fe_keep {w w' : World} {v : Value} {n : Nat} {A : Nat → Option Addr} {C : Nat → Nat} {Z : Nat → List Q4} (h : Fe 23 w v n A C Z) {g : Nat → Prop} (hk : Kp g w w') (h1 : ∀ k, g k → ¬ rft n A k) (h2 : ∀ k, g k → ¬ blks v k) : Fe 23 w' v n A C Z :=
  h.of_block fun k hk' => hk.block k (h.lt k hk') (fun hg => hk'.elim (h2 k hg) (h1 k hg))
theorem kp_on {g g2 : Nat → Prop} {a b c : World} (h : Kp g a b) (k : Kp g2 b c) (hg : ∀ i, g2 i → g i ∨ a.heap.size ≤ i) : Kp g a c :=
  ⟨k.os.trans h.os, k.tape.trans h.tape, k.output.trans h.output, Nat.le_trans h.size k.size, fun i hi hn => (k.block i (Nat.lt_of_lt_of_le hi h.size) (fun h2 => (hg i h2).elim hn (fun h3 => by omega))).trans (h.block i hi hn)⟩
/-- an entry's cells. -/
def q4s (ys : List En) : List Q4 := ys.map fun y => ⟨.slice y.ka y.e.key.length y.kc, .slice y.va y.e.val.length y.vc, .int .u32 (y.e.page : Int), .int .u32 (y.e.size : Int)⟩
theorem q4s_len (ys : List En) : (q4s ys).length = ys.length := by simp [q4s]
theorem rw4_q4s (ys : List En) : rw4 (q4s ys) = rowc ys := by
  induction ys with
  | nil => rfl
  | cons y ys ih => simp only [q4s, rw4, rowc, List.map_cons, List.flatMap_cons] at ih ⊢; rw [ih]; rfl
theorem owns_low {w : World} {B e s : Nat} {v : Value} {n : Nat} {xs : List Value} (h : w.ownsRow B e s v n xs) : w.ownsRow 0 e s v n xs := by
  refine ⟨h.1, ?_⟩
  rcases h.2 with h2 | ⟨g, cap, cur, e1, hb, r⟩
  · exact .inl h2
  · exact .inr ⟨g, cap, cur, e1, Nat.zero_le _, r⟩
theorem cl_own {B : Nat} {w : World} {v : Value} {ys : List En} (h : Cl B w v ys) : OwnE w v (q4s ys) := by
  unfold OwnE
  rw [q4s_len, rw4_q4s]
  exact owns_low h.row
theorem cl_keep {B : Nat} {w w' : World} {v : Value} {ys : List En} (h : Cl B w v ys) {g : Nat → Prop} (hk : Kp g w w') (h1 : ∀ k, blks v k → ¬ g k) (h2 : ∀ y ∈ ys, ∀ k, y.has k → ¬ g k) : Cl B w' v ys :=
  h.of_block (fun k hv => hk.block k ((h.block hv).2.1) (h1 k hv)) (fun y hy k hv => hk.block k ((h.each y hy).lt hv) (h2 y hy k hv))
/-- what a book is behind entries that were put into it. -/
def EntOut (q : Nat) (f : Nat → Value) (n0 : Nat) (A0 : Nat → Option Addr) (n9 : Nat) (A9 : Nat → Option Addr) (C9 : Nat → Nat) (Z9 : Nat → List Q4) (a : Option Addr) (m c : Nat) (ys : List En) (w w' : World) : Prop :=
  ∃ f' A0' C0' Z0', Bb w' q f' (n0 + 2 * m) A0' C0' Z0' (n9 + 1) (putf A9 n9 a) (putf C9 n9 c) (putf Z9 n9 (q4s ys)) ∧
      (∀ k, rft (n0 + 2 * m) A0' k → rft n0 A0 k ∨ ∃ y, y ∈ ys ∧ y.has k) ∧ Kp (fun k => k = q ∨ blks (f 0) k ∨ blks (f 16) k) w w' ∧ (∀ k, blks (f' 0) k → blks (f 0) k ∨ w.heap.size ≤ k) ∧ (∀ k, blks (f' 16) k → blks (f 16) k ∨ w.heap.size ≤ k)
theorem has_key {y : En} {k : Nat} (h : ∃ ad, y.ka = some ad ∧ ad.block = k) : y.has k := .inl ((blks_slice _ _ _ k).2 h)
theorem has_val {y : En} {k : Nat} (h : ∃ ad, y.va = some ad ∧ ad.block = k) : y.has k := .inr ((blks_slice _ _ _ k).2 h)
theorem bb_bytes {w w3 : World} {q : Nat} {f : Nat → Value} {n0 : Nat} {A0 : Nat → Option Addr} {C0 : Nat → Nat} {Z0 : Nat → List Int} {n9 : Nat} {A9 : Nat → Option Addr} {C9 : Nat → Nat} {Z9 : Nat → List Q4} {v' : Value} {a : Option Addr} {c : Nat} {zs : List Int} (hB : Bb w q f n0 A0 C0 Z0 n9 A9 C9 Z9)
    (g1 : Bk w3 q (putf f 0 v')) (g2 : Fam .u8 5 22 w3 v' (n0 + 1) (putf A0 n0 a) (putf C0 n0 c) (putf Z0 n0 zs)) (g3 : Kp (fun k => k = q ∨ blks (f 0) k) w w3) (hz : zs.length ≤ 1000000) :
    Bb w3 q (putf f 0 v') (n0 + 1) (putf A0 n0 a) (putf C0 n0 c) (putf Z0 n0 zs) n9 A9 C9 Z9 := by
  refine ⟨g1, fun i h0 h9 => by rw [putf_other _ _ _ _ h0]; exact hB.nl i h0 h9, by rw [putf_same]; exact g2, ?_, ?_⟩
  · rw [putf_other _ _ _ _ (by omega)]
    refine fe_keep hB.row g3 ?_ ?_
    · rintro k (rfl | h0) ⟨i, hi, hh⟩
      · exact book_ne hB.bk (hB.row.rows i hi) (by decide) ((blks_rv _ _ _ _).2 hh)
      · exact rows_ne hB.byt.list (hB.row.rows i hi) (by decide) k h0 ((blks_rv _ _ _ _).2 hh)
    · rintro k (rfl | h0) h9
      · exact book_ne hB.bk hB.row.list (by decide) h9
      · exact rows_ne hB.row.list hB.byt.list (by decide) k h9 h0
  · intro i hi
    by_cases e : i = n0
    · subst e; rw [putf_same]; exact hz
    · rw [putf_other _ _ _ _ e]; exact hB.small i (by omega)
theorem cl_bytes {w w3 : World} {q B : Nat} {f : Nat → Value} {n0 : Nat} {A0 : Nat → Option Addr} {C0 : Nat → Nat} {Z0 : Nat → List Int} {n9 : Nat} {A9 : Nat → Option Addr} {C9 : Nat → Nat} {Z9 : Nat → List Q4} {v : Value} {ys : List En} (hB : Bb w q f n0 A0 C0 Z0 n9 A9 C9 Z9) (h : Cl B w v ys) (g3 : Kp (fun k => k = q ∨ blks (f 0) k) w w3) : Cl B w3 v ys := by
  refine cl_keep h g3 ?_ ?_
  · rintro k hk (rfl | h0)
    · exact book_ne hB.bk (owns_low h.row) (by decide) hk
    · exact rows_ne hB.byt.list (owns_low h.row) (by decide) k h0 hk
  · rintro y hy k hk (rfl | h0)
    · rcases hk with hk | hk
      · exact book_ne hB.bk (h.each y hy).key (by decide) hk
      · exact book_ne hB.bk (h.each y hy).val (by decide) hk
    · rcases hk with hk | hk
      · exact rows_ne hB.byt.list (h.each y hy).key (by decide) k h0 hk
      · exact rows_ne hB.byt.list (h.each y hy).val (by decide) k h0 hk
theorem cl_cells {B : Nat} {w : World} {a : Option Addr} {m c : Nat} {ys : List En} (h : Cl B w (.slice a m c) ys) {j : Nat} {y : En} (hj : ys[j]? = some y) : ∃ g, a = some ⟨g, 0, none⟩ ∧ w.cell? ⟨g, j * 4, none⟩ = some (.slice y.ka y.e.key.length y.kc) ∧ w.cell? ⟨g, j * 4 + 1, none⟩ = some (.slice y.va y.e.val.length y.vc) := by
  rcases h.row.2 with ⟨_, h0⟩ | ⟨g, cap, cur, e, _, hg, _⟩
  · have := (List.getElem?_eq_some_iff.1 hj).1
    omega
  · have ea : a = some ⟨g, 0, none⟩ := by simp at e; exact e.1
    subst ea
    have hr := h.row
    rw [e] at hr
    refine ⟨g, rfl, ?_, ?_⟩
    · have := hr.cells (g := g) rfl (j * 4 + 0) _ (rowc_at hj (j := 0) rfl)
      rwa [Addr.add_lit, Nat.zero_add] at this
    · have := hr.cells (g := g) rfl (j * 4 + 1) _ (rowc_at hj (j := 1) rfl)
      rwa [Addr.add_lit, Nat.zero_add] at this
set_option maxHeartbeats 3200000 in
set_option maxRecDepth 1000000 in
theorem bookEntries_any (q : Nat) (f : Nat → Value) (n0 : Nat) (A0 : Nat → Option Addr) (C0 : Nat → Nat) (Z0 : Nat → List Int) (n9 : Nat) (A9 : Nat → Option Addr) (C9 : Nat → Nat) (Z9 : Nat → List Q4) (w : World) (hb : Bb w q f n0 A0 C0 Z0 n9 A9 C9 Z9)
    (a : Option Addr) (m c : Nat) (ys : List En) (hm : ys.length = m) (hm9 : m ≤ 1000000) (hn0 : n0 ≤ 100000000) (hn9 : n9 ≤ 1000) (B : Nat) (hr : Cl B w (.slice a m c) ys) (hL : ∀ y ∈ ys, y.e.key.length ≤ 1000000 ∧ y.e.val.length ≤ 1000000)
    (h2 : ∀ k, blks (.slice a m c) k → ¬ rft n9 A9 k) (h3 : ∀ y ∈ ys, ∀ k, y.has k → ¬ rft n0 A0 k) :
    Calls Try.prog 10 #[.pointer (some ⟨q, 0, none⟩), .slice a m c] w fun r w' => r = .returned (.tuple #[]) ∧ EntOut q f n0 A0 n9 A9 C9 Z9 a m c ys w w' := by
  obtain ⟨i0, hi, hz0, hz1, hz2⟩ := info_parts infoEnt_l
  have HB := hide hb
  have HR := hide hr
  have HLl := hide hL
  have H2 := hide h2
  have H3 := hide h3
  have HYL := hide hm
  have c9 := hb.bk.c 16 (by omega)
  have HULL := hide (show Try.prog.underlying 51 = some (.slice 23) by kernel_rfl)
  have hlen : ((List.range n9).map fun i => rv (A9 i) (C9 i) (Z9 i)).length = n9 := by simp
  have HL : Hid (w.ownsRow 0 23 1 (f 16) ((List.range n9).map fun i => rv (A9 i) (C9 i) (Z9 i)).length ((List.range n9).map fun i => rv (A9 i) (C9 i) (Z9 i))) := by rw [hlen]; exact hb.row.list
  have HSz : Hid ((((List.range n9).map fun i => rv (A9 i) (C9 i) (Z9 i)).length + 1) * i0.bytes ≤ 140737488355328) := by rw [hlen, hz2]; show _ ≤ _; omega
  have HSz2 : Hid (((List.range n9).map fun i => rv (A9 i) (C9 i) (Z9 i)).length + 1 ≤ 140737488355328) := by rw [hlen]; show _ ≤ _; omega
  have HL1 := hide (list_of_block HL.out (w' := w.alloc (.cells #[.slice a m c] 23)) (fun k hk => Below.heap_alloc w _ k (list_lt HL.out k hk)))
  have HS := hide (src_laid (P := Try.prog) w (.slice a m c) HULL.out rfl)
  have HQ : Hid (rv a c (q4s ys) = .slice a m c) := by unfold rv; rw [q4s_len, hm]; rfl
  clear hlen hb hr hL h2 h3 hm
  go_enter Try.func10, Try.ntmps10
  go_wp2_with (at_builtin; refine wpList_append_one (by rfl) _ _ 51 51 23 (by rfl) i0 (.slice none 0 0) HULL.out hi hz0 hz1 rfl (f 16) _ (by rfl) HL1.out _ 1 [.slice a m c] (by rfl) HS.out HSz.out HSz2.out ?_; intro v' w1 hown1 hg1 hf1 hfull; obtain ⟨x3, n3, c3, rfl, HN3⟩ := list_shape hown1; have HO1 := hide hown1; have HG1 := hide hg1; have HF1 := hide hf1; have hb1 : Bk w1 q f := ((hg1.block q (by have := HB.out.bk.lt; simp; omega) (fun e => book_ne HB.out.bk HL.out (by decide) e.symm)).trans (Below.heap_alloc w _ q HB.out.bk.lt)).trans HB.out.bk; have c1 := hb1.c 16 (by omega); have f1 := hb1.f 16; have HB1 := hide hb1; clear hown1 hg1 hf1 hfull hb1)
  have hkp : Kp (fun k => k = q ∨ blks (f 16) k) w (w1.setCell ⟨q, 16, none⟩ (.slice x3 n3 c3)) :=
    ((Kp.of_below (below_alloc w _)).trans (Kp.grown HG1.out (fun k hk => .inr hk))).trans (Kp.grown (grown_setCell w1 q 16 (.slice x3 n3 c3)) (fun k hk => .inl (by cases hk; rfl)))
  have hx9 : ∀ k, blks (.slice x3 n3 c3) k → blks (f 16) k ∨ w.heap.size ≤ k := fun k hk => by
    rcases HF1.out k hk with h | h
    · exact .inl h
    · exact .inr (Nat.le_trans (below_alloc w (.cells #[.slice a m c] 23)).size h)
  have HE2 : Hid (Bb (w1.setCell ⟨q, 16, none⟩ (.slice x3 n3 c3)) q (putf f 16 (.slice x3 n3 c3)) n0 A0 C0 Z0 (n9 + 1) (putf A9 n9 a) (putf C9 n9 c) (putf Z9 n9 (q4s ys))) := by
    refine ⟨HB1.out.set 16, fun j h0 h9 => by rw [putf_other _ _ _ _ h9]; exact HB.out.nl j h0 h9, ?_, ?_, HB.out.small⟩
    · rw [putf_other _ _ _ _ (by omega)]
      refine HB.out.byt.of_block fun k hk => hkp.block k (HB.out.byt.lt k hk) ?_
      rintro (rfl | h9)
      · rcases hk with hk | ⟨i, hi, hk⟩
        · exact book_ne HB.out.bk HB.out.byt.list (by decide) hk
        · exact book_ne HB.out.bk (HB.out.byt.rows i hi) (by decide) ((Bo.blks_rv _ _ _ _).2 hk)
      · rcases hk with hk | ⟨i, hi, hk⟩
        · exact rows_ne HB.out.row.list HB.out.byt.list (by decide) k h9 hk
        · exact rows_ne HB.out.row.list (HB.out.byt.rows i hi) (by decide) k h9 ((Bo.blks_rv _ _ _ _).2 hk)
    · rw [putf_same]
      have ho := cl_own HR.out
      rw [← HQ.out] at ho
      refine HB.out.row.more ho (fun k h h' => H2.out k (by rw [← HQ.out]; exact h') h) (list_of_block (by have := HO1.out; rw [HQ.out]; exact this) fun k hk => Below.heap_setCell _ _ _ _ (fun e => ?_)) (by decide) (fun k hk hv => ?_)
      · subst e
        exact book_ne HB1.out HO1.out (by decide) hk
      · by_cases e : k = q
        · subst e; exact .inr ⟨k, rfl, f, HB.out.bk⟩
        · exact .inl (hkp.block k hk (fun h => h.elim e hv))
  have HRo2 : Hid (Cl B (w1.setCell ⟨q, 16, none⟩ (.slice x3 n3 c3)) (.slice a m c) ys) := by
    refine cl_keep HR.out hkp ?_ ?_
    · rintro k hk (rfl | h9)
      · exact book_ne HB.out.bk (owns_low HR.out.row) (by decide) hk
      · exact rows_ne HB.out.row.list (owns_low HR.out.row) (by decide) k h9 hk
    · rintro y hy k hk (rfl | h9)
      · rcases hk with hk | hk
        · exact book_ne HB.out.bk (HR.out.each y hy).key (by decide) hk
        · exact book_ne HB.out.bk (HR.out.each y hy).val (by decide) hk
      · rcases hk with hk | hk
        · exact rows_ne HB.out.row.list (HR.out.each y hy).key (by decide) k h9 hk
        · exact rows_ne HB.out.row.list (HR.out.each y hy).val (by decide) k h9 hk
  have HK2 : Hid (Kp (fun k => k = q ∨ blks (f 0) k ∨ blks (f 16) k) w (w1.setCell ⟨q, 16, none⟩ (.slice x3 n3 c3))) := hkp.wider (fun k h _ => h.elim .inl (fun h => .inr (.inr h)))
  have HX9 := hide hx9
  clear hkp hx9 c9 c1 f1 HB1 HO1 HG1 HF1 HL1 HS HL
  generalize w1.setCell ⟨q, 16, none⟩ (.slice x3 n3 c3) = W2 at *
  go_loopw [4] (fun x wr => ∃ (j : Nat) (f' : Nat → Value) (A : Nat → Option Addr) (C : Nat → Nat) (Z : Nat → List Int), j ≤ m ∧ x = .int .i64 (j : Int) ∧ f' 16 = .slice x3 n3 c3 ∧ Bb wr q f' (n0 + 2 * j) A C Z (n9 + 1) (putf A9 n9 a) (putf C9 n9 c) (putf Z9 n9 (q4s ys)) ∧ Cl B wr (.slice a m c) ys ∧
      (∀ k, rft (n0 + 2 * j) A k → rft n0 A0 k ∨ ∃ i y, i < j ∧ ys[i]? = some y ∧ y.has k) ∧ Kp (fun k => k = q ∨ blks (f 0) k ∨ blks (f 16) k) w wr ∧ (∀ k, blks (f' 0) k → blks (f 0) k ∨ w.heap.size ≤ k)) (fun x _ => m - (intOf x).toNat)
  case atStart => exact ⟨0, _, A0, C0, Z0, Nat.zero_le _, rfl, putf_same _ _ _, HE2.out, HRo2.out, fun k hk => .inl hk, HK2.out, fun k hk => .inl (by rw [putf_other _ _ _ _ (by omega)] at hk; exact hk)⟩
  case round =>
    obtain ⟨j, f', A, C, Z, hj, rfl, hf9, hB, hRo, hrf, hK, hf0⟩ := hrel
    have HBj := hide hB
    have HRj := hide hRo
    have HRf := hide hrf
    have HKj := hide hK
    have HF0 := hide hf0
    have HF9 := hide hf9
    clear hB hRo hrf hK hf0 hf9 HE2 HRo2 HK2
    by_cases hlt : j < m
    · obtain ⟨y, hy⟩ : ∃ y, ys[j]? = some y := ⟨_, List.getElem?_eq_getElem (by rw [HYL.out]; exact hlt)⟩
      have hmem := List.mem_of_getElem? hy
      have HY := hide hy
      have HMem := hide hmem
      obtain ⟨g, rfl, hc0, hc1⟩ := cl_cells HRj.out hy
      have hlk := HLl.out y hmem
      have HLk := hide hlk
      have HBy := hide (bookBytes_any q f' (f' 0) rfl (n0 + 2 * j) A C Z y.ka y.kc y.e.key y.e.key.length rfl wr HBj.out.bk HBj.out.byt (HRj.out.each y hmem).key (fun k hk hh => by
        rcases HRf.out k hk with h | ⟨i, yi, hi, hyi, h⟩
        · exact H3.out y HMem.out k (has_key hh) h
        · have := HRj.out.apart i j yi y k hyi HY.out h (has_key hh)
          omega) (by omega))
      have hlj : (j : Int) < (m : Int) := by omega
      have hsm : m ≤ 1000000 := hm9
      have M1 := hide trivial
      clear hy hmem hlk hc1
      go_wp2_with (first | (go_at_call 22; have hmk := M1; clear hmk M1; refine HBy.out.mono ?_; rintro r w3 ⟨rfl, v', g1, g2, g3, g4⟩; have HB3 := hide (bb_bytes HBj.out g1 g2 g3 HLk.out.1); have HC3 := hide (cl_bytes HBj.out HRj.out g3); have G3 := hide g3; have G4 := hide g4; clear g1 g2 g3 g4 hc0; obtain ⟨g', hg', -, hc1⟩ := cl_cells HC3.out HY.out; cases hg'; have HBz := hide (bookBytes_any q (putf f' 0 v') v' (putf_same _ _ _) (n0 + 2 * j + 1) _ _ _ y.va y.vc y.e.val y.e.val.length rfl w3 HB3.out.bk (by have := HB3.out.byt; rw [putf_same] at this; exact this) (HC3.out.each y HMem.out).val (fun k hk hh => by
        rcases rft_putf _ _ _ _ hk with hk | hk
        · rcases HRf.out k hk with h | ⟨i, yi, hi, hyi, h⟩
          · exact H3.out y HMem.out k (has_val hh) h
          · have := HRj.out.apart i j yi y k hyi HY.out h (has_val hh)
            omega
        · exact (HC3.out.each y HMem.out).ne k ((blks_slice _ _ _ k).2 hk) ((blks_slice _ _ _ k).2 hh)) (by omega)); have M2 := hide trivial) | (go_at_call 22; have hmk := M2; clear hmk M2; refine HBz.out.mono ?_; rintro r w4 ⟨rfl, v'', g1, g2, g3, g4⟩; have HB4 := hide (bb_bytes HB3.out g1 g2 (by rw [putf_same]; exact g3) HLk.out.2); have HC4 := hide (cl_bytes HB3.out HC3.out (by rw [putf_same]; exact g3)); have G5 := hide g3; have G6 := hide g4; clear g1 g2 g3 g4 hc1))
      go_roundw
      case rel =>
        refine ⟨j + 1, _, _, _, _, by omega, by go_num, by rw [putf_other _ _ _ _ (by omega), putf_other _ _ _ _ (by omega)]; exact HF9.out, HB4.out, HC4.out, fun k hk => ?_, kp_on (kp_on HKj.out G3.out (fun k h => ?_)) G5.out (fun k h => ?_), fun k hk => ?_⟩
        · rcases rft_putf _ _ _ _ hk with h | h
          · rcases rft_putf _ _ _ _ h with h | h
            · rcases HRf.out k h with h | ⟨i, yi, hi, hyi, h⟩
              · exact .inl h
              · exact .inr ⟨i, yi, by omega, hyi, h⟩
            · exact .inr ⟨j, y, by omega, HY.out, has_key h⟩
          · exact .inr ⟨j, y, by omega, HY.out, has_val h⟩
        · rcases h with h | h
          · exact .inl (.inl h)
          · rcases HF0.out k h with h | h
            · exact .inl (.inr (.inl h))
            · exact .inr h
        · rcases h with h | h
          · exact .inl (.inl h)
          · rcases G4.out k h with h | h
            · rcases HF0.out k h with h | h
              · exact .inl (.inr (.inl h))
              · exact .inr h
            · exact .inr (Nat.le_trans HKj.out.size h)
        · rw [putf_same] at hk
          rcases G6.out k hk with h | h
          · rcases G4.out k h with h | h
            · exact HF0.out k h
            · exact .inr (Nat.le_trans HKj.out.size h)
          · exact .inr (Nat.le_trans (Nat.le_trans HKj.out.size G3.out.size) h)
      case measure => simp [intOf]; omega
    · have hjm : j = m := by omega
      have HJM := hide hjm
      clear hjm
      have hlj : ¬ (j : Int) < (m : Int) := by omega
      go_wp2
      go_end0
      have e := HJM.out
      subst e
      refine ⟨rfl, f', A, C, Z, HBj.out, fun k hk => ?_, HKj.out, HF0.out, fun k hk => by rw [HF9.out] at hk; exact HX9.out k hk⟩
      rcases HRf.out k hk with h | ⟨i, yi, hi, hyi, h⟩
      · exact .inl h
      · exact .inr ⟨yi, List.mem_of_getElem? hyi, h⟩
end Go.Proofs.Ytjojpohnmfkanaa.Be
