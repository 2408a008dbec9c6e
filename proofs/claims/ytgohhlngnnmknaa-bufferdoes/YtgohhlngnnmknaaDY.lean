/- Changes are put into a book, with the rows of bytes in them. -/
import Derived.Test.YtgohhlngnnmknaaDX
namespace Go.Proofs.Ytgohhlngnnmknaa.BdC
open Go.RowKit Go.Maps Go.Proofs.Ytgohhlngnnmknaa.Bo Go.Proofs.Ytgohhlngnnmknaa.Bd
set_option linter.unusedVariables false

/-- an entry's cells. -/
def q4s (ys : List En) : List Bc.Q4 := ys.map fun y => ⟨.slice y.ka y.e.key.length y.kc, .slice y.va y.e.val.length y.vc, .bool y.e.del⟩
theorem q4s_len (ys : List En) : (q4s ys).length = ys.length := by simp [q4s]
theorem rw4_q4s (ys : List En) : Bc.rw4 (q4s ys) = rowc ys := by
  induction ys with
  | nil => rfl
  | cons y ys ih => simp only [q4s, Bc.rw4, rowc, List.map_cons, List.flatMap_cons] at ih ⊢; rw [ih]; rfl
theorem cl_own {B : Nat} {w : World} {v : Value} {ys : List En} (h : Cl B w v ys) : Bc.OwnE w v (q4s ys) := by
  unfold Bc.OwnE
  rw [q4s_len, rw4_q4s]
  exact owns_low h.row
theorem cl_keep {B : Nat} {w w' : World} {v : Value} {ys : List En} (h : Cl B w v ys) {g : Nat → Prop} (hk : Kp g w w') (h1 : ∀ k, blks v k → ¬ g k) (h2 : ∀ y ∈ ys, ∀ k, y.has k → ¬ g k) : Cl B w' v ys :=
  h.of_block (fun k hv => hk.block k ((h.block hv).2.1) (h1 k hv)) (fun y hy k hv => hk.block k ((h.each y hy).lt hv) (h2 y hy k hv))
/-- what a book is behind changes that were put into it. -/
def PutOut (q : Nat) (f : Nat → Value) (n0 : Nat) (A0 : Nat → Option Addr) (n1 : Nat) (A1 : Nat → Option Addr) (C1 : Nat → Nat) (Z1 : Nat → List Bp.Q4) (n2 : Nat) (A2 : Nat → Option Addr) (C2 : Nat → Nat) (Z2 : Nat → List Bc.Q4) (a : Option Addr) (m c : Nat) (ys : List En) (w w' : World) : Prop :=
  ∃ f' A0' C0' Z0', Bb w' q f' (n0 + 2 * m) A0' C0' Z0' n1 A1 C1 Z1 (n2 + 1) (putf A2 n2 a) (putf C2 n2 c) (putf Z2 n2 (q4s ys)) ∧
      (∀ k, rft (n0 + 2 * m) A0' k → rft n0 A0 k ∨ ∃ y, y ∈ ys ∧ y.has k) ∧ Kp (fun k => k = q ∨ blks (f 0) k ∨ blks (f 14) k) w w' ∧ (∀ k, blks (f' 0) k → blks (f 0) k ∨ w.heap.size ≤ k) ∧ (∀ k, blks (f' 14) k → blks (f 14) k ∨ w.heap.size ≤ k) ∧ f' 13 = f 13
theorem cl_bytes {w w3 : World} {q B : Nat} {f : Nat → Value} {n0 : Nat} {A0 : Nat → Option Addr} {C0 : Nat → Nat} {Z0 : Nat → List Int} {n1 : Nat} {A1 : Nat → Option Addr} {C1 : Nat → Nat} {Z1 : Nat → List Bp.Q4} {n2 : Nat} {A2 : Nat → Option Addr} {C2 : Nat → Nat} {Z2 : Nat → List Bc.Q4} {v : Value} {ys : List En} (hB : Bb w q f n0 A0 C0 Z0 n1 A1 C1 Z1 n2 A2 C2 Z2) (h : Cl B w v ys) (g3 : Kp (fun k => k = q ∨ blks (f 0) k) w w3) : Cl B w3 v ys := by
  refine cl_keep h g3 ?_ ?_
  · rintro k hk (rfl | h0)
    · exact Bc.book_ne hB.bk (owns_low h.row) (by decide) hk
    · exact Bc.rows_ne hB.byt.list (owns_low h.row) (by decide) k h0 hk
  · rintro y hy k hk (rfl | h0)
    · rcases hk with hk | hk
      · exact Bc.book_ne hB.bk (h.each y hy).key (by decide) hk
      · exact Bc.book_ne hB.bk (h.each y hy).val (by decide) hk
    · rcases hk with hk | hk
      · exact Bc.rows_ne hB.byt.list (h.each y hy).key (by decide) k h0 hk
      · exact Bc.rows_ne hB.byt.list (h.each y hy).val (by decide) k h0 hk
theorem cl_cells {B : Nat} {w : World} {a : Option Addr} {m c : Nat} {ys : List En} (h : Cl B w (.slice a m c) ys) {j : Nat} {y : En} (hj : ys[j]? = some y) : ∃ g, a = some ⟨g, 0, none⟩ ∧ w.cell? ⟨g, j * 3, none⟩ = some (.slice y.ka y.e.key.length y.kc) ∧ w.cell? ⟨g, j * 3 + 1, none⟩ = some (.slice y.va y.e.val.length y.vc) := by
  rcases h.row.2 with ⟨_, h0⟩ | ⟨g, cap, cur, e, _, hg, _⟩
  · have := (List.getElem?_eq_some_iff.1 hj).1
    omega
  · have ea : a = some ⟨g, 0, none⟩ := by simp at e; exact e.1
    subst ea
    have hr := h.row
    rw [e] at hr
    refine ⟨g, rfl, ?_, ?_⟩
    · have := hr.cells (g := g) rfl (j * 3 + 0) _ (rowc_at hj (j := 0) rfl)
      rwa [Addr.add_lit, Nat.zero_add] at this
    · have := hr.cells (g := g) rfl (j * 3 + 1) _ (rowc_at hj (j := 1) rfl)
      rwa [Addr.add_lit, Nat.zero_add] at this
set_option maxHeartbeats 3200000 in
set_option maxRecDepth 1000000 in
theorem bookChanges_any (q : Nat) (f : Nat → Value) (n0 : Nat) (A0 : Nat → Option Addr) (C0 : Nat → Nat) (Z0 : Nat → List Int) (n1 : Nat) (A1 : Nat → Option Addr) (C1 : Nat → Nat) (Z1 : Nat → List Bp.Q4) (n2 : Nat) (A2 : Nat → Option Addr) (C2 : Nat → Nat) (Z2 : Nat → List Bc.Q4) (w : World) (hb : Bb w q f n0 A0 C0 Z0 n1 A1 C1 Z1 n2 A2 C2 Z2)
    (a : Option Addr) (m c : Nat) (ys : List En) (hm : ys.length = m) (hm9 : m ≤ 1000000) (hn0 : n0 ≤ 100000000) (hn9 : n2 ≤ 1000) (B : Nat) (hr : Cl B w (.slice a m c) ys) (hL : ∀ y ∈ ys, y.e.key.length ≤ 140737488351232 ∧ y.e.val.length ≤ 140737488351232)
    (h2 : ∀ k, blks (.slice a m c) k → ¬ rft n2 A2 k) (h3 : ∀ y ∈ ys, ∀ k, y.has k → ¬ rft n0 A0 k) :
    Calls Try.prog 10 #[.pointer (some ⟨q, 0, none⟩), .slice a m c] w fun r w' => r = .returned (.tuple #[]) ∧ PutOut q f n0 A0 n1 A1 C1 Z1 n2 A2 C2 Z2 a m c ys w w' := by
  obtain ⟨i0, hi, hz0, hz1, hz2⟩ := info_parts Bc.infoEnt_l
  have HB := hide hb
  have HR := hide hr
  have HLl := hide hL
  have H2 := hide h2
  have H3 := hide h3
  have HYL := hide hm
  have c9 := hb.bk.c 14 (by omega)
  have HULL := hide (show Try.prog.underlying 48 = some (.slice 30) by kernel_rfl)
  have hlen : ((List.range n2).map fun i => Bc.rv (A2 i) (C2 i) (Z2 i)).length = n2 := by simp
  have HL : Hid (w.ownsRow 0 30 1 (f 14) ((List.range n2).map fun i => Bc.rv (A2 i) (C2 i) (Z2 i)).length ((List.range n2).map fun i => Bc.rv (A2 i) (C2 i) (Z2 i))) := by rw [hlen]; exact hb.chs.list
  have HSz : Hid ((((List.range n2).map fun i => Bc.rv (A2 i) (C2 i) (Z2 i)).length + 1) * i0.bytes ≤ 140737488355328) := by rw [hlen, hz2]; show _ ≤ _; omega
  have HSz2 : Hid (((List.range n2).map fun i => Bc.rv (A2 i) (C2 i) (Z2 i)).length + 1 ≤ 140737488355328) := by rw [hlen]; show _ ≤ _; omega
  have HL1 := hide (list_of_block HL.out (w' := w.alloc (.cells #[.slice a m c] 30)) (fun k hk => Below.heap_alloc w _ k (list_lt HL.out k hk)))
  have HS := hide (src_laid (P := Try.prog) w (.slice a m c) HULL.out rfl)
  have HQ : Hid (Bc.rv a c (q4s ys) = .slice a m c) := by unfold Bc.rv; rw [q4s_len, hm]; rfl
  clear hlen hb hr hL h2 h3 hm
  go_enter Try.func10, Try.ntmps10
  go_wp2_with (at_builtin; refine wpList_append_one (by rfl) _ _ 48 48 30 (by rfl) i0 (.slice none 0 0) HULL.out hi hz0 hz1 rfl (f 14) _ (by rfl) HL1.out _ 1 [.slice a m c] (by rfl) HS.out HSz.out HSz2.out ?_; intro v' w1 hown1 hg1 hf1 hfull; obtain ⟨x3, n3, c3, rfl, HN3⟩ := list_shape hown1; have HO1 := hide hown1; have HG1 := hide hg1; have HF1 := hide hf1; have hb1 : Bk w1 q f := ((hg1.block q (by have := HB.out.bk.lt; simp; omega) (fun e => Bc.book_ne HB.out.bk HL.out (by decide) e.symm)).trans (Below.heap_alloc w _ q HB.out.bk.lt)).trans HB.out.bk; have c1 := hb1.c 14 (by omega); have f1 := hb1.f 14; have HB1 := hide hb1; clear hown1 hg1 hf1 hfull hb1)
  have hkp : Kp (fun k => k = q ∨ blks (f 14) k) w (w1.setCell ⟨q, 14, none⟩ (.slice x3 n3 c3)) :=
    ((Kp.of_below (below_alloc w _)).trans (Kp.grown HG1.out (fun k hk => .inr hk))).trans (Kp.grown (grown_setCell w1 q 14 (.slice x3 n3 c3)) (fun k hk => .inl (by cases hk; rfl)))
  have hx9 : ∀ k, blks (.slice x3 n3 c3) k → blks (f 14) k ∨ w.heap.size ≤ k := fun k hk => by
    rcases HF1.out k hk with h | h
    · exact .inl h
    · exact .inr (Nat.le_trans (below_alloc w (.cells #[.slice a m c] 30)).size h)
  have HE2 : Hid (Bb (w1.setCell ⟨q, 14, none⟩ (.slice x3 n3 c3)) q (putf f 14 (.slice x3 n3 c3)) n0 A0 C0 Z0 n1 A1 C1 Z1 (n2 + 1) (putf A2 n2 a) (putf C2 n2 c) (putf Z2 n2 (q4s ys))) := by
    refine ⟨HB1.out.set 14, fun j h0 h13 h14 => by rw [putf_other _ _ _ _ h14]; exact HB.out.nl j h0 h13 h14, ?_, ?_, ?_, HB.out.small⟩
    · rw [putf_other _ _ _ _ (by omega)]
      refine HB.out.byt.of_block fun k hk => hkp.block k (HB.out.byt.lt k hk) ?_
      rintro (rfl | h9)
      · rcases hk with hk | ⟨i, hi, hk⟩
        · exact Bc.book_ne HB.out.bk HB.out.byt.list (by decide) hk
        · exact Bc.book_ne HB.out.bk (HB.out.byt.rows i hi) (by decide) ((Bo.blks_rv _ _ _ _).2 hk)
      · rcases hk with hk | ⟨i, hi, hk⟩
        · exact Bc.rows_ne HB.out.chs.list HB.out.byt.list (by decide) k h9 hk
        · exact Bc.rows_ne HB.out.chs.list (HB.out.byt.rows i hi) (by decide) k h9 ((Bo.blks_rv _ _ _ _).2 hk)
    · rw [putf_other _ _ _ _ (by omega)]
      refine fp_keep HB.out.prs hkp ?_ ?_
      · rintro k (rfl | h9) ⟨i, hi, hh⟩
        · exact Bp.book_ne HB.out.bk (HB.out.prs.rows i hi) (by decide) ((Bp.blks_rv _ _ _ _).2 hh)
        · exact Bc.rows_ne HB.out.chs.list (HB.out.prs.rows i hi) (by decide) k h9 ((Bp.blks_rv _ _ _ _).2 hh)
      · rintro k (rfl | h9) h8
        · exact Bp.book_ne HB.out.bk HB.out.prs.list (by decide) h8
        · exact Bc.rows_ne HB.out.chs.list HB.out.prs.list (by decide) k h9 h8
    · rw [putf_same]
      have ho := cl_own HR.out
      rw [← HQ.out] at ho
      refine HB.out.chs.more ho (fun k h h' => H2.out k (by rw [← HQ.out]; exact h') h) (list_of_block (by have := HO1.out; rw [HQ.out]; exact this) fun k hk => Below.heap_setCell _ _ _ _ (fun e => ?_)) (by decide) (fun k hk hv => ?_)
      · subst e
        exact Bc.book_ne HB1.out HO1.out (by decide) hk
      · by_cases e : k = q
        · subst e; exact .inr ⟨k, rfl, f, HB.out.bk⟩
        · exact .inl (hkp.block k hk (fun h => h.elim e hv))
  have HRo2 : Hid (Cl B (w1.setCell ⟨q, 14, none⟩ (.slice x3 n3 c3)) (.slice a m c) ys) := by
    refine cl_keep HR.out hkp ?_ ?_
    · rintro k hk (rfl | h9)
      · exact Bc.book_ne HB.out.bk (owns_low HR.out.row) (by decide) hk
      · exact Bc.rows_ne HB.out.chs.list (owns_low HR.out.row) (by decide) k h9 hk
    · rintro y hy k hk (rfl | h9)
      · rcases hk with hk | hk
        · exact Bc.book_ne HB.out.bk (HR.out.each y hy).key (by decide) hk
        · exact Bc.book_ne HB.out.bk (HR.out.each y hy).val (by decide) hk
      · rcases hk with hk | hk
        · exact Bc.rows_ne HB.out.chs.list (HR.out.each y hy).key (by decide) k h9 hk
        · exact Bc.rows_ne HB.out.chs.list (HR.out.each y hy).val (by decide) k h9 hk
  have HK2 : Hid (Kp (fun k => k = q ∨ blks (f 0) k ∨ blks (f 14) k) w (w1.setCell ⟨q, 14, none⟩ (.slice x3 n3 c3))) := hkp.wider (fun k h _ => h.elim .inl (fun h => .inr (.inr h)))
  have HX9 := hide hx9
  clear hkp hx9 c9 c1 f1 HB1 HO1 HG1 HF1 HL1 HS HL
  generalize w1.setCell ⟨q, 14, none⟩ (.slice x3 n3 c3) = W2 at *
  go_loopw [4] (fun x wr => ∃ (j : Nat) (f' : Nat → Value) (A : Nat → Option Addr) (C : Nat → Nat) (Z : Nat → List Int), j ≤ m ∧ x = .int .i64 (j : Int) ∧ f' 14 = .slice x3 n3 c3 ∧ f' 13 = f 13 ∧ Bb wr q f' (n0 + 2 * j) A C Z n1 A1 C1 Z1 (n2 + 1) (putf A2 n2 a) (putf C2 n2 c) (putf Z2 n2 (q4s ys)) ∧ Cl B wr (.slice a m c) ys ∧
      (∀ k, rft (n0 + 2 * j) A k → rft n0 A0 k ∨ ∃ i y, i < j ∧ ys[i]? = some y ∧ y.has k) ∧ Kp (fun k => k = q ∨ blks (f 0) k ∨ blks (f 14) k) w wr ∧ (∀ k, blks (f' 0) k → blks (f 0) k ∨ w.heap.size ≤ k)) (fun x _ => m - (intOf x).toNat)
  case atStart => exact ⟨0, _, A0, C0, Z0, Nat.zero_le _, rfl, putf_same _ _ _, putf_other _ _ _ _ (by omega), HE2.out, HRo2.out, fun k hk => .inl hk, HK2.out, fun k hk => .inl (by rw [putf_other _ _ _ _ (by omega)] at hk; exact hk)⟩
  case round =>
    obtain ⟨j, f', A, C, Z, hj, rfl, hf9, hfo, hB, hRo, hrf, hK, hf0⟩ := hrel
    have HBj := hide hB
    have HRj := hide hRo
    have HRf := hide hrf
    have HKj := hide hK
    have HF0 := hide hf0
    have HF9 := hide hf9
    have HFo := hide hfo
    clear hB hRo hrf hK hf0 hf9 hfo HE2 HRo2 HK2
    by_cases hlt : j < m
    · obtain ⟨y, hy⟩ : ∃ y, ys[j]? = some y := ⟨_, List.getElem?_eq_getElem (by rw [HYL.out]; exact hlt)⟩
      have hmem := List.mem_of_getElem? hy
      have HY := hide hy
      have HMem := hide hmem
      obtain ⟨g, rfl, hc0, hc1⟩ := cl_cells HRj.out hy
      have hlk := HLl.out y hmem
      have HLk := hide hlk
      have HBy := hide (bookBytes_any q f' (f' 0) rfl (n0 + 2 * j) A C Z y.ka y.kc y.e.key y.e.key.length rfl wr HBj.out.bk HBj.out.byt (HRj.out.each y hmem).key (fun k hk hh => by
        rcases HRf.out k hk with h | ⟨i, yi, hi, hyi, h⟩
        · exact H3.out y HMem.out k (has_key hh) h
        · have := HRj.out.apart i j yi y k hyi HY.out h (has_key hh)
          omega) (by omega))
      have hlj : (j : Int) < (m : Int) := by omega
      have hsm : m ≤ 1000000 := hm9
      have M1 := hide trivial
      clear hy hmem hlk hc1
      go_wp2_with (first | (go_at_call 42; have hmk := M1; clear hmk M1; refine HBy.out.mono ?_; rintro r w3 ⟨rfl, v', g1, g2, g3, g4⟩; have HB3 := hide (HBj.out.bytes g1 g2 g3 HLk.out.1); have HC3 := hide (cl_bytes HBj.out HRj.out g3); have G3 := hide g3; have G4 := hide g4; clear g1 g2 g3 g4 hc0; obtain ⟨g', hg', -, hc1⟩ := cl_cells HC3.out HY.out; cases hg'; have HBz := hide (bookBytes_any q (putf f' 0 v') v' (putf_same _ _ _) (n0 + 2 * j + 1) _ _ _ y.va y.vc y.e.val y.e.val.length rfl w3 HB3.out.bk (by have := HB3.out.byt; rw [putf_same] at this; exact this) (HC3.out.each y HMem.out).val (fun k hk hh => by
        rcases rft_putf _ _ _ _ hk with hk | hk
        · rcases HRf.out k hk with h | ⟨i, yi, hi, hyi, h⟩
          · exact H3.out y HMem.out k (has_val hh) h
          · have := HRj.out.apart i j yi y k hyi HY.out h (has_val hh)
            omega
        · exact (HC3.out.each y HMem.out).ne k ((blks_slice _ _ _ k).2 hk) ((blks_slice _ _ _ k).2 hh)) (by omega)); have M2 := hide trivial) | (go_at_call 42; have hmk := M2; clear hmk M2; refine HBz.out.mono ?_; rintro r w4 ⟨rfl, v'', g1, g2, g3, g4⟩; have HB4 := hide (HB3.out.bytes g1 g2 (by rw [putf_same]; exact g3) HLk.out.2); have HC4 := hide (cl_bytes HB3.out HC3.out (by rw [putf_same]; exact g3)); have G5 := hide g3; have G6 := hide g4; clear g1 g2 g3 g4 hc1))
      go_roundw
      case rel =>
        refine ⟨j + 1, _, _, _, _, by omega, by go_num, by rw [putf_other _ _ _ _ (by omega), putf_other _ _ _ _ (by omega)]; exact HF9.out, by rw [putf_other _ _ _ _ (by omega), putf_other _ _ _ _ (by omega)]; exact HFo.out, HB4.out, HC4.out, fun k hk => ?_, kp_on (kp_on HKj.out G3.out (fun k h => ?_)) G5.out (fun k h => ?_), fun k hk => ?_⟩
        · rcases rft_putf _ _ _ _ hk with h | h
          · rcases rft_putf _ _ _ _ h with h | h
            · rcases HRf.out k h with h | ⟨i, yi, hi, hyi, h⟩
              · exact .inl h
              · exact .inr ⟨i, yi, by omega, hyi, h⟩
            · exact .inr ⟨j, y, by omega, HY.out, has_key h⟩
          · exact .inr ⟨j, y, by omega, HY.out, has_val h⟩
        · rcases h with h | h
          · exact .inl (.inl h)
          · rcases HF0.out k h with h | h
            · exact .inl (.inr (.inl h))
            · exact .inr h
        · rcases h with h | h
          · exact .inl (.inl h)
          · rcases G4.out k h with h | h
            · rcases HF0.out k h with h | h
              · exact .inl (.inr (.inl h))
              · exact .inr h
            · exact .inr (Nat.le_trans HKj.out.size h)
        · rw [putf_same] at hk
          rcases G6.out k hk with h | h
          · rcases G4.out k h with h | h
            · exact HF0.out k h
            · exact .inr (Nat.le_trans HKj.out.size h)
          · exact .inr (Nat.le_trans (Nat.le_trans HKj.out.size G3.out.size) h)
      case measure => simp [intOf]; omega
    · have hjm : j = m := by omega
      have HJM := hide hjm
      clear hjm
      have hlj : ¬ (j : Int) < (m : Int) := by omega
      go_wp2
      go_end0
      have e := HJM.out
      subst e
      refine ⟨rfl, f', A, C, Z, HBj.out, fun k hk => ?_, HKj.out, HF0.out, fun k hk => by rw [HF9.out] at hk; exact HX9.out k hk, HFo.out⟩
      rcases HRf.out k hk with h | ⟨i, yi, hi, hyi, h⟩
      · exact .inl h
      · exact .inr ⟨yi, List.mem_of_getElem? hyi, h⟩
end Go.Proofs.Ytgohhlngnnmknaa.BdC
