/- Contracts of a book of lists of bytes, with what room they have: a list is put into it. -/
import Derived.Test.YtfbkcolcdkglbaaBA
namespace Go.Proofs.Ytfbkcolcdkglbaa
open Go.RowKit
set_option linter.unusedVariables false

theorem Try.info23 : (Try.prog.info? 23).map (fun i => (i.zero, i.size, i.bytes)) = some (some (.slice none 0 0), 1, 24) := by kernel_rfl
/-- a list of bytes with its room, as a value. -/
def rv (a : Option Addr) (c : Nat) (zs : List Int) : Value := .slice a zs.length c
/-- n lists of bytes, that no two share memory of, in a row of the call's own. -/
structure Fam (w : World) (v : Value) (n : Nat) (A : Nat → Option Addr) (C : Nat → Nat) (Z : Nat → List Int) : Prop where
  list : w.ownsRow 0 23 1 v n ((List.range n).map fun i => rv (A i) (C i) (Z i))
  rows : ∀ i, i < n → Own w (rv (A i) (C i) (Z i)) (Z i)
  apart : ∀ i j, i < n → j < n → i ≠ j → ∀ k, blks (rv (A i) (C i) (Z i)) k → ¬ blks (rv (A j) (C j) (Z j)) k
/-- the blocks of the lists. -/
def rft (n : Nat) (A : Nat → Option Addr) (k : Nat) : Prop := ∃ i, i < n ∧ ∃ ad, A i = some ad ∧ ad.block = k
theorem blks_rv (a : Option Addr) (c : Nat) (zs : List Int) (k : Nat) : blks (rv a c zs) k ↔ ∃ ad, a = some ad ∧ ad.block = k := by
  unfold blks rv
  cases a <;> simp [Value.ownBlock]
/-- the book's block. -/
def Bk (w : World) (q : Nat) (v : Value) : Prop := w.heap[q]? = some (.cells #[v, .slice none 0 0, .slice none 0 0, .slice none 0 0, .slice none 0 0, .slice none 0 0, .slice none 0 0, .slice none 0 0, .slice none 0 0, .slice none 0 0, .slice none 0 0, .slice none 0 0, .slice none 0 0, .slice none 0 0, .slice none 0 0, .slice none 0 0, .slice none 0 0, .slice none 0 0, .slice none 0 0, .slice none 0 0, .slice none 0 0, .slice none 0 0, .slice none 0 0] 56 (0, 0))
def bft (q : Nat) (v : Value) (n : Nat) (A : Nat → Option Addr) (k : Nat) : Prop := k = q ∨ blks v k ∨ rft n A k
theorem list_shape {w : World} {v : Value} {n : Nat} {xs : List Value} (h : w.ownsRow 0 23 1 v n xs) : ∃ a m c, v = .slice a m c ∧ Hid (m = n) := by
  rcases h.2 with ⟨rfl, h0⟩ | ⟨g, cap, cur, rfl, _⟩
  · exact ⟨none, 0, 0, rfl, h0.symm⟩
  · exact ⟨_, n, cap, rfl, rfl⟩
theorem list_lt {w : World} {v : Value} {n : Nat} {xs : List Value} (h : w.ownsRow 0 23 1 v n xs) (k : Nat) (hk : blks v k) : k < w.heap.size := (h.lt k hk).2
theorem list_of_block {w w' : World} {v : Value} {n : Nat} {xs : List Value} (h : w.ownsRow 0 23 1 v n xs) (hb : ∀ k, blks v k → w'.heap[k]? = w.heap[k]?) : w'.ownsRow 0 23 1 v n xs := by
  obtain ⟨h1, h2⟩ := h
  refine ⟨h1, ?_⟩
  rcases h2 with h2 | ⟨g, cap, cur, rfl, hg, hh, r⟩
  · exact .inl h2
  · exact .inr ⟨g, cap, cur, rfl, hg, by rw [hb g rfl]; exact hh, r⟩
theorem Fam.of_block {w w' : World} {v : Value} {n : Nat} {A : Nat → Option Addr} {C : Nat → Nat} {Z : Nat → List Int} (h : Fam w v n A C Z) (hb : ∀ k, blks v k ∨ rft n A k → w'.heap[k]? = w.heap[k]?) : Fam w' v n A C Z :=
  ⟨list_of_block h.list fun k hk => hb k (.inl hk), fun i hi => (h.rows i hi).of_block fun k hk => hb k (.inr ⟨i, hi, (blks_rv _ _ _ k).1 hk⟩), h.apart⟩
theorem Fam.lt {w : World} {v : Value} {n : Nat} {A : Nat → Option Addr} {C : Nat → Nat} {Z : Nat → List Int} (h : Fam w v n A C Z) (k : Nat) (hk : blks v k ∨ rft n A k) : k < w.heap.size := by
  rcases hk with hk | ⟨i, hi, hk⟩
  · exact list_lt h.list k hk
  · exact (h.rows i hi).lt ((blks_rv _ _ (Z i) k).2 hk)
theorem Bk.lt {w : World} {q : Nat} {v : Value} (h : Bk w q v) : q < w.heap.size := lt_of_block h
/-- blocks of other types are other blocks. -/
theorem list_ne_row {w : World} {v : Value} {n : Nat} {xs : List Value} {u : Value} {zs : List Int} (h : w.ownsRow 0 23 1 v n xs) (ho : Own w u zs) (k : Nat) (h1 : blks v k) : ¬ blks u k := by
  intro h2
  rcases h.2 with ⟨rfl, _⟩ | ⟨g, cap, cur, rfl, _, hg, _⟩
  · cases h1
  · rcases ho.2 with ⟨rfl, _⟩ | ⟨g', cap', cur', rfl, _, hg', _⟩
    · cases h2
    · cases h1; cases h2
      rw [hg] at hg'
      simp at hg'
theorem book_ne_list {w : World} {q : Nat} {v u : Value} {n : Nat} {xs : List Value} (hb : Bk w q v) (h : w.ownsRow 0 23 1 u n xs) : ¬ blks u q := by
  intro h1
  rcases h.2 with ⟨rfl, _⟩ | ⟨g, cap, cur, rfl, _, hg, _⟩
  · cases h1
  · cases h1
    unfold Bk at hb
    rw [hg] at hb
    simp at hb
theorem book_ne_row {w : World} {q : Nat} {v u : Value} {zs : List Int} (hb : Bk w q v) (ho : Own w u zs) : ¬ blks u q := by
  intro h2
  rcases ho.2 with ⟨rfl, _⟩ | ⟨g', cap', cur', rfl, _, hg', _⟩
  · cases h2
  · cases h2
    unfold Bk at hb
    rw [hg'] at hb
    simp at hb

theorem Bk.c0 {w : World} {q : Nat} {v : Value} (h : Bk w q v) : w.cell? ⟨q, 0, none⟩ = some v := by unfold Bk at h; simp [World.cell?, h]
theorem Bk.f {w : World} {q : Nat} {v : Value} (h : Bk w q v) (j : Nat) : w.frozen? ⟨q, j, none⟩ = false := by unfold Bk at h; simp [World.frozen?, h]
theorem Bk.set {w : World} {q : Nat} {v u : Value} (h : Bk w q v) : Bk (w.setCell ⟨q, 0, none⟩ u) q u := by
  unfold Bk at h ⊢
  rw [heap_setCell_same w q 0 _ 56 _ h]; rfl
def put {α : Type} (f : Nat → α) (n : Nat) (x : α) : Nat → α := fun i => if i = n then x else f i
theorem put_same {α : Type} (f : Nat → α) (n : Nat) (x : α) : put f n x n = x := by simp [put]
theorem put_other {α : Type} (f : Nat → α) (n i : Nat) (x : α) (h : i ≠ n) : put f n x i = f i := by simp [put, h]
theorem fam_list (n : Nat) (A : Nat → Option Addr) (C : Nat → Nat) (Z : Nat → List Int) (a : Option Addr) (c : Nat) (zs : List Int) : (List.range (n + 1)).map (fun i => rv (put A n a i) (put C n c i) (put Z n zs i)) = (List.range n).map (fun i => rv (A i) (C i) (Z i)) ++ [rv a c zs] := by
  rw [List.range_succ, List.map_append]
  congr 1
  · apply List.map_congr_left
    intro i hi
    have : i ≠ n := by have := List.mem_range.1 hi; omega
    rw [put_other _ _ _ _ this, put_other _ _ _ _ this, put_other _ _ _ _ this]
  · simp [put_same]
theorem rft_put (n : Nat) (A : Nat → Option Addr) (a : Option Addr) (k : Nat) (h : rft (n + 1) (put A n a) k) : rft n A k ∨ ∃ ad, a = some ad ∧ ad.block = k := by
  obtain ⟨i, hi, hk⟩ := h
  by_cases e : i = n
  · subst e
    rw [put_same] at hk
    exact .inr hk
  · rw [put_other _ _ _ _ e] at hk
    exact .inl ⟨i, by omega, hk⟩

/-- the one-element slice of lists that is laid for what is appended. -/
theorem src_list (w : World) (x : Value) (hx : x.oneCell' = true) : Src Try.prog 1 32 (.slice (some ⟨w.heap.size, 0, none⟩) 1 1) 1 [x] (w.alloc (.cells #[x] 23)) :=
  Src.ofSlice _ Try.underlying32 ⟨w.heap.size, 0, none⟩ 1 1 [x] rfl (by intro j u hj; match j, hj with | 0, hj => simp at hj; subst hj; simp [Addr.add]) (by intro u hu; simp at hu; subst hu; exact hx)

/-- a list more. -/
theorem Fam.more {w w' : World} {v v' : Value} {n : Nat} {A : Nat → Option Addr} {C : Nat → Nat} {Z : Nat → List Int} {a : Option Addr} {c : Nat} {zs : List Int} (h : Fam w v n A C Z) (ho : Own w (rv a c zs) zs) (hap : ∀ k, rft n A k → ¬ blks (rv a c zs) k)
    (hl : w'.ownsRow 0 23 1 v' ((List.range n).map (fun i => rv (A i) (C i) (Z i)) ++ [rv a c zs]).length ((List.range n).map (fun i => rv (A i) (C i) (Z i)) ++ [rv a c zs]))
    (hb : ∀ k, k < w.heap.size → ¬ blks v k → (w'.heap[k]? = w.heap[k]? ∨ ∃ q, k = q ∧ ∃ u, Bk w q u)) : Fam w' v' (n + 1) (put A n a) (put C n c) (put Z n zs) := by
  have keep : ∀ u ys, Own w u ys → Own w' u ys := by
    intro u ys hu
    refine hu.of_block fun k hk => ?_
    rcases hb k (hu.lt hk) (fun hv => list_ne_row h.list hu k hv hk) with h1 | ⟨q, rfl, x, hx⟩
    · exact h1
    · exact absurd hk (book_ne_row hx hu)
  refine ⟨?_, ?_, ?_⟩
  · rw [fam_list]
    have e : ((List.range n).map (fun i => rv (A i) (C i) (Z i)) ++ [rv a c zs]).length = n + 1 := by simp
    rw [e] at hl
    exact hl
  · intro i hi
    by_cases e : i = n
    · subst e
      rw [put_same, put_same, put_same]
      exact keep _ _ ho
    · rw [put_other _ _ _ _ e, put_other _ _ _ _ e, put_other _ _ _ _ e]
      exact keep _ _ (h.rows i (by omega))
  · intro i j hi hj hne k h1 h2
    by_cases e : i = n
    · subst e
      rw [put_same, put_same, put_same] at h1
      rw [put_other _ _ _ _ (fun e => hne e.symm), put_other _ _ _ _ (fun e => hne e.symm), put_other _ _ _ _ (fun e => hne e.symm)] at h2
      exact hap k ⟨j, by omega, (blks_rv _ _ _ k).1 h2⟩ h1
    · rw [put_other _ _ _ _ e, put_other _ _ _ _ e, put_other _ _ _ _ e] at h1
      by_cases e2 : j = n
      · subst e2
        rw [put_same, put_same, put_same] at h2
        exact hap k ⟨i, by omega, (blks_rv _ _ _ k).1 h1⟩ h2
      · rw [put_other _ _ _ _ e2, put_other _ _ _ _ e2, put_other _ _ _ _ e2] at h2
        exact h.apart i j (by omega) (by omega) hne k h1 h2

set_option maxHeartbeats 1600000 in
set_option maxRecDepth 1000000 in
theorem book_any (q : Nat) (v : Value) (n : Nat) (A : Nat → Option Addr) (C : Nat → Nat) (Z : Nat → List Int) (a : Option Addr) (c : Nat) (zs : List Int) (m : Nat) (hm : zs.length = m) (w : World) (hb : Bk w q v) (h : Fam w v n A C Z) (ho : Own w (.slice a m c) zs) (hap : ∀ k, rft n A k → ¬ ∃ ad, a = some ad ∧ ad.block = k) (hn : n ≤ 1000000000) :
    Calls Try.prog 14 #[.pointer (some ⟨q, 0, none⟩), .slice a m c] w fun r w' => r = .returned (.tuple #[]) ∧ ∃ v', Bk w' q v' ∧ Fam w' v' (n + 1) (put A n a) (put C n c) (put Z n zs) ∧ Kp (fun k => k = q ∨ blks v k) w w' ∧ ∀ k, blks v' k → blks v k ∨ w.heap.size ≤ k := by
  subst hm
  obtain ⟨i0, hi, hz0, hz1, hz2⟩ := info_parts Try.info23
  have HB := hide hb
  have H := hide h
  have HO := hide ho
  have HAp := hide hap
  have c0 := hb.c0
  have hlen : ((List.range n).map fun i => rv (A i) (C i) (Z i)).length = n := by simp
  have HL : Hid (w.ownsRow 0 23 1 v ((List.range n).map fun i => rv (A i) (C i) (Z i)).length ((List.range n).map fun i => rv (A i) (C i) (Z i))) := by rw [hlen]; exact h.list
  have HSz : Hid ((((List.range n).map fun i => rv (A i) (C i) (Z i)).length + 1) * i0.bytes ≤ 140737488355328) := by rw [hlen, hz2]; show _ ≤ _; omega
  have HSz2 : Hid (((List.range n).map fun i => rv (A i) (C i) (Z i)).length + 1 ≤ 140737488355328) := by rw [hlen]; show _ ≤ _; omega
  have HL1 := hide (list_of_block HL.out (w' := w.alloc (.cells #[rv a c zs] 23)) (fun k hk => Below.heap_alloc w _ k (list_lt HL.out k hk)))
  have HS := hide (src_list w (rv a c zs) rfl)
  clear hlen hb h ho hap
  go_enter Try.func14, Try.ntmps14
  go_wp2_with (at_builtin; refine wpList_append_one (by rfl) (.tmp 8) (.tmp 10) 32 32 23 (by rfl) i0 (.slice none 0 0) Try.underlying32 hi hz0 hz1 rfl v _ (by rfl) HL1.out _ 1 [rv a c zs] (by rfl) HS.out HSz.out HSz2.out ?_; intro v' w1 hown1 hg1 hf1 hfull; obtain ⟨x3, n3, c3, rfl, HN3⟩ := list_shape hown1; have HO1 := hide hown1; have HG1 := hide hg1; have HF1 := hide hf1; have hb1 : Bk w1 q v := ((hg1.block q (by have := HB.out.lt; simp; omega) (fun e => book_ne_list HB.out HL.out e.symm)).trans (Below.heap_alloc w _ q HB.out.lt)).trans HB.out; have c1 := hb1.c0; have f1 := hb1.f 0; have HB1 := hide hb1; clear hown1 hg1 hf1 hfull hb1)
  go_end0
  have hkp : Kp (fun k => k = q ∨ blks v k) w (w1.setCell ⟨q, 0, none⟩ (.slice x3 n3 c3)) :=
    ((Kp.of_below (below_alloc w _)).trans (Kp.grown HG1.out (fun k hk => .inr hk))).trans (Kp.grown (grown_setCell w1 q 0 (.slice x3 n3 c3)) (fun k hk => .inl (by cases hk; rfl)))
  refine ⟨rfl, .slice x3 n3 c3, HB1.out.set, H.out.more HO.out ?_ (list_of_block HO1.out ?_) ?_, hkp, ?_⟩
  · intro k h1 h2
    exact HAp.out k h1 ((blks_rv _ _ _ k).1 h2)
  · intro k hk
    refine Below.heap_setCell _ _ _ _ (fun e => ?_)
    subst e
    exact book_ne_list HB1.out HO1.out hk
  · intro k hk hv
    by_cases e : k = q
    · subst e; exact .inr ⟨k, rfl, v, HB.out⟩
    · exact .inl (hkp.block k hk (fun h => h.elim e hv))
  · intro k hk
    rcases HF1.out k hk with h1 | h1
    · exact .inl h1
    · have : w.heap.size ≤ (w.alloc (.cells #[rv a c zs] 23)).heap.size := (below_alloc w _).size
      exact .inr (Nat.le_trans this h1)
end Go.Proofs.Ytfbkcolcdkglbaa
