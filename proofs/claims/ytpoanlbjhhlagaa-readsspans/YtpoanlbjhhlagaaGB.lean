/- A book of lists of numbers of any kind, with what room they have. -/
import Derived.Test.YtpoanlbjhhlagaaGA
namespace Go.Proofs.Ytpoanlbjhhlagaa.Bo
open Go.RowKit
set_option linter.unusedVariables false

section
variable {K : IntKind} {et lty : TypeId}
/-- a list of bytes with its room, as a value. -/
def rv (a : Option Addr) (c : Nat) (zs : List Int) : Value := .slice a zs.length c
/-- n lists of bytes, that no two share memory of, in a row of the call's own. -/
structure Fam (K : IntKind) (et lty : TypeId) (w : World) (v : Value) (n : Nat) (A : Nat → Option Addr) (C : Nat → Nat) (Z : Nat → List Int) : Prop where
  ne : lty ≠ et
  list : w.ownsRow 0 lty 1 v n ((List.range n).map fun i => rv (A i) (C i) (Z i))
  rows : ∀ i, i < n → OwnK K et w (rv (A i) (C i) (Z i)) (Z i)
  apart : ∀ i j, i < n → j < n → i ≠ j → ∀ k, blks (rv (A i) (C i) (Z i)) k → ¬ blks (rv (A j) (C j) (Z j)) k
/-- the blocks of the lists. -/
def rft (n : Nat) (A : Nat → Option Addr) (k : Nat) : Prop := ∃ i, i < n ∧ ∃ ad, A i = some ad ∧ ad.block = k
theorem blks_rv (a : Option Addr) (c : Nat) (zs : List Int) (k : Nat) : blks (rv a c zs) k ↔ ∃ ad, a = some ad ∧ ad.block = k := by
  unfold blks rv
  cases a <;> simp [Value.ownBlock]
theorem list_shape {w : World} {v : Value} {n : Nat} {xs : List Value} (h : w.ownsRow 0 lty 1 v n xs) : ∃ a m c, v = .slice a m c ∧ Hid (m = n) := by
  rcases h.2 with ⟨rfl, h0⟩ | ⟨g, cap, cur, rfl, _⟩
  · exact ⟨none, 0, 0, rfl, h0.symm⟩
  · exact ⟨_, n, cap, rfl, rfl⟩
theorem list_lt {w : World} {v : Value} {n : Nat} {xs : List Value} (h : w.ownsRow 0 lty 1 v n xs) (k : Nat) (hk : blks v k) : k < w.heap.size := (h.lt k hk).2
theorem list_of_block {w w' : World} {v : Value} {n : Nat} {xs : List Value} (h : w.ownsRow 0 lty 1 v n xs) (hb : ∀ k, blks v k → w'.heap[k]? = w.heap[k]?) : w'.ownsRow 0 lty 1 v n xs := by
  obtain ⟨h1, h2⟩ := h
  refine ⟨h1, ?_⟩
  rcases h2 with h2 | ⟨g, cap, cur, rfl, hg, hh, r⟩
  · exact .inl h2
  · exact .inr ⟨g, cap, cur, rfl, hg, by rw [hb g rfl]; exact hh, r⟩
theorem Fam.of_block {w w' : World} {v : Value} {n : Nat} {A : Nat → Option Addr} {C : Nat → Nat} {Z : Nat → List Int} (h : Fam K et lty w v n A C Z) (hb : ∀ k, blks v k ∨ rft n A k → w'.heap[k]? = w.heap[k]?) : Fam K et lty w' v n A C Z :=
  ⟨h.ne, list_of_block h.list fun k hk => hb k (.inl hk), fun i hi => (h.rows i hi).of_block fun k hk => hb k (.inr ⟨i, hi, (blks_rv _ _ _ k).1 hk⟩), h.apart⟩
theorem Fam.lt {w : World} {v : Value} {n : Nat} {A : Nat → Option Addr} {C : Nat → Nat} {Z : Nat → List Int} (h : Fam K et lty w v n A C Z) (k : Nat) (hk : blks v k ∨ rft n A k) : k < w.heap.size := by
  rcases hk with hk | ⟨i, hi, hk⟩
  · exact list_lt h.list k hk
  · exact (h.rows i hi).lt ((blks_rv _ _ (Z i) k).2 hk)
theorem list_ne_row {w : World} {v : Value} {n : Nat} {xs : List Value} {u : Value} {zs : List Int} (hne : lty ≠ et) (h : w.ownsRow 0 lty 1 v n xs) (ho : OwnK K et w u zs) (k : Nat) (h1 : blks v k) : ¬ blks u k := rows_ne h ho hne k h1
def putf {α : Type} (f : Nat → α) (n : Nat) (x : α) : Nat → α := fun i => if i = n then x else f i
theorem putf_same {α : Type} (f : Nat → α) (n : Nat) (x : α) : putf f n x n = x := by simp [putf]
theorem putf_other {α : Type} (f : Nat → α) (n i : Nat) (x : α) (h : i ≠ n) : putf f n x i = f i := by simp [putf, h]
theorem fam_list (n : Nat) (A : Nat → Option Addr) (C : Nat → Nat) (Z : Nat → List Int) (a : Option Addr) (c : Nat) (zs : List Int) : (List.range (n + 1)).map (fun i => rv (putf A n a i) (putf C n c i) (putf Z n zs i)) = (List.range n).map (fun i => rv (A i) (C i) (Z i)) ++ [rv a c zs] := by
  rw [List.range_succ, List.map_append]
  congr 1
  · apply List.map_congr_left
    intro i hi
    have : i ≠ n := by have := List.mem_range.1 hi; omega
    rw [putf_other _ _ _ _ this, putf_other _ _ _ _ this, putf_other _ _ _ _ this]
  · simp [putf_same]
theorem rft_putf (n : Nat) (A : Nat → Option Addr) (a : Option Addr) (k : Nat) (h : rft (n + 1) (putf A n a) k) : rft n A k ∨ ∃ ad, a = some ad ∧ ad.block = k := by
  obtain ⟨i, hi, hk⟩ := h
  by_cases e : i = n
  · subst e
    rw [putf_same] at hk
    exact .inr hk
  · rw [putf_other _ _ _ _ e] at hk
    exact .inl ⟨i, by omega, hk⟩

/-- the book's block: its lists. -/
def Bk (w : World) (q : Nat) (f : Nat → Value) : Prop := w.heap[q]? = some (.cells ((List.range 23).map f).toArray 60 (0, 0))
theorem Bk.lt {w : World} {q : Nat} {f : Nat → Value} (h : Bk w q f) : q < w.heap.size := lt_of_block h
theorem book_ne {w : World} {q : Nat} {f : Nat → Value} {u : Value} {n : Nat} {t : TypeId} {xs : List Value} (hb : Bk w q f) (h : w.ownsRow 0 t 1 u n xs) (hne : t ≠ 60) : ¬ blks u q := by
  intro h1
  rcases h.2 with ⟨rfl, _⟩ | ⟨g, cap, cur, rfl, _, hg, _⟩
  · cases h1
  · cases h1
    unfold Bk at hb
    rw [hg] at hb
    simp at hb
    exact hne hb.2
theorem Bk.c {w : World} {q : Nat} {f : Nat → Value} (h : Bk w q f) (j : Nat) (hj : j < 23) : w.cell? ⟨q, j, none⟩ = some (f j) := by unfold Bk at h; simp [World.cell?, h, hj]
theorem Bk.f {w : World} {q : Nat} {f : Nat → Value} (h : Bk w q f) (j : Nat) : w.frozen? ⟨q, j, none⟩ = false := by unfold Bk at h; simp [World.frozen?, h]
theorem putf_map (f : Nat → Value) (n j : Nat) (u : Value) : ((List.range n).map f).set j u = (List.range n).map (putf f j u) := by
  apply List.ext_getElem? 
  intro i
  rw [List.getElem?_set]
  by_cases hi : i < n
  · by_cases e : j = i
    · subst e; simp [hi, putf]
    · have e2 : ¬ i = j := fun h => e h.symm
      simp [hi, e, e2, putf]
  · by_cases e : j = i
    · subst e; simp [hi]
    · simp [hi, e]
theorem Bk.set {w : World} {q : Nat} {f : Nat → Value} {u : Value} (j : Nat) (h : Bk w q f) : Bk (w.setCell ⟨q, j, none⟩ u) q (putf f j u) := by
  unfold Bk at h ⊢
  rw [heap_setCell_same w q j _ 60 _ h, List.setIfInBounds_toArray, putf_map]
theorem Bk.of_block {w w' : World} {q : Nat} {f : Nat → Value} (h : Bk w q f) (hb : w'.heap[q]? = w.heap[q]?) : Bk w' q f := hb.trans h
theorem Bk.below {w w' : World} {q : Nat} {f : Nat → Value} (h : Bk w q f) (hb : Below w.heap.size w w') : Bk w' q f := (hb.block q h.lt).trans h
def nilf : Nat → Value := fun _ => .slice none 0 0
/-- a book that is laid. -/
theorem book_new (w : World) : Bk (w.alloc (.cells #[.slice none 0 0, .slice none 0 0, .slice none 0 0, .slice none 0 0, .slice none 0 0, .slice none 0 0, .slice none 0 0, .slice none 0 0, .slice none 0 0, .slice none 0 0, .slice none 0 0, .slice none 0 0, .slice none 0 0, .slice none 0 0, .slice none 0 0, .slice none 0 0, .slice none 0 0, .slice none 0 0, .slice none 0 0, .slice none 0 0, .slice none 0 0, .slice none 0 0, .slice none 0 0] 60)) w.heap.size nilf := heap_alloc_new w _
/-- a list more. -/
theorem Fam.more {w w' : World} {v v' : Value} {n : Nat} {A : Nat → Option Addr} {C : Nat → Nat} {Z : Nat → List Int} {a : Option Addr} {c : Nat} {zs : List Int} (h : Fam K et lty w v n A C Z) (ho : OwnK K et w (rv a c zs) zs) (hap : ∀ k, rft n A k → ¬ blks (rv a c zs) k)
    (hl : w'.ownsRow 0 lty 1 v' ((List.range n).map (fun i => rv (A i) (C i) (Z i)) ++ [rv a c zs]).length ((List.range n).map (fun i => rv (A i) (C i) (Z i)) ++ [rv a c zs]))
    (hbt : et ≠ 60) (hb : ∀ k, k < w.heap.size → ¬ blks v k → (w'.heap[k]? = w.heap[k]? ∨ ∃ q, k = q ∧ ∃ u, Bk w q u)) : Fam K et lty w' v' (n + 1) (putf A n a) (putf C n c) (putf Z n zs) := by
  have keep : ∀ u ys, OwnK K et w u ys → OwnK K et w' u ys := by
    intro u ys hu
    refine hu.of_block fun k hk => ?_
    rcases hb k (hu.lt hk) (fun hv => list_ne_row h.ne h.list hu k hv hk) with h1 | ⟨q, rfl, x, hx⟩
    · exact h1
    · exact absurd hk (book_ne hx hu hbt)
  refine ⟨h.ne, ?_, ?_, ?_⟩
  · rw [fam_list]
    have e : ((List.range n).map (fun i => rv (A i) (C i) (Z i)) ++ [rv a c zs]).length = n + 1 := by simp
    rw [e] at hl
    exact hl
  · intro i hi
    by_cases e : i = n
    · subst e
      rw [putf_same, putf_same, putf_same]
      exact keep _ _ ho
    · rw [putf_other _ _ _ _ e, putf_other _ _ _ _ e, putf_other _ _ _ _ e]
      exact keep _ _ (h.rows i (by omega))
  · intro i j hi hj hne k h1 h2
    by_cases e : i = n
    · subst e
      rw [putf_same, putf_same, putf_same] at h1
      rw [putf_other _ _ _ _ (fun e => hne e.symm), putf_other _ _ _ _ (fun e => hne e.symm), putf_other _ _ _ _ (fun e => hne e.symm)] at h2
      exact hap k ⟨j, by omega, (blks_rv _ _ _ k).1 h2⟩ h1
    · rw [putf_other _ _ _ _ e, putf_other _ _ _ _ e, putf_other _ _ _ _ e] at h1
      by_cases e2 : j = n
      · subst e2
        rw [putf_same, putf_same, putf_same] at h2
        exact hap k ⟨i, by omega, (blks_rv _ _ _ k).1 h1⟩ h2
      · rw [putf_other _ _ _ _ e2, putf_other _ _ _ _ e2, putf_other _ _ _ _ e2] at h2
        exact h.apart i j (by omega) (by omega) hne k h1 h2

theorem Fam.below {w w' : World} {v : Value} {n : Nat} {A : Nat → Option Addr} {C : Nat → Nat} {Z : Nat → List Int} (h : Fam K et lty w v n A C Z) (hb : Below w.heap.size w w') : Fam K et lty w' v n A C Z := h.of_block fun k hk => hb.block k (h.lt k hk)
theorem fam_none (w : World) (hne : lty ≠ et) : Fam K et lty w (.slice none 0 0) 0 (fun _ => none) (fun _ => 0) (fun _ => []) :=
  ⟨hne, World.ownsRow_nil _ _ _ _, fun i hi => by omega, fun i j hi => by omega⟩
end
end Go.Proofs.Ytpoanlbjhhlagaa.Bo
