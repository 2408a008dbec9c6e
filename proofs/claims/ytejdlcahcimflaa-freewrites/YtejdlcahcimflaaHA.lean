/- Lists of rows of any one-cell values: what turns is some blocks alone. -/
import Derived.Test.YtejdlcahcimflaaGE
namespace Go.Proofs.Ytejdlcahcimflaa.Bv
open Go.RowKit Go.Proofs.Ytejdlcahcimflaa.Bo
set_option linter.unusedVariables false

/-- no row. -/
def nilv : Value := .slice none 0 0
/-- a row of values, of the call's own. -/
def OwnV (et : TypeId) (w : World) (v : Value) (zs : List Value) : Prop := w.ownsRow 0 et 1 v zs.length zs
section
variable {et : TypeId}
theorem OwnV.nil (w : World) : OwnV et w (.slice none 0 0) [] := World.ownsRow_nil w 0 et 1
theorem OwnV.shape2 {w : World} {v : Value} {zs : List Value} (h : OwnV et w v zs) : ∃ a n c, v = .slice a n c ∧ Hid (n = zs.length) := by
  rcases h.2 with ⟨rfl, h0⟩ | ⟨g, cap, cur, rfl, _⟩
  · exact ⟨none, 0, 0, rfl, h0.symm⟩
  · exact ⟨_, zs.length, cap, rfl, rfl⟩
theorem OwnV.lt {w : World} {v : Value} {zs : List Value} (h : OwnV et w v zs) {k : Nat} (hk : v.ownBlock = some k) : k < w.heap.size := (World.ownsRow.lt h k hk).2
theorem OwnV.of_block {w w' : World} {v : Value} {zs : List Value} (h : OwnV et w v zs) (hb : ∀ k, v.ownBlock = some k → w'.heap[k]? = w.heap[k]?) : OwnV et w' v zs := by
  obtain ⟨h1, h2⟩ := h
  refine ⟨h1, ?_⟩
  rcases h2 with h2 | ⟨g, cap, cur, rfl, hg, hh, r⟩
  · exact .inl h2
  · exact .inr ⟨g, cap, cur, rfl, hg, by rw [hb g rfl]; exact hh, r⟩
theorem OwnV.alloc {w : World} {v : Value} {zs : List Value} (h : OwnV et w v zs) (o : Obj) : OwnV et (w.alloc o) v zs := h.of_block fun k hk => Below.heap_alloc w o k (h.lt hk)
theorem OwnV.below {w w' : World} {v : Value} {zs : List Value} (h : OwnV et w v zs) (hb : Below w.heap.size w w') : OwnV et w' v zs := h.of_block fun k hk => hb.block k (h.lt hk)
theorem OwnV.blk_lt {w : World} {v : Value} {zs : List Value} (h : OwnV et w v zs) (k : Nat) (hk : blks v k) : k < w.heap.size := h.lt hk

/-- a row of bytes without room behind it, one of which is written. -/
theorem OwnV.at_ {w : World} {b off n c : Nat} {zs : List Value} (h : OwnV et w (.slice (some ⟨b, off, none⟩) n c) zs) : off = 0 ∧ n = zs.length ∧ b < w.heap.size ∧ (∀ i, i < zs.length → w.cell? ⟨b, i, none⟩ = some (zs.getD i nilv)) ∧ ∀ i, w.frozen? ⟨b, i, none⟩ = false := by
  rcases h.2 with ⟨e, _⟩ | ⟨g, cap, cur, e, hb, hg, hn, hm, hs, ht⟩
  · cases e
  · simp at e
    obtain ⟨⟨rfl, rfl⟩, rfl, rfl⟩ := e
    refine ⟨rfl, rfl, lt_of_block hg, fun i hi => ?_, fun i => by simp [World.frozen?, hg]⟩
    have := h.cells (g := b) rfl i (zs.getD i nilv) (by simp [hi])
    rw [Addr.add_lit] at this
    simpa using this
theorem OwnV.set {w : World} {b n c : Nat} {zs : List Value} (h : OwnV et w (.slice (some ⟨b, 0, none⟩) n c) zs) (i : Nat) (hi : i < zs.length) (x : Value) : OwnV et (w.setCell ⟨b, i, none⟩ x) (.slice (some ⟨b, 0, none⟩) n c) (zs.set i x) := by
  rcases h.2 with ⟨e, _⟩ | ⟨g, cap, cur, e, hb, hg, hn, hm, hs, ht⟩
  · cases e
  · simp at e
    obtain ⟨rfl, rfl, rfl⟩ := e
    refine ⟨by simp, .inr ⟨b, c, cur.setIfInBounds i x, by simp, hb, ?_, by simpa using hn, hm, by simpa using hs, ?_⟩⟩
    · rw [heap_setCell_same w b i _ et _ hg]
    · simp only [Nat.mul_one] at ht ⊢
      rw [List.length_set, Array.toList_setIfInBounds, List.take_set, ht]
/-- a row within a longer one of the same block and the same room. -/
theorem OwnV.front {w w' : World} {r v : Value} {b n m cr cv : Nat} {ms zs ts : List Value} (hr : OwnV et w r ms) (er : r = .slice (some ⟨b, 0, none⟩) n cr) (hv : OwnV et w' v zs) (ev : v = .slice (some ⟨b, 0, none⟩) m cv) (hc : cr = cv) (e : zs = ms ++ ts) : OwnV et w' r ms := by
  subst er ev hc e
  rcases hr.2 with ⟨h, _⟩ | ⟨g, cap, cur, h, hb, hg, hn, hm, hs, ht⟩
  · cases h
  · simp only [Value.slice.injEq, Option.some.injEq, Addr.mk.injEq, and_true] at h
    obtain ⟨rfl, rfl, rfl⟩ := h
    rcases hv.2 with ⟨h, _⟩ | ⟨g', cap', cur', h, hb', hg', hn', hm', hs', ht'⟩
    · cases h
    · simp only [Value.slice.injEq, Option.some.injEq, Addr.mk.injEq, and_true] at h
      obtain ⟨rfl, rfl, rfl⟩ := h
      refine ⟨by simp, .inr ⟨b, cr, cur', rfl, hb', hg', hn, hm, hs', ?_⟩⟩
      rw [Nat.mul_one] at ht' ⊢
      have : cur'.toList.take ms.length = (cur'.toList.take (ms ++ ts).length).take ms.length := by rw [List.take_take, Nat.min_eq_left (by simp)]
      rw [this, ht', List.take_left' (by simp)]
/-- two rows of one block have the same room. -/
theorem OwnV.room {w : World} {r v : Value} {b n m cr cv : Nat} {ms zs : List Value} (hr : OwnV et w r ms) (er : r = .slice (some ⟨b, 0, none⟩) n cr) (hv : OwnV et w v zs) (ev : v = .slice (some ⟨b, 0, none⟩) m cv) : cr = cv := by
  subst er ev
  rcases hr.2 with ⟨h, _⟩ | ⟨g, cap, cur, h, hb, hg, hn, hm, hs, ht⟩
  · cases h
  · simp only [Value.slice.injEq, Option.some.injEq, Addr.mk.injEq, and_true] at h
    obtain ⟨rfl, rfl, rfl⟩ := h
    rcases hv.2 with ⟨h, _⟩ | ⟨g', cap', cur', h, hb', hg', hn', hm', hs', ht'⟩
    · cases h
    · simp only [Value.slice.injEq, Option.some.injEq, Addr.mk.injEq, and_true] at h
      obtain ⟨rfl, rfl, rfl⟩ := h
      rw [hg] at hg'
      cases hg'
      omega
theorem OwnV.some_at {w : World} {v : Value} {zs : List Value} {k : Nat} (h : OwnV et w v zs) (hk : blks v k) : ∃ c, v = .slice (some ⟨k, 0, none⟩) zs.length c := by
  rcases h.2 with ⟨rfl, _⟩ | ⟨g, cap, cur, rfl, _⟩
  · cases hk
  · cases hk; exact ⟨cap, rfl⟩
end
section
variable {et lty : TypeId}
def rv (a : Option Addr) (c : Nat) (zs : List Value) : Value := .slice a zs.length c
/-- n lists of bytes, that no two share memory of, in a row of the call's own. -/
structure Fv (et lty : TypeId) (w : World) (v : Value) (n : Nat) (A : Nat → Option Addr) (C : Nat → Nat) (Z : Nat → List Value) : Prop where
  ne : lty ≠ et
  list : w.ownsRow 0 lty 1 v n ((List.range n).map fun i => rv (A i) (C i) (Z i))
  rows : ∀ i, i < n → OwnV et w (rv (A i) (C i) (Z i)) (Z i)
  apart : ∀ i j, i < n → j < n → i ≠ j → ∀ k, blks (rv (A i) (C i) (Z i)) k → ¬ blks (rv (A j) (C j) (Z j)) k
theorem blks_rv (a : Option Addr) (c : Nat) (zs : List Value) (k : Nat) : blks (rv a c zs) k ↔ ∃ ad, a = some ad ∧ ad.block = k := by
  unfold blks rv
  cases a <;> simp [Value.ownBlock]
theorem list_ne_row {w : World} {v : Value} {n : Nat} {xs : List Value} {u : Value} {zs : List Value} (hne : lty ≠ et) (h : w.ownsRow 0 lty 1 v n xs) (ho : OwnV et w u zs) (k : Nat) (h1 : blks v k) : ¬ blks u k := rows_ne h ho hne k h1
theorem Fv.of_block {w w' : World} {v : Value} {n : Nat} {A : Nat → Option Addr} {C : Nat → Nat} {Z : Nat → List Value} (h : Fv et lty w v n A C Z) (hb : ∀ k, blks v k ∨ rft n A k → w'.heap[k]? = w.heap[k]?) : Fv et lty w' v n A C Z :=
  ⟨h.ne, list_of_block h.list fun k hk => hb k (.inl hk), fun i hi => (h.rows i hi).of_block fun k hk => hb k (.inr ⟨i, hi, (blks_rv _ _ _ k).1 hk⟩), h.apart⟩
theorem Fv.lt {w : World} {v : Value} {n : Nat} {A : Nat → Option Addr} {C : Nat → Nat} {Z : Nat → List Value} (h : Fv et lty w v n A C Z) (k : Nat) (hk : blks v k ∨ rft n A k) : k < w.heap.size := by
  rcases hk with hk | ⟨i, hi, hk⟩
  · exact list_lt h.list k hk
  · exact (h.rows i hi).lt ((blks_rv _ _ (Z i) k).2 hk)
theorem fam_list (n : Nat) (A : Nat → Option Addr) (C : Nat → Nat) (Z : Nat → List Value) (a : Option Addr) (c : Nat) (zs : List Value) : (List.range (n + 1)).map (fun i => rv (putf A n a i) (putf C n c i) (putf Z n zs i)) = (List.range n).map (fun i => rv (A i) (C i) (Z i)) ++ [rv a c zs] := by
  rw [List.range_succ, List.map_append]
  congr 1
  · apply List.map_congr_left
    intro i hi
    have : i ≠ n := by have := List.mem_range.1 hi; omega
    rw [putf_other _ _ _ _ this, putf_other _ _ _ _ this, putf_other _ _ _ _ this]
  · simp [putf_same]
end
section
variable {et lty : TypeId}
/-- a list more. -/
theorem Fv.more {w w' : World} {v v' : Value} {n : Nat} {A : Nat → Option Addr} {C : Nat → Nat} {Z : Nat → List Value} {a : Option Addr} {c : Nat} {zs : List Value} (h : Fv et lty w v n A C Z) (ho : OwnV et w (rv a c zs) zs) (hap : ∀ k, rft n A k → ¬ blks (rv a c zs) k)
    (hl : w'.ownsRow 0 lty 1 v' ((List.range n).map (fun i => rv (A i) (C i) (Z i)) ++ [rv a c zs]).length ((List.range n).map (fun i => rv (A i) (C i) (Z i)) ++ [rv a c zs]))
    (hbt : et ≠ 59) (hb : ∀ k, k < w.heap.size → ¬ blks v k → (w'.heap[k]? = w.heap[k]? ∨ ∃ q, k = q ∧ ∃ u, Bk w q u)) : Fv et lty w' v' (n + 1) (putf A n a) (putf C n c) (putf Z n zs) := by
  have keep : ∀ u ys, OwnV et w u ys → OwnV et w' u ys := by
    intro u ys hu
    refine hu.of_block fun k hk => ?_
    rcases hb k (hu.lt hk) (fun hv => list_ne_row h.ne h.list hu k hv hk) with h1 | ⟨q, rfl, x, hx⟩
    · exact h1
    · exact absurd hk (book_ne hx hu hbt)
  refine ⟨h.ne, ?_, ?_, ?_⟩
  · rw [fam_list]
    have e : ((List.range n).map (fun i => rv (A i) (C i) (Z i)) ++ [rv a c zs]).length = n + 1 := by simp
    rw [e] at hl
    exact hl
  · intro i hi
    by_cases e : i = n
    · subst e
      rw [putf_same, putf_same, putf_same]
      exact keep _ _ ho
    · rw [putf_other _ _ _ _ e, putf_other _ _ _ _ e, putf_other _ _ _ _ e]
      exact keep _ _ (h.rows i (by omega))
  · intro i j hi hj hne k h1 h2
    by_cases e : i = n
    · subst e
      rw [putf_same, putf_same, putf_same] at h1
      rw [putf_other _ _ _ _ (fun e => hne e.symm), putf_other _ _ _ _ (fun e => hne e.symm), putf_other _ _ _ _ (fun e => hne e.symm)] at h2
      exact hap k ⟨j, by omega, (blks_rv _ _ _ k).1 h2⟩ h1
    · rw [putf_other _ _ _ _ e, putf_other _ _ _ _ e, putf_other _ _ _ _ e] at h1
      by_cases e2 : j = n
      · subst e2
        rw [putf_same, putf_same, putf_same] at h2
        exact hap k ⟨i, by omega, (blks_rv _ _ _ k).1 h1⟩ h2
      · rw [putf_other _ _ _ _ e2, putf_other _ _ _ _ e2, putf_other _ _ _ _ e2] at h2
        exact h.apart i j (by omega) (by omega) hne k h1 h2

theorem Fv.below {w w' : World} {v : Value} {n : Nat} {A : Nat → Option Addr} {C : Nat → Nat} {Z : Nat → List Value} (h : Fv et lty w v n A C Z) (hb : Below w.heap.size w w') : Fv et lty w' v n A C Z := h.of_block fun k hk => hb.block k (h.lt k hk)
theorem fam_none (w : World) (hne : lty ≠ et) : Fv et lty w (.slice none 0 0) 0 (fun _ => none) (fun _ => 0) (fun _ => []) :=
  ⟨hne, World.ownsRow_nil _ _ _ _, fun i hi => by omega, fun i j hi => by omega⟩
end
section
variable {et lty : TypeId} {w : World} {lb n cap : Nat} {A : Nat → Option Addr} {C : Nat → Nat} {Z : Nat → List Value}
theorem Fv.cell (h : Fv et lty w (.slice (some ⟨lb, 0, none⟩) n cap) n A C Z) (i : Nat) (hi : i < n) : w.cell? ⟨lb, i, none⟩ = some (.slice (A i) (Z i).length (C i)) :=
  list_cell h.list rfl i _ (by simp [hi, rv])
theorem row_at {a : Option Addr} {c : Nat} {zs : List Value} (h : OwnV et w (rv a c zs) zs) (k : Nat) (hk : k < zs.length) : ∃ b, a = some ⟨b, 0, none⟩ ∧ w.cell? ⟨b, k, none⟩ = some (zs.getD k nilv) ∧ w.frozen? ⟨b, k, none⟩ = false := by
  unfold rv at h
  cases a with
  | none =>
    rcases h.2 with ⟨e, h0⟩ | ⟨g, cap, cur, e, _⟩
    · omega
    · cases e
  | some ad =>
    obtain ⟨b, off, spot⟩ := ad
    rcases h.2 with ⟨e, _⟩ | ⟨g, cap, cur, e, _⟩
    · cases e
    · simp at e
      obtain ⟨⟨rfl, rfl, rfl⟩, _⟩ := e
      obtain ⟨_, _, _, h4, h5⟩ := h.at_
      exact ⟨b, rfl, h4 k hk, h5 k⟩
theorem Fv.set {v : Value} (h : Fv et lty w v n A C Z) (i k b : Nat) (hi : i < n) (hk : k < (Z i).length) (ha : A i = some ⟨b, 0, none⟩) (x : Value) :
    Fv et lty (w.setCell ⟨b, k, none⟩ x) v n A C (putf Z i ((Z i).set k x)) ∧ Kp (rft n A) w (w.setCell ⟨b, k, none⟩ x) := by
  have hrow := h.rows i hi
  have hbl : blks (rv (A i) (C i) (Z i)) b := (blks_rv _ _ _ b).2 ⟨_, ha, rfl⟩
  have hlen : ∀ j, (putf Z i ((Z i).set k x) j).length = (Z j).length := by
    intro j
    by_cases e : j = i
    · subst e; rw [putf_same, List.length_set]
    · rw [putf_other _ _ _ _ e]
  have hrv : ∀ j, rv (A j) (C j) (putf Z i ((Z i).set k x) j) = rv (A j) (C j) (Z j) := by intro j; unfold rv; rw [hlen j]
  refine ⟨⟨h.ne, ?_, ?_, ?_⟩, Kp.grown (grown_setCell w b k _) (fun m hm => by cases hm; exact ⟨i, hi, _, ha, rfl⟩)⟩
  · simp only [hrv]
    refine list_of_block h.list fun m hm => Below.heap_setCell _ _ _ _ (fun e => ?_)
    subst e
    exact list_ne_row h.ne h.list hrow _ hm hbl
  · intro j hj
    rw [hrv j]
    by_cases e : j = i
    · subst e
      rw [putf_same]
      have h2 := hrow
      unfold rv at h2 ⊢
      rw [ha] at h2 ⊢
      exact h2.set k hk x
    · rw [putf_other _ _ _ _ e]
      refine (h.rows j hj).of_block fun m hm => Below.heap_setCell _ _ _ _ (fun e2 => ?_)
      subst e2
      exact h.apart i j hi hj (fun e2 => e e2.symm) _ hbl hm
  · intro j l hj hl hne m
    rw [hrv j, hrv l]
    exact h.apart j l hj hl hne m
end
end Go.Proofs.Ytejdlcahcimflaa.Bv
