/- Rows of pairs, and lists of these: what turns is some blocks alone. -/
import Derived.Test.YtgohhlngnnmknaaDB
import Derived.Deep.AppendSrc
namespace Go.Proofs.Ytgohhlngnnmknaa.Bp
open Go.RowKit Go.Proofs.Ytgohhlngnnmknaa.Bo
set_option linter.unusedVariables false

/-- an entry's four cells. -/
structure Q4 where
  a : Value
  b : Value
def q0 : Q4 := ⟨.slice none 0 0, .slice none 0 0⟩
def Q4.cells (x : Q4) : List Value := [x.a, x.b]
theorem Q4.cells_len (x : Q4) : x.cells.length = 2 := rfl
def rw4 (zs : List Q4) : List Value := zs.flatMap Q4.cells
theorem rw4_cons (x : Q4) (zs : List Q4) : rw4 (x :: zs) = x.a :: x.b :: rw4 zs := by simp [rw4, Q4.cells]
theorem rw4_len (zs : List Q4) : (rw4 zs).length = zs.length * 2 := by
  induction zs with
  | nil => rfl
  | cons x xs ih => rw [rw4_cons]; simp only [List.length_cons, ih]; omega
theorem rw4_app (xs ys : List Q4) : rw4 (xs ++ ys) = rw4 xs ++ rw4 ys := by simp [rw4]
theorem rw4_one (x : Q4) : rw4 [x] = x.cells := by simp [rw4]
theorem rw4_at {xs : List Q4} {k : Nat} {x : Q4} (h : xs[k]? = some x) {j : Nat} {u : Value} (hu : x.cells[j]? = some u) : (rw4 xs)[k * 2 + j]? = some u := by
  induction xs generalizing k with
  | nil => simp at h
  | cons y ys ih =>
    have e : rw4 (y :: ys) = y.cells ++ rw4 ys := by simp [rw4]
    have hj : j < 2 := by have := (List.getElem?_eq_some_iff.1 hu).1; rwa [Q4.cells_len] at this
    rw [e]
    cases k with
    | zero =>
      simp at h
      subst h
      rw [List.getElem?_append_left (by rw [Q4.cells_len]; omega), Nat.zero_mul, Nat.zero_add]
      exact hu
    | succ k =>
      rw [List.getElem?_append_right (by rw [Q4.cells_len]; omega), Q4.cells_len, show (k + 1) * 2 + j - 2 = k * 2 + j by omega]
      exact ih (by simpa using h)
theorem rw4_set (xs : List Q4) (k : Nat) (x : Q4) : rw4 (xs.set k x) = ((rw4 xs).set (k * 2) x.a).set (k * 2 + 1) x.b := by
  induction xs generalizing k with
  | nil => simp [rw4]
  | cons y ys ih =>
    cases k with
    | zero => rw [List.set_cons_zero, rw4_cons, rw4_cons]; simp
    | succ k =>
      rw [List.set_cons_succ, rw4_cons, rw4_cons, ih, show (k + 1) * 2 = k * 2 + 1 + 1 by omega]
      rfl
theorem rw4_take (xs ys : List Q4) : (rw4 (xs ++ ys)).take (xs.length * 2) = rw4 xs := by rw [rw4_app, ← rw4_len, List.take_left]
theorem rows_ne {w : World} {t t' s s' : Nat} {v u : Value} {n m : Nat} {xs ys : List Value} (h : w.ownsRow 0 t s v n xs) (h' : w.ownsRow 0 t' s' u m ys) (hne : t ≠ t') (k : Nat) (h1 : blks v k) : ¬ blks u k := by
  intro h2
  rcases h.2 with ⟨rfl, _⟩ | ⟨g, cap, cur, rfl, _, hg, _⟩
  · cases h1
  · cases h1
    rcases h'.2 with ⟨rfl, _⟩ | ⟨g', cap', cur', rfl, _, hg', _⟩
    · cases h2
    · cases h2
      rw [hg] at hg'
      simp at hg'
      exact hne hg'.2
theorem book_ne {w : World} {q : Nat} {f : Nat → Value} {u : Value} {n s : Nat} {t : TypeId} {xs : List Value} (hb : Bk w q f) (h : w.ownsRow 0 t s u n xs) (hne : t ≠ 58) : ¬ blks u q := by
  intro h2
  rcases h.2 with ⟨rfl, _⟩ | ⟨g, cap, cur, rfl, _, hg, _⟩
  · cases h2
  · cases h2
    unfold Bk at hb
    rw [hg] at hb
    simp at hb
    exact hne hb.2
/-- the cells are written. -/
def put4 (w : World) (b i : Nat) (x : Q4) : World := (w.setCell ⟨b, i, none⟩ x.a).setCell ⟨b, i + 1, none⟩ x.b
theorem grown_tr {a b c : World} {r : Option Nat} (h : a.grownBy b r) (k : b.grownBy c r) : a.grownBy c r :=
  ⟨k.os.trans h.os, k.tape.trans h.tape, k.output.trans h.output, Nat.le_trans h.size k.size, fun i hi hn => (k.block i (Nat.lt_of_lt_of_le hi h.size) hn).trans (h.block i hi hn)⟩
theorem put4_grown (w : World) (b i : Nat) (x : Q4) : w.grownBy (put4 w b i x) (some b) :=
  grown_tr (grown_setCell _ _ _ _) (grown_setCell _ _ _ _)
theorem put4_other (w : World) (b i m : Nat) (x : Q4) (h : m ≠ b) : (put4 w b i x).heap[m]? = w.heap[m]? := by
  unfold put4
  rw [Below.heap_setCell _ _ _ _ h, Below.heap_setCell _ _ _ _ h]
theorem put4_same (w : World) (b i : Nat) (x : Q4) (cur : Array Value) (h : w.heap[b]? = some (.cells cur 74 (0, 0))) : (put4 w b i x).heap[b]? = some (.cells ((cur.setIfInBounds i x.a).setIfInBounds (i + 1) x.b) 74 (0, 0)) := by
  unfold put4
  exact heap_setCell_same _ b _ _ 74 _ (heap_setCell_same w b i _ 74 _ h)
/-- a row of values, of the call's own. -/
def OwnE (w : World) (v : Value) (zs : List Q4) : Prop := w.ownsRow 0 74 2 v zs.length (rw4 zs)
section
theorem OwnE.nil (w : World) : OwnE w (.slice none 0 0) [] := World.ownsRow_nil w 0 74 2
theorem OwnE.lt {w : World} {v : Value} {zs : List Q4} (h : OwnE w v zs) {k : Nat} (hk : v.ownBlock = some k) : k < w.heap.size := (World.ownsRow.lt h k hk).2
theorem OwnE.of_block {w w' : World} {v : Value} {zs : List Q4} (h : OwnE w v zs) (hb : ∀ k, v.ownBlock = some k → w'.heap[k]? = w.heap[k]?) : OwnE w' v zs := by
  obtain ⟨h1, h2⟩ := h
  refine ⟨h1, ?_⟩
  rcases h2 with h2 | ⟨g, cap, cur, rfl, hg, hh, r⟩
  · exact .inl h2
  · exact .inr ⟨g, cap, cur, rfl, hg, by rw [hb g rfl]; exact hh, r⟩
theorem OwnE.alloc {w : World} {v : Value} {zs : List Q4} (h : OwnE w v zs) (o : Obj) : OwnE (w.alloc o) v zs := h.of_block fun k hk => Below.heap_alloc w o k (h.lt hk)
theorem OwnE.below {w w' : World} {v : Value} {zs : List Q4} (h : OwnE w v zs) (hb : Below w.heap.size w w') : OwnE w' v zs := h.of_block fun k hk => hb.block k (h.lt hk)
theorem OwnE.blk_lt {w : World} {v : Value} {zs : List Q4} (h : OwnE w v zs) (k : Nat) (hk : blks v k) : k < w.heap.size := h.lt hk

end
theorem OwnE.shape2 {w : World} {v : Value} {zs : List Q4} (h : OwnE w v zs) : ∃ a n c, v = .slice a n c ∧ Hid (n = zs.length) := by
  rcases h.2 with ⟨rfl, h0⟩ | ⟨g, cap, cur, rfl, _⟩
  · exact ⟨none, 0, 0, rfl, h0.symm⟩
  · exact ⟨_, zs.length, cap, rfl, rfl⟩
theorem OwnE.some_at {w : World} {v : Value} {zs : List Q4} {k : Nat} (h : OwnE w v zs) (hk : blks v k) : ∃ c, v = .slice (some ⟨k, 0, none⟩) zs.length c := by
  rcases h.2 with ⟨rfl, _⟩ | ⟨g, cap, cur, rfl, _⟩
  · cases hk
  · cases hk; exact ⟨cap, rfl⟩
theorem OwnE.at_ {w : World} {b off n c : Nat} {zs : List Q4} (h : OwnE w (.slice (some ⟨b, off, none⟩) n c) zs) : off = 0 ∧ n = zs.length ∧ b < w.heap.size ∧ (∀ i j u, i < zs.length → (zs.getD i q0).cells[j]? = some u → w.cell? ⟨b, i * 2 + j, none⟩ = some u) ∧ ∀ i, w.frozen? ⟨b, i, none⟩ = false := by
  rcases h.2 with ⟨e, _⟩ | ⟨g, cap, cur, e, hb, hg, hn, hm, hs, ht⟩
  · cases e
  · simp at e
    obtain ⟨⟨rfl, rfl⟩, rfl, rfl⟩ := e
    refine ⟨rfl, rfl, lt_of_block hg, fun i j u hi hu => ?_, fun i => by simp [World.frozen?, hg]⟩
    have := h.cells (g := b) rfl (i * 2 + j) u (rw4_at (k := i) (x := zs.getD i q0) (by simp [hi]) hu)
    rw [Addr.add_lit] at this
    simpa using this
theorem OwnE.set {w : World} {b n c : Nat} {zs : List Q4} (h : OwnE w (.slice (some ⟨b, 0, none⟩) n c) zs) (i : Nat) (hi : i < zs.length) (x : Q4) : OwnE (put4 w b (i * 2) x) (.slice (some ⟨b, 0, none⟩) n c) (zs.set i x) := by
  rcases h.2 with ⟨e, _⟩ | ⟨g, cap, cur, e, hb, hg, hn, hm, hs, ht⟩
  · cases e
  · simp at e
    obtain ⟨rfl, rfl, rfl⟩ := e
    refine ⟨by rw [rw4_len], .inr ⟨b, c, _, by simp, hb, put4_same w b (i * 2) x cur hg, by simpa using hn, hm, by simpa using hs, ?_⟩⟩
    rw [List.length_set, rw4_set, ← ht]
    simp only [Array.toList_setIfInBounds, List.take_set]
theorem OwnE.front {w w' : World} {r v : Value} {b n m cr cv : Nat} {ms zs ts : List Q4} (hr : OwnE w r ms) (er : r = .slice (some ⟨b, 0, none⟩) n cr) (hv : OwnE w' v zs) (ev : v = .slice (some ⟨b, 0, none⟩) m cv) (hc : cr = cv) (e : zs = ms ++ ts) : OwnE w' r ms := by
  subst er ev hc e
  rcases hr.2 with ⟨h, _⟩ | ⟨g, cap, cur, h, hb, hg, hn, hm, hs, ht⟩
  · cases h
  · simp only [Value.slice.injEq, Option.some.injEq, Addr.mk.injEq, and_true] at h
    obtain ⟨rfl, rfl, rfl⟩ := h
    rcases hv.2 with ⟨h, _⟩ | ⟨g', cap', cur', h, hb', hg', hn', hm', hs', ht'⟩
    · cases h
    · simp only [Value.slice.injEq, Option.some.injEq, Addr.mk.injEq, and_true] at h
      obtain ⟨rfl, rfl, rfl⟩ := h
      refine ⟨hr.1, .inr ⟨b, cr, cur', rfl, hb', hg', hn, hm, hs', ?_⟩⟩
      have : cur'.toList.take (ms.length * 2) = (cur'.toList.take ((ms ++ ts).length * 2)).take (ms.length * 2) := by rw [List.take_take, Nat.min_eq_left (by simp; omega)]
      rw [this, ht', rw4_take]
theorem OwnE.room {w : World} {r v : Value} {b n m cr cv : Nat} {ms zs : List Q4} (hr : OwnE w r ms) (er : r = .slice (some ⟨b, 0, none⟩) n cr) (hv : OwnE w v zs) (ev : v = .slice (some ⟨b, 0, none⟩) m cv) : cr = cv := by
  subst er ev
  rcases hr.2 with ⟨h, _⟩ | ⟨g, cap, cur, h, hb, hg, hn, hm, hs, ht⟩
  · cases h
  · simp only [Value.slice.injEq, Option.some.injEq, Addr.mk.injEq, and_true] at h
    obtain ⟨rfl, rfl, rfl⟩ := h
    rcases hv.2 with ⟨h, _⟩ | ⟨g', cap', cur', h, hb', hg', hn', hm', hs', ht'⟩
    · cases h
    · simp only [Value.slice.injEq, Option.some.injEq, Addr.mk.injEq, and_true] at h
      obtain ⟨rfl, rfl, rfl⟩ := h
      rw [hg] at hg'
      cases hg'
      omega
theorem list_ne_row {lty : TypeId} {w : World} {v : Value} {n : Nat} {xs : List Value} {u : Value} {zs : List Q4} (hne : lty ≠ 74) (h : w.ownsRow 0 lty 1 v n xs) (ho : OwnE w u zs) (k : Nat) (h1 : blks v k) : ¬ blks u k := rows_ne h ho hne k h1
section
variable {lty : TypeId}
def rv (a : Option Addr) (c : Nat) (zs : List Q4) : Value := .slice a zs.length c
/-- n lists of bytes, that no two share memory of, in a row of the call's own. -/
structure Fe (lty : TypeId) (w : World) (v : Value) (n : Nat) (A : Nat → Option Addr) (C : Nat → Nat) (Z : Nat → List Q4) : Prop where
  ne : lty ≠ 74
  list : w.ownsRow 0 lty 1 v n ((List.range n).map fun i => rv (A i) (C i) (Z i))
  rows : ∀ i, i < n → OwnE w (rv (A i) (C i) (Z i)) (Z i)
  apart : ∀ i j, i < n → j < n → i ≠ j → ∀ k, blks (rv (A i) (C i) (Z i)) k → ¬ blks (rv (A j) (C j) (Z j)) k
theorem blks_rv (a : Option Addr) (c : Nat) (zs : List Q4) (k : Nat) : blks (rv a c zs) k ↔ ∃ ad, a = some ad ∧ ad.block = k := by
  unfold blks rv
  cases a <;> simp [Value.ownBlock]
theorem Fe.of_block {w w' : World} {v : Value} {n : Nat} {A : Nat → Option Addr} {C : Nat → Nat} {Z : Nat → List Q4} (h : Fe lty w v n A C Z) (hb : ∀ k, blks v k ∨ rft n A k → w'.heap[k]? = w.heap[k]?) : Fe lty w' v n A C Z :=
  ⟨h.ne, list_of_block h.list fun k hk => hb k (.inl hk), fun i hi => (h.rows i hi).of_block fun k hk => hb k (.inr ⟨i, hi, (blks_rv _ _ _ k).1 hk⟩), h.apart⟩
theorem Fe.lt {w : World} {v : Value} {n : Nat} {A : Nat → Option Addr} {C : Nat → Nat} {Z : Nat → List Q4} (h : Fe lty w v n A C Z) (k : Nat) (hk : blks v k ∨ rft n A k) : k < w.heap.size := by
  rcases hk with hk | ⟨i, hi, hk⟩
  · exact list_lt h.list k hk
  · exact (h.rows i hi).lt ((blks_rv _ _ (Z i) k).2 hk)
theorem fam_list (n : Nat) (A : Nat → Option Addr) (C : Nat → Nat) (Z : Nat → List Q4) (a : Option Addr) (c : Nat) (zs : List Q4) : (List.range (n + 1)).map (fun i => rv (putf A n a i) (putf C n c i) (putf Z n zs i)) = (List.range n).map (fun i => rv (A i) (C i) (Z i)) ++ [rv a c zs] := by
  rw [List.range_succ, List.map_append]
  congr 1
  · apply List.map_congr_left
    intro i hi
    have : i ≠ n := by have := List.mem_range.1 hi; omega
    rw [putf_other _ _ _ _ this, putf_other _ _ _ _ this, putf_other _ _ _ _ this]
  · simp [putf_same]
end
section
variable {lty : TypeId}
/-- a list more. -/
theorem Fe.more {w w' : World} {v v' : Value} {n : Nat} {A : Nat → Option Addr} {C : Nat → Nat} {Z : Nat → List Q4} {a : Option Addr} {c : Nat} {zs : List Q4} (h : Fe lty w v n A C Z) (ho : OwnE w (rv a c zs) zs) (hap : ∀ k, rft n A k → ¬ blks (rv a c zs) k)
    (hl : w'.ownsRow 0 lty 1 v' ((List.range n).map (fun i => rv (A i) (C i) (Z i)) ++ [rv a c zs]).length ((List.range n).map (fun i => rv (A i) (C i) (Z i)) ++ [rv a c zs]))
    (hbt : 74 ≠ 58) (hb : ∀ k, k < w.heap.size → ¬ blks v k → (w'.heap[k]? = w.heap[k]? ∨ ∃ q, k = q ∧ ∃ u, Bk w q u)) : Fe lty w' v' (n + 1) (putf A n a) (putf C n c) (putf Z n zs) := by
  have keep : ∀ u ys, OwnE w u ys → OwnE w' u ys := by
    intro u ys hu
    refine hu.of_block fun k hk => ?_
    rcases hb k (hu.lt hk) (fun hv => list_ne_row h.ne h.list hu k hv hk) with h1 | ⟨q, rfl, x, hx⟩
    · exact h1
    · exact absurd hk (book_ne hx hu hbt)
  refine ⟨h.ne, ?_, ?_, ?_⟩
  · rw [fam_list]
    have e : ((List.range n).map (fun i => rv (A i) (C i) (Z i)) ++ [rv a c zs]).length = n + 1 := by simp
    rw [e] at hl
    exact hl
  · intro i hi
    by_cases e : i = n
    · subst e
      rw [putf_same, putf_same, putf_same]
      exact keep _ _ ho
    · rw [putf_other _ _ _ _ e, putf_other _ _ _ _ e, putf_other _ _ _ _ e]
      exact keep _ _ (h.rows i (by omega))
  · intro i j hi hj hne k h1 h2
    by_cases e : i = n
    · subst e
      rw [putf_same, putf_same, putf_same] at h1
      rw [putf_other _ _ _ _ (fun e => hne e.symm), putf_other _ _ _ _ (fun e => hne e.symm), putf_other _ _ _ _ (fun e => hne e.symm)] at h2
      exact hap k ⟨j, by omega, (blks_rv _ _ _ k).1 h2⟩ h1
    · rw [putf_other _ _ _ _ e, putf_other _ _ _ _ e, putf_other _ _ _ _ e] at h1
      by_cases e2 : j = n
      · subst e2
        rw [putf_same, putf_same, putf_same] at h2
        exact hap k ⟨i, by omega, (blks_rv _ _ _ k).1 h1⟩ h2
      · rw [putf_other _ _ _ _ e2, putf_other _ _ _ _ e2, putf_other _ _ _ _ e2] at h2
        exact h.apart i j (by omega) (by omega) hne k h1 h2

theorem Fe.below {w w' : World} {v : Value} {n : Nat} {A : Nat → Option Addr} {C : Nat → Nat} {Z : Nat → List Q4} (h : Fe lty w v n A C Z) (hb : Below w.heap.size w w') : Fe lty w' v n A C Z := h.of_block fun k hk => hb.block k (h.lt k hk)
theorem fam_none (w : World) (hne : lty ≠ 74) : Fe lty w (.slice none 0 0) 0 (fun _ => none) (fun _ => 0) (fun _ => []) :=
  ⟨hne, World.ownsRow_nil _ _ _ _, fun i hi => by omega, fun i j hi => by omega⟩
end
section
variable {lty : TypeId} {w : World} {lb n cap : Nat} {A : Nat → Option Addr} {C : Nat → Nat} {Z : Nat → List Q4}
theorem Fe.cell (h : Fe lty w (.slice (some ⟨lb, 0, none⟩) n cap) n A C Z) (i : Nat) (hi : i < n) : w.cell? ⟨lb, i, none⟩ = some (.slice (A i) (Z i).length (C i)) :=
  list_cell h.list rfl i _ (by simp [hi, rv])
end
section
variable {lty : TypeId} {w : World} {lb n cap : Nat} {A : Nat → Option Addr} {C : Nat → Nat} {Z : Nat → List Q4}
theorem row_at {a : Option Addr} {c : Nat} {zs : List Q4} (h : OwnE w (rv a c zs) zs) (k : Nat) (hk : k < zs.length) : ∃ b, a = some ⟨b, 0, none⟩ ∧ (∀ j u, (zs.getD k q0).cells[j]? = some u → w.cell? ⟨b, k * 2 + j, none⟩ = some u) ∧ ∀ j, w.frozen? ⟨b, j, none⟩ = false := by
  unfold rv at h
  cases a with
  | none =>
    rcases h.2 with ⟨e, h0⟩ | ⟨g, cap, cur, e, _⟩
    · omega
    · cases e
  | some ad =>
    obtain ⟨b, off, spot⟩ := ad
    rcases h.2 with ⟨e, _⟩ | ⟨g, cap, cur, e, _⟩
    · cases e
    · simp at e
      obtain ⟨⟨rfl, rfl, rfl⟩, _⟩ := e
      obtain ⟨_, _, _, h4, h5⟩ := h.at_
      exact ⟨b, rfl, fun j u hu => h4 k j u hk hu, h5⟩
theorem Fe.set {v : Value} (h : Fe lty w v n A C Z) (i k b : Nat) (hi : i < n) (hk : k < (Z i).length) (ha : A i = some ⟨b, 0, none⟩) (x : Q4) :
    Fe lty (put4 w b (k * 2) x) v n A C (putf Z i ((Z i).set k x)) ∧ Kp (rft n A) w (put4 w b (k * 2) x) := by
  have hrow := h.rows i hi
  have hbl : blks (rv (A i) (C i) (Z i)) b := (blks_rv _ _ _ b).2 ⟨_, ha, rfl⟩
  have hlen : ∀ j, (putf Z i ((Z i).set k x) j).length = (Z j).length := by
    intro j
    by_cases e : j = i
    · subst e; rw [putf_same, List.length_set]
    · rw [putf_other _ _ _ _ e]
  have hrv : ∀ j, rv (A j) (C j) (putf Z i ((Z i).set k x) j) = rv (A j) (C j) (Z j) := by intro j; unfold rv; rw [hlen j]
  refine ⟨⟨h.ne, ?_, ?_, ?_⟩, Kp.grown (put4_grown w b (k * 2) x) (fun m hm => by cases hm; exact ⟨i, hi, _, ha, rfl⟩)⟩
  · simp only [hrv]
    refine list_of_block h.list fun m hm => put4_other _ _ _ _ _ (fun e => ?_)
    subst e
    exact list_ne_row h.ne h.list hrow _ hm hbl
  · intro j hj
    rw [hrv j]
    by_cases e : j = i
    · subst e
      rw [putf_same]
      have h2 := hrow
      unfold rv at h2 ⊢
      rw [ha] at h2 ⊢
      exact h2.set k hk x
    · rw [putf_other _ _ _ _ e]
      refine (h.rows j hj).of_block fun m hm => put4_other _ _ _ _ _ (fun e2 => ?_)
      subst e2
      exact h.apart i j hi hj (fun e2 => e e2.symm) _ hbl hm
  · intro j l hj hl hne m
    rw [hrv j, hrv l]
    exact h.apart j l hj hl hne m
end
end Go.Proofs.Ytgohhlngnnmknaa.Bp
/- Rows of pairs: an append to one, marks in them, and rows that have grown. -/
namespace Go.Proofs.Ytgohhlngnnmknaa.Bp
open Go.RowKit Go.Proofs.Ytgohhlngnnmknaa.Bo
set_option linter.unusedVariables false

/-- an append to a row of the call's own. -/
theorem run_append_four {P : Program} (w : World) (t tx ty e : TypeId) (i : TypeInfo) (z : Value) (ht : P.underlying t = some (.slice e)) (hi : P.info? e = some i) (hz : i.zero = some z) (h1 : i.size = 2) (hzc : z.cells.size = 2)
    (v : Value) (m : Nat) (xs : List Value) (hown : w.ownsRow 0 e 2 v m xs) (x : Value) (n : Nat) (news : List Value) (hs : Src P 2 tx x n news w) (hb : (m + n) * i.bytes ≤ 140737488355328) (hm : m + n ≤ 140737488355328) :
    ∃ v' w', (Builtin.append_ #[t, tx] ty #[v, x]).run P w = .ok v' w' ∧ w'.ownsRow 0 e 2 v' (m + n) (xs ++ news) ∧ w.grownBy w' v.ownBlock ∧ (∀ k, v'.ownBlock = some k → v.ownBlock = some k ∨ w.heap.size ≤ k) ∧
      (0 < n → (Below w.heap.size w w' ∧ ∀ k, v'.ownBlock = some k → w.heap.size ≤ k) ∨ ∃ a m c, v = .slice a m c ∧ v' = .slice a (m + n) c) := by
  have hnl : news.length = n * 2 := hs.newsLen
  have hxl : xs.length = m * 2 := hown.1
  have hlen : (xs ++ news).length = (m + n) * 2 := by rw [List.length_append, hnl, hxl]; omega
  have hs' : Src P i.size tx x n news w := by rw [h1]; exact hs
  have hgrow : ∀ (old : Nat) (row : Option Nat), old < m + n →
      (w.drew.alloc (.cells ((xs ++ news).toArray ++ Builtin.zeroCells z.cells (grownCap w (m + n) old e - (m + n))) e)).ownsRow 0 e 2 (.slice (some ⟨w.heap.size, 0, none⟩) (m + n) (grownCap w (m + n) old e)) (m + n) (xs ++ news) ∧
      w.grownBy (w.drew.alloc (.cells ((xs ++ news).toArray ++ Builtin.zeroCells z.cells (grownCap w (m + n) old e - (m + n))) e)) row := by
    intro old row ho
    have hge := grownCap_ge w (m + n) old e
    have hcm : grownCap w (m + n) old e ≤ maxLen := grownCap_le_maxLen w _ old e (by unfold maxLen; omega)
    refine ⟨⟨hlen, .inr ⟨w.heap.size, _, _, rfl, Nat.zero_le _, heap_alloc_new w.drew _, hge, hcm, ?_, ?_⟩⟩, ⟨rfl, rfl, rfl, by simp, fun k hk _ => Below.heap_alloc w.drew _ k hk⟩⟩
    · simp only [Array.size_append, List.size_toArray, size_zeroCells, hlen, hzc]
      omega
    · rw [Array.toList_append, ← hlen]
      exact List.take_left
  rcases hown.2 with ⟨rfl, h0⟩ | ⟨g, cap, cur, rfl, hbg, hg, hnc, hcm, hcs, htake⟩
  · subst h0
    have hx : xs = [] := List.eq_nil_of_length_eq_zero (by omega)
    subst hx
    by_cases hm0 : n = 0
    · subst hm0
      have hn : news = [] := List.eq_nil_of_length_eq_zero (by omega)
      subst hn
      refine ⟨.slice none 0 0, w, ?_, World.ownsRow_nil w 0 e 2, ⟨rfl, rfl, rfl, Nat.le_refl _, fun _ _ _ => rfl⟩, fun k hk => .inl hk, fun h => by omega⟩
      have hsl := hs'.len
      have hsc := hs'.cells
      rcases hs.kind with ⟨e', hk⟩ | hk <;> simp [Builtin.append_, run_underlying ht, run_underlying hk, sizeOf, typeInfo, hi, hsl, hsc]
    · have hr := run_append_grow_src (P := P) w t tx ty e i z ht hi hz none 0 0 [] (by simp [Builtin.firstCells]) x n _ hs' (by omega) (by omega) (growslice_fits (by omega) (by simpa using hb))
      have hgr := hgrow 0 (Value.ownBlock (.slice none 0 0)) (by omega)
      simp only [Nat.zero_add, List.nil_append] at hgr hr ⊢
      exact ⟨_, _, hr, hgr.1, hgr.2, fun k hk => .inr (by simp [Value.ownBlock] at hk; omega), fun _ => .inl ⟨⟨rfl, rfl, rfl, by simp, fun k hk => Below.heap_alloc w.drew _ k hk⟩, fun k hk => by simp [Value.ownBlock] at hk; omega⟩⟩
  · by_cases hroom : m + n ≤ cap
    · have hfit : m * 2 + news.length ≤ cur.size := by rw [hnl, hcs]; omega
      have hst := run_storeCells_at P g (m * 2) e news 0 cur w hg (by simpa using hfit) hs.one
      simp only [Nat.add_zero] at hst
      have hsl := hs.len
      have hsc := hs.cells
      refine ⟨.slice (some ⟨g, 0, none⟩) (m + n) cap, w.setRow g (cur.toList.take (m * 2) ++ news ++ cur.toList.drop (m * 2 + news.length)).toArray, ?_, ⟨hlen, .inr ⟨g, cap, _, rfl, hbg, setRow_heap w g cur _ e _ hg, hroom, hcm, ?_, ?_⟩⟩, ⟨rfl, rfl, rfl, by simp, fun k _ hk => setRow_other w g k _ (fun e => hk (by simp [Value.ownBlock, e]))⟩, fun k hk => .inl (by simpa [Value.ownBlock] using hk), fun _ => .inr ⟨_, _, _, rfl, rfl⟩⟩
      · rcases hs.kind with ⟨e', hk⟩ | hk <;> simp [Builtin.append_, run_underlying ht, run_underlying hk, sizeOf, typeInfo, hi, h1, hsl, hroom, hsc, Addr.add_lit] <;> simp at hst <;> simp [hst]
      · simp only [List.size_toArray, List.length_append, List.length_take, List.length_drop, Array.length_toList] at hfit ⊢
        omega
      · rw [htake, ← hlen]
        exact List.take_left
    · have holds : ∀ j u, xs[j]? = some u → w.drew.cell? ((⟨g, 0, none⟩ : Addr).add j) = some u := hown.cells (g := g) rfl
      have hr := run_append_grow_src (P := P) w t tx ty e i z ht hi hz (some ⟨g, 0, none⟩) m cap xs (run_firstCells_some w.drew i.size m ⟨g, 0, none⟩ m cap _ (by rw [h1]; exact hxl) holds) x n _ hs' (by omega) (by omega) (growslice_fits (by omega) hb)
      have hgr := hgrow cap (Value.ownBlock (.slice (some ⟨g, 0, none⟩) m cap)) (by omega)
      exact ⟨_, _, hr, hgr.1, hgr.2, fun k hk => .inr (by simp [Value.ownBlock] at hk; omega), fun _ => .inl ⟨⟨rfl, rfl, rfl, by simp, fun k hk => Below.heap_alloc w.drew _ k hk⟩, fun k hk => by simp [Value.ownBlock] at hk; omega⟩⟩
theorem wpList_append_four {P : Program} {w : World} {ops : Array Oper} {rest : List Oper} {o : Oper} {a : Act} {Q : Exit → Act → World → Prop} (hgd : o.guard = none) (s x : Operand) (t tx e : TypeId) (ho : o.op = .call { callee := .builtin .append, args := #[s, x], argTypes := #[t, tx] })
    (i : TypeInfo) (z : Value) (ht : P.underlying t = some (.slice e)) (hi : P.info? e = some i) (hz : i.zero = some z) (h1 : i.size = 2) (hzc : z.cells.size = 2)
    (v : Value) (m : Nat) (xs : List Value) (hs : a.eval s = v) (hown : w.ownsRow 0 e 2 v m xs) (xv : Value) (n : Nat) (news : List Value) (hx : a.eval x = xv) (hsrc : Src P 2 tx xv n news w) (hb : (m + n) * i.bytes ≤ 140737488355328) (hm : m + n ≤ 140737488355328)
    (h : ∀ v' w', w'.ownsRow 0 e 2 v' (m + n) (xs ++ news) → w.grownBy w' v.ownBlock → (∀ k, v'.ownBlock = some k → v.ownBlock = some k ∨ w.heap.size ≤ k) → (0 < n → (Below w.heap.size w w' ∧ ∀ k, v'.ownBlock = some k → w.heap.size ≤ k) ∨ ∃ a m c, v = .slice a m c ∧ v' = .slice a (m + n) c) → wpList P ops Q rest (a.put o.dst v') w') : wpList P ops Q (o :: rest) a w :=
  wpList_plain hgd fun _ hK => by
    obtain ⟨v', w', hr, h2, h3, h4, h5⟩ := run_append_four (P := P) w t tx o.type e i z ht hi hz h1 hzc v m xs hown xv n news hsrc hb hm
    unfold Oper.wp execOp
    simp only [ho, resolve, invoke, builtin, Sem.run_bind, Sem.run_pure, Result.andThen_ok, List.map_toArray, List.map_cons, List.map_nil, hs, hx, hr]
    exact hK _ _ (h v' w' h2 h3 h4 h5)
/-- a mark: its key lies in a block of its own. -/
def mq (b : Nat) : Q4 := ⟨.slice (some ⟨b, 0, none⟩) 1 1, .slice none 0 0⟩
def mkE (i k : Nat) : Int := ((i : Int) * 97 + (k : Int) * 13) % 256
def nkE (i k : Nat) : Int := ((-1 - (i : Int)) * 97 + (k : Int) * 13) % 256
def Mk (W : World) (x : Q4) (m : Int) : Prop := ∃ b, x = mq b ∧ W.heap[b]? = some (.cells #[.int .u8 m] 5 (0, 0))
theorem Mk.stay {W W2 : World} {x : Q4} {m : Int} (h : Mk W x m) (hk : ∀ k, k < W.heap.size → (∀ cs t, t ≠ 5 → W.heap[k]? ≠ some (.cells cs t (0, 0))) → W2.heap[k]? = W.heap[k]?) : Mk W2 x m := by
  obtain ⟨b, e, hb⟩ := h
  refine ⟨b, e, (hk b (lt_of_block hb) fun cs t ht h2 => ?_).trans hb⟩
  rw [hb] at h2
  have := congrArg (fun o : Option Obj => match o with | some (.cells _ t _) => t | _ => 0) h2
  exact ht this.symm
theorem Mk.below {W W2 : World} {x : Q4} {m : Int} (h : Mk W x m) (hb : Below W.heap.size W W2) : Mk W2 x m := h.stay fun k hk _ => hb.block k hk
theorem Mk.grown {W W2 : World} {x : Q4} {m : Int} {r : Option Nat} (h : Mk W x m) (hg : W.grownBy W2 r) (hr : ∀ k, r = some k → ∃ cs t, t ≠ 5 ∧ W.heap[k]? = some (.cells cs t (0, 0))) : Mk W2 x m := h.stay fun k hk hn => hg.block k hk (fun e => by
  obtain ⟨cs, t, ht, h1⟩ := hr k e.symm
  exact hn cs t ht h1)
theorem Mk.kp {W W2 : World} {x : Q4} {m : Int} {f : Nat → Prop} (h : Mk W x m) (hg : Kp f W W2) (hr : ∀ k, f k → ∃ cs t, t ≠ 5 ∧ W.heap[k]? = some (.cells cs t (0, 0))) : Mk W2 x m := h.stay fun k hk hn => hg.block k hk (fun e => by
  obtain ⟨cs, t, ht, h1⟩ := hr k e
  exact hn cs t ht h1)
theorem own_typ {w : World} {v : Value} {n : Nat} {xs : List Value} {e sz : Nat} (h : w.ownsRow 0 e sz v n xs) {k : Nat} (hk : v.ownBlock = some k) : ∃ cs, w.heap[k]? = some (.cells cs e (0, 0)) := by
  rcases h.2 with ⟨rfl, _⟩ | ⟨g, cap, cur, rfl, _, hg, _⟩
  · cases hk
  · cases hk; exact ⟨cur, hg⟩
theorem OwnE.typ {w : World} {v : Value} {zs : List Q4} (h : OwnE w v zs) {k : Nat} (hk : blks v k) : ∃ cs t, t ≠ 5 ∧ w.heap[k]? = some (.cells cs t (0, 0)) := by
  obtain ⟨cs, h1⟩ := own_typ h hk
  exact ⟨cs, _, by decide, h1⟩
theorem fr_alloc {w : World} {b j : Nat} (o : Obj) (hb : b < w.heap.size) (h : w.frozen? ⟨b, j, none⟩ = false) : (w.alloc o).frozen? ⟨b, j, none⟩ = false := by
  have e := Below.heap_alloc w o b hb
  simp only [World.frozen?, e] at h ⊢
  exact h
/-- a mark in a block of its own, as what is appended. -/
theorem src_four {P : Program} {t : TypeId} (w : World) (b : Nat) (hu : P.underlying t = some (.slice 74)) : Src P 2 t (.slice (some ⟨w.heap.size, 0, none⟩) 1 1) 1 (mq b).cells (w.alloc (.cells #[.slice (some ⟨b, 0, none⟩) 1 1, .slice none 0 0] 74)) := by
  refine Src.ofSlice _ hu _ _ _ _ (by rfl) (fun j u hu => ?_) (fun u hu => ?_)
  · rw [Addr.add_lit, World.cell?_alloc_at _ _ _ _ rfl, Nat.zero_add, ← hu]
    simp [Q4.cells, mq]
  · simp only [Q4.cells, mq, List.mem_cons, List.not_mem_nil, or_false] at hu
    rcases hu with rfl | rfl <;> rfl
section
variable {lty : TypeId}
/-- lists that have grown: each is its marks and those behind them; it lies where the list lay that it grew out of, or in a block made since. -/
structure Lg (lty : TypeId) (n : Nat) (A : Nat → Option Addr) (C : Nat → Nat) (fv : Value) (w0 w : World) (v : Value) (i : Nat) (M T : Nat → List Q4) (X : Nat → Value) : Prop where
  kp : Kp (rft n A) w0 w
  fam : Fe lty w fv n A C M
  list : w.ownsRow 0 lty 1 v i ((List.range i).map X)
  rows : ∀ j, j < i → OwnE w (X j) (M j ++ T j)
  lies : ∀ j, j < i → ∀ k, blks (X j) k → (∃ ad, A j = some ad ∧ ad.block = k) ∨ w0.heap.size ≤ k
  low : ∀ k, blks v k → w0.heap.size ≤ k
/-- within one list that grows: the row it grew out of stays, nothing but its block turns. -/
structure Gs (r : Value) (ms : List Q4) (W1 w : World) (x : Value) (zs : List Q4) : Prop where
  own : OwnE w x (ms ++ zs)
  row : OwnE w r ms
  lies : ∀ b, blks x b → blks r b ∨ W1.heap.size ≤ b
  kp : Kp (blks r) W1 w
theorem grow_step {W1 wr W2 w' : World} {r x v' : Value} {ms zs : List Q4} {c : Q4} (h : Gs r ms W1 wr x zs) (hb : Below wr.heap.size wr W2)
    (h1 : w'.ownsRow 0 74 2 v' ((ms ++ zs).length + 1) (rw4 (ms ++ zs) ++ c.cells)) (h2 : W2.grownBy w' x.ownBlock) (h3 : ∀ k, v'.ownBlock = some k → x.ownBlock = some k ∨ W2.heap.size ≤ k)
    (h4 : 0 < 1 → (Below W2.heap.size W2 w' ∧ ∀ k, v'.ownBlock = some k → W2.heap.size ≤ k) ∨ ∃ a m c, x = .slice a m c ∧ v' = .slice a (m + 1) c) :
    Gs r ms W1 w' v' (zs ++ [c]) := by
  have hs : wr.heap.size ≤ W2.heap.size := hb.size
  have hs1 := h.kp.size
  have ho : OwnE w' v' (ms ++ (zs ++ [c])) := by rw [← List.append_assoc]; unfold OwnE; rw [rw4_app, rw4_one, List.length_append]; exact h1
  have hra : OwnE W2 r ms := h.row.below hb
  refine ⟨ho, ?_, ?_, ?_⟩
  · by_cases hx : ∃ b, blks x b ∧ blks r b
    · obtain ⟨b, hxb, hrb⟩ := hx
      rcases h4 (by omega) with ⟨h5, _⟩ | ⟨a, m, cc, hxe, hve⟩
      · exact hra.of_block fun k hk => h5.block k (hra.lt hk)
      · obtain ⟨cr, er⟩ := h.row.some_at hrb
        obtain ⟨cx, ex⟩ := h.own.some_at hxb
        have hroom := h.row.room er h.own ex
        rw [ex] at hxe
        cases hxe
        exact h.row.front er ho hve hroom rfl
    · exact hra.of_block fun k hk => h2.block k (hra.lt hk) (fun e => hx ⟨k, e.symm, hk⟩)
  · intro b hb
    rcases h3 b hb with h5 | h5
    · exact h.lies b h5
    · exact .inr (by omega)
  · refine ⟨(h2.os.trans hb.os).trans h.kp.os, (h2.tape.trans hb.tape).trans h.kp.tape, (h2.output.trans hb.output).trans h.kp.output, by have := h2.size; omega, fun k hk hr => ?_⟩
    rw [h2.block k (by omega) (fun e => (h.lies k e.symm).elim hr (fun h => by omega)), hb.block k (by omega)]
    exact h.kp.block k hk hr
theorem Lg.more {n i : Nat} {A : Nat → Option Addr} {C : Nat → Nat} {fv : Value} {w0 wi w w' : World} {v v' x : Value} {M T : Nat → List Q4} {ts : List Q4} {X : Nat → Value} {o : Obj} (h : Lg lty n A C fv w0 wi v i M T X) (hi : i < n) (g : Gs (rv (A i) (C i) (M i)) (M i) wi w x ts) (hlow : ∀ k, rft n A k → k < w0.heap.size) (hfv : ∀ k, blks fv k → k < w0.heap.size)
    (h1 : w'.ownsRow 0 lty 1 v' ((List.range i).map X ++ [x]).length ((List.range i).map X ++ [x])) (h2 : (w.alloc o).grownBy w' v.ownBlock) (h3 : ∀ k, v'.ownBlock = some k → v.ownBlock = some k ∨ (w.alloc o).heap.size ≤ k) :
    Lg lty n A C fv w0 w' v' (i + 1) M (putf T i ts) (putf X i x) := by
  have hs : w.heap.size ≤ (w.alloc o).heap.size := (below_alloc w o).size
  have hs0 := h.kp.size
  have hs1 := g.kp.size
  have hs2 := h2.size
  have hrb : ∀ k, blks (rv (A i) (C i) (M i)) k ↔ ∃ ad, A i = some ad ∧ ad.block = k := fun k => blks_rv _ _ _ k
  have hblk : ∀ k, k < wi.heap.size → (¬ ∃ ad, A i = some ad ∧ ad.block = k) → ¬ blks v k → w'.heap[k]? = wi.heap[k]? := by
    intro k hk hr hv
    rw [h2.block k (by omega) (fun e => hv e.symm), Below.heap_alloc w o k (by omega)]
    exact g.kp.block k hk (fun h => hr ((hrb k).1 h))
  have hrow' : ∀ u ys, OwnE w u ys → (∀ k, blks u k → ¬ blks v k) → OwnE w' u ys := fun u ys hu hne =>
    (hu.alloc o).of_block fun k hk => h2.block k ((hu.alloc o).lt hk) (fun e => hne k hk e.symm)
  have hvlow : ∀ k, blks v k → w0.heap.size ≤ k := h.low
  have hvA : ∀ k, blks v k → ¬ rft n A k := fun k hk hr => by have := hlow k hr; have := hvlow k hk; omega
  have hlist : w.ownsRow 0 lty 1 v i ((List.range i).map X) := list_of_block h.list fun k hk => g.kp.block k (list_lt h.list k hk) (fun hr => hvA k hk ⟨i, hi, (hrb k).1 hr⟩)
  have hxv : ∀ k, blks x k → ¬ blks v k := fun k hx hv => list_ne_row h.fam.ne hlist g.own k hv hx
  refine ⟨⟨?_, ?_, ?_, by omega, ?_⟩, ⟨h.fam.ne, ?_, ?_, h.fam.apart⟩, ?_, ?_, ?_, ?_⟩
  · exact (h2.os.trans g.kp.os).trans h.kp.os
  · exact (h2.tape.trans g.kp.tape).trans h.kp.tape
  · exact (h2.output.trans g.kp.output).trans h.kp.output
  · intro k hk hr
    rw [hblk k (by omega) (fun hh => hr ⟨i, hi, hh⟩) (fun hv => by have := hvlow k hv; omega)]
    exact h.kp.block k hk hr
  · refine list_of_block h.fam.list fun k hk => hblk k (list_lt h.fam.list k hk) (fun hh => ?_) (fun hv => by have := hvlow k hv; have := hfv k hk; omega)
    exact list_ne_row h.fam.ne h.fam.list (h.fam.rows i hi) k hk ((blks_rv _ _ _ k).2 hh)
  · intro j hj
    by_cases e : j = i
    · subst e
      exact hrow' _ _ g.row (fun k hk hv => hvA k hv ⟨j, hj, (hrb k).1 hk⟩)
    · refine (h.fam.rows j hj).of_block fun k hk => hblk k ((h.fam.rows j hj).lt hk) (fun hh => ?_) (fun hv => hvA k hv ⟨j, hj, (blks_rv _ _ _ k).1 hk⟩)
      exact h.fam.apart j i hj hi e k hk ((blks_rv _ _ _ k).2 hh)
  · have e : (List.range (i + 1)).map (putf X i x) = (List.range i).map X ++ [x] := by
      rw [List.range_succ, List.map_append]
      congr 1
      · apply List.map_congr_left
        intro j hj
        exact putf_other _ _ _ _ (by have := List.mem_range.1 hj; omega)
      · simp [putf_same]
    rw [e]
    have e2 : ((List.range i).map X ++ [x]).length = i + 1 := by simp
    rw [e2] at h1
    exact h1
  · intro j hj
    by_cases e : j = i
    · subst e
      rw [putf_same, putf_same]
      exact hrow' _ _ g.own hxv
    · rw [putf_other _ _ _ _ e, putf_other _ _ _ _ e]
      have hj' : j < i := by omega
      refine (h.rows j hj').of_block fun k hk => hblk k ((h.rows j hj').lt hk) (fun hh => ?_) (fun hv => list_ne_row h.fam.ne h.list (h.rows j hj') k hv hk)
      rcases h.lies j hj' k hk with h5 | h5
      · exact h.fam.apart j i (by omega) hi e k ((blks_rv _ _ _ k).2 h5) ((blks_rv _ _ _ k).2 hh)
      · have := hlow k ⟨i, hi, hh⟩; omega
  · intro j hj k hk
    by_cases e : j = i
    · subst e
      rw [putf_same] at hk
      rcases g.lies k hk with h5 | h5
      · exact .inl ((hrb k).1 h5)
      · exact .inr (by omega)
    · rw [putf_other _ _ _ _ e] at hk
      exact h.lies j (by omega) k hk
  · intro k hk
    rcases h3 k hk with h4 | h4
    · exact h.low k h4
    · omega

end
theorem blks_slice (a : Option Addr) (m c k : Nat) : blks (.slice a m c) k ↔ ∃ ad, a = some ad ∧ ad.block = k := by
  unfold blks
  cases a <;> simp [Value.ownBlock]
theorem Gs.alloc {r x : Value} {ms zs : List Q4} {W1 w : World} (h : Gs r ms W1 w x zs) (o : Obj) : Gs r ms W1 (w.alloc o) x zs :=
  ⟨h.own.alloc o, h.row.alloc o, h.lies, h.kp.trans (Kp.of_below (below_alloc w o))⟩
/-- the first i rows, and k places of the next one, have their marks. -/
structure P1 (w0 wr : World) (v : Value) (n : Nat) (A : Nat → Option Addr) (C N : Nat → Nat) (i k : Nat) (Z : Nat → List Q4) : Prop where
  fam : Fe 22 wr v n A C Z
  len : ∀ j, j < n → (Z j).length = N j
  mrk : ∀ j l, j < n → l < N j → (j < i ∨ (j = i ∧ l < k)) → Mk wr ((Z j).getD l q0) (mkE j l)
  kp : Kp (rft n A) w0 wr
theorem P1.next {w0 wr : World} {v : Value} {n : Nat} {A : Nat → Option Addr} {C N : Nat → Nat} {i : Nat} {Z : Nat → List Q4} (h : P1 w0 wr v n A C N i (N i) Z) : P1 w0 wr v n A C N (i + 1) 0 Z :=
  ⟨h.fam, h.len, fun j l hj hl hm => h.mrk j l hj hl (by
    rcases Nat.lt_trichotomy j i with e | e | e
    · exact .inl e
    · subst e; exact .inr ⟨rfl, hl⟩
    · rcases hm with hm | ⟨_, hm⟩ <;> omega), h.kp⟩
theorem P1.step {w0 wr : World} {v : Value} {n : Nat} {A : Nat → Option Addr} {C N : Nat → Nat} {i k : Nat} {Z : Nat → List Q4} (h : P1 w0 wr v n A C N i k Z) (hi : i < n) (hk : k < N i) {b : Nat} (ha : A i = some ⟨b, 0, none⟩) :
    P1 w0 ((put4 wr b (k * 2) (mq wr.heap.size)).alloc (.cells #[.int .u8 (mkE i k)] 5)) v n A C N i (k + 1) (putf Z i ((Z i).set k (mq wr.heap.size))) := by
  have hbl : blks (rv (A i) (C i) (Z i)) b := (blks_rv _ _ _ b).2 ⟨_, ha, rfl⟩
  obtain ⟨h2, h3⟩ := h.fam.set i k b hi (by rw [h.len i hi]; exact hk) ha (mq wr.heap.size)
  have hb := below_alloc (put4 wr b (k * 2) (mq wr.heap.size)) (.cells #[.int .u8 (mkE i k)] 5)
  have hsz : (put4 wr b (k * 2) (mq wr.heap.size)).heap.size = wr.heap.size := by simp [put4, World.setCell]
  have htyp : ∀ k', some b = some k' → ∃ cs t, t ≠ 5 ∧ wr.heap[k']? = some (.cells cs t (0, 0)) := fun k' e => by
    cases e
    exact (h.fam.rows i hi).typ hbl
  have hold : ∀ x m, Mk wr x m → Mk ((put4 wr b (k * 2) (mq wr.heap.size)).alloc (.cells #[.int .u8 (mkE i k)] 5)) x m := fun x m hx => (hx.grown (put4_grown _ _ _ _) htyp).below hb
  refine ⟨h2.below hb, fun j hj => ?_, fun j l hj hl hm => ?_, h.kp.trans (h3.trans (Kp.of_below hb))⟩
  · by_cases e : j = i
    · subst e; rw [putf_same, List.length_set]; exact h.len j hj
    · rw [putf_other _ _ _ _ e]; exact h.len j hj
  · by_cases e : j = i
    · subst e
      rw [putf_same]
      by_cases e2 : l = k
      · subst e2
        rw [List.getD_eq_getElem?_getD, List.getElem?_set_self (by rw [h.len j hj]; exact hl)]
        refine ⟨wr.heap.size, rfl, ?_⟩
        have := heap_alloc_new (put4 wr b (l * 2) (mq wr.heap.size)) (.cells #[.int .u8 (mkE j l)] 5)
        rwa [hsz] at this
      · have : ((Z j).set k (mq wr.heap.size)).getD l q0 = (Z j).getD l q0 := by
          simp only [List.getD_eq_getElem?_getD]; rw [List.getElem?_set_ne (fun e => e2 e.symm)]
        rw [this]
        exact hold _ _ (h.mrk j l hj hl (by rcases hm with hm | ⟨_, hm⟩; exact .inl hm; exact .inr ⟨rfl, by omega⟩))
    · rw [putf_other _ _ _ _ e]
      exact hold _ _ (h.mrk j l hj hl (by rcases hm with hm | ⟨hm, _⟩; exact .inl hm; exact absurd hm e))
theorem long_at {w : World} {x : Value} {ms ts : List Q4} {N : Nat} (h : OwnE w x (ms ++ ts)) (hm : ms.length = N) (ht : ts.length = 8) : ∃ b c, x = .slice (some ⟨b, 0, none⟩) (N + 8) c ∧ ∀ k j u, k < N + 8 → ((ms ++ ts).getD k q0).cells[j]? = some u → w.cell? ⟨b, k * 2 + j, none⟩ = some u := by
  have e : (ms ++ ts).length = N + 8 := by rw [List.length_append, hm, ht]
  rcases h.2 with ⟨_, h0⟩ | ⟨g, cap, cur, rfl, _⟩
  · omega
  · obtain ⟨_, _, _, h4, _⟩ := h.at_
    rw [e] at h4 ⊢
    exact ⟨g, cap, rfl, h4⟩
end Go.Proofs.Ytgohhlngnnmknaa.Bp
