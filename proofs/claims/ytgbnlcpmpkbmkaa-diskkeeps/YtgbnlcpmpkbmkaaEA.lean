/- A table of rows beside a disk; what is settled, write by write. -/
import Derived.Test.YtgbnlcpmpkbmkaaDX
import Derived.Test.YtgbnlcpmpkbmkaaDY
namespace Go.Proofs.Ytgbnlcpmpkbmkaa
open Go.RowKit Go.Maps
set_option linter.unusedVariables false

theorem settled_left (ls : List (List Int)) (ws vs : List (Nat × List Int)) (f : Nat → Bool) : ∀ k, k ≤ ws.length → settled ls (ws ++ vs) f k = settled ls ws f k
  | 0, _ => rfl
  | k + 1, hk => by
    have e : (ws ++ vs).getD k (0, []) = ws.getD k (0, []) := by
      rw [List.getD_eq_getElem?_getD, List.getElem?_append_left (by omega), ← List.getD_eq_getElem?_getD]
    rw [settled, settled, settled_left ls ws vs f k (by omega), e]
theorem settled_snoc (ls : List (List Int)) (ws : List (Nat × List Int)) (x : Nat × List Int) (f : Nat → Bool) : settled ls (ws ++ [x]) f (ws ++ [x]).length = if f ws.length then (settled ls ws f ws.length).set x.1 x.2 else settled ls ws f ws.length := by
  rw [List.length_append, List.length_singleton, settled, settled_left ls ws [x] f ws.length (Nat.le_refl _)]
  have e : (ws ++ [x]).getD ws.length (0, []) = x := by simp
  rw [e]
/-- what lasts if just those are kept. -/
def DS.lt (S : DS) (f : Nat → Bool) : List (List Int) := settled S.ls S.ws f S.ws.length
theorem DS.lt_add (S : DS) (n : Nat) (ys : List Int) (f : Nat → Bool) : (S.add n ys).lt f = if f S.ws.length then (S.lt f).set n ys else S.lt f := settled_snoc S.ls S.ws (n, ys) f
theorem DS.lt_len (S : DS) (f : Nat → Bool) : (S.lt f).length = S.ls.length := settled_len _ _ _ _

/-- a table of rows of 128 bytes, the first k of them laid, beside what is owned. -/
structure Tab (w : World) (lb : Nat) (vs : List Value) (L : List (List Int)) (k : Nat) (O : Nat → Prop) : Prop where
  blk : w.heap[lb]? = some (.cells vs.toArray 63 (0, 0))
  len : vs.length = L.length
  no : ¬ O lb
  row : ∀ i, i < k → ∃ b, vs[i]? = some (.slice (some ⟨b, 0, none⟩) 128 128) ∧ b ≠ lb ∧ ¬ O b ∧ b < w.heap.size ∧ Row w (some ⟨b, 0, none⟩) (L.getD i [])
section
variable {w w' : World} {lb : Nat} {vs : List Value} {L : List (List Int)} {k : Nat} {O O' : Nat → Prop}
theorem Tab.lt (h : Tab w lb vs L k O) : lb < w.heap.size := lt_of_block h.blk
theorem Tab.go (h : Tab w lb vs L k O) (hg : Go1 O w O' w') : Tab w' lb vs L k O' := by
  have no' : ∀ b, b < w.heap.size → ¬ O b → ¬ O' b := fun b hb hn ho => (hg.own b ho).elim hn (fun hl => by omega)
  refine ⟨(hg.mv.block lb h.lt h.no).trans h.blk, h.len, no' lb h.lt h.no, fun i hi => ?_⟩
  obtain ⟨b, h1, h2, h3, h4, h5⟩ := h.row i hi
  exact ⟨b, h1, h2, no' b h4 h3, Nat.lt_of_lt_of_le h4 hg.mv.size, hg.mv.row h5 h3⟩
theorem Tab.on (h : Tab w lb vs L k O) (hb : Below w.heap.size w w') : Tab w' lb vs L k O := h.go (Go1.of_below hb)
theorem Tab.put (h : Tab w lb vs L k O) (j b : Nat) (ys : List Int) (k' : Nat) (hj : j < L.length) (hk' : ∀ i, i < k' → i = j ∨ i < k) (hb : b ≠ lb) (ho : ¬ O b) (hs : b < w.heap.size) (hr : Row w (some ⟨b, 0, none⟩) ys) :
    Tab (w.setCell ⟨lb, j, none⟩ (.slice (some ⟨b, 0, none⟩) 128 128)) lb (vs.set j (.slice (some ⟨b, 0, none⟩) 128 128)) (L.set j ys) k' O := by
  have hrow : ∀ {b ys}, b ≠ lb → Row w (some ⟨b, 0, none⟩) ys → Row (w.setCell ⟨lb, j, none⟩ (.slice (some ⟨b, 0, none⟩) 128 128)) (some ⟨b, 0, none⟩) ys := fun hne hr => (mv_set w lb j _).row hr hne
  refine ⟨?_, by simp [h.len], h.no, fun i hi => ?_⟩
  · rw [heap_setCell_same w lb j _ 63 _ h.blk, List.setIfInBounds_toArray]
  · by_cases e : i = j
    · subst e
      refine ⟨b, by rw [List.getElem?_set_self (by rw [h.len]; exact hj)], hb, ho, by rw [World.size_setCell]; exact hs, ?_⟩
      rw [List.getD_eq_getElem?_getD, List.getElem?_set_self hj]
      exact (mv_set w lb i _).row hr hb
    · obtain ⟨b', h1, h2, h3, h4, h5⟩ := h.row i ((hk' i hi).resolve_left e)
      refine ⟨b', by rw [List.getElem?_set_ne (fun h => e h.symm)]; exact h1, h2, h3, by rw [World.size_setCell]; exact h4, ?_⟩
      rw [List.getD_eq_getElem?_getD, List.getElem?_set_ne (fun h => e h.symm), ← List.getD_eq_getElem?_getD]
      exact (mv_set w lb j _).row h5 h2
end
/-- a disk and a table beside it. -/
structure Dt (B : Nat) (w0 w : World) (p q : Nat) (O : Nat → Prop) (S : DS) (lb : Nat) (vs : List Value) (L : List (List Int)) (k : Nat) : Prop where
  d : DkAt w p q S O
  t : Tab w lb vs L k O
  f : Fd B w0 w O
  lb : B ≤ lb
section
variable {B : Nat} {w0 w w' : World} {p q : Nat} {O O' : Nat → Prop} {S S' : DS} {lb : Nat} {vs : List Value} {L : List (List Int)} {k : Nat}
theorem Dt.on (h : Dt B w0 w p q O S lb vs L k) (hb : Below w.heap.size w w') : Dt B w0 w' p q O S lb vs L k := ⟨h.d.below hb, h.t.on hb, h.f.on hb, h.lb⟩
theorem Dt.go (h : Dt B w0 w p q O S lb vs L k) (hd : DkAt w' p q S' O') (hg : Go1 O w O' w') : Dt B w0 w' p q O' S' lb vs L k := ⟨hd, h.t.go hg, h.f.go hg, h.lb⟩
theorem Dt.put (h : Dt B w0 w p q O S lb vs L k) (j b : Nat) (ys : List Int) (k' : Nat) (hj : j < L.length) (hk' : ∀ i, i < k' → i = j ∨ i < k) (hb : b ≠ lb) (ho : ¬ O b) (hs : b < w.heap.size) (hr : Row w (some ⟨b, 0, none⟩) ys) :
    Dt B w0 (w.setCell ⟨lb, j, none⟩ (.slice (some ⟨b, 0, none⟩) 128 128)) p q O S lb (vs.set j (.slice (some ⟨b, 0, none⟩) 128 128)) (L.set j ys) k' := by
  refine ⟨h.d.other (mv_set w lb j _) (fun k hk e => h.t.no (by rw [← e]; exact hk)), h.t.put j b ys k' hj hk' hb ho hs hr, ⟨h.f.below.setCell (p := ⟨lb, j, none⟩) h.lb _, by rw [World.size_setCell]; exact h.f.size, h.f.own⟩, h.lb⟩
theorem Dt.no (h : Dt B w0 w p q O S lb vs L k) : ¬ O w.heap.size := fun e => by have := h.d.lt _ e; omega
theorem Dt.f1 (h : Dt B w0 w p q O S lb vs L k) (j : Nat) : w.frozen? ⟨lb, j, none⟩ = false := by simp [World.frozen?, h.t.blk]
theorem Dt.c1 (h : Dt B w0 w p q O S lb vs L k) (j : Nat) (hj : j < L.length) : ∃ v, w.cell? ⟨lb, j, none⟩ = some v := by
  have : j < vs.length := by rw [h.t.len]; exact hj
  exact ⟨vs[j], by rw [cell_of_row w lb j _ 63 (0, 0) h.t.blk]; simp [this]⟩
end
end Go.Proofs.Ytgbnlcpmpkbmkaa
