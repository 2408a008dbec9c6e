/- Encode: a great value as the payloads of its pages. -/
import Derived.Test.YtlmofgfkclfgeaaGreatOC
import Derived.Test.YtlmofgfkclfgeaaGreatOX
import Derived.Maps.OwnIn
namespace Go.Proofs.YtlmofgfkclfgeaaGreat
open Go.RowKit Go.Shelf Go.Maps
attribute [local go_sem] Oper.semAt_some
set_option linter.unusedVariables false
variable {w w' : World}
theorem wide_fn (f : FuncId) : Fence.wide.fn f = True := eq_true trivial
attribute [local go_sem] wide_fn
/-- the payload of the page at j. -/
def pay (zs : List Int) (ys : List Nat) (j : Nat) : List Int := le4 (ys.getD (j + 1) 0) ++ (zs.drop (1004 * j)).take 1004
/-- no row. -/
def nilv : Value := .slice none 0 0
/-- a row of rows of bytes, each in a block of its own. -/
structure Ro (w : World) (v : Value) (B : Nat) (vs : List Value) (L : Nat → List Int) : Prop where
  row : w.ownsRow 0 22 1 v vs.length vs
  vlow : ∀ b, v.ownBlock = some b → B ≤ b
  own : ∀ j, j < vs.length → Own w (vs.getD j nilv) (L j)
  low : ∀ j b, j < vs.length → (vs.getD j nilv).ownBlock = some b → B ≤ b ∧ v.ownBlock ≠ some b
  apart : ∀ i j b, i < vs.length → j < vs.length → i ≠ j → (vs.getD i nilv).ownBlock = some b → (vs.getD j nilv).ownBlock ≠ some b
theorem Ro.lt {v : Value} {B : Nat} {vs : List Value} {L : Nat → List Int} (h : Ro w v B vs L) : (∀ b, v.ownBlock = some b → b < w.heap.size) ∧ ∀ j b, j < vs.length → (vs.getD j nilv).ownBlock = some b → b < w.heap.size :=
  ⟨fun b hb => (World.ownsRow.lt h.row b hb).2, fun j b hj hb => Own.lt (h.own j hj) hb⟩
theorem row_of_block {v : Value} {e size n : Nat} {xs : List Value} (h : w.ownsRow 0 e size v n xs) (hb : ∀ k, v.ownBlock = some k → w'.heap[k]? = w.heap[k]?) : w'.ownsRow 0 e size v n xs := by
  obtain ⟨h1, h2⟩ := h
  refine ⟨h1, ?_⟩
  rcases h2 with h2 | ⟨g, cap, cur, rfl, hg, hh, r⟩
  · exact .inl h2
  · exact .inr ⟨g, cap, cur, rfl, hg, by rw [hb g rfl]; exact hh, r⟩
theorem Ro.stays {v : Value} {B : Nat} {vs : List Value} {L : Nat → List Int} (h : Ro w v B vs L) (hb : ∀ k, B ≤ k → k < w.heap.size → w'.heap[k]? = w.heap[k]?) : Ro w' v B vs L :=
  ⟨row_of_block h.row (fun k hk => hb k (h.vlow k hk) (h.lt.1 k hk)), h.vlow, fun j hj => Own.of_block (h.own j hj) (fun k hk => hb k (h.low j k hj hk).1 (h.lt.2 j k hj hk)), h.low, h.apart⟩
/-- Encode under way: so many pages are laid. -/
structure Enc (w : World) (s m : Nat) (x : Value) (zs : List Int) (ys : List Nat) (k : Nat) (a1 : Option Addr) (c1 : Nat) (v : Value) (vs : List Value) (V : World) : Prop where
  at_ : V.heap[s]? = some (.cells #[.slice a1 (m - k) c1] 39 (0, 0))
  cap : m - k ≤ c1
  rw : Rw w a1 (ys.drop k)
  out : V.heap[s + 2]? = some (.cells #[v] 44 (0, 0))
  len : vs.length = k
  row : V.ownsRow 0 22 1 v k vs
  vb : ∀ b, v.ownBlock = some b → b = s + 1 ∨ s + 7 ≤ b
  own : ∀ j, j < k → Own V (vs.getD j nilv) (pay zs ys j)
  eb : ∀ j b, j < k → (vs.getD j nilv).ownBlock = some b → s + 7 ≤ b ∧ v.ownBlock ≠ some b
  apart : ∀ i j b, i < k → j < k → i ≠ j → (vs.getD i nilv).ownBlock = some b → (vs.getD j nilv).ownBlock ≠ some b
  cb : Cb (s + 3) x V
  bel : Below s w V
theorem Enc.vlt {w : World} {s m : Nat} {x : Value} {zs : List Int} {ys : List Nat} {k : Nat} {a1 : Option Addr} {c1 : Nat} {v : Value} {vs : List Value} {V : World} (h : Enc w s m x zs ys k a1 c1 v vs V) {b : Nat} (hb : v.ownBlock = some b) : b < V.heap.size := (World.ownsRow.lt h.row b hb).2
theorem Enc.elt {w : World} {s m : Nat} {x : Value} {zs : List Int} {ys : List Nat} {k : Nat} {a1 : Option Addr} {c1 : Nat} {v : Value} {vs : List Value} {V : World} (h : Enc w s m x zs ys k a1 c1 v vs V) {j b : Nat} (hj : j < k) (hb : (vs.getD j nilv).ownBlock = some b) : b < V.heap.size := Own.lt (h.own j hj) hb
theorem Enc.mv {w : World} {s m : Nat} {x : Value} {zs : List Int} {ys : List Nat} {k : Nat} {a1 : Option Addr} {c1 : Nat} {v : Value} {vs : List Value} {V V' : World} (h : Enc w s m x zs ys k a1 c1 v vs V) (hm : Mv (Lp (s + 5)) V V') : Enc w s m x zs ys k a1 c1 v vs V' := by
  have keep : ∀ b, b < V.heap.size → b < s + 5 ∨ s + 7 ≤ b → V'.heap[b]? = V.heap[b]? := fun b hb hs => hm.block b hb (fun hL => by
    have hL' : b = s + 5 ∨ b = s + 5 + 1 := hL
    omega)
  refine ⟨(keep s (lt_of_block h.at_) (.inl (by omega))).trans h.at_, h.cap, h.rw, (keep (s + 2) (lt_of_block h.out) (.inl (by omega))).trans h.out, h.len, row_of_block h.row (fun b hb => keep b (h.vlt hb) ?_), h.vb, fun j hj => Own.of_block (h.own j hj) (fun b hb => keep b (h.elt hj hb) (.inr (h.eb j b hj hb).1)), h.eb, h.apart,
    ⟨(keep (s + 3) (lt_of_block h.cb.s) (.inl (by omega))).trans h.cb.s, (keep (s + 3 + 1) (lt_of_block h.cb.n) (.inl (by omega))).trans h.cb.n⟩, h.bel.trans (hm.below (Nat.le_of_lt (lt_of_block h.at_)) (fun b hb => ?_))⟩
  · rcases h.vb b hb with e | e
    · exact .inl (by omega)
    · exact .inr e
  · have hL' : b = s + 5 ∨ b = s + 5 + 1 := hb
    omega
theorem Enc.step {w : World} {s m : Nat} {x : Value} {zs : List Int} {ys : List Nat} {k : Nat} {a1 a2 : Option Addr} {c1 c2 : Nat} {v v5 v' : Value} {vs : List Value} {V W3 V5 : World} {o : Obj} (h : Enc w s m x zs ys k a1 c1 v vs V) (hs : s + 5 + 1 < V.heap.size)
    (hc2 : m - (k + 1) ≤ c2) (hr2 : Rw w a2 (ys.drop (k + 1))) (hb3 : Below V.heap.size (V.setCell ⟨s, 0, none⟩ (.slice a2 (m - (k + 1)) c2)) W3) (ho5 : Own W3 v5 (pay zs ys k)) (hn5 : ∀ b, v5.ownBlock = some b → V.heap.size ≤ b)
    (hr5 : V5.ownsRow 0 22 1 v' (k + 1) (vs ++ [v5])) (hg5 : (W3.alloc o).grownBy V5 v.ownBlock) (hv5 : v'.ownBlock = v.ownBlock ∨ v'.ownBlock = some (W3.alloc o).heap.size) :
    Enc w s m x zs ys (k + 1) a2 c2 v' (vs ++ [v5]) (V5.setCell ⟨s + 2, 0, none⟩ v') ∧ Kl (s + 5) V (V5.setCell ⟨s + 2, 0, none⟩ v') := by
  have hsV : (V.setCell ⟨s, 0, none⟩ (.slice a2 (m - (k + 1)) c2)).heap.size = V.heap.size := by simp [World.setCell]
  have hs3 : V.heap.size ≤ W3.heap.size := by have := hb3.size; omega
  have hs4 : (W3.alloc o).heap.size = W3.heap.size + 1 := by simp
  have hs5 : W3.heap.size + 1 ≤ V5.heap.size := by have := hg5.size; omega
  have k3 : ∀ b, b < V.heap.size → b ≠ s → W3.heap[b]? = V.heap[b]? := fun b hb hne => by
    rw [hb3.block b hb, set_other _ _ _ _ _ hne]
  have k5 : ∀ b, b < W3.heap.size → v.ownBlock ≠ some b → V5.heap[b]? = W3.heap[b]? := fun b hb hne => by
    rw [hg5.block b (by omega) (fun e => hne e.symm)]
    exact Below.heap_alloc W3 o b hb
  have k6 : ∀ b, b ≠ s + 2 → (V5.setCell ⟨s + 2, 0, none⟩ v').heap[b]? = V5.heap[b]? := fun b hb => set_other _ _ _ _ _ hb
  have vne : ∀ b, b < s + 7 → b ≠ s + 1 → v.ownBlock ≠ some b := fun b hb hne e => by
    rcases h.vb b e with e' | e' <;> omega
  have keep : ∀ b, b < s + 7 → b ≠ s → b ≠ s + 1 → b ≠ s + 2 → (V5.setCell ⟨s + 2, 0, none⟩ v').heap[b]? = V.heap[b]? := fun b h1 h2 h3 h4 => by
    rw [k6 b h4, k5 b (by omega) (vne b h1 h3), k3 b (by omega) h2]
  have e1 : ∀ j, j < k → (vs ++ [v5]).getD j nilv = vs.getD j nilv := fun j hj => by
    simp only [List.getD_eq_getElem?_getD]; rw [List.getElem?_append_left (by rw [h.len]; exact hj)]
  have e2 : (vs ++ [v5]).getD k nilv = v5 := by
    simp only [List.getD_eq_getElem?_getD]; rw [List.getElem?_append_right (by rw [h.len]; exact Nat.le_refl _), h.len]; simp
  have cases1 : ∀ j, j < k + 1 → j < k ∨ j = k := fun j hj => by omega
  have v5n : ∀ b, v5.ownBlock = some b → v.ownBlock ≠ some b := fun b hb e => by
    have := hn5 b hb
    have := h.vlt e
    omega
  have v5l : ∀ b, v5.ownBlock = some b → b < W3.heap.size := fun b hb => Own.lt ho5 hb
  have v'n : ∀ b, b < W3.heap.size → v.ownBlock ≠ some b → v'.ownBlock ≠ some b := fun b hb hne e => by
    rcases hv5 with e' | e'
    · rw [e'] at e; exact hne e
    · rw [e'] at e; cases e; omega
  have v's : ∀ b, v'.ownBlock = some b → b = s + 1 ∨ s + 7 ≤ b := fun b hb => by
    rcases hv5 with e' | e'
    · rw [e'] at hb; exact h.vb b hb
    · rw [e'] at hb; cases hb; exact .inr (by omega)
  refine ⟨⟨?_, hc2, hr2, ?_, by rw [List.length_append, h.len]; rfl, row_of_block hr5 (fun b hb => k6 b ?_), v's, fun j hj => ?_, fun j b hj hb => ?_, fun i j b hi hj hij hb => ?_, ⟨(keep (s + 3) (by omega) (by omega) (by omega) (by omega)).trans h.cb.s, (keep (s + 3 + 1) (by omega) (by omega) (by omega) (by omega)).trans h.cb.n⟩, ?_⟩, ⟨?_, keep (s + 5) (by omega) (by omega) (by omega) (by omega), keep (s + 5 + 1) (by omega) (by omega) (by omega) (by omega)⟩⟩
  · rw [k6 s (by omega), k5 s (by omega) (vne s (by omega) (by omega)), hb3.block s (by omega), heap_setCell_same V s 0 _ _ _ h.at_]
    rfl
  · rw [heap_setCell_same V5 (s + 2) 0 _ _ _ ((k5 (s + 2) (by omega) (vne _ (by omega) (by omega))).trans ((k3 (s + 2) (by omega) (by omega)).trans h.out))]
    rfl
  · rcases v's b hb with e | e <;> omega
  · rcases cases1 j hj with hj | rfl
    · rw [e1 j hj]
      refine Own.of_block (h.own j hj) fun b hb => ?_
      have hl := h.elt hj hb
      obtain ⟨q1, q2⟩ := h.eb j b hj hb
      rw [k6 b (by omega), k5 b (by omega) q2, k3 b hl (by omega)]
    · rw [e2]
      refine Own.of_block ho5 fun b hb => ?_
      have := hn5 b hb
      rw [k6 b (by omega), k5 b (v5l b hb) (v5n b hb)]
  · rcases cases1 j hj with hj | rfl
    · rw [e1 j hj] at hb
      have hl := h.elt hj hb
      obtain ⟨q1, q2⟩ := h.eb j b hj hb
      exact ⟨q1, v'n b (by omega) q2⟩
    · rw [e2] at hb
      have := hn5 b hb
      exact ⟨by omega, v'n b (v5l b hb) (v5n b hb)⟩
  · rcases cases1 i hi with hi | rfl <;> rcases cases1 j hj with hj | rfl
    · rw [e1 i hi] at hb; rw [e1 j hj]; exact h.apart i j b hi hj hij hb
    · rw [e1 i hi] at hb; rw [e2]
      intro e
      have := hn5 b e
      have := h.elt hi hb
      omega
    · rw [e2] at hb; rw [e1 j hj]
      intro e
      have := hn5 b hb
      have := h.elt hj e
      omega
    · exact absurd rfl hij
  · have q3 : Below s V W3 := ⟨hb3.os, hb3.tape, hb3.output, hs3, fun b hb => k3 b (by omega) (by omega)⟩
    have q5 : Below s W3 V5 := ⟨hg5.os, hg5.tape, hg5.output, by omega, fun b hb => k5 b (by omega) (vne b (by omega) (by omega))⟩
    exact ((h.bel.trans q3).trans q5).setCell (p := ⟨s + 2, 0, none⟩) (by show s ≤ s + 2; omega) _
  · have : (V5.setCell ⟨s + 2, 0, none⟩ v').heap.size = V5.heap.size := by simp [World.setCell]
    omega
end Go.Proofs.YtlmofgfkclfgeaaGreat
