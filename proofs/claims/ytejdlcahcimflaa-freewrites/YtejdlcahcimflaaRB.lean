/- Rows of rows of bytes, each in a block of its own. -/
import Derived.Test.YtejdlcahcimflaaSW
namespace Go.Proofs.Ytejdlcahcimflaa.Rb
open Go.RowKit Go.Maps
set_option linter.unusedVariables false
variable {w w' : World}
theorem Own.below {w w' : World} {v : Value} {zs : List Int} (h : Own w v zs) (hb : Below w.heap.size w w') : Own w' v zs := h.of_block fun k hk => hb.block k (h.lt hk)
/-- no row. -/
def nilv : Value := .slice none 0 0
/-- a row of rows of bytes, each in a block of its own. -/
structure Ro (w : World) (v : Value) (B : Nat) (vs : List Value) (L : Nat → List Int) : Prop where
  row : w.ownsRow 0 23 1 v vs.length vs
  vlow : ∀ b, v.ownBlock = some b → B ≤ b
  own : ∀ j, j < vs.length → Own w (vs.getD j nilv) (L j)
  low : ∀ j b, j < vs.length → (vs.getD j nilv).ownBlock = some b → B ≤ b ∧ v.ownBlock ≠ some b
  apart : ∀ i j b, i < vs.length → j < vs.length → i ≠ j → (vs.getD i nilv).ownBlock = some b → (vs.getD j nilv).ownBlock ≠ some b
theorem Ro.lt {v : Value} {B : Nat} {vs : List Value} {L : Nat → List Int} (h : Ro w v B vs L) : (∀ b, v.ownBlock = some b → b < w.heap.size) ∧ ∀ j b, j < vs.length → (vs.getD j nilv).ownBlock = some b → b < w.heap.size :=
  ⟨fun b hb => (World.ownsRow.lt h.row b hb).2, fun j b hj hb => Own.lt (h.own j hj) hb⟩
theorem row_of_block {v : Value} {e size n : Nat} {xs : List Value} (h : w.ownsRow 0 e size v n xs) (hb : ∀ k, v.ownBlock = some k → w'.heap[k]? = w.heap[k]?) : w'.ownsRow 0 e size v n xs := by
  obtain ⟨h1, h2⟩ := h
  refine ⟨h1, ?_⟩
  rcases h2 with h2 | ⟨g, cap, cur, rfl, hg, hh, r⟩
  · exact .inl h2
  · exact .inr ⟨g, cap, cur, rfl, hg, by rw [hb g rfl]; exact hh, r⟩
theorem Ro.stays {v : Value} {B : Nat} {vs : List Value} {L : Nat → List Int} (h : Ro w v B vs L) (hb : ∀ k, B ≤ k → k < w.heap.size → w'.heap[k]? = w.heap[k]?) : Ro w' v B vs L :=
  ⟨row_of_block h.row (fun k hk => hb k (h.vlow k hk) (h.lt.1 k hk)), h.vlow, fun j hj => Own.of_block (h.own j hj) (fun k hk => hb k (h.low j k hj hk).1 (h.lt.2 j k hj hk)), h.low, h.apart⟩
theorem Ro.first {v : Value} {B : Nat} {vs : List Value} {L : Nat → List Int} (h : Ro w v B vs L) {j : Nat} (hj : j < vs.length) : ∃ g cap a c, v = .slice (some ⟨g, 0, none⟩) vs.length cap ∧ g < w.heap.size ∧ w.cell? ⟨g, j, none⟩ = some (.slice a (L j).length c) ∧ (L j).length ≤ c ∧ c ≤ maxLen ∧ Row w a (L j) ∧ (a = none → (L j).length = 0 ∧ c = 0) := by
  rcases h.row.2 with ⟨_, h0⟩ | ⟨g, cap, cur, rfl, _, hg, _⟩
  · omega
  · obtain ⟨a, c, e, hc, hcm, hn, hrow, _⟩ := (h.own j hj).shape
    refine ⟨g, cap, a, c, rfl, lt_of_block hg, ?_, hc, hcm, hrow, hn⟩
    have := World.ownsRow.cells h.row (g := g) rfl j (.slice a (L j).length c) (by
      rw [← e, List.getD_eq_getElem?_getD, List.getElem?_eq_getElem hj]; rfl)
    rwa [Addr.add_lit, Nat.zero_add] at this
theorem Ro.nil (w : World) (B : Nat) (L : Nat → List Int) : Ro w (.slice none 0 0) B [] L :=
  ⟨World.ownsRow_nil _ _ _ _, fun b hb => by simp [Value.ownBlock] at hb, fun j hj => by simp at hj, fun j b hj => by simp at hj, fun i j b hi => by simp at hi⟩
theorem Ro.below {v : Value} {B : Nat} {vs : List Value} {L : Nat → List Int} (h : Ro w v B vs L) (hb : Below w.heap.size w w') : Ro w' v B vs L := h.stays fun k _ hk => hb.block k hk
theorem Ro.push {W3 V5 : World} {v v5 v' : Value} {B k : Nat} {vs : List Value} {L : Nat → List Int} {o : Obj} (h : Ro w v B vs L) (hk : vs.length = k) (hB : B ≤ w.heap.size) (hb3 : Below w.heap.size w W3) (ho5 : Own W3 v5 (L k)) (hn5 : ∀ b, v5.ownBlock = some b → w.heap.size ≤ b)
    (hr5 : V5.ownsRow 0 23 1 v' (k + 1) (vs ++ [v5])) (hg5 : (W3.alloc o).grownBy V5 v.ownBlock) (hv5 : v'.ownBlock = v.ownBlock ∨ v'.ownBlock = some (W3.alloc o).heap.size) : Ro V5 v' B (vs ++ [v5]) L := by
  have hs4 : (W3.alloc o).heap.size = W3.heap.size + 1 := by simp
  have hs3 := hb3.size
  have k5 : ∀ b, b < W3.heap.size → v.ownBlock ≠ some b → V5.heap[b]? = W3.heap[b]? := fun b hb hne => by
    rw [hg5.block b (by omega) (fun e => hne e.symm)]
    exact Below.heap_alloc W3 o b hb
  have e1 : ∀ j, j < k → (vs ++ [v5]).getD j nilv = vs.getD j nilv := fun j hj => by
    simp only [List.getD_eq_getElem?_getD]; rw [List.getElem?_append_left (by rw [hk]; exact hj)]
  have e2 : (vs ++ [v5]).getD k nilv = v5 := by
    simp only [List.getD_eq_getElem?_getD]; rw [List.getElem?_append_right (by rw [hk]; exact Nat.le_refl _), hk]; simp
  have hl : (vs ++ [v5]).length = k + 1 := by rw [List.length_append, hk]; rfl
  have cs : ∀ j, j < k + 1 → j < k ∨ j = k := fun j hj => by omega
  have vlt := h.lt.1
  have elt : ∀ j b, j < k → (vs.getD j nilv).ownBlock = some b → b < w.heap.size := fun j b hj => h.lt.2 j b (by rw [hk]; exact hj)
  have v5l : ∀ b, v5.ownBlock = some b → b < W3.heap.size := fun b hb => Own.lt ho5 hb
  have v5n : ∀ b, v5.ownBlock = some b → v.ownBlock ≠ some b := fun b hb e => by
    have := hn5 b hb; have := vlt b e; omega
  have v'n : ∀ b, b < W3.heap.size → v.ownBlock ≠ some b → v'.ownBlock ≠ some b := fun b hb hne e => by
    rcases hv5 with e' | e'
    · rw [e'] at e; exact hne e
    · rw [e'] at e; cases e; omega
  refine ⟨by rw [hl]; exact hr5, fun b hb => ?_, fun j hj => ?_, fun j b hj hb => ?_, fun i j b hi hj hij hb => ?_⟩
  · rcases hv5 with e' | e'
    · rw [e'] at hb; exact h.vlow b hb
    · rw [e'] at hb; cases hb; omega
  · rw [hl] at hj
    rcases cs j hj with hj | rfl
    · rw [e1 j hj]
      refine Own.of_block (h.own j (by rw [hk]; exact hj)) fun b hb => ?_
      have hb' := elt j b hj hb
      rw [k5 b (by omega) (h.low j b (by rw [hk]; exact hj) hb).2, hb3.block b hb']
    · rw [e2]
      exact Own.of_block ho5 fun b hb => k5 b (v5l b hb) (v5n b hb)
  · rw [hl] at hj
    rcases cs j hj with hj | rfl
    · rw [e1 j hj] at hb
      have q := h.low j b (by rw [hk]; exact hj) hb
      exact ⟨q.1, v'n b (by have := elt j b hj hb; omega) q.2⟩
    · rw [e2] at hb
      exact ⟨by have := hn5 b hb; omega, v'n b (v5l b hb) (v5n b hb)⟩
  · rw [hl] at hi hj
    rcases cs i hi with hi | rfl <;> rcases cs j hj with hj | rfl
    · rw [e1 i hi] at hb; rw [e1 j hj]; exact h.apart i j b (by rw [hk]; exact hi) (by rw [hk]; exact hj) hij hb
    · rw [e1 i hi] at hb; rw [e2]
      intro e
      have := hn5 b e
      have := elt i b hi hb
      omega
    · rw [e2] at hb; rw [e1 j hj]
      intro e
      have := hn5 b hb
      have := elt j b hj e
      omega
    · exact absurd rfl hij
theorem Ro.el {v : Value} {B m c : Nat} {a : Option Addr} {vs : List Value} {L : Nat → List Int} (h : Ro w v B vs L) (hv : v = .slice a m c) {j : Nat} (hj : j < vs.length) (hb : Below w.heap.size w w') : ∃ g aj cj, a = some ⟨g, 0, none⟩ ∧ w'.cell? ⟨g, j, none⟩ = some (.slice aj (L j).length cj) ∧ Row w' aj (L j) := by
  obtain ⟨g, cap, aj, cj, e, hlt, hc, _, _, hr, _⟩ := h.first hj
  rw [hv] at e
  simp at e
  exact ⟨g, aj, cj, e.1, (hb.cell (p := ⟨g, j, none⟩) hlt).trans hc, hr.below hb⟩
end Go.Proofs.Ytejdlcahcimflaa.Rb
