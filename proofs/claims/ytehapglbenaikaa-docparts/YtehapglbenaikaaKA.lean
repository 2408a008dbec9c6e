/- Writers: their blocks, what they have written. -/
import Derived.Test.YtehapglbenaikaaA
namespace Go.Proofs.Ytehapglbenaikaa
open Go.RowKit
set_option linter.unusedVariables false

/-- the blocks of the writer at p: its own cell, and its row. -/
def foot (w : World) (p k : Nat) : Prop := k = p ∨ ∃ v, w.heap[p]? = some (.cells #[v] 63 (0, 0)) ∧ v.ownBlock = some k
/-- the writer at p has written zs. -/
def Wr (w : World) (p : Nat) (zs : List Int) : Prop := ∃ v, w.heap[p]? = some (.cells #[v] 63 (0, 0)) ∧ Own w v zs ∧ v.ownBlock ≠ some p
/-- from w to w' nothing that was there has turned but the blocks of the writer at p. -/
structure Wrote (p : Nat) (w w' : World) : Prop where
  os : w'.os = w.os
  tape : w'.tape = w.tape
  output : w'.output = w.output
  size : w.heap.size ≤ w'.heap.size
  block : ∀ k, k < w.heap.size → ¬ foot w p k → w'.heap[k]? = w.heap[k]?
  foot : ∀ k, foot w' p k → foot w p k ∨ w.heap.size ≤ k

theorem Wr.lt {w : World} {p : Nat} {zs : List Int} (h : Wr w p zs) : p < w.heap.size := by obtain ⟨v, h, _⟩ := h; exact lt_of_block h
theorem Wr.foot_lt {w : World} {p k : Nat} {zs : List Int} (h : Wr w p zs) (hf : foot w p k) : k < w.heap.size := by
  rcases hf with rfl | ⟨v, h1, h2⟩
  · exact h.lt
  · obtain ⟨v', h3, h4, _⟩ := h
    have e : v' = v := by rw [h1] at h3; simpa using h3.symm
    subst e
    exact h4.lt h2
theorem Wrote.refl (p : Nat) (w : World) : Wrote p w w := ⟨rfl, rfl, rfl, Nat.le_refl _, fun _ _ _ => rfl, fun _ h => .inl h⟩
theorem Wrote.trans {p : Nat} {a b c : World} (h : Wrote p a b) (k : Wrote p b c) : Wrote p a c :=
  ⟨k.os.trans h.os, k.tape.trans h.tape, k.output.trans h.output, Nat.le_trans h.size k.size,
    fun i hi hn => (k.block i (Nat.lt_of_lt_of_le hi h.size) (fun hf => (h.foot i hf).elim hn (by omega))).trans (h.block i hi hn),
    fun i hf => (k.foot i hf).elim (h.foot i) (fun hs => .inr (Nat.le_trans h.size hs))⟩
theorem foot_same {w w' : World} {p k : Nat} (hb : w'.heap[p]? = w.heap[p]?) : foot w' p k ↔ foot w p k := by unfold foot; rw [hb]
theorem Wrote.of_below {p : Nat} {w w' : World} (hp : p < w.heap.size) (h : Below w.heap.size w w') : Wrote p w w' :=
  ⟨h.os, h.tape, h.output, h.size, fun k hk _ => h.block k hk, fun k hf => .inl ((foot_same (h.block p hp)).1 hf)⟩
theorem Wr.of_block {w w' : World} {p : Nat} {zs : List Int} (h : Wr w p zs) (hb : ∀ k, foot w p k → w'.heap[k]? = w.heap[k]?) : Wr w' p zs := by
  obtain ⟨v, h1, h2, h3⟩ := h
  exact ⟨v, (hb p (.inl rfl)).trans h1, h2.of_block (fun k hk => hb k (.inr ⟨v, h1, hk⟩)), h3⟩
theorem Wr.below {w w' : World} {p : Nat} {zs : List Int} (h : Wr w p zs) (hb : Below w.heap.size w w') : Wr w' p zs := h.of_block fun k hk => hb.block k (h.foot_lt hk)
/-- all blocks of the writer at p lie from B on. -/
def New (B : Nat) (w : World) (p : Nat) : Prop := ∀ k, foot w p k → B ≤ k
theorem New.wrote {B p : Nat} {w w' : World} (h : New B w p) (hw : Wrote p w w') (hB : B ≤ w.heap.size) : New B w' p := fun k hk => (hw.foot k hk).elim (h k) (fun hs => Nat.le_trans hB hs)
theorem New.below {B p : Nat} {w w' : World} (h : New B w p) (hp : p < w.heap.size) (hb : Below w.heap.size w w') : New B w' p := fun k hk => h k ((foot_same (hb.block p hp)).1 hk)
theorem Wrote.below {B p : Nat} {w w' : World} (h : Wrote p w w') (hn : New B w p) (hB : B ≤ w.heap.size) : Below B w w' :=
  ⟨h.os, h.tape, h.output, h.size, fun k hk => h.block k (by omega) (fun hf => by have := hn k hf; omega)⟩
theorem Below.wrote {B p : Nat} {w0 w w' : World} (hb : Below B w0 w) (h : Wrote p w w') (hn : New B w p) (hB : B ≤ w.heap.size) : Below B w0 w' := hb.trans (h.below hn hB)
theorem after_cell {w w0 w1 : World} {p : Nat} {v : Value} (hc : w.heap[p]? = some (.cells #[v] 63 (0, 0))) (hap : v.ownBlock ≠ some p) (h0 : Below w.heap.size w w0) (hg : w0.grownBy w1 v.ownBlock) :
    w1.cell? ⟨p, 0, none⟩ = some v ∧ w1.frozen? ⟨p, 0, none⟩ = false := by
  have hp : p < w.heap.size := lt_of_block hc
  have hc1 : w1.heap[p]? = some (.cells #[v] 63 (0, 0)) := (hg.block p (Nat.lt_of_lt_of_le hp h0.size) (fun e => hap e.symm)).trans ((h0.block p hp).trans hc)
  exact ⟨cell_of_one hc1, free_of_one hc1⟩
/-- an append to the writer's row, stored into its cell. -/
theorem wrote_append {w w1 : World} {p : Nat} {v v' : Value} {ys : List Int} (hc : w.heap[p]? = some (.cells #[v] 63 (0, 0))) (hap : v.ownBlock ≠ some p) {w0 : World} (h0 : Below w.heap.size w w0)
    (hown : Own w1 v' ys) (hg : w0.grownBy w1 v.ownBlock) (hf : ∀ k, v'.ownBlock = some k → v.ownBlock = some k ∨ w0.heap.size ≤ k) :
    Wr (w1.setCell ⟨p, 0, none⟩ v') p ys ∧ Wrote p w (w1.setCell ⟨p, 0, none⟩ v') := by
  have hp : p < w.heap.size := lt_of_block hc
  have hp0 : p < w0.heap.size := Nat.lt_of_lt_of_le hp h0.size
  have hc1 : w1.heap[p]? = some (.cells #[v] 63 (0, 0)) := (hg.block p hp0 (fun e => hap e.symm)).trans ((h0.block p hp).trans hc)
  have hn : v'.ownBlock ≠ some p := fun e => (hf p e).elim hap (fun h => by omega)
  have hc2 := one_setCell (u := v') hc1
  refine ⟨⟨v', hc2, hown.of_block (fun k hk => Below.heap_setCell _ _ _ _ (fun e => hn (by rw [hk]; exact congrArg some e))), hn⟩, ⟨?_, ?_, ?_, ?_, ?_, ?_⟩⟩
  · exact hg.os.trans h0.os
  · exact hg.tape.trans h0.tape
  · exact hg.output.trans h0.output
  · have := h0.size; have := hg.size; simp [World.setCell]; omega
  · intro k hk hnf
    have hkp : k ≠ p := fun e => hnf (.inl e)
    rw [Below.heap_setCell _ _ _ _ hkp, hg.block k (Nat.lt_of_lt_of_le hk h0.size) (fun e => hnf (.inr ⟨v, hc, e.symm⟩)), h0.block k hk]
  · intro k hk
    rcases hk with rfl | ⟨u, h1, h2⟩
    · exact .inl (.inl rfl)
    · have e : u = v' := by rw [hc2] at h1; simpa using h1.symm
      subst e
      rcases hf k h2 with h | h
      · exact .inl (.inr ⟨v, hc, h⟩)
      · exact .inr (Nat.le_trans h0.size h)
end Go.Proofs.Ytehapglbenaikaa
