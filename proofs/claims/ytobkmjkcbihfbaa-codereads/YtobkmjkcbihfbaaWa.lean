/- A writer, a row of bytes, a book and something lent, side by side: each of them turns, and the others stay. -/
import Derived.Test.YtobkmjkcbihfbaaQ
import Derived.Test.YtobkmjkcbihfbaaY
namespace Go.Proofs.Ytobkmjkcbihfbaa
open Go.RowKit
set_option linter.unusedVariables false

def fo (a b c d : Nat → Prop) : Nat → Nat → Prop
  | 0 => a
  | 1 => b
  | 2 => c
  | 3 => d
  | _ => fun _ => False
section
variable {a b c d x : Nat → Prop}
theorem fo0 : upd (fo a b c d) 0 x = fo x b c d := by funext j; match j with | 0 | 1 | 2 | 3 | n + 4 => rfl
theorem fo1 : upd (fo a b c d) 1 x = fo a x c d := by funext j; match j with | 0 | 1 | 2 | 3 | n + 4 => rfl
theorem fo2 : upd (fo a b c d) 2 x = fo a b x d := by funext j; match j with | 0 | 1 | 2 | 3 | n + 4 => rfl
theorem fo3 : upd (fo a b c d) 3 x = fo a b c x := by funext j; match j with | 0 | 1 | 2 | 3 | n + 4 => rfl
theorem Sep.merge {B : Nat} {w0 w : World} (h : Sep B w0 w (fo a b c d)) : Sep B w0 w (fo a b (fun k => c k ∨ d k) (fun _ => False)) := by
  have up : ∀ i k, fo a b (fun k => c k ∨ d k) (fun _ => False) i k → (∃ j, fo a b c d j k ∧ (i ≠ 2 → j = i) ∧ (i = 2 → j = 2 ∨ j = 3)) := by
    intro i k hk
    match i, hk with
    | 0, hk => exact ⟨0, hk, fun _ => rfl, fun h => by omega⟩
    | 1, hk => exact ⟨1, hk, fun _ => rfl, fun h => by omega⟩
    | 2, .inl hk => exact ⟨2, hk, fun h => by omega, fun _ => .inl rfl⟩
    | 2, .inr hk => exact ⟨3, hk, fun h => by omega, fun _ => .inr rfl⟩
    | 3, hk => exact hk.elim
    | n + 4, hk => exact hk.elim
  refine ⟨h.below, h.size, ?_, ?_, ?_⟩
  · intro i k hk
    obtain ⟨j, hj, _⟩ := up i k hk
    exact h.low j k hj
  · intro i k hk
    obtain ⟨j, hj, _⟩ := up i k hk
    exact h.high j k hj
  · intro i l k hne h1 h2
    have hi3 : i ≠ 3 := by rintro rfl; exact h1
    have hl3 : l ≠ 3 := by rintro rfl; exact h2
    obtain ⟨j, hj, e1, e2⟩ := up i k h1
    obtain ⟨m, hm, e3, e4⟩ := up l k h2
    refine h.dis j m k ?_ hj hm
    intro e
    subst e
    by_cases hi : i = 2
    · have := e3 (by omega)
      rcases e2 hi with h | h <;> omega
    · have h5 := e1 hi
      by_cases hl : l = 2
      · rcases e4 hl with h | h <;> omega
      · have := e3 hl; omega
end
structure Wst (B : Nat) (w0 w : World) (p q : Nat) (vw vb : Value) (n : Nat) (A : Nat → Option Addr) (Z : Nat → List Int) (zs ys : List Int) (d : Nat → Prop) : Prop where
  sep : Sep B w0 w (fo (foot w p) (blks vw) (bft q vb n A) d)
  wr : Wr w p zs
  own : Own w vw ys
  bk : Bk w q vb
  fam : Fam w vb n A Z
section
variable {B : Nat} {w0 w w' : World} {p q : Nat} {vw vb v' : Value} {n : Nat} {A : Nat → Option Addr} {Z : Nat → List Int} {zs ys us : List Int} {d : Nat → Prop}
theorem foot_eq (hb : w'.heap[p]? = w.heap[p]?) : foot w' p = foot w p := by funext k; exact propext (foot_same hb)
theorem Wst.on (h : Wst B w0 w p q vw vb n A Z zs ys d) (hb : Below w.heap.size w w') : Wst B w0 w' p q vw vb n A Z zs ys d :=
  ⟨by rw [foot_eq (hb.block p h.wr.lt)]; exact h.sep.on hb, h.wr.below hb, h.own.of_block fun k hk => hb.block k (h.own.lt hk), (hb.block q h.bk.lt).trans h.bk, h.fam.of_block fun k hk => hb.block k (h.fam.lt k hk)⟩
theorem Wst.lend (h : Wst B w0 w p q vw vb n A Z zs ys fun _ => False) (hb : Below w.heap.size w w') (hd : ∀ k, d k → w.heap.size ≤ k ∧ k < w'.heap.size) : Wst B w0 w' p q vw vb n A Z zs ys d := by
  have h2 := h.on hb
  refine ⟨?_, h2.wr, h2.own, h2.bk, h2.fam⟩
  have hm : Mv ((fo (foot w p) (blks vw) (bft q vb n A) fun _ => False) 3) w d w' := ⟨hb.os, hb.tape, hb.output, hb.size, fun k hk _ => hb.block k hk, fun k hk => .inr (hd k hk).1⟩
  have h3 := h.sep.mv 3 d hm (fun k hk => (hd k hk).2)
  rw [fo3] at h3
  rw [foot_eq (hb.block p h.wr.lt)]
  exact h3
theorem Wst.wrote (h : Wst B w0 w p q vw vb n A Z zs ys d) (hw : Wr w' p us) (ho : Wrote p w w') : Wst B w0 w' p q vw vb n A Z us ys d := by
  have hm : Mv ((fo (foot w p) (blks vw) (bft q vb n A) d) 0) w (foot w' p) w' := mv_wrote ho
  have h3 := h.sep.mv 0 _ hm (fun k hk => hw.foot_lt hk)
  rw [fo0] at h3
  have s1 := h.sep.stays (i := 0) (j := 1) (by omega) hm
  have s2 := h.sep.stays (i := 0) (j := 2) (by omega) hm
  exact ⟨h3, hw, h.own.of_block s1, (s2 q (.inl rfl)).trans h.bk, h.fam.of_block fun k hk => s2 k (.inr hk)⟩
theorem Wst.want (h : Wst B w0 w p q vw vb n A Z zs ys d) (ho : Own w' v' us) (hg : w.grownBy w' vw.ownBlock) (hf : ∀ k, v'.ownBlock = some k → vw.ownBlock = some k ∨ w.heap.size ≤ k) : Wst B w0 w' p q v' vb n A Z zs us d := by
  have hm : Mv ((fo (foot w p) (blks vw) (bft q vb n A) d) 1) w (blks v') w' := Mv.grown hg hf
  have h3 := h.sep.mv 1 _ hm (fun k hk => ho.lt hk)
  rw [fo1] at h3
  have s1 := h.sep.stays (i := 1) (j := 0) (by omega) hm
  have s2 := h.sep.stays (i := 1) (j := 2) (by omega) hm
  exact ⟨by rw [foot_eq (s1 p (.inl rfl))]; exact h3, h.wr.of_block s1, ho, (s2 q (.inl rfl)).trans h.bk, h.fam.of_block fun k hk => s2 k (.inr hk)⟩
theorem Wst.spoil {g : Nat} (h : Wst B w0 w p q vw vb n A Z zs ys fun k => k = g) (hg : w.grownBy w' (some g)) : Wst B w0 w' p q vw vb n A Z zs ys fun _ => False := by
  have hm : Mv ((fo (foot w p) (blks vw) (bft q vb n A) fun k => k = g) 3) w (fun _ => False) w' := ⟨hg.os, hg.tape, hg.output, hg.size, fun k hk hn => hg.block k hk (fun e => hn (by cases e; rfl)), fun k hk => hk.elim⟩
  have h3 := h.sep.mv 3 _ hm (fun k hk => hk.elim)
  rw [fo3] at h3
  have s0 := h.sep.stays (i := 3) (j := 0) (by omega) hm
  have s1 := h.sep.stays (i := 3) (j := 1) (by omega) hm
  have s2 := h.sep.stays (i := 3) (j := 2) (by omega) hm
  exact ⟨by rw [foot_eq (s0 p (.inl rfl))]; exact h3, h.wr.of_block s0, h.own.of_block s1, (s2 q (.inl rfl)).trans h.bk, h.fam.of_block fun k hk => s2 k (.inr hk)⟩
/-- what is lent stays while the writer writes, and while the row grows. -/
theorem Wst.lent {g : Nat} {u : Value} {ls : List Int} (h : Wst B w0 w p q vw vb n A Z zs ys fun k => k = g) (hu : Own w u ls) (hk : ∀ k, blks u k → k = g) : ((∃ us, Wr w' p us ∧ Wrote p w w') ∨ w.grownBy w' vw.ownBlock) → Own w' u ls := by
  rintro (⟨us, hw, ho⟩ | hg)
  · refine hu.of_block fun k hk2 => ho.block k (hu.lt hk2) (fun hf => ?_)
    exact h.sep.dis 0 3 k (by omega) hf (hk k hk2)
  · refine hu.of_block fun k hk2 => hg.block k (hu.lt hk2) (fun hf => ?_)
    exact h.sep.dis 1 3 k (by omega) hf.symm (hk k hk2)
theorem Wst.put {a : Option Addr} {ls : List Int} (h : Wst B w0 w p q vw vb n A Z zs ys fun k => ∃ ad, a = some ad ∧ ad.block = k) (hb : Bk w' q v') (hf : Fam w' v' (n + 1) (put A n a) (put Z n ls)) (hk : Kp (fun k => k = q ∨ blks vb k) w w') (hv : ∀ k, blks v' k → blks vb k ∨ w.heap.size ≤ k) :
    Wst B w0 w' p q vw v' (n + 1) (Go.Proofs.Ytobkmjkcbihfbaa.put A n a) (Go.Proofs.Ytobkmjkcbihfbaa.put Z n ls) zs ys fun _ => False := by
  have h1 := h.sep.merge
  have hm : Mv ((fo (foot w p) (blks vw) (fun k => bft q vb n A k ∨ ∃ ad, a = some ad ∧ ad.block = k) fun _ => False) 2) w (bft q v' (n + 1) (Go.Proofs.Ytobkmjkcbihfbaa.put A n a)) w' := by
    refine ⟨hk.os, hk.tape, hk.output, hk.size, fun k hlt hn => hk.block k hlt (fun e => hn (.inl (e.elim .inl fun e => .inr (.inl e)))), ?_⟩
    rintro k (rfl | h2 | h2)
    · exact .inl (.inl (.inl rfl))
    · rcases hv k h2 with h3 | h3
      · exact .inl (.inl (.inr (.inl h3)))
      · exact .inr h3
    · rcases rft_put n A a k h2 with h3 | h3
      · exact .inl (.inl (.inr (.inr h3)))
      · exact .inl (.inr h3)
  have h3 := h1.mv 2 _ hm (by
    rintro k (rfl | h2)
    · exact hb.lt
    · exact hf.lt k h2)
  rw [fo2] at h3
  have s0 := h1.stays (i := 2) (j := 0) (by omega) hm
  have s1 := h1.stays (i := 2) (j := 1) (by omega) hm
  exact ⟨by rw [foot_eq (s0 p (.inl rfl))]; exact h3, h.wr.of_block s0, h.own.of_block s1, hb, hf⟩
end
end Go.Proofs.Ytobkmjkcbihfbaa
