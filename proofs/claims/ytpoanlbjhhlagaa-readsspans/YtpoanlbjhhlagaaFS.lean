/- A set and the document's side by side, with what is lent. -/
import Derived.Test.YtpoanlbjhhlagaaLP
namespace Go.Proofs.Ytpoanlbjhhlagaa
open Go.RowKit Go.Maps
set_option linter.unusedVariables false

/-- the set, the document's set, and blocks X that are lent. -/
def Fs (w : World) (B p pr : Nat) (Ls Lr : List Ee) (X : Nat → Prop) : Prop := ∃ O E v ys, Sx w p B Ls O E ∧ Rb w pr B v ys ∧ ers ys = Lr ∧ (∀ k, O k → v.ownBlock ≠ some k) ∧ ∀ k, X k → k < w.heap.size ∧ B ≤ k ∧ ¬ O k ∧ ¬ E k ∧ k ≠ pr ∧ v.ownBlock ≠ some k ∧ ∀ y ∈ ys, ¬ y.has k
/-- what a step leaves. -/
def Kz (B : Nat) (X : Nat → Prop) (w w' : World) : Prop := Below B w w' ∧ ∀ k, X k → w'.heap[k]? = w.heap[k]?
section
variable {w w' : World} {B p pr : Nat} {Ls Lr : List Ee} {X : Nat → Prop}
theorem Rb.of_block {B : Nat} {v : Value} {ys : List En} (h : Rb w pr B v ys) (hb : ∀ k, k = pr ∨ v.ownBlock = some k ∨ (∃ y ∈ ys, y.has k) → w'.heap[k]? = w.heap[k]?) : Rb w' pr B v ys :=
  ⟨(hb pr (.inl rfl)).trans h.blk, h.ge, h.cl.of_block (fun k hk => hb k (.inr (.inl hk))) fun y hy k hk => hb k (.inr (.inr ⟨y, hy, hk⟩))⟩
theorem Fs.size (h : Fs w B p pr Ls Lr X) : B ≤ w.heap.size := by
  obtain ⟨O, E, v, ys, h1, h2, h3, h4, h5⟩ := h
  have := h1.olt h1.op
  omega
theorem Fs.below (h : Fs w B p pr Ls Lr X) (hb : Below w.heap.size w w') : Fs w' B p pr Ls Lr X := by
  obtain ⟨O, E, v, ys, h1, h2, h3, h4, h5⟩ := h
  exact ⟨O, E, v, ys, h1.below hb, h2.below hb, h3, h4, fun k hk => ⟨Nat.lt_of_lt_of_le (h5 k hk).1 hb.size, (h5 k hk).2⟩⟩
/-- blocks that were made since are lent. -/
theorem Fs.lend (h : Fs w B p pr Ls Lr X) (hb : Below w.heap.size w w') {X' : Nat → Prop} (hX : ∀ k, X' k → X k ∨ (w.heap.size ≤ k ∧ k < w'.heap.size)) : Fs w' B p pr Ls Lr X' := by
  have hB := h.size
  obtain ⟨O, E, v, ys, h1, h2, h3, h4, h5⟩ := h
  refine ⟨O, E, v, ys, h1.below hb, h2.below hb, h3, h4, fun k hk => ?_⟩
  rcases hX k hk with hx | ⟨hx, hy⟩
  · exact ⟨Nat.lt_of_lt_of_le (h5 k hx).1 hb.size, (h5 k hx).2⟩
  · refine ⟨hy, by omega, fun ho => by have := (h1.olt ho).1; omega, fun he => by have := (h1.elt he).1; omega, fun e => by have := lt_of_block h2.blk; omega, fun e => by have := (h2.cl.block e).2.1; omega, fun y hy' hk' => by have := (h2.cl.each y hy').lt hk'; omega⟩
/-- the set has gone on. -/
theorem Fs.s_on (h : Fs w B p pr Ls Lr X) {Ls' : List Ee} {F : FuncId} {ar : Array Value} {Q : Ending → Prop} (hc : ∀ O E, Sx w p B Ls O E → Calls Try.prog F ar w fun e w' => Q e ∧ ∃ O' E', Sx w' p B Ls' O' E' ∧ Go1 O w O' w' ∧ ∀ k, E' k → E k ∨ w.heap.size ≤ k) :
    Calls Try.prog F ar w fun e w' => Q e ∧ Fs w' B p pr Ls' Lr X ∧ Kz B X w w' := by
  obtain ⟨O, E, v, ys, h1, h2, h3, h4, h5⟩ := h
  refine (hc O E h1).mono ?_
  rintro e w' ⟨hq, O', E', g1, g2, g3⟩
  have hp := h1.olt h1.op
  have hR : ∀ k, k = pr ∨ v.ownBlock = some k ∨ (∃ y ∈ ys, y.has k) → w'.heap[k]? = w.heap[k]? := fun k hk => by
    rcases hk with rfl | hk | ⟨y, hy, hk⟩
    · refine g2.mv.block k (lt_of_block h2.blk) fun ho => ?_
      obtain ⟨cs, t, hc', ht⟩ := h1.otyp ho
      rw [h2.blk] at hc'
      have := obj_type hc'
      rcases ht with rfl | rfl <;> exact absurd this (by decide)
    · exact g2.mv.block k (h2.cl.block hk).2.1 fun ho => h4 k ho hk
    · obtain ⟨c, hc'⟩ := (h2.cl.each y hy).u8 hk
      exact g2.mv.block k ((h2.cl.each y hy).lt hk) fun ho => h1.not_u8 hc' ho
  refine ⟨hq, ⟨O', E', v, ys, g1, h2.of_block hR, h3, fun k hk e => ?_, fun k hk => ?_⟩, g2.mv.below (by omega) fun k hk => (h1.olt hk).2, fun k hk => g2.mv.block k (h5 k hk).1 (h5 k hk).2.2.1⟩
  · rcases g2.own k hk with ho | ho
    · exact h4 k ho e
    · have := (h2.cl.block e).2.1; omega
  · obtain ⟨a1, a2, a3, a4, a5⟩ := h5 k hk
    refine ⟨Nat.lt_of_lt_of_le a1 g2.mv.size, a2, fun ho => ?_, fun he => ?_, a5⟩
    · rcases g2.own k ho with h | h
      · exact a3 h
      · omega
    · rcases g3 k he with h | h
      · exact a4 h
      · omega
/-- the document's set has gone on. -/
theorem Fs.r_on (h : Fs w B p pr Ls Lr X) {l : List Ee} {F : FuncId} {ar : Array Value} (hc : ∀ v ys, Rb w pr B v ys → ers ys = Lr → Calls Try.prog F ar w (RsOut w pr B v ys l)) :
    Calls Try.prog F ar w fun e w' => e = .returned (.tuple #[]) ∧ Fs w' B p pr Ls (Lr ++ l) X ∧ Kz B X w w' := by
  have hB := h.size
  obtain ⟨O, E, v, ys, h1, h2, h3, h4, h5⟩ := h
  refine (hc v ys h2 h3).mono ?_
  rintro e w' ⟨rfl, v', zs, g1, g2, g3, g4, g5⟩
  have ho : ∀ k, O k → k ≠ pr := fun k hk e => by
    subst e
    obtain ⟨cs, t, hc', ht⟩ := h1.otyp hk
    rw [h2.blk] at hc'
    have := obj_type hc'
    rcases ht with rfl | rfl <;> exact absurd this (by decide)
  have hu : ∀ k cur, w.heap[k]? = some (.cells cur 5 (0, 0)) → ¬ (k = pr ∨ v.ownBlock = some k) := fun k cur hk => by
    rintro (rfl | e)
    · rw [h2.blk] at hk; have := obj_type hk; simp at this
    · obtain ⟨_, _, c, hc'⟩ := h2.cl.block e
      rw [hc'] at hk; have := obj_type hk; simp at this
  refine ⟨rfl, ⟨O, E, v', zs, h1.of_block fun k hk => ?_, g2, by rw [g1, h3], fun k hk e => ?_, fun k hk => ?_⟩, g3.below hB fun k hk => ?_, fun k hk => g3.block k (h5 k hk).1 fun e => ?_⟩
  · rcases hk with hk | hk
    · exact g3.block k (h1.olt hk).1 fun e => e.elim (ho k hk) (h4 k hk)
    · obtain ⟨a1, _, c, hc'⟩ := h1.elt hk
      exact g3.block k a1 (hu k c hc')
  · rcases g4 k e with h | h
    · exact h4 k hk h
    · have := (h1.olt hk).1; omega
  · obtain ⟨a1, a2, a3, a4, a5, a6, a7⟩ := h5 k hk
    refine ⟨Nat.lt_of_lt_of_le a1 g3.size, a2, a3, a4, a5, fun e => ?_, fun y hy hk' => ?_⟩
    · rcases g4 k e with h | h
      · exact a6 h
      · omega
    · rcases g5 y hy k hk' with ⟨z, hz, hk'⟩ | h
      · exact a7 z hz hk'
      · omega
  · rcases hk with rfl | hk
    · exact h2.ge
    · exact (h2.cl.block hk).1
  · obtain ⟨a1, a2, a3, a4, a5, a6, a7⟩ := h5 k hk
    exact e.elim a5 a6
/-- what was lent is written over. -/
theorem Fs.spoil (h : Fs w B p pr Ls Lr X) {Y : Nat → Prop} (hm : Mv Y w w') (hY : ∀ k, Y k → X k) {X' : Nat → Prop} (hX' : ∀ k, X' k → X k) : Fs w' B p pr Ls Lr X' ∧ Below B w w' := by
  have hB := h.size
  obtain ⟨O, E, v, ys, h1, h2, h3, h4, h5⟩ := h
  refine ⟨⟨O, E, v, ys, h1.of_block fun k hk => ?_, h2.of_block fun k hk => ?_, h3, h4, fun k hk => ⟨Nat.lt_of_lt_of_le (h5 k (hX' k hk)).1 hm.size, (h5 k (hX' k hk)).2⟩⟩, hm.below hB fun k hk => (h5 k (hY k hk)).2.1⟩
  · rcases hk with hk | hk
    · exact hm.block k (h1.olt hk).1 fun e => (h5 k (hY k e)).2.2.1 hk
    · exact hm.block k (h1.elt hk).1 fun e => (h5 k (hY k e)).2.2.2.1 hk
  · rcases hk with rfl | hk | ⟨y, hy, hk⟩
    · exact hm.block k (lt_of_block h2.blk) fun e => (h5 k (hY k e)).2.2.2.2.1 rfl
    · exact hm.block k (h2.cl.block hk).2.1 fun e => (h5 k (hY k e)).2.2.2.2.2.1 hk
    · exact hm.block k ((h2.cl.each y hy).lt hk) fun e => (h5 k (hY k e)).2.2.2.2.2.2 y hy hk
end
end Go.Proofs.Ytpoanlbjhhlagaa
