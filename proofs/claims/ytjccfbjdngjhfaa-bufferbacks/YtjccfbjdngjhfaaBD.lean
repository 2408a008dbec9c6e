/- A buffer on its way back. -/
import Derived.Test.YtjccfbjdngjhfaaBC
namespace Go.Proofs.Ytjccfbjdngjhfaa
open Go.RowKit Go.Maps
set_option linter.unusedVariables false

/-- a buffer behind j steps back. -/
def Bk (w1 : World) (p B n : Nat) (sv uv : Value) (us : List Value) (hx : List (List En)) (j : Nat) (V : World) : Prop :=
  ∃ sv' l, hx[n - j]? = some l ∧ sv'.ownBlock = sv.ownBlock ∧ Bf V p B sv' uv l us ∧ Mv (Bo p sv uv) w1 V
section
variable {w1 V V' : World} {p B n j : Nat} {sv uv : Value} {xs : List En} {us : List Value} {hh : List (List En)}
theorem bo_same {sv' : Value} (h : sv'.ownBlock = sv.ownBlock) (k : Nat) : Bo p sv' uv k ↔ Bo p sv uv k := by unfold Bo; rw [h]
theorem Bh.own (h : Bh w1 p B sv uv xs us hh) {l : List En} (hl : l ∈ hh ++ [xs]) : ∀ x ∈ l, x.Own B w1 := by
  rcases List.mem_append.1 hl with hl | hl
  · exact h.olds l hl
  · simp at hl; subst hl; exact h.bf.each
theorem Bk.zero (h : Bh w1 p B sv uv xs us hh) (hn : us.length = n) : Bk w1 p B n sv uv us (hh ++ [xs]) 0 w1 :=
  ⟨sv, xs, by rw [Nat.sub_zero, ← hn, ← h.len]; simp, rfl, h.bf, Mv.refl _ _⟩
theorem Bk.move (h : Bh w1 p B sv uv xs us hh) (hb : Bk w1 p B n sv uv us (hh ++ [xs]) j V) (hm : Mv (Lp w1.heap.size) V V') : Bk w1 p B n sv uv us (hh ++ [xs]) j V' := by
  obtain ⟨sv', l, hl, ho, hbf, hmv⟩ := hb
  have st : ∀ k, k < w1.heap.size → V'.heap[k]? = V.heap[k]? := fun k hk => hm.block k (Nat.lt_of_lt_of_le hk hmv.size) (fun e => by unfold Lp at e; omega)
  refine ⟨sv', l, hl, ho, hbf.of_block fun k hk => st k ?_, hm.os.trans hmv.os, hm.tape.trans hmv.tape, hm.output.trans hmv.output, Nat.le_trans hmv.size hm.size, fun k hk hn => (st k hk).trans (hmv.block k hk hn)⟩
  rcases hk with hk | ⟨x, hx, hk⟩
  · exact h.bf.lt ((bo_same ho k).1 hk)
  · exact (h.own (List.mem_of_getElem? hl) x hx).lt hk
def BkOut (w1 : World) (p B n : Nat) (sv uv : Value) (us : List Value) (hx : List (List En)) (j : Nat) (V : World) (e : Ending) (V' : World) : Prop := e = .returned (.tuple #[]) ∧ Bk w1 p B n sv uv us hx (j + 1) V' ∧ Kl w1.heap.size V V'
theorem Bk.call (h : Bh w1 p B sv uv xs us hh) (hn : us.length = n) (hs : ∀ l, (hh ++ [xs])[n - j]? = some l → l.length ≤ 1000000) (hb : Bk w1 p B n sv uv us (hh ++ [xs]) j V) (hj : j < n) (hV : w1.heap.size + 1 < V.heap.size) {u : Value} (hu : us[n - 1 - j]? = some u) :
    (∃ ob bb ab : Nat, u = .func (.func 36) #[] #[.pointer (some ⟨ob, 0, none⟩), .pointer (some ⟨bb, 0, none⟩), .pointer (some ⟨ab, 0, none⟩)] ∧ Calls Try.prog 36 #[.pointer (some ⟨ob, 0, none⟩), .pointer (some ⟨bb, 0, none⟩), .pointer (some ⟨ab, 0, none⟩)] V (BkOut w1 p B n sv uv us (hh ++ [xs]) j V)) ∨
    (∃ bb ab : Nat, u = .func (.func 38) #[] #[.pointer (some ⟨bb, 0, none⟩), .pointer (some ⟨ab, 0, none⟩)] ∧ Calls Try.prog 38 #[.pointer (some ⟨bb, 0, none⟩), .pointer (some ⟨ab, 0, none⟩)] V (BkOut w1 p B n sv uv us (hh ++ [xs]) j V)) := by
  obtain ⟨sv', l, hl, ho, hbf, hmv⟩ := hb
  obtain ⟨a, b, ha, hb, hU⟩ := h.und _ u hu
  rw [show n - 1 - j + 1 = n - j by omega, hl] at hb
  cases hb
  have hU' := hU.move (sv' := sv') h.bf hmv (fun k hk => .inl (by rw [← ho]; exact hk))
  have hown : ∀ l' ∈ hh ++ [xs], ∀ x ∈ l', x.Own B V := fun l' hl' x hx => h.bf.own_move hmv (h.own hl' x hx)
  have fin : ∀ e V', UndoOut V p B sv' uv a us e V' → BkOut w1 p B n sv uv us (hh ++ [xs]) j V e V' := by
    rintro e V' ⟨rfl, sv2, h1, h2, h3⟩
    have h3' : Mv (Bo p sv uv) V V' := h3.mono fun k hk => (bo_same ho k).1 hk
    refine ⟨rfl, ⟨sv2, a, by rw [show n - (j + 1) = n - 1 - j by omega]; exact ha, h2.trans ho, h1, hmv.trans' h3'⟩, Kl.of_mv h3' hV (fun e => ?_) (fun e => ?_)⟩
    · have := h.bf.lt e; omega
    · have := h.bf.lt e; omega
  have hal := List.mem_of_getElem? ha
  rcases hU' with ⟨ob, bb, ab, i, old, rfl, h1, h2, h3, h4, h5, h6⟩ | ⟨bb, ab, i, rfl, h2, h3, h4, h5⟩
  · refine .inl ⟨ob, bb, ab, rfl, ?_⟩
    subst h5
    exact (undo1_any hbf ob bb ab i old h1 h2 h3 h4 h6 (hown _ hal old (List.mem_set h4 old))).mono fin
  · refine .inr ⟨bb, ab, rfl, ?_⟩
    subst h5
    exact (undo2_any hbf bb ab i h2 h3 h4 (hs _ hl)).mono fin
end
end Go.Proofs.Ytjccfbjdngjhfaa
