/- Memory of several owners side by side: what belongs to one owner turns, and the others' stays; rows of bytes that one cell of is written. -/
import Derived.Test.YtobkmjkcbihfbaaG
namespace Go.Proofs.Ytobkmjkcbihfbaa
open Go.RowKit
set_option linter.unusedVariables false

/-- from w to w' only blocks of f have turned; f' are f's and new ones. -/
structure Mv (f : Nat → Prop) (w : World) (f' : Nat → Prop) (w' : World) : Prop where
  os : w'.os = w.os
  tape : w'.tape = w.tape
  output : w'.output = w.output
  size : w.heap.size ≤ w'.heap.size
  block : ∀ k, k < w.heap.size → ¬ f k → w'.heap[k]? = w.heap[k]?
  foot : ∀ k, f' k → f k ∨ w.heap.size ≤ k
/-- owners by their numbers, each with blocks of its own, all from B on; nothing below B has turned since w0. -/
structure Sep (B : Nat) (w0 w : World) (F : Nat → Nat → Prop) : Prop where
  below : Below B w0 w
  size : B ≤ w.heap.size
  low : ∀ i k, F i k → B ≤ k
  high : ∀ i k, F i k → k < w.heap.size
  dis : ∀ i j k, i ≠ j → F i k → ¬ F j k
def upd (F : Nat → Nat → Prop) (i : Nat) (f : Nat → Prop) : Nat → Nat → Prop := fun j => if j = i then f else F j
theorem upd_same (F : Nat → Nat → Prop) (i : Nat) (f : Nat → Prop) : upd F i f i = f := by simp [upd]
theorem upd_other (F : Nat → Nat → Prop) (i j : Nat) (f : Nat → Prop) (h : j ≠ i) : upd F i f j = F j := by simp [upd, h]
theorem Mv.below {f f' : Nat → Prop} {w w' : World} {B : Nat} (h : Mv f w f' w') (hl : ∀ k, f k → B ≤ k) (hB : B ≤ w.heap.size) : Below B w w' :=
  ⟨h.os, h.tape, h.output, h.size, fun k hk => h.block k (by omega) (fun hf => by have := hl k hf; omega)⟩
theorem Sep.mv {B : Nat} {w0 w w' : World} {F : Nat → Nat → Prop} (h : Sep B w0 w F) (i : Nat) (f' : Nat → Prop) (m : Mv (F i) w f' w') (hi : ∀ k, f' k → k < w'.heap.size) : Sep B w0 w' (upd F i f') := by
  refine ⟨h.below.trans (m.below (h.low i) h.size), Nat.le_trans h.size m.size, ?_, ?_, ?_⟩
  · intro j k hk
    by_cases e : j = i
    · subst e
      rw [upd_same] at hk
      exact (m.foot k hk).elim (h.low j k) (fun hs => Nat.le_trans h.size hs)
    · rw [upd_other _ _ _ _ e] at hk
      exact h.low j k hk
  · intro j k hk
    by_cases e : j = i
    · subst e
      rw [upd_same] at hk
      exact hi k hk
    · rw [upd_other _ _ _ _ e] at hk
      exact Nat.lt_of_lt_of_le (h.high j k hk) m.size
  · intro j l k hne hj hl
    by_cases e : j = i
    · subst e
      rw [upd_same] at hj
      rw [upd_other _ _ _ _ (fun e => hne e.symm)] at hl
      rcases m.foot k hj with h1 | h1
      · exact h.dis j l k hne h1 hl
      · have := h.high l k hl; omega
    · rw [upd_other _ _ _ _ e] at hj
      by_cases e2 : l = i
      · subst e2
        rw [upd_same] at hl
        rcases m.foot k hl with h1 | h1
        · exact h.dis j l k hne hj h1
        · have := h.high j k hj; omega
      · rw [upd_other _ _ _ _ e2] at hl
        exact h.dis j l k hne hj hl
theorem Sep.on {B : Nat} {w0 w w' : World} {F : Nat → Nat → Prop} (h : Sep B w0 w F) (hb : Below w.heap.size w w') : Sep B w0 w' F :=
  ⟨h.below.trans (hb.mono h.size), Nat.le_trans h.size hb.size, h.low, fun i k hk => Nat.lt_of_lt_of_le (h.high i k hk) hb.size, h.dis⟩
/-- what the others have stays. -/
theorem Sep.stays {B : Nat} {w0 w w' : World} {F : Nat → Nat → Prop} (h : Sep B w0 w F) {i j : Nat} (hne : i ≠ j) {f' : Nat → Prop} (m : Mv (F i) w f' w') : ∀ k, F j k → w'.heap[k]? = w.heap[k]? :=
  fun k hk => m.block k (h.high j k hk) (fun hf => h.dis i j k hne hf hk)
theorem Mv.of_below {f : Nat → Prop} {w w' : World} (h : Below w.heap.size w w') : Mv f w f w' := ⟨h.os, h.tape, h.output, h.size, fun k hk _ => h.block k hk, fun k hk => .inl hk⟩
theorem mv_wrote {p : Nat} {w w' : World} (h : Wrote p w w') : Mv (foot w p) w (foot w' p) w' := ⟨h.os, h.tape, h.output, h.size, h.block, h.foot⟩
/-- the blocks of a slice's value. -/
def blks (v : Value) (k : Nat) : Prop := v.ownBlock = some k
theorem Mv.grown {v v' : Value} {w w' : World} (h : w.grownBy w' v.ownBlock) (hf : ∀ k, v'.ownBlock = some k → v.ownBlock = some k ∨ w.heap.size ≤ k) : Mv (blks v) w (blks v') w' :=
  ⟨h.os, h.tape, h.output, h.size, fun k hk hn => h.block k hk (fun e => hn e.symm), hf⟩
theorem Own.blk_lt {w : World} {v : Value} {zs : List Int} (h : Own w v zs) (k : Nat) (hk : blks v k) : k < w.heap.size := h.lt hk

/-- a row of bytes without room behind it, one of which is written. -/
theorem Own.at_ {w : World} {b off n c : Nat} {zs : List Int} (h : Own w (.slice (some ⟨b, off, none⟩) n c) zs) : off = 0 ∧ n = zs.length ∧ b < w.heap.size ∧ (∀ i, i < zs.length → w.cell? ⟨b, i, none⟩ = some (.int .u8 (zs.getD i 0))) ∧ ∀ i, w.frozen? ⟨b, i, none⟩ = false := by
  rcases h.2 with ⟨e, _⟩ | ⟨g, cap, cur, e, hb, hg, hn, hm, hs, ht⟩
  · cases e
  · simp at e
    obtain ⟨⟨rfl, rfl⟩, rfl, rfl⟩ := e
    refine ⟨rfl, rfl, lt_of_block hg, fun i hi => ?_, fun i => by simp [World.frozen?, hg]⟩
    have := h.cells (g := b) rfl i (.int .u8 (zs.getD i 0)) (by simp [hi])
    rw [Addr.add_lit] at this
    simpa using this
theorem Own.set {w : World} {b n c : Nat} {zs : List Int} (h : Own w (.slice (some ⟨b, 0, none⟩) n c) zs) (i : Nat) (hi : i < zs.length) (x : Int) : Own (w.setCell ⟨b, i, none⟩ (.int .u8 x)) (.slice (some ⟨b, 0, none⟩) n c) (zs.set i x) := by
  rcases h.2 with ⟨e, _⟩ | ⟨g, cap, cur, e, hb, hg, hn, hm, hs, ht⟩
  · cases e
  · simp at e
    obtain ⟨rfl, rfl, rfl⟩ := e
    refine ⟨by simp, .inr ⟨b, c, cur.setIfInBounds i (.int .u8 x), by simp, hb, ?_, by simpa using hn, hm, by simpa using hs, ?_⟩⟩
    · rw [heap_setCell_same w b i _ 5 _ hg]
    · simp only [Nat.mul_one] at ht ⊢
      rw [List.length_set, Array.toList_setIfInBounds, List.take_set, ht, List.map_set]
end Go.Proofs.Ytobkmjkcbihfbaa
