/- Rows of numbers beside a pool. -/
import Derived.Test.YtkkjppdooaipiaaPM1
namespace Go.Proofs.Ytkkjppdooaipiaa
open Go.RowKit Go.Maps
set_option linter.unusedVariables false

theorem Try.info33 : (Try.prog.info? 33).map (fun i => (i.zero, i.size, i.bytes)) = some (some (.int .u32 0), 1, 4) := by kernel_rfl
def uv (zs : List Nat) : List Value := zs.map fun (n : Nat) => Value.int .u32 (n : Int)
/-- a row of numbers of the call's own. -/
def OwnU (w : World) (v : Value) (zs : List Nat) : Prop := w.ownsRow 0 33 1 v zs.length (uv zs)
theorem OwnU.nil (w : World) : OwnU w (.slice none 0 0) [] := World.ownsRow_nil w 0 33 1
theorem OwnU.of_block {w w' : World} {v : Value} {zs : List Nat} (h : OwnU w v zs) (hb : ∀ k, v.ownBlock = some k → w'.heap[k]? = w.heap[k]?) : OwnU w' v zs := by
  obtain ⟨h1, h2⟩ := h
  refine ⟨h1, ?_⟩
  rcases h2 with h2 | ⟨g, cap, cur, rfl, hg, hh, r⟩
  · exact .inl h2
  · exact .inr ⟨g, cap, cur, rfl, hg, by rw [hb g rfl]; exact hh, r⟩
theorem OwnU.lt {w : World} {v : Value} {zs : List Nat} (h : OwnU w v zs) {k : Nat} (hk : v.ownBlock = some k) : k < w.heap.size := (World.ownsRow.lt h k hk).2
theorem OwnU.shape {w : World} {v : Value} {zs : List Nat} (h : OwnU w v zs) : ∃ a c, v = .slice a zs.length c ∧ ∀ (i n : Nat), zs[i]? = some n → ∃ g, a = some ⟨g, 0, none⟩ ∧ w.cell? ⟨g, i, none⟩ = some (.int .u32 (n : Int)) := by
  rcases h.2 with ⟨rfl, h0⟩ | ⟨g, cap, cur, rfl, _, hg, hn, hm, _⟩
  · refine ⟨none, 0, by rw [h0], fun i n hi => ?_⟩
    have hz := List.eq_nil_of_length_eq_zero h0
    subst hz
    simp at hi
  · refine ⟨_, cap, rfl, fun i n hi => ⟨g, rfl, ?_⟩⟩
    have := h.cells (g := g) rfl i (.int .u32 (n : Int)) (by simp [uv, hi])
    rwa [Addr.add_lit, Nat.zero_add] at this
/-- a pool, a row of numbers beside it, and nothing below B turned since w0. -/
structure Ks (B : Nat) (w0 W : World) (p d q : Nat) (S : DS) (most : Nat) (A : List Pge) (OO : Nat → Prop) (u : Value) (us : List Nat) : Prop where
  pl : Pl W p d q S most A OO
  us : OwnU W u us
  ap : Ap W OO u
  nw : ∀ k, u.ownBlock = some k → B ≤ k
  fd : Fd B w0 W OO
variable {B : Nat} {w0 W W' : World} {p d q : Nat} {S S' : DS} {most : Nat} {A A' : List Pge} {OO OO' : Nat → Prop} {u u' : Value} {us us' : List Nat}
theorem Ks.go (h : Ks B w0 W p d q S most A OO u us) (hp : Pl W' p d q S' most A' OO') (hg : Go1 OO W OO' W') : Ks B w0 W' p d q S' most A' OO' u us :=
  ⟨hp, h.us.of_block fun k hk => hg.mv.block k (h.ap k hk).1 (h.ap k hk).2, h.ap.go hg, h.nw, h.fd.go hg⟩
theorem Ks.on (h : Ks B w0 W p d q S most A OO u us) (hb : Below W.heap.size W W') : Ks B w0 W' p d q S most A OO u us := h.go (h.pl.below hb) (Go1.of_below hb)
/-- a number is put at the end of the row. -/
theorem Ks.grown (h : Ks B w0 W p d q S most A OO u us) (hg : W.grownBy W' u.ownBlock) (ho : OwnU W' u' us') (hl : u'.ownBlock = u.ownBlock ∨ u'.ownBlock = some W.heap.size) : Ks B w0 W' p d q S most A OO u' us' := by
  have hmv : Mv (fun k => u.ownBlock = some k) W W' := ⟨hg.os, hg.tape, hg.output, hg.size, fun k hk hn => hg.block k hk (fun e => hn e.symm)⟩
  have hnot : ∀ k, OO k → ¬ u.ownBlock = some k := fun k hk e => (h.ap k e).2 hk
  refine ⟨h.pl.other hmv hnot, ho, fun k hk => ?_, fun k hk => ?_, ⟨h.fd.below.trans ⟨hg.os, hg.tape, hg.output, hg.size, fun k hk => hg.block k (by have := h.fd.size; omega) (fun e => by have := h.nw k e.symm; omega)⟩, Nat.le_trans h.fd.size hg.size, h.fd.own⟩⟩
  · rcases hl with e | e
    · exact ⟨Nat.lt_of_lt_of_le (h.ap k (e ▸ hk)).1 hg.size, (h.ap k (e ▸ hk)).2⟩
    · rw [e] at hk
      cases hk
      exact ⟨ho.lt e, fun hx => by have := h.pl.lt _ hx; omega⟩
  · rcases hl with e | e
    · exact h.nw k (e ▸ hk)
    · rw [e] at hk
      cases hk
      exact h.fd.size
/-- another row, that takes its place. -/
theorem Ks.swap (h : Ks B w0 W p d q S most A OO u us) (ho : OwnU W u' us') (ha : Ap W OO u') (hn : ∀ k, u'.ownBlock = some k → B ≤ k) : Ks B w0 W p d q S most A OO u' us' := ⟨h.pl, ho, ha, hn, h.fd⟩
theorem uv_snoc (zs : List Nat) (n : Nat) : uv (zs ++ [n]) = uv zs ++ [.int .u32 (n : Int)] := by simp [uv]
theorem OwnU.snoc {w : World} {v : Value} {zs : List Nat} {n : Nat} (h : w.ownsRow 0 33 1 v (zs.length + 1) (uv zs ++ [.int .u32 (n : Int)])) : OwnU w v (zs ++ [n]) := by
  unfold OwnU
  rw [uv_snoc, List.length_append]
  exact h
/-- what is wanted of an append of one number. -/
theorem one_new (W : World) (x : Int) : (∀ j u, [Value.int .u32 x][j]? = some u → (W.alloc (.cells #[.int .u32 x] 33)).cell? ((⟨W.heap.size, 0, none⟩ : Addr).add j) = some u) ∧ (∀ u ∈ [Value.int .u32 x], u.oneCell' = true) := by
  refine ⟨fun j u hu => ?_, fun u hu => by simp only [List.mem_singleton] at hu; rw [hu]; rfl⟩
  rw [Addr.add_lit, cell_of_row _ _ (0 + j) _ 33 (0, 0) (heap_alloc_new W _)]
  simpa using hu
end Go.Proofs.Ytkkjppdooaipiaa
