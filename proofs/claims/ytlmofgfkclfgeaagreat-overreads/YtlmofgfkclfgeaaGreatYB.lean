/- A chain of pages as a function; how the document's Read goes along it. -/
import Derived.Test.YtlmofgfkclfgeaaGreatYA
import Derived.Test.YtlmofgfkclfgeaaGreatGA
namespace Go.Proofs.YtlmofgfkclfgeaaGreat
open Go.RowKit Go.Maps
set_option linter.unusedVariables false
variable {w w' w0 w1 w2 : World} {p2 r most : Nat} {S S' : DS} {A A' : List Pge} {O O1 O2 : Nat → Prop}

/-- how many pages a value takes. -/
def needN (n : Nat) : Nat := if 65 ≤ n ∧ n ≤ 8192 then (n + 1003) / 1004 else 0
set_option maxHeartbeats 800000 in
set_option maxRecDepth 1000000 in
theorem rneed_any (n : Nat) (hn : n ≤ 4294967295) : Calls Tryz.prog 24 #[.int .i64 (n : Int)] w fun e w' => e = .returned (.int .i64 (needN n : Int)) ∧ w' = w := by
  unfold needN
  by_cases h1 : n < 65
  · have d1 : (n : Int) < 65 := by omega
    rw [if_neg (by omega)]
    go_enter Tryz.func24, Tryz.ntmps24
    go_wp2
    go_ret
    exact ⟨rfl, rfl⟩
  · have d1 : ¬ (n : Int) < 65 := by omega
    by_cases h2 : 8192 < n
    · have d2 : (8192 : Int) < (n : Int) := by omega
      rw [if_neg (by omega)]
      go_enter Tryz.func24, Tryz.ntmps24
      go_wp2
      go_ret
      exact ⟨rfl, rfl⟩
    · have d2 : ¬ (8192 : Int) < (n : Int) := by omega
      rw [if_pos (by omega)]
      have wr : IntKind.i64.wrap ((n : Int) + 1003) = (n : Int) + 1003 := by rw [IntKind.wrap_i64]; omega
      have dv : ((n : Int) + 1003).tdiv 1004 = (((n + 1003) / 1004 : Nat) : Int) := by
        rw [Int.tdiv_eq_ediv_of_nonneg (by omega)]
        omega
      have wm : wrap64 (((n + 1003) / 1004 : Nat) : Int) = (((n + 1003) / 1004 : Nat) : Int) := by unfold wrap64; omega
      generalize (n + 1003) / 1004 = m at *
      clear h1 h2
      go_enter Tryz.func24, Tryz.ntmps24
      go_wp2
      go_ret
      exact ⟨rfl, rfl⟩
/-- what a chain comes to. -/
structure ChT where
  v : List Int
  ps : List Nat
  e : Nat
  S : DS
  A : List Pge
def lng (size n j : Nat) : Nat := min 1004 (size - 1004 * (n - (j + 1)))
def chn (most size n : Nat) : Nat → DS → List Pge → Nat → List Int → List Nat → ChT
  | 0, S, A, _, v, ps => ⟨v, ps, 0, S, A⟩
  | j + 1, S, A, a, v, ps =>
    if (rdo most S A a).e ≠ 0 then ⟨[], [], (rdo most S A a).e, (rdo most S A a).S, (rdo most S A a).A⟩
    else if ((rdo most S A a).k = 3 ∧ (rdo most S A a).pl.length = 4 + lng size n j) ∧ prtOk (rdo most S A a).pl (decide (j = 0)) = true then
      chn most size n j (rdo most S A a).S (rdo most S A a).A (if j = 0 then 0 else nx4 (rdo most S A a).pl) (v ++ (rdo most S A a).pl.drop 4) (ps ++ [a])
    else ⟨[], [], 120, (rdo most S A a).S, (rdo most S A a).A⟩
/-- a chain under way. -/
structure Cs (w0 w : World) (p2 r most : Nat) (S : DS) (A : List Pge) (O O1 : Nat → Prop) (vv vp : Value) (v : List Int) (ps : List Nat) : Prop where
  q : Qp w p2 r S most A O1
  go : Go1 O w0 O1 w
  ov : Own w vv v
  op : w.ownsRow 0 23 1 vp (ps.map (fun n : Nat => Value.int .u32 (n : Int))).length (ps.map (fun n : Nat => Value.int .u32 (n : Int)))
  nv : ∀ k, vv.ownBlock = some k → w0.heap.size ≤ k ∧ ¬ O1 k
  np : ∀ k, vp.ownBlock = some k → w0.heap.size ≤ k ∧ ¬ O1 k
variable {vv vp : Value} {v : List Int} {ps : List Nat}
theorem row_of {t sz m : Nat} {u : Value} {xs : List Value} (h : w.ownsRow 0 t sz u m xs) (hb : ∀ k, u.ownBlock = some k → w'.heap[k]? = w.heap[k]?) : w'.ownsRow 0 t sz u m xs := row_keep h hb
theorem Cs.new (h : Qp w p2 r S most A O) : Cs w w p2 r most S A O O (.slice none 0 0) (.slice none 0 0) [] [] :=
  ⟨h, Go1.refl _ _, Own.nil _, World.ownsRow_nil _ _ _ _, by simp [Value.ownBlock], by simp [Value.ownBlock]⟩
theorem Cs.move (h : Cs w0 w p2 r most S A O O1 vv vp v ps) (hq : Qp w' p2 r S' most A' O2) (hg : Go1 O1 w O2 w') : Cs w0 w' p2 r most S' A' O O2 vv vp v ps := by
  have hk : ∀ k, k < w.heap.size → ¬ O1 k → ¬ O2 k := fun k hl hn ho => (hg.own k ho).elim hn (fun h => by omega)
  exact ⟨hq, h.go.trans hg, h.ov.of_block fun k hk => hg.mv.block k (h.ov.lt hk) (h.nv k hk).2, row_of h.op fun k hk => hg.mv.block k (h.op.lt k hk).2 (h.np k hk).2,
    fun k hv => ⟨(h.nv k hv).1, hk k (h.ov.lt hv) (h.nv k hv).2⟩, fun k hv => ⟨(h.np k hv).1, hk k (h.op.lt k hv).2 (h.np k hv).2⟩⟩
theorem Cs.below (h : Cs w0 w p2 r most S A O O1 vv vp v ps) (hb : Below w.heap.size w w') : Cs w0 w' p2 r most S A O O1 vv vp v ps := h.move (h.q.below hb) (Go1.of_below hb)
theorem Cs.vp_ne (h : Cs w0 w p2 r most S A O O1 vv vp v ps) {k : Nat} (hk : vp.ownBlock = some k) : vv.ownBlock ≠ some k := fun e => by
  obtain ⟨c1, g1, h1⟩ := row_type h.op hk
  obtain ⟨c2, g2, h2⟩ := Sl.type h.ov e
  rw [h1] at h2
  simp at h2
/-- a page more. -/
theorem Cs.page {vp' : Value} {x : Nat} (h : Cs w0 w p2 r most S A O O1 vv vp v ps) (ho : w2.ownsRow 0 23 1 vp' ((ps.map (fun n : Nat => Value.int .u32 (n : Int))) ++ [Value.int .u32 (x : Int)]).length ((ps.map (fun n : Nat => Value.int .u32 (n : Int))) ++ [Value.int .u32 (x : Int)])) (hg : (w.alloc (.cells #[.int .u32 (x : Int)] 23)).grownBy w2 vp.ownBlock) (hf : ∀ k, vp'.ownBlock = some k → vp.ownBlock = some k ∨ (w.alloc (.cells #[.int .u32 (x : Int)] 23)).heap.size ≤ k) : Cs w0 w2 p2 r most S A O O1 vv vp' v (ps ++ [x]) := by
  have hb : ∀ k, k < w.heap.size → vp.ownBlock ≠ some k → w2.heap[k]? = w.heap[k]? := fun k hk hn => (hg.block k (by simp; omega) (fun e => hn e.symm)).trans (Below.heap_alloc w _ k hk)
  have hs : w.heap.size ≤ w2.heap.size := Nat.le_trans (by simp) hg.size
  have hsz := h.go.mv.size
  have hm : Mv O w0 w2 := ⟨hg.os.trans h.go.mv.os, hg.tape.trans h.go.mv.tape, hg.output.trans h.go.mv.output, Nat.le_trans hsz hs, fun k hk hn => (hb k (by omega) (fun e => by have := (h.np k e).1; omega)).trans (h.go.mv.block k hk hn)⟩
  refine ⟨h.q.stays hs fun k hk => hb k (h.q.lt hk) (fun e => (h.np k e).2 hk), ⟨hm, h.go.own⟩, h.ov.of_block fun k hk => hb k (h.ov.lt hk) (fun e => h.vp_ne e hk), ?_, h.nv, fun k hk => ?_⟩
  · rw [List.map_append]
    exact ho
  · rcases hf k hk with e | e
    · exact h.np k e
    · simp at e
      exact ⟨by omega, fun ho => by have := h.q.lt ho; omega⟩
/-- bytes more. -/
theorem Cs.part {vv' : Value} {b : List Int} (h : Cs w0 w p2 r most S A O O1 vv vp v ps) (ho : Own w2 vv' (v ++ b)) (hg : w.grownBy w2 vv.ownBlock) (hf : ∀ k, vv'.ownBlock = some k → vv.ownBlock = some k ∨ w.heap.size ≤ k) : Cs w0 w2 p2 r most S A O O1 vv' vp (v ++ b) ps := by
  have hb : ∀ k, k < w.heap.size → vv.ownBlock ≠ some k → w2.heap[k]? = w.heap[k]? := fun k hk hn => hg.block k hk (fun e => hn e.symm)
  have hsz := h.go.mv.size
  have hm : Mv O w0 w2 := ⟨hg.os.trans h.go.mv.os, hg.tape.trans h.go.mv.tape, hg.output.trans h.go.mv.output, Nat.le_trans hsz hg.size, fun k hk hn => (hb k (by omega) (fun e => by have := (h.nv k e).1; omega)).trans (h.go.mv.block k hk hn)⟩
  refine ⟨h.q.stays hg.size fun k hk => hb k (h.q.lt hk) (fun e => (h.nv k e).2 hk), ⟨hm, h.go.own⟩, ho, row_of h.op fun k hk => hb k (h.op.lt k hk).2 (fun e => h.vp_ne hk e), fun k hk => ?_, h.np⟩
  rcases hf k hk with e | e
  · exact h.nv k e
  · exact ⟨by omega, fun ho => by have := h.q.lt ho; omega⟩
end Go.Proofs.YtlmofgfkclfgeaaGreat
