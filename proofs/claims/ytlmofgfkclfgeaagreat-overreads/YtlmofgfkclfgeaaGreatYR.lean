/- Read of a chain, whatever pages there are. -/
import Derived.Test.YtlmofgfkclfgeaaGreatOX
import Derived.Test.YtlmofgfkclfgeaaGreatOD
import Derived.Test.YtlmofgfkclfgeaaGreatOE
namespace Go.Proofs.YtlmofgfkclfgeaaGreat
open Go.RowKit Go.Shelf Go.Maps
attribute [local go_sem] Oper.semAt_some
attribute [local go_sem] wide_fn2
set_option linter.unusedVariables false
variable {w w' : World} {p d q most : Nat} {S : DS} {A : List Pge} {OO : Nat → Prop} {er : Int}
def zb (n : Nat) : Array Value := madeCells #[Value.int .u8 0] n
def zw (n : Nat) : Array Value := madeCells #[Value.int .u32 0] n
theorem makeB (n : Nat) (hn : n ≤ 1000000) (W : World) : (Instr.makeSlice 22 (.int .i64 0) (.int .u32 (n : Int))).run Tryz.prog W = .ok (.slice (some ⟨W.heap.size, 0, none⟩) 0 n) (W.alloc (.cells (zb n) 5)) := by
  obtain ⟨i0, hi, hz0, hz1, hz2⟩ := info_parts infoU8
  have := run_make (P := Tryz.prog) W 22 5 i0 _ Tryz.underlying22 hi hz0 .i64 .u32 0 (n : Int) (by omega) (by omega) (by rw [hz2]; omega) (by omega)
  rw [hz1] at this
  simp only [Int.toNat_natCast, Int.toNat_zero, Value.cells, Nat.mul_one] at this
  exact this
theorem makeW (n : Nat) (hn : n ≤ 1000000) (W : World) : (Instr.makeSlice 39 (.int .i64 0) (.int .i64 (n : Int))).run Tryz.prog W = .ok (.slice (some ⟨W.heap.size, 0, none⟩) 0 n) (W.alloc (.cells (zw n) 23)) := by
  obtain ⟨i0, hi, hz0, hz1, hz2⟩ := info_parts infoU32
  have := run_make (P := Tryz.prog) W 39 23 i0 _ Tryz.underlying39 hi hz0 .i64 .i64 0 (n : Int) (by omega) (by omega) (by rw [hz2]; omega) (by omega)
  rw [hz1] at this
  simp only [Int.toNat_natCast, Int.toNat_zero, Value.cells, Nat.mul_one] at this
  exact this
theorem makeB_own (n : Nat) (hn : n ≤ 1000000) (W : World) : Own (W.alloc (.cells (zb n) 5)) (.slice (some ⟨W.heap.size, 0, none⟩) 0 n) [] :=
  ⟨rfl, .inr ⟨W.heap.size, n, _, rfl, Nat.zero_le _, heap_alloc_new W _, Nat.zero_le _, by unfold maxLen; omega, by simp [zb, size_madeCells], by simp⟩⟩
theorem makeW_own (n : Nat) (hn : n ≤ 1000000) (W : World) : OwnW (W.alloc (.cells (zw n) 23)) (.slice (some ⟨W.heap.size, 0, none⟩) 0 n) [] :=
  ⟨rfl, .inr ⟨W.heap.size, n, _, rfl, Nat.zero_le _, heap_alloc_new W _, Nat.zero_le _, by unfold maxLen; omega, by simp [zw, size_madeCells], by simp⟩⟩
/-- two rows without anything, and the boxes that they stand in. -/
structure JR (W : World) (n m b1 b2 p1 p2 : Nat) (W' : World) : Prop where
  bel : Below W.heap.size W W'
  o1 : Own W' (.slice (some ⟨b1, 0, none⟩) 0 n) []
  o2 : OwnW W' (.slice (some ⟨b2, 0, none⟩) 0 m) []
  x1 : W'.heap[p1]? = some (.cells #[.slice (some ⟨b1, 0, none⟩) 0 n] 22 (0, 0))
  x2 : W'.heap[p2]? = some (.cells #[.slice (some ⟨b2, 0, none⟩) 0 m] 39 (0, 0))
  lo : W.heap.size ≤ b1 ∧ W.heap.size ≤ b2 ∧ W.heap.size ≤ p1 ∧ W.heap.size ≤ p2
theorem four_at (W : World) (a b c d : Obj) : let V := ((((W.alloc a).alloc b).alloc c).alloc d).drew; Below W.heap.size W V ∧ V.heap[W.heap.size]? = some a ∧ V.heap[W.heap.size + 1]? = some b ∧ V.heap[W.heap.size + 1 + 1]? = some c ∧ V.heap[W.heap.size + 1 + 1 + 1]? = some d := by
  have e1 := heap_alloc_new W a
  have e2 := heap_alloc_new (W.alloc a) b
  have e3 := heap_alloc_new ((W.alloc a).alloc b) c
  have e4 := heap_alloc_new (((W.alloc a).alloc b).alloc c) d
  simp only [World.size_alloc] at e2 e3 e4
  refine ⟨?_, ?_, ?_, ?_, e4⟩
  · have h := ((((Below.refl W.heap.size W).alloc (Nat.le_refl _) a).alloc (by simp) b).alloc (by simp; omega) c).alloc (by simp; omega) d
    exact ⟨h.os, h.tape, h.output, h.size, h.block⟩
  · exact (Below.heap_alloc _ d _ (by simp; omega)).trans ((Below.heap_alloc _ c _ (by simp; omega)).trans ((Below.heap_alloc _ b _ (by simp)).trans e1))
  · exact (Below.heap_alloc _ d _ (by simp)).trans ((Below.heap_alloc _ c _ (by simp)).trans e2)
  · exact (Below.heap_alloc _ d _ (by simp)).trans e3
theorem jr_mk {W W' : World} {n m b1 b2 p1 p2 : Nat} (hn : n ≤ 1000000) (hm : m ≤ 1000000) (bel : Below W.heap.size W W') (h1 : W'.heap[b1]? = some (.cells (zb n) 5 (0, 0))) (h2 : W'.heap[b2]? = some (.cells (zw m) 23 (0, 0))) (h3 : W'.heap[p1]? = some (.cells #[.slice (some ⟨b1, 0, none⟩) 0 n] 22 (0, 0))) (h4 : W'.heap[p2]? = some (.cells #[.slice (some ⟨b2, 0, none⟩) 0 m] 39 (0, 0))) (lo : W.heap.size ≤ b1 ∧ W.heap.size ≤ b2 ∧ W.heap.size ≤ p1 ∧ W.heap.size ≤ p2) : JR W n m b1 b2 p1 p2 W' :=
  ⟨bel, ⟨rfl, .inr ⟨b1, n, _, rfl, Nat.zero_le _, h1, Nat.zero_le _, by unfold maxLen; omega, by simp [zb, size_madeCells], by simp⟩⟩, ⟨rfl, .inr ⟨b2, m, _, rfl, Nat.zero_le _, h2, Nat.zero_le _, by unfold maxLen; omega, by simp [zw, size_madeCells], by simp⟩⟩, h3, h4, lo⟩
/-- behind the makes. -/
def JP (W3 : World) (p y0 n m s : Nat) : Exit → Act → World → Prop
  | .normal, a', w' => ∃ b1 b2 p1 p2, a' = { tmps := #[.pointer (some ⟨p, 0, none⟩), .int .u32 (y0 : Int), .int .u32 (n : Int), undef, undef, undef, .pointer (some ⟨s, 0, none⟩), .pointer (some ⟨s + 1, 0, none⟩), .pointer (some ⟨s + 1 + 1, 0, none⟩), .int .i64 (m : Int), .pointer (some ⟨p1, 0, none⟩), .pointer (some ⟨p2, 0, none⟩), undef, undef, .int .u32 (n : Int), .int .i64 (n : Int), .int .i64 (m : Int), .int .i64 (m : Int), .bool false, .int .u32 (n : Int), .slice (some ⟨b1, 0, none⟩) 0 n, .int .i64 (m : Int), .slice (some ⟨b2, 0, none⟩) 0 m, undef, undef, undef, undef, undef, undef, undef, undef, undef, undef, undef, undef, undef, undef, undef, undef, undef, undef, undef, undef, undef], defers := [] } ∧ JR W3 n m b1 b2 p1 p2 w'
  | _, _, _ => False
/-- the blocks that Read under way holds. -/
def Kb (sz p1 p2 : Nat) (v1 v2 : Value) (k : Nat) : Prop := k = p1 ∨ k = p2 ∨ k = sz ∨ k = sz + 1 ∨ k = sz + 1 + 1 ∨ v1.ownBlock = some k ∨ v2.ownBlock = some k
/-- Read under way. -/
structure Rf (w : World) (OO : Nat → Prop) (sz D p1 p2 : Nat) (zs : List Int) (ys : List Nat) (v1 v2 : Value) (er : Int) (V : World) (O : Nat → Prop) : Prop where
  go : Go1 OO w O V
  x1 : V.heap[p1]? = some (.cells #[v1] 22 (0, 0))
  x2 : V.heap[p2]? = some (.cells #[v2] 39 (0, 0))
  o1 : Own V v1 zs
  o2 : OwnW V v2 ys
  r1 : V.heap[sz]? = some (.cells #[.slice none 0 0] 22 (0, 0))
  r2 : V.heap[sz + 1]? = some (.cells #[.slice none 0 0] 39 (0, 0))
  r3 : V.heap[sz + 1 + 1]? = some (.cells #[.int .u16 er] 27 (0, 0))
  nb : ∀ k, Kb sz p1 p2 v1 v2 k → ¬ O k ∧ w.heap.size ≤ k ∧ k ≠ D ∧ k ≠ D + 1
  ne : sz < p1 ∧ sz + 1 < p2
theorem Rf.lt {w : World} {OO : Nat → Prop} {sz D p1 p2 : Nat} {zs : List Int} {ys : List Nat} {v1 v2 : Value} {V : World} {O : Nat → Prop} (h : Rf w OO sz D p1 p2 zs ys v1 v2 er V O) (k : Nat) (hk : Kb sz p1 p2 v1 v2 k) : k < V.heap.size := by
  rcases hk with rfl | rfl | rfl | rfl | rfl | hk | hk
  · exact lt_of_block h.x1
  · exact lt_of_block h.x2
  · exact lt_of_block h.r1
  · exact lt_of_block h.r2
  · exact lt_of_block h.r3
  · exact h.o1.lt hk
  · exact h.o2.lt hk
theorem Rf.keep {w : World} {OO : Nat → Prop} {sz D p1 p2 : Nat} {zs : List Int} {ys : List Nat} {v1 v2 : Value} {V V' : World} {O O' : Nat → Prop} (h : Rf w OO sz D p1 p2 zs ys v1 v2 er V O) (hb : ∀ k, Kb sz p1 p2 v1 v2 k → V'.heap[k]? = V.heap[k]?) (hg : Go1 OO w O' V') (hn : ∀ k, Kb sz p1 p2 v1 v2 k → ¬ O' k) : Rf w OO sz D p1 p2 zs ys v1 v2 er V' O' :=
  ⟨hg, (hb _ (.inl rfl)).trans h.x1, (hb _ (.inr (.inl rfl))).trans h.x2, h.o1.of_block (fun k hk => hb k (.inr (.inr (.inr (.inr (.inr (.inl hk))))))), h.o2.of_block (fun k hk => hb k (.inr (.inr (.inr (.inr (.inr (.inr hk))))))), (hb _ (.inr (.inr (.inl rfl)))).trans h.r1, (hb _ (.inr (.inr (.inr (.inl rfl))))).trans h.r2, (hb _ (.inr (.inr (.inr (.inr (.inl rfl)))))).trans h.r3, fun k hk => ⟨hn k hk, (h.nb k hk).2⟩, h.ne⟩
theorem Rf.gen {w : World} {OO : Nat → Prop} {sz D p1 p2 : Nat} {zs : List Int} {ys : List Nat} {v1 v2 : Value} {V V' : World} {O O' : Nat → Prop} (h : Rf w OO sz D p1 p2 zs ys v1 v2 er V O) (hg : Go1 O V O' V') : Rf w OO sz D p1 p2 zs ys v1 v2 er V' O' :=
  h.keep (fun k hk => hg.mv.block k (h.lt k hk) (h.nb k hk).1) (h.go.trans hg) (fun k hk ho => (hg.own k ho).elim (h.nb k hk).1 (fun hl => by have := h.lt k hk; omega))
theorem Rf.loop {w : World} {OO : Nat → Prop} {sz D p1 p2 : Nat} {zs : List Int} {ys : List Nat} {v1 v2 : Value} {V V' : World} {O : Nat → Prop} (h : Rf w OO sz D p1 p2 zs ys v1 v2 er V O) (hD : w.heap.size ≤ D) (hm : Mv (Lp D) V V') : Rf w OO sz D p1 p2 zs ys v1 v2 er V' O :=
  h.keep (fun k hk => hm.block k (h.lt k hk) (fun hL => by have hL' : k = D ∨ k = D + 1 := hL; have := (h.nb k hk).2; omega)) ⟨⟨hm.os.trans h.go.mv.os, hm.tape.trans h.go.mv.tape, hm.output.trans h.go.mv.output, Nat.le_trans h.go.mv.size hm.size, fun k hk ho => (hm.block k (Nat.lt_of_lt_of_le hk h.go.mv.size) (fun hL => by have hL' : k = D ∨ k = D + 1 := hL; omega)).trans (h.go.mv.block k hk ho)⟩, h.go.own⟩ (fun k hk => (h.nb k hk).1)
theorem type_apart {V : World} {a b : Nat} {x y : Array Value} {t t' : Nat} (h : V.heap[a]? = some (.cells x t (0, 0))) (h' : V.heap[b]? = some (.cells y t' (0, 0))) (hne : t ≠ t') : a ≠ b := fun e => by
  subst e
  rw [h] at h'
  simp at h'
  exact hne h'.2
theorem own_cells {V : World} {t : Nat} {v : Value} {n : Nat} {xs : List Value} (h : V.ownsRow 0 t 1 v n xs) {k : Nat} (hk : v.ownBlock = some k) : ∃ cur, V.heap[k]? = some (.cells cur t (0, 0)) := by
  rcases h.2 with ⟨rfl, _⟩ | ⟨g, cap, cur, rfl, _, hg, _⟩
  · cases hk
  · cases hk; exact ⟨cur, hg⟩
/-- behind the first append of a round. -/
theorem mid1 {V w1 : World} {p1 : Nat} {v1 v' : Value} (hg : V.grownBy w1 v1.ownBlock) (k : Nat) (hk : k < V.heap.size) (h1 : k ≠ p1) (h2 : v1.ownBlock ≠ some k) : (w1.setCell ⟨p1, 0, none⟩ v').heap[k]? = V.heap[k]? := by
  rw [Below.heap_setCell _ _ _ _ h1]
  exact hg.block k hk (fun e => h2 e.symm)
theorem set_one {w : World} {b t : Nat} {x u : Value} (h : w.heap[b]? = some (.cells #[x] t (0, 0))) : (w.setCell ⟨b, 0, none⟩ u).heap[b]? = some (.cells #[u] t (0, 0)) := by
  rw [heap_setCell_same _ b 0 _ t u h]
  rfl
theorem size_setCell (w : World) (a : Addr) (v : Value) : (w.setCell a v).heap.size = w.heap.size := by simp [World.setCell]
theorem rf_step {w : World} {OO : Nat → Prop} {sz D p1 p2 : Nat} {zs part : List Int} {ys : List Nat} {y : Nat} {v1 v2 v1' v2' : Value} {V w1 w2 : World} {O : Nat → Prop} {bx : Obj} (h : Rf w OO sz D p1 p2 zs ys v1 v2 er V O) (hD : D + 1 < V.heap.size) (hwD : w.heap.size ≤ D) (hO : ¬ O D ∧ ¬ O (D + 1))
    (ho1 : Own w1 v1' (zs ++ part)) (hg1 : V.grownBy w1 v1.ownBlock) (hn1 : ∀ k, v1'.ownBlock = some k → v1.ownBlock = some k ∨ V.heap.size ≤ k)
    (ho2 : OwnW w2 v2' (ys ++ [y])) (hg2 : ((w1.setCell ⟨p1, 0, none⟩ v1').alloc bx).grownBy w2 v2.ownBlock) (hn2 : ∀ k, v2'.ownBlock = some k → v2.ownBlock = some k ∨ ((w1.setCell ⟨p1, 0, none⟩ v1').alloc bx).heap.size ≤ k) (hOV : ∀ k, O k → k < V.heap.size) :
    Rf w OO sz D p1 p2 (zs ++ part) (ys ++ [y]) v1' v2' er (w2.setCell ⟨p2, 0, none⟩ v2') O ∧ Kl D V (w2.setCell ⟨p2, 0, none⟩ v2') ∧ Mv (fun k => ¬ O k) V (w2.setCell ⟨p2, 0, none⟩ v2') := by
  have s1 : V.heap.size ≤ w1.heap.size := hg1.size
  have sa : ((w1.setCell ⟨p1, 0, none⟩ v1').alloc bx).heap.size = w1.heap.size + 1 := by rw [World.size_alloc, size_setCell]
  have s2 : w1.heap.size + 1 ≤ w2.heap.size := by have := hg2.size; omega
  have s4 : (w2.setCell ⟨p2, 0, none⟩ v2').heap.size = w2.heap.size := size_setCell _ _ _
  have b1c : ∀ k, v1.ownBlock = some k → ∃ cur, V.heap[k]? = some (.cells cur 5 (0, 0)) := fun k hk => own_cells h.o1 hk
  have b2c : ∀ k, v2.ownBlock = some k → ∃ cur, V.heap[k]? = some (.cells cur 23 (0, 0)) := fun k hk => own_cells h.o2 hk
  have v1l : ∀ k, v1.ownBlock = some k → k < V.heap.size := fun k hk => h.o1.lt hk
  have v2l : ∀ k, v2.ownBlock = some k → k < V.heap.size := fun k hk => h.o2.lt hk
  have p1ne2 : p1 ≠ p2 := type_apart h.x1 h.x2 (by decide)
  have v1p2 : v1.ownBlock ≠ some p2 := fun e => by obtain ⟨c, hc⟩ := b1c _ e; exact type_apart hc h.x2 (by decide) rfl
  have v1p1 : v1.ownBlock ≠ some p1 := fun e => by obtain ⟨c, hc⟩ := b1c _ e; exact type_apart hc h.x1 (by decide) rfl
  have v2p1 : v2.ownBlock ≠ some p1 := fun e => by obtain ⟨c, hc⟩ := b2c _ e; exact type_apart hc h.x1 (by decide) rfl
  have v2p2 : v2.ownBlock ≠ some p2 := fun e => by obtain ⟨c, hc⟩ := b2c _ e; exact type_apart hc h.x2 (by decide) rfl
  have v12 : ∀ k, v1.ownBlock = some k → v2.ownBlock ≠ some k := fun k e e2 => by obtain ⟨c, hc⟩ := b1c _ e; obtain ⟨c2, hc2⟩ := b2c _ e2; exact type_apart hc hc2 (by decide) rfl
  -- what stays from V to the end
  have keep : ∀ k, k < V.heap.size → k ≠ p1 → k ≠ p2 → v1.ownBlock ≠ some k → v2.ownBlock ≠ some k → (w2.setCell ⟨p2, 0, none⟩ v2').heap[k]? = V.heap[k]? := fun k hk h1 h2 h3 h4 => by
    rw [Below.heap_setCell _ _ _ _ h2, hg2.block k (by omega) (fun e => h4 e.symm), Below.heap_alloc _ bx k (by rw [size_setCell]; omega)]
    exact mid1 hg1 k hk h1 h3
  -- what stays from w1 to the end
  have keep1 : ∀ k, k < w1.heap.size → k ≠ p1 → k ≠ p2 → v2.ownBlock ≠ some k → (w2.setCell ⟨p2, 0, none⟩ v2').heap[k]? = w1.heap[k]? := fun k hk h1 h2 h4 => by
    rw [Below.heap_setCell _ _ _ _ h2, hg2.block k (by omega) (fun e => h4 e.symm), Below.heap_alloc _ bx k (by rw [size_setCell]; exact hk), Below.heap_setCell _ _ _ _ h1]
  have hp1w1 : w1.heap[p1]? = some (.cells #[v1] 22 (0, 0)) := (hg1.block p1 (lt_of_block h.x1) (fun e => v1p1 e.symm)).trans h.x1
  have hx1 : (w2.setCell ⟨p2, 0, none⟩ v2').heap[p1]? = some (.cells #[v1'] 22 (0, 0)) := by
    rw [Below.heap_setCell _ _ _ _ p1ne2, hg2.block p1 (by have := lt_of_block hp1w1; omega) (fun e => v2p1 e.symm), Below.heap_alloc _ bx p1 (by rw [size_setCell]; exact lt_of_block hp1w1)]
    exact set_one hp1w1
  have hp2w2 : w2.heap[p2]? = some (.cells #[v2] 39 (0, 0)) := by
    rw [hg2.block p2 (by have := lt_of_block h.x2; omega) (fun e => v2p2 e.symm), Below.heap_alloc _ bx p2 (by rw [size_setCell]; have := lt_of_block h.x2; omega)]
    exact (mid1 hg1 p2 (lt_of_block h.x2) (fun e => p1ne2 e.symm) v1p2).trans h.x2
  have hx2 : (w2.setCell ⟨p2, 0, none⟩ v2').heap[p2]? = some (.cells #[v2'] 39 (0, 0)) := set_one hp2w2
  have n1 : ∀ k, v1'.ownBlock = some k → k ≠ p1 ∧ k ≠ p2 ∧ v2.ownBlock ≠ some k := fun k hk => by
    rcases hn1 k hk with e | e
    · exact ⟨fun e2 => v1p1 (e2 ▸ e), fun e2 => v1p2 (e2 ▸ e), v12 k e⟩
    · exact ⟨by have := lt_of_block h.x1; omega, by have := lt_of_block h.x2; omega, fun e2 => by have := v2l k e2; omega⟩
  have n2 : ∀ k, v2'.ownBlock = some k → k ≠ p2 := fun k hk => by
    rcases hn2 k hk with e | e
    · exact fun e2 => v2p2 (e2 ▸ e)
    · have := lt_of_block h.x2; omega
  have hm : Mv (fun k => ¬ O k) V (w2.setCell ⟨p2, 0, none⟩ v2') := by
    refine ⟨hg2.os.trans hg1.os, hg2.tape.trans hg1.tape, hg2.output.trans hg1.output, by omega, fun k hk hno => ?_⟩
    have ho : O k := Classical.byContradiction hno
    exact keep k hk (fun e => (h.nb p1 (.inl rfl)).1 (e ▸ ho)) (fun e => (h.nb p2 (.inr (.inl rfl))).1 (e ▸ ho)) (fun e => (h.nb k (.inr (.inr (.inr (.inr (.inr (.inl e))))))).1 ho) (fun e => (h.nb k (.inr (.inr (.inr (.inr (.inr (.inr e))))))).1 ho)
  have kD : ∀ k, k = D ∨ k = D + 1 → (w2.setCell ⟨p2, 0, none⟩ v2').heap[k]? = V.heap[k]? := fun k hk => by
    have q := fun j hj => (h.nb j hj).2.2
    refine keep k (by omega) (fun e => ?_) (fun e => ?_) (fun e => ?_) (fun e => ?_)
    · have := q p1 (.inl rfl); omega
    · have := q p2 (.inr (.inl rfl)); omega
    · have := q k (.inr (.inr (.inr (.inr (.inr (.inl e)))))); omega
    · have := q k (.inr (.inr (.inr (.inr (.inr (.inr e)))))); omega
  have rk : ∀ k, k = sz ∨ k = sz + 1 ∨ k = sz + 1 + 1 → (w2.setCell ⟨p2, 0, none⟩ v2').heap[k]? = V.heap[k]? := fun k hk => by
    have hl := h.lt k (by rcases hk with rfl | rfl | rfl; exact .inr (.inr (.inl rfl)); exact .inr (.inr (.inr (.inl rfl))); exact .inr (.inr (.inr (.inr (.inl rfl)))))
    have hne := h.ne
    refine keep k hl ?_ ?_ (fun e => ?_) (fun e => ?_)
    · rcases hk with rfl | rfl | rfl
      · omega
      · exact fun e => type_apart h.r2 h.x1 (by decide) e
      · exact fun e => type_apart h.r3 h.x1 (by decide) e
    · rcases hk with rfl | rfl | rfl
      · exact fun e => type_apart h.r1 h.x2 (by decide) e
      · omega
      · exact fun e => type_apart h.r3 h.x2 (by decide) e
    · obtain ⟨c, hc⟩ := b1c _ e
      rcases hk with rfl | rfl | rfl
      · exact type_apart hc h.r1 (by decide) rfl
      · exact type_apart hc h.r2 (by decide) rfl
      · exact type_apart hc h.r3 (by decide) rfl
    · obtain ⟨c, hc⟩ := b2c _ e
      rcases hk with rfl | rfl | rfl
      · exact type_apart hc h.r1 (by decide) rfl
      · exact type_apart hc h.r2 (by decide) rfl
      · exact type_apart hc h.r3 (by decide) rfl
  have lw := h.go.mv.size
  refine ⟨⟨⟨⟨hm.os.trans h.go.mv.os, hm.tape.trans h.go.mv.tape, hm.output.trans h.go.mv.output, by omega, fun k hk ho => ?_⟩, h.go.own⟩, hx1, hx2, ho1.of_block (fun k hk => keep1 k (ho1.lt hk) (n1 k hk).1 (n1 k hk).2.1 (n1 k hk).2.2), ho2.of_block (fun k hk => Below.heap_setCell _ _ _ _ (n2 k hk)), (rk sz (.inl rfl)).trans h.r1, (rk _ (.inr (.inl rfl))).trans h.r2, (rk _ (.inr (.inr rfl))).trans h.r3, fun k hk => ?_, h.ne⟩, ⟨by omega, kD D (.inl rfl), kD (D + 1) (.inr rfl)⟩, hm⟩
  · rw [← h.go.mv.block k hk ho]
    have q := fun j hj => (h.nb j hj).2.1
    refine keep k (by omega) (fun e => ?_) (fun e => ?_) (fun e => ?_) (fun e => ?_)
    · have := q p1 (.inl rfl); omega
    · have := q p2 (.inr (.inl rfl)); omega
    · have := q k (.inr (.inr (.inr (.inr (.inr (.inl e)))))); omega
    · have := q k (.inr (.inr (.inr (.inr (.inr (.inr e)))))); omega
  · rcases hk with rfl | rfl | rfl | rfl | rfl | hk | hk
    · exact h.nb _ (.inl rfl)
    · exact h.nb _ (.inr (.inl rfl))
    · exact h.nb _ (.inr (.inr (.inl rfl)))
    · exact h.nb _ (.inr (.inr (.inr (.inl rfl))))
    · exact h.nb _ (.inr (.inr (.inr (.inr (.inl rfl)))))
    · rcases hn1 k hk with e | e
      · exact h.nb k (.inr (.inr (.inr (.inr (.inr (.inl e))))))
      · exact ⟨fun ho => by have := hOV k ho; omega, by omega, by omega, by omega⟩
    · rcases hn2 k hk with e | e
      · exact h.nb k (.inr (.inr (.inr (.inr (.inr (.inr e))))))
      · exact ⟨fun ho => by have := hOV k ho; omega, by omega, by omega, by omega⟩
theorem rf_mid {w : World} {OO : Nat → Prop} {sz D p1 p2 lb : Nat} {zs : List Int} {ys : List Nat} {v1 v2 v1' : Value} {V w1 : World} {O : Nat → Prop} {cs : Array Value} (h : Rf w OO sz D p1 p2 zs ys v1 v2 er V O) (hg1 : V.grownBy w1 v1.ownBlock) (hlb : V.heap[lb]? = some (.cells cs 114 (0, 0))) :
    w1.heap[p1]? = some (.cells #[v1] 22 (0, 0)) ∧ (w1.setCell ⟨p1, 0, none⟩ v1').heap[p2]? = some (.cells #[v2] 39 (0, 0)) ∧ (w1.setCell ⟨p1, 0, none⟩ v1').heap[lb]? = some (.cells cs 114 (0, 0)) ∧ OwnW (w1.setCell ⟨p1, 0, none⟩ v1') v2 ys := by
  have b1c : ∀ k, v1.ownBlock = some k → ∃ cur, V.heap[k]? = some (.cells cur 5 (0, 0)) := fun k hk => own_cells h.o1 hk
  have b2c : ∀ k, v2.ownBlock = some k → ∃ cur, V.heap[k]? = some (.cells cur 23 (0, 0)) := fun k hk => own_cells h.o2 hk
  refine ⟨(hg1.block p1 (lt_of_block h.x1) (fun e => ?_)).trans h.x1, (mid1 hg1 p2 (lt_of_block h.x2) (fun e => type_apart h.x1 h.x2 (by decide) e.symm) (fun e => ?_)).trans h.x2, (mid1 hg1 lb (lt_of_block hlb) (fun e => type_apart h.x1 hlb (by decide) e.symm) (fun e => ?_)).trans hlb, h.o2.of_block (fun k hk => mid1 hg1 k (h.o2.lt hk) (fun e => ?_) (fun e => ?_))⟩
  · obtain ⟨c, hc⟩ := b1c _ e.symm; exact type_apart hc h.x1 (by decide) rfl
  · obtain ⟨c, hc⟩ := b1c _ e; exact type_apart hc h.x2 (by decide) rfl
  · obtain ⟨c, hc⟩ := b1c _ e; exact type_apart hc hlb (by decide) rfl
  · obtain ⟨c, hc⟩ := b2c _ hk; exact type_apart hc h.x1 (by decide) e
  · obtain ⟨c, hc⟩ := b2c _ hk; obtain ⟨c2, hc2⟩ := b1c _ e; exact type_apart hc hc2 (by decide) rfl
/-- behind the last stores. -/
def JZ (T : Array Value) (df : List Deferred) (V : World) (sz : Nat) (v1 v2 : Value) : Exit → Act → World → Prop
  | .normal, a', w' => a' = { tmps := T, defers := df } ∧ Mv (fun k => k = sz ∨ k = sz + 1 ∨ k = sz + 1 + 1) V w' ∧ w'.heap[sz]? = some (.cells #[v1] 22 (0, 0)) ∧ w'.heap[sz + 1]? = some (.cells #[v2] 39 (0, 0)) ∧ w'.heap[sz + 1 + 1]? = some (.cells #[.int .u16 0] 27 (0, 0))
  | _, _, _ => False
theorem jz_end {V : World} {sz : Nat} {u v1 u2 v2 u3 : Value} (h1 : V.heap[sz]? = some (.cells #[u] 22 (0, 0))) (h2 : V.heap[sz + 1]? = some (.cells #[u2] 39 (0, 0))) (h3 : V.heap[sz + 1 + 1]? = some (.cells #[u3] 27 (0, 0))) :
    Mv (fun k => k = sz ∨ k = sz + 1 ∨ k = sz + 1 + 1) V (((V.setCell ⟨sz, 0, none⟩ v1).setCell ⟨sz + 1, 0, none⟩ v2).setCell ⟨sz + 1 + 1, 0, none⟩ (.int .u16 0)).drew ∧ (((V.setCell ⟨sz, 0, none⟩ v1).setCell ⟨sz + 1, 0, none⟩ v2).setCell ⟨sz + 1 + 1, 0, none⟩ (.int .u16 0)).drew.heap[sz]? = some (.cells #[v1] 22 (0, 0)) ∧ (((V.setCell ⟨sz, 0, none⟩ v1).setCell ⟨sz + 1, 0, none⟩ v2).setCell ⟨sz + 1 + 1, 0, none⟩ (.int .u16 0)).drew.heap[sz + 1]? = some (.cells #[v2] 39 (0, 0)) ∧ (((V.setCell ⟨sz, 0, none⟩ v1).setCell ⟨sz + 1, 0, none⟩ v2).setCell ⟨sz + 1 + 1, 0, none⟩ (.int .u16 0)).drew.heap[sz + 1 + 1]? = some (.cells #[.int .u16 0] 27 (0, 0)) := by
  refine ⟨((((Mv.refl _ V).setB (b := sz) (.inl rfl) 0 v1).setB (b := sz + 1) (.inr (.inl rfl)) 0 v2).setB (b := sz + 1 + 1) (.inr (.inr rfl)) 0 _).drew, ?_, ?_, ?_⟩
  · show (((V.setCell ⟨sz, 0, none⟩ v1).setCell ⟨sz + 1, 0, none⟩ v2).setCell ⟨sz + 1 + 1, 0, none⟩ (.int .u16 0)).heap[sz]? = _
    rw [Below.heap_setCell _ _ _ _ (show sz ≠ sz + 1 + 1 by omega), Below.heap_setCell _ _ _ _ (show sz ≠ sz + 1 by omega)]
    exact set_one h1
  · show (((V.setCell ⟨sz, 0, none⟩ v1).setCell ⟨sz + 1, 0, none⟩ v2).setCell ⟨sz + 1 + 1, 0, none⟩ (.int .u16 0)).heap[sz + 1]? = _
    rw [Below.heap_setCell _ _ _ _ (show sz + 1 ≠ sz + 1 + 1 by omega)]
    exact set_one ((Below.heap_setCell _ _ _ _ (show sz + 1 ≠ sz by omega)).trans h2)
  · exact set_one ((Below.heap_setCell _ _ _ _ (show sz + 1 + 1 ≠ sz + 1 by omega)).trans ((Below.heap_setCell _ _ _ _ (show sz + 1 + 1 ≠ sz by omega)).trans h3))
theorem own_len {V : World} {t : Nat} {a : Option Addr} {n c m : Nat} {xs : List Value} (h : V.ownsRow 0 t 1 (.slice a n c) m xs) : n = m := by
  rcases h.2 with ⟨e, h0⟩ | ⟨g, cap, cur, e, _⟩
  · cases e; exact h0.symm
  · cases e; rfl
theorem own_slice {V : World} {t : Nat} {v : Value} {n : Nat} {xs : List Value} (h : V.ownsRow 0 t 1 v n xs) : ∃ a m c, v = .slice a m c := by
  rcases h.2 with ⟨rfl, _⟩ | ⟨g, cap, cur, rfl, _⟩
  · exact ⟨_, _, _, rfl⟩
  · exact ⟨_, _, _, rfl⟩
theorem frz {V : World} {a t : Nat} {x : Array Value} (h : V.heap[a]? = some (.cells x t (0, 0))) (j : Nat) : V.frozen? ⟨a, j, none⟩ = false := by simp [World.frozen?, h]
theorem chx_below {most : Nat} {S0 : DS} {A0 : List Pge} {a0 size i : Nat} {args : Array Value} {V V' : World} {O : Nat → Prop} (h : ChX most S0 A0 a0 size i args V O) (hb : Below V.heap.size V V') : ChX most S0 A0 a0 size i args V' O := by
  obtain ⟨h1, h2⟩ := h
  refine ⟨?_, fun k hk => Nat.lt_of_lt_of_le (h2 k hk) hb.size⟩
  rcases h1 with ⟨ho, g, cap, e, r1, r2, r3, r4, r5⟩ | h1
  · exact .inl ⟨ho, g, cap, e, r1.below hb, r2, r3, Nat.lt_of_lt_of_le r4 hb.size, r5⟩
  · exact .inr h1
theorem chx_keep {most : Nat} {S0 : DS} {A0 : List Pge} {a0 size i x : Nat} {args : Array Value} {V V' : World} {O : Nat → Prop} (h : ChX most S0 A0 a0 size i args V O) (hm : Mv (fun k => k = x) V V') (hl : ∀ j v, V.cell? ⟨x, j, none⟩ ≠ some v) : ChX most S0 A0 a0 size i args V' O := by
  obtain ⟨h1, h2⟩ := h
  refine ⟨?_, fun k hk => Nat.lt_of_lt_of_le (h2 k hk) hm.size⟩
  rcases h1 with ⟨ho, g, cap, e, r1, r2, r3, r4, r5⟩ | h1
  · refine .inl ⟨ho, g, cap, e, ?_, r2, r3, Nat.lt_of_lt_of_le r4 hm.size, r5⟩
    rcases r1 with r1 | ⟨g', o', e', hlt, hc⟩
    · exact .inl r1
    · by_cases hz : (lkk most S0 A0 a0 i).pl.drop 4 = []
      · exact .inl hz
      · refine hm.row (.inr ⟨g', o', e', hlt, hc⟩) (fun eg => ?_)
        have hc0 := hc 0 (by cases hh : (lkk most S0 A0 a0 i).pl.drop 4 with | nil => exact absurd hh hz | cons _ _ => simp)
        cases e'
        rw [eg] at hc0
        exact hl _ _ hc0
  · exact .inr h1
/-- what Read tells. -/
def PrO (w : World) (p d q most : Nat) (T : ChT) (OO : Nat → Prop) (e : Ending) (w' : World) : Prop := ∃ av an cv al am cl OO', e = .returned (.tuple #[.slice av an cv, .slice al am cl, .int .u16 (T.e : Int)]) ∧ Own w' (.slice av an cv) T.v ∧ OwnW w' (.slice al am cl) T.ps ∧ Pl w' p d q T.S most T.A OO' ∧ Go1 OO w OO' w' ∧ ∀ k, ((Value.slice av an cv).ownBlock = some k ∨ (Value.slice al am cl).ownBlock = some k) → w.heap.size ≤ k ∧ ¬ OO' k
theorem er_cells {V : World} {sz : Nat} {u1 u2 u3 : Value} {e : Int} (h1 : V.heap[sz]? = some (.cells #[u1] 22 (0, 0))) (h2 : V.heap[sz + 1]? = some (.cells #[u2] 39 (0, 0))) (h3 : V.heap[sz + 1 + 1]? = some (.cells #[u3] 27 (0, 0))) :
    Mv (fun k => k = sz ∨ k = sz + 1 ∨ k = sz + 1 + 1) V (((V.setCell ⟨sz, 0, none⟩ (.slice none 0 0)).setCell ⟨sz + 1, 0, none⟩ (.slice none 0 0)).setCell ⟨sz + 1 + 1, 0, none⟩ (.int .u16 e)) ∧ (((V.setCell ⟨sz, 0, none⟩ (.slice none 0 0)).setCell ⟨sz + 1, 0, none⟩ (.slice none 0 0)).setCell ⟨sz + 1 + 1, 0, none⟩ (.int .u16 e)).heap[sz]? = some (.cells #[.slice none 0 0] 22 (0, 0)) ∧ (((V.setCell ⟨sz, 0, none⟩ (.slice none 0 0)).setCell ⟨sz + 1, 0, none⟩ (.slice none 0 0)).setCell ⟨sz + 1 + 1, 0, none⟩ (.int .u16 e)).heap[sz + 1]? = some (.cells #[.slice none 0 0] 39 (0, 0)) ∧ (((V.setCell ⟨sz, 0, none⟩ (.slice none 0 0)).setCell ⟨sz + 1, 0, none⟩ (.slice none 0 0)).setCell ⟨sz + 1 + 1, 0, none⟩ (.int .u16 e)).heap[sz + 1 + 1]? = some (.cells #[.int .u16 e] 27 (0, 0)) := by
  refine ⟨((((Mv.refl _ V).setB (b := sz) (.inl rfl) 0 _).setB (b := sz + 1) (.inr (.inl rfl)) 0 _).setB (b := sz + 1 + 1) (.inr (.inr rfl)) 0 _), ?_, ?_, ?_⟩
  · rw [Below.heap_setCell _ _ _ _ (show sz ≠ sz + 1 + 1 by omega), Below.heap_setCell _ _ _ _ (show sz ≠ sz + 1 by omega)]
    exact set_one h1
  · rw [Below.heap_setCell _ _ _ _ (show sz + 1 ≠ sz + 1 + 1 by omega)]
    exact set_one ((Below.heap_setCell _ _ _ _ (show sz + 1 ≠ sz by omega)).trans h2)
  · exact set_one ((Below.heap_setCell _ _ _ _ (show sz + 1 + 1 ≠ sz + 1 by omega)).trans ((Below.heap_setCell _ _ _ _ (show sz + 1 + 1 ≠ sz by omega)).trans h3))
/-- the error is laid down: Read ends. -/
theorem er_step {w : World} {OO : Nat → Prop} {sz D p1 p2 : Nat} {zs : List Int} {ys : List Nat} {v1 v2 : Value} {V : World} {O : Nat → Prop} {er2 : Int} (h : Rf w OO sz D p1 p2 zs ys v1 v2 er V O) (hD : D + 1 < V.heap.size) (hwD : w.heap.size ≤ D) (W : World) (hm : Mv (fun k => k = sz ∨ k = sz + 1 ∨ k = sz + 1 + 1) V W) (h1 : W.heap[sz]? = some (.cells #[.slice none 0 0] 22 (0, 0))) (h2 : W.heap[sz + 1]? = some (.cells #[.slice none 0 0] 39 (0, 0))) (h3 : W.heap[sz + 1 + 1]? = some (.cells #[.int .u16 er2] 27 (0, 0))) :
    Rf w OO sz D p1 p2 zs ys v1 v2 er2 W O ∧ Kl D V W ∧ Mv (fun k => ¬ O k) V W := by
  have nbs := fun k hk => h.nb k hk
  have a1 := nbs sz (.inr (.inr (.inl rfl)))
  have a2 := nbs (sz + 1) (.inr (.inr (.inr (.inl rfl))))
  have a3 := nbs (sz + 1 + 1) (.inr (.inr (.inr (.inr (.inl rfl)))))
  have hne : ∀ (k : Nat) (cs : Array Value) (t : Nat), V.heap[k]? = some (.cells cs t (0, 0)) → t ≠ 22 → t ≠ 39 → t ≠ 27 → W.heap[k]? = V.heap[k]? := fun k cs t hk n1 n2 n3 => hm.block k (lt_of_block hk) (by
    rintro (e | e | e)
    · exact type_apart hk h.r1 n1 e
    · exact type_apart hk h.r2 n2 e
    · exact type_apart hk h.r3 n3 e)
  have b1 : ∀ k, v1.ownBlock = some k → W.heap[k]? = V.heap[k]? := fun k hk => by
    obtain ⟨c, hc⟩ := own_cells h.o1 hk
    exact hne k c 5 hc (by decide) (by decide) (by decide)
  have b2 : ∀ k, v2.ownBlock = some k → W.heap[k]? = V.heap[k]? := fun k hk => by
    obtain ⟨c, hc⟩ := own_cells h.o2 hk
    exact hne k c 23 hc (by decide) (by decide) (by decide)
  have hx := h.ne
  have c1 : W.heap[p1]? = V.heap[p1]? := hm.block p1 (lt_of_block h.x1) (by
    rintro (e | e | e)
    · omega
    · exact type_apart h.x1 h.r2 (by decide) e
    · exact type_apart h.x1 h.r3 (by decide) e)
  have c2 : W.heap[p2]? = V.heap[p2]? := hm.block p2 (lt_of_block h.x2) (by
    rintro (e | e | e)
    · exact type_apart h.x2 h.r1 (by decide) e
    · omega
    · exact type_apart h.x2 h.r3 (by decide) e)
  have hmn : Mv (fun k => ¬ O k) V W := hm.mono fun k hk => by
    rcases hk with rfl | rfl | rfl
    · exact a1.1
    · exact a2.1
    · exact a3.1
  refine ⟨⟨⟨⟨hm.os.trans h.go.mv.os, hm.tape.trans h.go.mv.tape, hm.output.trans h.go.mv.output, Nat.le_trans h.go.mv.size hm.size, fun k hk ho => (hm.block k (Nat.lt_of_lt_of_le hk h.go.mv.size) (by omega)).trans (h.go.mv.block k hk ho)⟩, h.go.own⟩, c1.trans h.x1, c2.trans h.x2, h.o1.of_block b1, h.o2.of_block b2, h1, h2, h3, h.nb, h.ne⟩, ⟨hm.size, hm.block D (by omega) (by omega), hm.block (D + 1) hD (by omega)⟩, hmn⟩
set_option maxHeartbeats 1600000 in
set_option maxRecDepth 1000000 in
theorem pread_big (h : Pl w p d q S most A OO) (hc : S.n1 + 20 ≤ 1000000) (first n : Nat) (hf : first < 4294967296) (hs : n < 4294967296) (hn0 : need n = 0) :
    Calls Tryz.prog 9 #[.pointer (some ⟨p, 0, none⟩), .int .u32 (first : Int), .int .u32 (n : Int)] w fun e w' => PrO w p d q most ⟨[], [], 120, S, A⟩ OO e w' := by
  have HNd : Hid (∀ W, Calls Tryz.prog 18 #[.int .i64 (n : Int)] W fun e w' => e = .returned (.int .i64 0) ∧ w' = W) := fun W => by
    have := need_any W n (by omega)
    rw [hn0] at this
    exact this
  have H := hide h
  clear h hn0
  refine (callsIn_wide (n := 9)).1 ?_
  refine callsIn_of_wp_marks Tryz.func9 rfl trivial ?_ rfl
  simp only [Tryz.ntmps9, List.size_toArray, List.length_cons, List.length_nil, Nat.reduceAdd, Nat.reduceSub, Array.replicate_succ, Array.replicate_zero, List.push_toArray, List.append_toArray, List.nil_append, List.cons_append]
  have hw6 : wrap64 (n : Int) = (n : Int) := by unfold wrap64; omega
  gi_wp2_with fail
  refine (callsIn_wide.2 (HNd.out _)).mono ?_
  rintro e w5 ⟨rfl, rfl⟩
  have e1 := heap_alloc_new w (.cells #[.slice none 0 0] 22)
  have e2 := heap_alloc_new (w.alloc (.cells #[.slice none 0 0] 22)) (.cells #[.slice none 0 0] 39)
  have e3 := heap_alloc_new ((w.alloc (.cells #[.slice none 0 0] 22)).alloc (.cells #[.slice none 0 0] 39)) (.cells #[.int .u16 120] 27)
  simp only [World.size_alloc] at e2 e3
  have k1 := cell_of_one ((Below.heap_alloc _ _ _ (by simp; omega)).trans ((Below.heap_alloc _ _ _ (by simp)).trans e1) : ((((w.alloc (.cells #[.slice none 0 0] 22)).alloc (.cells #[.slice none 0 0] 39)).alloc (.cells #[.int .u16 120] 27)).heap[w.heap.size]? = _))
  have k2 := cell_of_one ((Below.heap_alloc _ _ _ (by simp)).trans e2 : ((((w.alloc (.cells #[.slice none 0 0] 22)).alloc (.cells #[.slice none 0 0] 39)).alloc (.cells #[.int .u16 120] 27)).heap[w.heap.size + 1]? = _))
  have k3 := cell_of_one e3
  have hb : Below w.heap.size w (((w.alloc (.cells #[.slice none 0 0] 22)).alloc (.cells #[.slice none 0 0] 39)).alloc (.cells #[.int .u16 120] 27)) := (((Below.refl w.heap.size w).alloc (Nat.le_refl _) _).alloc (by simp) _).alloc (by simp; omega) _
  have HB := hide hb
  clear e1 e2 e3 hb
  gi_wp2
  refine ⟨.tuple #[.slice none 0 0, .slice none 0 0, .int .u16 120], ?_, none, 0, 0, none, 0, 0, OO, rfl, Own.nil _, OwnW.nil _, H.out.below HB.out, Go1.of_below HB.out, ?_⟩
  · simp [results, Tryz.results9, go_sem, k1, k2, k3]
  · rintro k (hk | hk) <;> simp [Value.ownBlock] at hk
set_option maxHeartbeats 1600000 in
set_option maxRecDepth 1000000 in
theorem pread_chain (h : Pl w p d q S most A OO) (hc : S.n1 + 20 ≤ 1000000) (y0 n m r : Nat) (hf : y0 < 4294967296) (hn : 65 ≤ n ∧ n ≤ 8192) (hm : m = (n + 1003) / 1004) (hr : Rds most S A y0 n m r) (T : ChT) (hT : chn most n m m S A y0 [] [] = T) :
    Calls Tryz.prog 9 #[.pointer (some ⟨p, 0, none⟩), .int .u32 (y0 : Int), .int .u32 (n : Int)] w fun e w' => PrO w p d q most T OO e w' := by
  have HNd : Hid (∀ W, Calls Tryz.prog 18 #[.int .i64 (n : Int)] W fun e w' => e = .returned (.int .i64 (m : Int)) ∧ w' = W) := fun W => by
    have e : need n = m := by unfold need; rw [if_neg (by omega)]; exact hm.symm
    rw [← e]; exact need_any W n (by omega)
  have HN := hide hn
  have HMm := hide hm
  have H := hide h
  have HRd := hide hr
  have HCn := hide hc
  have HF := hide hf
  have HNM : Hid (1004 * (m - 1) + 1 ≤ n ∧ n ≤ 1004 * m) := by rw [Hid]; omega
  have HTT : Hid ((okk most S A y0 n (r - 1) = true → T = ⟨vk most S A y0 r, pk most S A y0 r, 0, (trk most S A y0 r).S, (trk most S A y0 r).A⟩) ∧ (okk most S A y0 n (r - 1) = false → T = ⟨[], [], lkEr (lkk most S A y0 (r - 1)), (trk most S A y0 r).S, (trk most S A y0 r).A⟩)) := by
    rw [hr.chn HNM.out] at hT
    exact ⟨fun hb => by rw [if_pos hb] at hT; exact hT.symm, fun hb => by rw [if_neg (by rw [hb]; simp)] at hT; exact hT.symm⟩
  have hm0 : ((m : Int) == 0) = false := by simp; omega
  have hm9 : 1 ≤ m ∧ m ≤ 9 := by omega
  clear hn hm h hr hT hc hf
  refine (callsIn_wide (n := 9)).1 ?_
  refine callsIn_of_wp_marks Tryz.func9 rfl trivial ?_ rfl
  simp only [Tryz.ntmps9, List.size_toArray, List.length_cons, List.length_nil, Nat.reduceAdd, Nat.reduceSub, Array.replicate_succ, Array.replicate_zero, List.push_toArray, List.append_toArray, List.nil_append, List.cons_append]
  have hw6 : wrap64 (n : Int) = (n : Int) := by unfold wrap64; have := HN.out; omega
  gi_wp2_with fail
  rw [hw6]
  refine (callsIn_wide.2 (HNd.out _)).mono ?_
  rintro e w5 ⟨rfl, rfl⟩
  have hmk1 := makeB n (by have := HN.out; omega)
  have hmk2 := makeW m (by omega)
  gi_wp2_with fail
  generalize hW3 : ((w.alloc (.cells #[.slice none 0 0] 22)).alloc (.cells #[.slice none 0 0] 39)).alloc (.cells #[.int .u16 0] 27) = W3 at *
  refine wpIn_wide.2 ?_
  have hn1 : n ≤ 1000000 := by have := HN.out; omega
  have hm1 : m ≤ 1000000 := by omega
  refine wp_mono (Q := JP W3 p y0 n m w.heap.size) ?_ ?_
  · go_region_with (fail)
    all_goals (refine ⟨_, _, _, _, rfl, jr_mk hn1 hm1 (four_at _ _ _ _ _).1 ?_ ?_ ?_ ?_ ⟨by omega, by omega, by omega, by omega⟩⟩ <;> first | exact (four_at _ _ _ _ _).2.1 | exact (four_at _ _ _ _ _).2.2.1 | exact (four_at _ _ _ _ _).2.2.2.1 | exact (four_at _ _ _ _ _).2.2.2.2)
  · rintro e a5 W4 hJ
    cases e with
    | normal =>
      obtain ⟨b1, b2, p1, p2, rfl, hJ⟩ := hJ
      have HJ := hide hJ
      clear hmk1 hmk2 hJ
      -- GOES
      have hsz3 : W3.heap.size = w.heap.size + 3 := by rw [← hW3]; simp
      have hX3 : W3.heap[w.heap.size]? = some (.cells #[.slice none 0 0] 22 (0, 0)) ∧ W3.heap[w.heap.size + 1]? = some (.cells #[.slice none 0 0] 39 (0, 0)) ∧ W3.heap[w.heap.size + 1 + 1]? = some (.cells #[.int .u16 0] 27 (0, 0)) ∧ Below w.heap.size w W3 := by
        rw [← hW3]
        have e1 := heap_alloc_new w (.cells #[.slice none 0 0] 22)
        have e2 := heap_alloc_new (w.alloc (.cells #[.slice none 0 0] 22)) (.cells #[.slice none 0 0] 39)
        have e3 := heap_alloc_new ((w.alloc (.cells #[.slice none 0 0] 22)).alloc (.cells #[.slice none 0 0] 39)) (.cells #[.int .u16 0] 27)
        simp only [World.size_alloc] at e2 e3
        exact ⟨(Below.heap_alloc _ _ _ (by simp; omega)).trans ((Below.heap_alloc _ _ _ (by simp)).trans e1), (Below.heap_alloc _ _ _ (by simp)).trans e2, e3, (((Below.refl w.heap.size w).alloc (Nat.le_refl _) _).alloc (by simp) _).alloc (by simp; omega) _⟩
      have HX3 := hide hX3
      have hs4 : w.heap.size + 3 ≤ W4.heap.size := by have := HJ.out.bel.size; omega
      have HOw : Hid (∀ k, OO k → k < w.heap.size) := fun k hk => H.out.lt k hk
      clear hW3 hX3
      gi_wp2_with (gi_at_call 23; refine (callsIn_wide.2 (chain_any p (y0 : Int) (n : Int) W4)).mono ?_; rintro e w5 ⟨rfl, rfl⟩)
      generalize hW5 : ((W4.alloc (.cells #[.pointer (some ⟨p, 0, none⟩)] 33)).alloc (.cells #[.int .u32 (y0 : Int)] 23)).alloc (.cells #[.int .i64 (n : Int)] 3) = W5 at *
      have hs5 : W5.heap.size = W4.heap.size + 3 := by rw [← hW5]; simp
      have hX5 : Cx W4.heap.size p (y0 : Int) (n : Int) W5 ∧ Below W4.heap.size W4 W5 := by
        rw [← hW5]
        have e1 := heap_alloc_new W4 (.cells #[.pointer (some ⟨p, 0, none⟩)] 33)
        have e2 := heap_alloc_new (W4.alloc (.cells #[.pointer (some ⟨p, 0, none⟩)] 33)) (.cells #[.int .u32 (y0 : Int)] 23)
        have e3 := heap_alloc_new ((W4.alloc (.cells #[.pointer (some ⟨p, 0, none⟩)] 33)).alloc (.cells #[.int .u32 (y0 : Int)] 23)) (.cells #[.int .i64 (n : Int)] 3)
        simp only [World.size_alloc] at e2 e3
        exact ⟨⟨(Below.heap_alloc _ _ _ (by simp; omega)).trans ((Below.heap_alloc _ _ _ (by simp)).trans e1), (Below.heap_alloc _ _ _ (by simp)).trans e2, e3⟩, (((Below.refl W4.heap.size W4).alloc (Nat.le_refl _) _).alloc (by simp) _).alloc (by simp; omega) _⟩
      clear hW5
      obtain ⟨hcx, hb45⟩ := hX5
      have hb35 : Below W3.heap.size W3 W5 := HJ.out.bel.trans (hb45.mono HJ.out.bel.size)
      have hbw5 : Below w.heap.size w W5 := HX3.out.2.2.2.trans (hb35.mono (by omega))
      have HR0 : Hid (Rf w OO w.heap.size W5.heap.size p1 p2 (vk most S A y0 0) (pk most S A y0 0) (.slice (some ⟨b1, 0, none⟩) 0 n) (.slice (some ⟨b2, 0, none⟩) 0 m) 0 W5 (fun k => OO k ∨ Bxs W4.heap.size k)) := by
        have hx1 := (hb45.block _ (lt_of_block HJ.out.x1)).trans HJ.out.x1
        have hx2 := (hb45.block _ (lt_of_block HJ.out.x2)).trans HJ.out.x2
        have ho1 := HJ.out.o1.below hb45
        have ho2 : OwnW W5 (.slice (some ⟨b2, 0, none⟩) 0 m) [] := HJ.out.o2.of_block (fun k hk => hb45.block k (HJ.out.o2.lt hk))
        obtain ⟨l1, l2, l3, l4⟩ := HJ.out.lo
        have t1 : b1 < W4.heap.size := HJ.out.o1.lt (k := b1) rfl
        have t2 : b2 < W4.heap.size := HJ.out.o2.lt (k := b2) rfl
        have t3 := lt_of_block HJ.out.x1
        have t4 := lt_of_block HJ.out.x2
        refine ⟨⟨⟨hbw5.os, hbw5.tape, hbw5.output, hbw5.size, fun k hk _ => hbw5.block k hk⟩, fun k hk => ?_⟩, hx1, hx2, ho1, ho2, (hb35.block _ (by omega)).trans HX3.out.1, (hb35.block _ (by omega)).trans HX3.out.2.1, (hb35.block _ (by omega)).trans HX3.out.2.2.1, fun k hk => ?_, by omega, by omega⟩
        · rcases hk with hk | hk
          · exact .inl hk
          · have hk' : k = W4.heap.size ∨ k = W4.heap.size + 1 ∨ k = W4.heap.size + 2 := hk
            exact .inr (by omega)
        · have hkk : w.heap.size ≤ k ∧ k < W4.heap.size := by
            rcases hk with rfl | rfl | rfl | rfl | rfl | hk | hk
            · omega
            · omega
            · omega
            · omega
            · omega
            · simp only [Value.ownBlock, Option.some.injEq] at hk; omega
            · simp only [Value.ownBlock, Option.some.injEq] at hk; omega
          refine ⟨fun ho => ?_, hkk.1, by omega, by omega⟩
          rcases ho with ho | ho
          · have := HOw.out k ho; omega
          · have hk' : k = W4.heap.size ∨ k = W4.heap.size + 1 ∨ k = W4.heap.size + 2 := ho
            omega
      have HS0 : Hid (ChSt W4.heap.size p d q most S A y0 n 0 W5 (fun k => OO k ∨ Bxs W4.heap.size k)) := by
        refine ⟨OO, fun k hk => .inl hk, fun k hk => ⟨.inr hk, fun ho => ?_⟩, H.out.below hbw5, hcx⟩
        have hk' : k = W4.heap.size ∨ k = W4.heap.size + 1 ∨ k = W4.heap.size + 2 := hk
        have := HOw.out k ho
        omega
      have hD : w.heap.size ≤ W5.heap.size := hbw5.size
      clear hcx hb45 hb35 hbw5 HJ HX3 hsz3 W3
      obtain ⟨S4, hS4⟩ : ∃ S4, S4 = W4.heap.size := ⟨_, rfl⟩
      rw [← hS4] at HR0 HS0 ⊢
      have HOD : Hid (¬ (fun k => OO k ∨ Bxs S4 k) W5.heap.size ∧ ¬ (fun k => OO k ∨ Bxs S4 k) (W5.heap.size + 1)) := by
        refine ⟨?_, ?_⟩ <;> rintro (ho | ho)
        · have := HOw.out _ ho; omega
        · have hk' : W5.heap.size = S4 ∨ W5.heap.size = S4 + 1 ∨ W5.heap.size = S4 + 2 := ho
          omega
        · have := HOw.out _ ho; omega
        · have hk' : W5.heap.size + 1 = S4 ∨ W5.heap.size + 1 = S4 + 1 ∨ W5.heap.size + 1 = S4 + 2 := ho
          omega
      clear hs5 hs4 hS4 W4
      refine range_genQ (gf := 55) (lb := #[.pointer (some ⟨S4 + 1, 0, none⟩), .pointer (some ⟨S4 + 2, 0, none⟩), .pointer (some ⟨S4, 0, none⟩)]) (n := r) (St := ChSt S4 p d q most S A y0 n) (X := ChX most S A y0 n) rfl (enters_of Tryz.func55 (by kernel_rfl) rfl)
        (chain1_goes S4 p d q most m n r y0 S A HNM.out HN.out.2 HRd.out HCn.out HF.out (fun i V OO h => pl_rdo h _)) (fun i args V O hx => by rcases hx.1 with ⟨_, g, cap, e, _⟩ | ⟨_, e⟩ <;> rw [e] <;> rfl) (fun i V O V' h hm => h.keep hm)
        (fun i V O => (okk most S A y0 n (r - 1) = false → i < r) ∧ ∃ v1 v2, Rf w OO w.heap.size W5.heap.size p1 p2 (vk most S A y0 i) (pk most S A y0 i) v1 v2 0 V O) (fun i9 c V O => i9 = r ∧ c = .ret ∧ okk most S A y0 n (r - 1) = false ∧ ∃ v1 v2 zs ys, Rf w OO w.heap.size W5.heap.size p1 p2 zs ys v1 v2 (lkEr (lkk most S A y0 (r - 1)) : Int) V O)
        (fun i V O V' O' ⟨hi, v1, v2, h⟩ hg _ _ => ⟨hi, v1, v2, h.gen hg⟩) (fun i V O V' ⟨hi, v1, v2, h⟩ hm => ⟨hi, v1, v2, h.loop hD hm⟩) (fun i9 c V O V' O' ⟨h9, hc, hb, v1, v2, zs, ys, h⟩ hg => ⟨h9, hc, hb, v1, v2, zs, ys, h.gen hg⟩) (fun i9 c V O V' ⟨h9, hc, hb, v1, v2, zs, ys, h⟩ hm => ⟨h9, hc, hb, v1, v2, zs, ys, h.loop hD hm⟩)
        (fun hb V O hI => absurd (hI.1 hb) (Nat.lt_irrefl _))
        (fun k => OO k ∨ Bxs S4 k) HOD.out ⟨fun _ => HRd.out.le.1, _, _, HR0.out⟩ HS0.out
        (fun i a' V O => ∃ z0 z1 a9 l9 c9 er lb v1 v2, a' = { tmps := #[.pointer (some ⟨p, 0, none⟩), .int .u32 (y0 : Int), .int .u32 (n : Int), undef, undef, undef, .pointer (some ⟨w.heap.size, 0, none⟩), .pointer (some ⟨w.heap.size + 1, 0, none⟩), .pointer (some ⟨w.heap.size + 1 + 1, 0, none⟩), .int .i64 (m : Int), .pointer (some ⟨p1, 0, none⟩), .pointer (some ⟨p2, 0, none⟩), .pointer (some ⟨lb, 0, none⟩), .int .u16 er, .int .u32 (n : Int), .int .i64 (n : Int), .int .i64 (m : Int), .int .i64 (m : Int), .bool false, .int .u32 (n : Int), .slice (some ⟨b1, 0, none⟩) 0 n, .int .i64 (m : Int), .slice (some ⟨b2, 0, none⟩) 0 m, .pointer (some ⟨p, 0, none⟩), .int .u32 (y0 : Int), .int .u32 (n : Int), .int .i64 (n : Int), .func (.func 55) #[] #[.pointer (some ⟨S4 + 1, 0, none⟩), .pointer (some ⟨S4 + 2, 0, none⟩), .pointer (some ⟨S4, 0, none⟩)], .agg #[.int .u32 z0, .int .u32 z1, .slice a9 l9 c9], .int .u16 er, undef, undef, undef, undef, undef, undef, undef, undef, undef, undef, undef, undef, undef, undef], defers := [] } ∧ V.heap[lb]? = some (.cells #[.int .u32 z0, .int .u32 z1, .slice a9 l9 c9] 114 (0, 0)) ∧ ChX most S A y0 n i #[.agg #[.int .u32 z0, .int .u32 z1, .slice a9 l9 c9], .int .u16 er] V O ∧ (okk most S A y0 n (r - 1) = false → i < r) ∧ Rf w OO w.heap.size W5.heap.size p1 p2 (vk most S A y0 i) (pk most S A y0 i) v1 v2 0 V O) ?hAx ?assign ?body ?done ?stop
      case hAx =>
        rintro i a' V O r9 ob ⟨z0, z1, a9, l9, c9, er, lb, v1, v2, rfl, h1, h2, hi, h5⟩ hl hno
        have hm : Mv (fun k => k = W5.heap.size + 1) V (V.putObj (W5.heap.size + 1) ob) := ⟨rfl, rfl, rfl, by simp [World.putObj], fun k _ hk => World.putObj_heap_other hk⟩
        exact ⟨z0, z1, a9, l9, c9, er, lb, v1, v2, rfl, (hm.block lb (lt_of_block h1) (fun e => by rw [e, hl] at h1; cases h1)).trans h1, chx_keep h2 hm (fun j v hx => by simp [World.cell?, hl] at hx), hi, h5.loop hD (hm.mono fun k hk => .inr hk)⟩
      case assign =>
        rintro l i args V O K hlt ⟨hi, v1, v2, hR⟩ hX hK
        obtain ⟨z0, z1, a9, l9, c9, er, hargs⟩ : ∃ z0 z1 a9 l9 c9 er, args = #[.agg #[.int .u32 z0, .int .u32 z1, .slice a9 l9 c9], .int .u16 er] := by
          rcases hX.1 with ⟨_, g, cap, e, _⟩ | ⟨_, e⟩ <;> exact ⟨_, _, _, _, _, _, e⟩
        subst hargs
        have hb := below_alloc V (.cells #[.int .u32 z0, .int .u32 z1, .slice a9 l9 c9] 114)
        have HK := hide (hK _ _ (Kl.of_mv (O := fun _ => False) (Mv.of_below hb) hlt (fun h => h) (fun h => h)) (Mv.of_below hb) ⟨z0, z1, a9, l9, c9, er, V.heap.size, v1, v2, rfl, heap_alloc_new V _, chx_below hX hb, hi, hR.gen (Go1.of_below hb)⟩)
        clear hK hb hX hR hi
        gi_wp2
        exact HK.out
      case body =>
        rintro l i a' V O him hlt ⟨z0, z1, a9, l9, c9, er, lb, v1, v2, rfl, h1, h2, hi, h5⟩ hO
        obtain ⟨h2, h4⟩ := h2
        rcases h2 with ⟨hok, g, cap, he, hrow, hcl, hcm, hgl, hgo⟩ | ⟨hok, he⟩
        · simp only [Array.mk.injEq, List.cons.injEq, Value.agg.injEq, Value.int.injEq, and_true, true_and] at he
          simp only [Value.slice.injEq] at he
          obtain ⟨⟨rfl, rfl, rfl, rfl, rfl⟩, rfl⟩ := he
          have HU1 := hide (show Tryz.prog.underlying 22 = some (.slice 5) by kernel_rfl)
          have HU2 := hide (show Tryz.prog.underlying 39 = some (.slice 23) by kernel_rfl)
          obtain ⟨i0, hi0, hz0, hz1, hz2⟩ := info_parts infoU8
          obtain ⟨j0, ki, kz0, kz1, kz2⟩ := info_parts infoU32
          have hall : ∀ k, k < i → okk most S A y0 n k = true := fun k hk => HRd.out.ok k (by omega)
          have hle := HRd.out.le
          have hnm := HNM.out
          obtain ⟨hlv, hlp⟩ := vk_len (most := most) (S := S) (A := A) (a := y0) (size := n) (r := i) (by omega) hall
          have HS1 := hide (src_row V (some ⟨g, 4, none⟩) ((lkk most S A y0 i).pl.drop 4).length c9 ((lkk most S A y0 i).pl.drop 4) rfl (by intro e; cases e) hrow)
          have hlc : ((lkk most S A y0 i).pl.drop 4).length ≤ 1004 := by
            have h1 := hok
            unfold okk lkOk at h1
            simp only [Bool.and_eq_true, decide_eq_true_eq] at h1
            have := h1.2.1.2
            rw [List.length_drop]; omega
          have HO1 : Hid (V.ownsRow 0 5 1 v1 ((vk most S A y0 i).map (Value.int .u8)).length ((vk most S A y0 i).map (Value.int .u8))) := by rw [Hid, List.length_map]; exact h5.o1
          have HB1 : Hid ((((vk most S A y0 i).map (Value.int .u8)).length + ((lkk most S A y0 i).pl.drop 4).length) * i0.bytes ≤ 140737488355328) := by rw [Hid, hz2, List.length_map]; omega
          have HB2 : Hid (((vk most S A y0 i).map (Value.int .u8)).length + ((lkk most S A y0 i).pl.drop 4).length ≤ 140737488355328) := by rw [Hid, List.length_map]; omega
          have HB3 : Hid ((((pk most S A y0 i).map fun (z : Nat) => Value.int .u32 (z : Int)).length + 1) * j0.bytes ≤ 140737488355328) := by rw [Hid, kz2, List.length_map]; omega
          have HB4 : Hid (((pk most S A y0 i).map fun (z : Nat) => Value.int .u32 (z : Int)).length + 1 ≤ 140737488355328) := by rw [Hid, List.length_map]; omega
          have HI1 : Hid (okk most S A y0 n (r - 1) = false → i + 1 < r) := fun hb => by
            have h1 := hi hb
            by_cases h2 : i + 1 < r
            · exact h2
            · have : i = r - 1 := by omega
              rw [this] at hok; rw [hok] at hb; cases hb
          obtain ⟨e0, e1, e2, -⟩ := cells_3 h1
          have c1 := cell_of_one h5.x1
          have HLb := hide h1
          have HRf := hide h5
          have HOV := hide h4
          have HMid : Hid (∀ w1 v', V.grownBy w1 v1.ownBlock → w1.heap[p1]? = some (.cells #[v1] 22 (0, 0)) ∧ (w1.setCell ⟨p1, 0, none⟩ v').heap[p2]? = some (.cells #[v2] 39 (0, 0)) ∧ (w1.setCell ⟨p1, 0, none⟩ v').heap[lb]? = some (.cells #[.int .u32 ((trk most S A y0 i).a : Int), .int .u32 ((trk most S A y0 (i + 1)).a : Int), .slice (some ⟨g, 4, none⟩) ((lkk most S A y0 i).pl.drop 4).length c9] 114 (0, 0)) ∧ OwnW (w1.setCell ⟨p1, 0, none⟩ v') v2 (pk most S A y0 i)) := fun w1 v' hg => rf_mid h5 hg h1
          have HVs := hide (show vk most S A y0 (i + 1) = vk most S A y0 i ++ (lkk most S A y0 i).pl.drop 4 from rfl)
          have HPs := hide (show pk most S A y0 (i + 1) = pk most S A y0 i ++ [(trk most S A y0 i).a] from rfl)
          clear h1 h4 h5 hlc hlv hlp hall hle hnm hok hrow hi
          generalize vk most S A y0 (i + 1) = Z1 at *
          generalize pk most S A y0 (i + 1) = Y1 at *
          generalize vk most S A y0 i = Z at *
          generalize pk most S A y0 i = Y at *
          generalize (lkk most S A y0 i).pl.drop 4 = pt at *
          generalize (trk most S A y0 i).a = y at *
          generalize (trk most S A y0 (i + 1)).a = y' at *
          generalize pt.length = cl at *
          have M1 := hide trivial
          gi_wp2_with (first | (gi_at_builtin; have hmk := M1; clear hmk M1; refine wpListIn_append_one (by rfl) _ _ 22 22 5 (by rfl) i0 (.int .u8 0) HU1.out hi0 hz0 hz1 rfl v1 _ (by rfl) HO1.out _ cl _ (by rfl) HS1.out HB1.out HB2.out ?_; intro u1 w1 g1 g2 g3; obtain ⟨xa, xn, xc, rfl⟩ := own_slice g1; have G1 := hide g1; have G2 := hide g2; have G3 := hide g3; clear e0 e1 e2 c1; obtain ⟨q1, q2, q3, q4⟩ := HMid.out w1 (.slice xa xn xc) g2; have c1 := cell_of_one q1; have f1 := frz q1 0; have c2 := cell_of_one q2; obtain ⟨e0, e1, e2, -⟩ := cells_3 q3; have HQ2 := hide q2; have HQ4 := hide q4; clear g1 g2 g3 q1 q2 q3 q4; have M2 := hide trivial) | (gi_at_builtin; have hmk := M2; clear hmk M2; have hs2 := Bo.src_laid (P := Tryz.prog) (w1.setCell ⟨p1, 0, none⟩ (.slice xa xn xc)) (.int .u32 (y : Int)) HU2.out rfl; rw [size_setCell] at hs2; have HS2 := hide hs2; clear hs2; have HO2 : Hid (((w1.setCell ⟨p1, 0, none⟩ (.slice xa xn xc)).alloc (.cells #[.int .u32 (y : Int)] 23)).ownsRow 0 23 1 v2 (Y.map fun (z : Nat) => Value.int .u32 (z : Int)).length (Y.map fun (z : Nat) => Value.int .u32 (z : Int))) := by { rw [Hid, List.length_map]; exact HQ4.out.of_block (fun k hk => Below.heap_alloc _ _ k (HQ4.out.lt hk)) }; refine wpListIn_append_one (by rfl) _ _ 39 39 23 (by rfl) j0 (.int .u32 0) HU2.out ki kz0 kz1 rfl v2 _ (by rfl) HO2.out _ 1 _ (by rfl) HS2.out HB3.out HB4.out ?_; intro u2 w2 g1 g2 g3; obtain ⟨ya, yn, yc, rfl⟩ := own_slice g1; have K1 := hide g1; have K2 := hide g2; have K3 := hide g3; have hp2 : w2.heap[p2]? = some (.cells #[v2] 39 (0, 0)) := (g2.block p2 (by rw [World.size_alloc]; have := lt_of_block HQ2.out; omega) (fun e => by { obtain ⟨cc, hcc⟩ := own_cells HQ4.out e.symm; exact type_apart hcc HQ2.out (by decide) rfl })).trans ((Below.heap_alloc _ _ p2 (lt_of_block HQ2.out)).trans HQ2.out); clear c2 e0 e1 e2 c1 f1; have c2 := cell_of_one hp2; have f2 := frz hp2 0; clear g1 g2 g3 hp2))
          have ho1 : Own w1 (.slice xa xn xc) (Z ++ pt) := by
            have hh := G1.out
            rw [← List.map_append, List.length_map] at hh
            exact hh
          have ho2 : OwnW w2 (.slice ya yn yc) (Y ++ [y]) := by
            have hh := K1.out
            rw [show (Y.map fun (z : Nat) => Value.int .u32 (z : Int)) ++ [Value.int .u32 (y : Int)] = (Y ++ [y]).map (fun (z : Nat) => Value.int .u32 (z : Int)) by simp, List.length_map] at hh
            exact hh
          obtain ⟨r1, r2, r3⟩ := rf_step HRf.out hlt hD hO ho1 G2.out G3.out ho2 K2.out K3.out HOV.out
          exact ⟨⟨HI1.out, _, _, by rw [HVs.out, HPs.out]; exact r1⟩, r2, r3⟩
        · simp only [Array.mk.injEq, List.cons.injEq, Value.agg.injEq, Value.int.injEq, and_true, true_and] at he
          simp only [Value.slice.injEq] at he
          obtain ⟨⟨rfl, rfl, rfl, rfl, rfl⟩, rfl⟩ := he
          have HE0 : Hid (lkEr (lkk most S A y0 i) ≠ 0) := by rw [Hid]; unfold lkEr; split <;> omega
          have hir : r - 1 = i := by
            have h1 := hok
            by_cases h2 : i + 1 < r
            · have := HRd.out.ok i h2
              rw [h1] at this; cases this
            · omega
          have HIr := hide hir
          have HOk := hide hok
          have HRf := hide h5
          have HOV := hide h4
          obtain ⟨e0, e1, e2, -⟩ := cells_3 h1
          obtain ⟨ee, HEe⟩ : ∃ ee, Hid (ee = lkEr (lkk most S A y0 i)) := ⟨_, rfl⟩
          rw [← HEe.out] at HE0 ⊢
          have e9 : ((ee : Int) != 0) = true := by have := HE0.out; simp; omega
          have c3 := cell_of_one h5.r1
          have c4 := cell_of_one h5.r2
          have c5 := cell_of_one h5.r3
          have f3 := frz h5.r1 0
          have f4 := frz h5.r2 0
          have f5 := frz h5.r3 0
          clear h1 h4 h5 hok hir hi
          gi_wp2
          obtain ⟨m1, m2, m3, m4⟩ := er_cells (e := (ee : Int)) HRf.out.r1 HRf.out.r2 HRf.out.r3
          obtain ⟨r1, r2, r3⟩ := er_step HRf.out hlt hD _ m1 m2 m3 m4
          refine ⟨⟨by have := HIr.out; have := HRd.out.le; omega, rfl, by rw [HIr.out]; exact HOk.out, v1, v2, vk most S A y0 i, pk most S A y0 i, ?_⟩, r2, r3⟩
          rw [HIr.out, ← HEe.out]
          exact r1
      case done =>
        rintro D V O hDe ⟨hi, v1, v2, hR⟩ hSt hdef hOD9
        have HOD9 := hide hOD9
        have hbd : okk most S A y0 n (r - 1) = true := by
          cases hb : okk most S A y0 n (r - 1) with
          | true => rfl
          | false => exact absurd (hi hb) (Nat.lt_irrefl _)
        have hT := HTT.out.1 hbd
        obtain ⟨OF, g1, g2, g3, -⟩ := hSt
        have G1 := hide g1
        have G3 := hide g3
        have HT := hide hT
        clear hT hbd hi g1 g2 g3
        obtain ⟨xa, xn, xc, rfl⟩ := own_slice hR.o1
        obtain ⟨ya, yn, yc, rfl⟩ := own_slice hR.o2
        have c1 := cell_of_one hR.x1
        have c2 := cell_of_one hR.x2
        have c3 := cell_of_one hR.r1
        have c4 := cell_of_one hR.r2
        have c5 := cell_of_one hR.r3
        have f3 := frz hR.r1 0
        have f4 := frz hR.r2 0
        have f5 := frz hR.r3 0
        have hRn := hR.ne
        have n1 : p1 ≠ w.heap.size := by omega
        have n2 : p1 ≠ w.heap.size + 1 := type_apart hR.x1 hR.r2 (by decide)
        have n3 : p1 ≠ w.heap.size + 1 + 1 := type_apart hR.x1 hR.r3 (by decide)
        have n4 : p2 ≠ w.heap.size := type_apart hR.x2 hR.r1 (by decide)
        have n5 : p2 ≠ w.heap.size + 1 := by omega
        have n6 : p2 ≠ w.heap.size + 1 + 1 := type_apart hR.x2 hR.r3 (by decide)
        have HR := hide hR
        have HDf := hide hdef
        have HDe := hide hDe
        clear hR hdef hRn hDe
        gi_wp2
        refine wpIn_wide.2 ?_
        refine wp_mono (Q := JZ #[.pointer (some ⟨p, 0, none⟩), .int .u32 (y0 : Int), .int .u32 (n : Int), undef, undef, undef, .pointer (some ⟨w.heap.size, 0, none⟩), .pointer (some ⟨w.heap.size + 1, 0, none⟩), .pointer (some ⟨w.heap.size + 1 + 1, 0, none⟩), .int .i64 (m : Int), .pointer (some ⟨p1, 0, none⟩), .pointer (some ⟨p2, 0, none⟩), undef, undef, .int .u32 (n : Int), .int .i64 (n : Int), .int .i64 (m : Int), .int .i64 (m : Int), .bool false, .int .u32 (n : Int), .slice (some ⟨b1, 0, none⟩) 0 n, .int .i64 (m : Int), .slice (some ⟨b2, 0, none⟩) 0 m, .pointer (some ⟨p, 0, none⟩), .int .u32 (y0 : Int), .int .u32 (n : Int), .int .i64 (n : Int), .func (.func 55) #[] #[.pointer (some ⟨S4 + 1, 0, none⟩), .pointer (some ⟨S4 + 2, 0, none⟩), .pointer (some ⟨S4, 0, none⟩)], undef, undef, undef, undef, undef, undef, undef, undef, undef, undef, undef, undef, undef, undef, .slice xa xn xc, .slice ya yn yc] [{ target := .collected D, args := #[] }] V w.heap.size (.slice xa xn xc) (.slice ya yn yc)) ?_ ?_
        · go_region_with (fail)
          all_goals exact ⟨rfl, jz_end HR.out.r1 HR.out.r2 HR.out.r3⟩
        · rintro e a6 W6 hJ
          cases e with
          | normal =>
            obtain ⟨rfl, hm, z1, z2, z3⟩ := hJ
            have nbs := fun k hk => (HR.out.nb k hk)
            have hDn : D ≠ w.heap.size ∧ D ≠ w.heap.size + 1 ∧ D ≠ w.heap.size + 1 + 1 := by
              have a1 := (nbs _ (.inr (.inr (.inl rfl)))).2.2.1
              have a2 := (nbs _ (.inr (.inr (.inr (.inl rfl))))).2.2.1
              have a3 := (nbs _ (.inr (.inr (.inr (.inr (.inl rfl)))))).2.2.1
              have := HDe.out
              omega
            have hd6 : W6.heap[D]? = some (.deferred (some [])) := (hm.block D (lt_of_block HDf.out) (by omega)).trans HDf.out
            have hp : Mv (fun k => k = D) W6 (W6.putObj D (.deferred none)) := ⟨rfl, rfl, rfl, by simp [World.putObj], fun k _ hk => World.putObj_heap_other hk⟩
            have y1 := (hp.block _ (lt_of_block z1) (by omega)).trans z1
            have y2 := (hp.block _ (lt_of_block z2) (by omega)).trans z2
            have y3 := (hp.block _ (lt_of_block z3) (by omega)).trans z3
            have t1 := cell_of_one y1
            have t2 := cell_of_one y2
            have t3 := cell_of_one y3
            have HM := hide hm
            have HP := hide hp
            have HD6 := hide hd6
            have HDn := hide hDn
            clear hm hp hd6 z1 z2 z3 y1 y2 y3 nbs hDn c1 c2 c3 c4 c5 f3 f4 f5
            gi_wp2
            refine ⟨by simp, .inl ⟨_, _, rfl, run_takeDeferred HD6.out, ?_⟩⟩
            rw [HT.out]
            refine ⟨.tuple #[.slice xa xn xc, .slice ya yn yc, .int .u16 0], ?_, xa, xn, xc, ya, yn, yc, OF, rfl, ?_, ?_, ?_, ?_, ?_⟩
            · simp [results, Tryz.results9, go_sem, t1, t2, t3]
            · exact (HR.out.o1.of_block (fun k hk => HM.out.block k (HR.out.o1.lt hk) (fun e => by
                obtain ⟨cc, hcc⟩ := own_cells HR.out.o1 hk
                rcases e with e | e | e
                · exact type_apart hcc HR.out.r1 (by decide) e
                · exact type_apart hcc HR.out.r2 (by decide) e
                · exact type_apart hcc HR.out.r3 (by decide) e))).of_block (fun k hk => World.putObj_heap_other (fun e => (HR.out.nb k (.inr (.inr (.inr (.inr (.inr (.inl hk))))))).2.2.1 (by rw [HDe.out]; exact e)))
            · exact (HR.out.o2.of_block (fun k hk => HM.out.block k (HR.out.o2.lt hk) (fun e => by
                obtain ⟨cc, hcc⟩ := own_cells HR.out.o2 hk
                rcases e with e | e | e
                · exact type_apart hcc HR.out.r1 (by decide) e
                · exact type_apart hcc HR.out.r2 (by decide) e
                · exact type_apart hcc HR.out.r3 (by decide) e))).of_block (fun k hk => World.putObj_heap_other (fun e => (HR.out.nb k (.inr (.inr (.inr (.inr (.inr (.inr hk))))))).2.2.1 (by rw [HDe.out]; exact e)))
            · refine (G3.out.other HM.out fun k hk e => ?_).other HP.out fun k hk e => ?_
              · have ho := G1.out k hk
                rcases e with rfl | rfl | rfl
                · exact (HR.out.nb _ (.inr (.inr (.inl rfl)))).1 ho
                · exact (HR.out.nb _ (.inr (.inr (.inr (.inl rfl))))).1 ho
                · exact (HR.out.nb _ (.inr (.inr (.inr (.inr (.inl rfl)))))).1 ho
              · subst e
                exact HOD9.out (G1.out _ hk)
            · have hg := HR.out.go
              have hlw := hg.mv.size
              refine ⟨⟨HM.out.os.trans hg.mv.os, HM.out.tape.trans hg.mv.tape, HM.out.output.trans hg.mv.output, Nat.le_trans hlw (Nat.le_trans HM.out.size HP.out.size), fun k hk ho => ?_⟩, fun k hk => hg.own k (G1.out k hk)⟩
              have := HDe.out
              rw [HP.out.block k (by have := HM.out.size; omega) (by omega), HM.out.block k (by omega) (by omega)]
              exact hg.mv.block k hk ho
            · rintro k (hk | hk)
              · have := HR.out.nb k (.inr (.inr (.inr (.inr (.inr (.inl hk))))))
                exact ⟨this.2.1, fun ho => this.1 (G1.out k ho)⟩
              · have := HR.out.nb k (.inr (.inr (.inr (.inr (.inr (.inr hk))))))
                exact ⟨this.2.1, fun ho => this.1 (G1.out k ho)⟩
          | _ => exact hJ.elim
      case stop =>
        rintro D i9 c V O hDe ⟨rfl, rfl, hbd, v1, v2, zs, ys, hR⟩ hSt hdef hOD9
        have hT := HTT.out.2 hbd
        obtain ⟨OF, g1, g2, g3, -⟩ := hSt
        have G1 := hide g1
        have G3 := hide g3
        have HT := hide hT
        obtain ⟨er, HEr⟩ : ∃ er, Hid (er = lkEr (lkk most S A y0 (i9 - 1))) := ⟨_, rfl⟩
        rw [← HEr.out] at hR HT
        have HR := hide hR
        have HDf := hide hdef
        have HDe := hide hDe
        have HOD9 := hide hOD9
        have nbs := fun k hk => (HR.out.nb k hk)
        have hDn : D ≠ w.heap.size ∧ D ≠ w.heap.size + 1 ∧ D ≠ w.heap.size + 1 + 1 := by
          have a1 := (nbs _ (.inr (.inr (.inl rfl)))).2.2.1
          have a2 := (nbs _ (.inr (.inr (.inr (.inl rfl))))).2.2.1
          have a3 := (nbs _ (.inr (.inr (.inr (.inr (.inl rfl)))))).2.2.1
          have := HDe.out
          omega
        have hp : Mv (fun k => k = D) V (V.putObj D (.deferred none)) := ⟨rfl, rfl, rfl, by simp [World.putObj], fun k _ hk => World.putObj_heap_other hk⟩
        have t1 := cell_of_one ((hp.block _ (lt_of_block hR.r1) (by omega)).trans hR.r1)
        have t2 := cell_of_one ((hp.block _ (lt_of_block hR.r2) (by omega)).trans hR.r2)
        have t3 := cell_of_one ((hp.block _ (lt_of_block hR.r3) (by omega)).trans hR.r3)
        have HP := hide hp
        clear hT hbd g1 g2 g3 hR hdef hDe hOD9 nbs hDn hp
        gi_wp2
        refine ⟨by simp, .inl ⟨_, _, rfl, run_takeDeferred HDf.out, ?_⟩⟩
        rw [HT.out]
        refine ⟨.tuple #[.slice none 0 0, .slice none 0 0, .int .u16 (er : Int)], ?_, none, 0, 0, none, 0, 0, OF, rfl, Own.nil _, OwnW.nil _, ?_, ?_, ?_⟩
        · simp [results, Tryz.results9, go_sem, t1, t2, t3]
        · refine G3.out.other HP.out fun k hk e => ?_
          subst e
          exact HOD9.out (G1.out _ hk)
        · have hg := HR.out.go
          have hlw := hg.mv.size
          refine ⟨⟨HP.out.os.trans hg.mv.os, HP.out.tape.trans hg.mv.tape, HP.out.output.trans hg.mv.output, Nat.le_trans hlw HP.out.size, fun k hk ho => ?_⟩, fun k hk => hg.own k (G1.out k hk)⟩
          have := HDe.out
          rw [HP.out.block k (by omega) (by omega)]
          exact hg.mv.block k hk ho
        · rintro k (hk | hk) <;> simp [Value.ownBlock] at hk
    | _ => exact hJ.elim
end Go.Proofs.YtlmofgfkclfgeaaGreat
