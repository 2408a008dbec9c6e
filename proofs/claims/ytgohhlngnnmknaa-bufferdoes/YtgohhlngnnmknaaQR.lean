/- The document's own buffer that goes back: its row may begin with room that is not its own. -/
import Derived.Test.YtgohhlngnnmknaaE
import Derived.Test.YtgohhlngnnmknaaRS
namespace Go.Proofs.Ytgohhlngnnmknaa
open Go.RowKit Go.Maps
set_option linter.unusedVariables false
abbrev zoqrx1 : Oper := { dst := some 6, op := Op.move (Operand.tmp 0), type := 29, pos := "ref.go:24", after := #[], guard := none }
abbrev zoqrx2 : Oper := { dst := some 7, op := Op.move (Operand.tmp 0), type := 29, pos := "ref.go:24", after := #[], guard := none }
abbrev zoqrx3 : Oper := { dst := some 8, op := Op.nilCheck (Operand.tmp 7), type := 0, pos := "ref.go:24", after := #[{ on := 1, ground := Ground.data }], guard := none }
abbrev zoqrx4 : Oper := { dst := some 9, op := Op.fieldAddr 32 (Operand.tmp 8) 0, type := 0, pos := "ref.go:24", after := #[{ on := 2, ground := Ground.data }], guard := none }
abbrev zoqrx5 : Oper := { dst := some 11, op := Op.move (Operand.tmp 1), type := 60, pos := "ref.go:24", after := #[], guard := none }
abbrev zoqrx6 : Oper := { dst := some 13, op := Op.move (Operand.tmp 2), type := 60, pos := "ref.go:24", after := #[], guard := none }
abbrev zoqrx7 : Oper := { dst := some 10, op := Op.load 30 (Operand.tmp 9), type := 30, pos := "ref.go:24", after := #[{ on := 3, ground := Ground.data }], guard := none }
abbrev zoqrx8 : Oper := { dst := some 12, op := Op.call { callee := Callee.value (Operand.func 73), args := #[Operand.tmp 11], argTypes := #[60] }, type := 60, pos := "ref.go:24", after := #[{ on := 5, ground := Ground.data }], guard := none }
abbrev zoqrx9 : Oper := { dst := some 14, op := Op.call { callee := Callee.value (Operand.func 73), args := #[Operand.tmp 13], argTypes := #[60] }, type := 60, pos := "ref.go:24", after := #[{ on := 7, ground := Ground.data }, { on := 6, ground := Ground.chain }], guard := none }
abbrev zoqrx10 : Oper := { dst := some 15, op := Op.build 85 #[(0, Operand.tmp 12), (1, Operand.tmp 14)], type := 85, pos := "ref.go:24", after := #[{ on := 6, ground := Ground.data }, { on := 8, ground := Ground.data }], guard := none }
abbrev zoqrx11 : Oper := { dst := some 16, op := Op.buildSlice 30 1 #[(0, Operand.tmp 15)], type := 30, pos := "ref.go:24", after := #[{ on := 9, ground := Ground.data }], guard := none }
abbrev zoqrx12 : Oper := { dst := some 17, op := Op.call { callee := Callee.builtin Builtin.append, args := #[Operand.tmp 10, Operand.tmp 16], argTypes := #[30, 30] }, type := 30, pos := "ref.go:24", after := #[{ on := 4, ground := Ground.data }, { on := 10, ground := Ground.data }, { on := 8, ground := Ground.chain }], guard := none }
abbrev zoqrx13 : Oper := { dst := some 18, op := Op.nilCheck (Operand.tmp 6), type := 0, pos := "ref.go:24", after := #[{ on := 0, ground := Ground.data }, { on := 0, ground := Ground.phase }, { on := 1, ground := Ground.phase }, { on := 2, ground := Ground.phase }, { on := 3, ground := Ground.phase }, { on := 4, ground := Ground.phase }, { on := 5, ground := Ground.phase }, { on := 6, ground := Ground.phase }, { on := 7, ground := Ground.phase }, { on := 8, ground := Ground.phase }, { on := 9, ground := Ground.phase }, { on := 10, ground := Ground.phase }, { on := 11, ground := Ground.phase }], guard := none }
abbrev zoqrx14 : Oper := { dst := some 19, op := Op.fieldAddr 32 (Operand.tmp 18) 0, type := 0, pos := "ref.go:24", after := #[{ on := 12, ground := Ground.data }, { on := 0, ground := Ground.phase }, { on := 1, ground := Ground.phase }, { on := 2, ground := Ground.phase }, { on := 3, ground := Ground.phase }, { on := 4, ground := Ground.phase }, { on := 5, ground := Ground.phase }, { on := 6, ground := Ground.phase }, { on := 7, ground := Ground.phase }, { on := 8, ground := Ground.phase }, { on := 9, ground := Ground.phase }, { on := 10, ground := Ground.phase }, { on := 11, ground := Ground.phase }], guard := none }
abbrev zoqrx15 : Oper := { dst := none, op := Op.store 30 (Operand.tmp 19) (Operand.tmp 17), type := 0, pos := "ref.go:24", after := #[{ on := 13, ground := Ground.data }, { on := 11, ground := Ground.data }, { on := 11, ground := Ground.chain }, { on := 0, ground := Ground.phase }, { on := 1, ground := Ground.phase }, { on := 2, ground := Ground.phase }, { on := 3, ground := Ground.phase }, { on := 4, ground := Ground.phase }, { on := 5, ground := Ground.phase }, { on := 6, ground := Ground.phase }, { on := 7, ground := Ground.phase }, { on := 8, ground := Ground.phase }, { on := 9, ground := Ground.phase }, { on := 10, ground := Ground.phase }, { on := 11, ground := Ground.phase }], guard := none }
abbrev zoqrx16 : Oper := { dst := some 4, op := Op.move (Operand.tmp 0), type := 29, pos := "ref.go:28", after := #[], guard := none }
abbrev zoqrx17 : Oper := { dst := some 5, op := Op.move (Operand.tmp 0), type := 29, pos := "ref.go:28", after := #[], guard := none }
abbrev zoqrx18 : Oper := { dst := some 6, op := Op.nilCheck (Operand.tmp 5), type := 0, pos := "ref.go:28", after := #[{ on := 1, ground := Ground.data }], guard := none }
abbrev zoqrx19 : Oper := { dst := some 7, op := Op.fieldAddr 32 (Operand.tmp 6) 0, type := 0, pos := "ref.go:28", after := #[{ on := 2, ground := Ground.data }], guard := none }
abbrev zoqrx20 : Oper := { dst := some 9, op := Op.move (Operand.tmp 1), type := 60, pos := "ref.go:28", after := #[], guard := none }
abbrev zoqrx21 : Oper := { dst := some 8, op := Op.load 30 (Operand.tmp 7), type := 30, pos := "ref.go:28", after := #[{ on := 3, ground := Ground.data }], guard := none }
abbrev zoqrx22 : Oper := { dst := some 10, op := Op.call { callee := Callee.value (Operand.func 73), args := #[Operand.tmp 9], argTypes := #[60] }, type := 60, pos := "ref.go:28", after := #[{ on := 5, ground := Ground.data }], guard := none }
abbrev zoqrx23 : Oper := { dst := some 11, op := Op.build 85 #[(0, Operand.tmp 10), (2, Operand.const (Value.bool true))], type := 85, pos := "ref.go:28", after := #[{ on := 6, ground := Ground.data }], guard := none }
abbrev zoqrx24 : Oper := { dst := some 12, op := Op.buildSlice 30 1 #[(0, Operand.tmp 11)], type := 30, pos := "ref.go:28", after := #[{ on := 7, ground := Ground.data }], guard := none }
abbrev zoqrx25 : Oper := { dst := some 13, op := Op.call { callee := Callee.builtin Builtin.append, args := #[Operand.tmp 8, Operand.tmp 12], argTypes := #[30, 30] }, type := 30, pos := "ref.go:28", after := #[{ on := 4, ground := Ground.data }, { on := 8, ground := Ground.data }, { on := 6, ground := Ground.chain }], guard := none }
abbrev zoqrx26 : Oper := { dst := some 14, op := Op.nilCheck (Operand.tmp 4), type := 0, pos := "ref.go:28", after := #[{ on := 0, ground := Ground.data }, { on := 0, ground := Ground.phase }, { on := 1, ground := Ground.phase }, { on := 2, ground := Ground.phase }, { on := 3, ground := Ground.phase }, { on := 4, ground := Ground.phase }, { on := 5, ground := Ground.phase }, { on := 6, ground := Ground.phase }, { on := 7, ground := Ground.phase }, { on := 8, ground := Ground.phase }, { on := 9, ground := Ground.phase }], guard := none }
abbrev zoqrx27 : Oper := { dst := some 15, op := Op.fieldAddr 32 (Operand.tmp 14) 0, type := 0, pos := "ref.go:28", after := #[{ on := 10, ground := Ground.data }, { on := 0, ground := Ground.phase }, { on := 1, ground := Ground.phase }, { on := 2, ground := Ground.phase }, { on := 3, ground := Ground.phase }, { on := 4, ground := Ground.phase }, { on := 5, ground := Ground.phase }, { on := 6, ground := Ground.phase }, { on := 7, ground := Ground.phase }, { on := 8, ground := Ground.phase }, { on := 9, ground := Ground.phase }], guard := none }
abbrev zoqrx28 : Oper := { dst := none, op := Op.store 30 (Operand.tmp 15) (Operand.tmp 13), type := 0, pos := "ref.go:28", after := #[{ on := 11, ground := Ground.data }, { on := 9, ground := Ground.data }, { on := 9, ground := Ground.chain }, { on := 0, ground := Ground.phase }, { on := 1, ground := Ground.phase }, { on := 2, ground := Ground.phase }, { on := 3, ground := Ground.phase }, { on := 4, ground := Ground.phase }, { on := 5, ground := Ground.phase }, { on := 6, ground := Ground.phase }, { on := 7, ground := Ground.phase }, { on := 8, ground := Ground.phase }, { on := 9, ground := Ground.phase }], guard := none }
/-- an append to such a row. -/
theorem run_append_ofx {P : Program} (w : World) (t tx ty e : TypeId) (i : TypeInfo) (z : Value) (sz : Nat) (ht : P.underlying t = some (.slice e)) (hi : P.info? e = some i) (hz : i.zero = some z) (h1 : i.size = sz) (hzc : z.cells.size = sz) (hs0 : 0 < sz)
    (v : Value) (m : Nat) (xs : List Value) (hown : Rof w e sz v m xs) (x : Value) (n : Nat) (news : List Value) (hs : Src P sz tx x n news w) (hb : (m + n) * i.bytes ≤ 140737488355328) (hm : m + n ≤ 140737488355328) :
    ∃ v' w', (Builtin.append_ #[t, tx] ty #[v, x]).run P w = .ok v' w' ∧ Rof w' e sz v' (m + n) (xs ++ news) ∧ w.grownBy w' v.ownBlock ∧ (∀ k, v'.ownBlock = some k → v.ownBlock = some k ∨ w.heap.size ≤ k) ∧ (Below w.heap.size w w' ∨ ∃ g o cap, v = .slice (some ⟨g, o, none⟩) m cap ∧ m + n ≤ cap) := by
  have hnl : news.length = n * sz := hs.newsLen
  have hxl : xs.length = m * sz := hown.1
  have hlen : (xs ++ news).length = (m + n) * sz := by rw [List.length_append, hnl, hxl, Nat.add_mul]
  have hs' : Src P i.size tx x n news w := by rw [h1]; exact hs
  have hgrow : ∀ (old : Nat) (row : Option Nat), old < m + n →
      Rof (w.drew.alloc (.cells ((xs ++ news).toArray ++ Builtin.zeroCells z.cells (grownCap w (m + n) old e - (m + n))) e)) e sz (.slice (some ⟨w.heap.size, 0, none⟩) (m + n) (grownCap w (m + n) old e)) (m + n) (xs ++ news) ∧
      w.grownBy (w.drew.alloc (.cells ((xs ++ news).toArray ++ Builtin.zeroCells z.cells (grownCap w (m + n) old e - (m + n))) e)) row := by
    intro old row ho
    have hge := grownCap_ge w (m + n) old e
    have hcm : grownCap w (m + n) old e ≤ maxLen := grownCap_le_maxLen w _ old e (by unfold maxLen; omega)
    refine ⟨⟨hlen, .inr ⟨w.heap.size, 0, _, _, rfl, heap_alloc_new w.drew _, hge, hcm, ?_, ?_⟩⟩, ⟨rfl, rfl, rfl, by simp, fun k hk _ => Below.heap_alloc w.drew _ k hk⟩⟩
    · have : (grownCap w (m + n) old e - (m + n)) * sz = grownCap w (m + n) old e * sz - (m + n) * sz := Nat.sub_mul _ _ _
      have h2 : (m + n) * sz ≤ grownCap w (m + n) old e * sz := Nat.mul_le_mul_right sz hge
      simp only [Array.size_append, List.size_toArray, size_zeroCells, hlen, hzc]
      omega
    · rw [Array.toList_append, List.drop_zero, ← hlen]
      exact List.take_left
  rcases hown.2 with ⟨rfl, h0⟩ | ⟨g, off, cap, cur, rfl, hg, hnc, hcm, hcs, htake⟩
  · subst h0
    have hx : xs = [] := List.eq_nil_of_length_eq_zero (by omega)
    subst hx
    by_cases hm0 : n = 0
    · subst hm0
      have hn : news = [] := List.eq_nil_of_length_eq_zero (by omega)
      subst hn
      refine ⟨.slice none 0 0, w, ?_, Rof.nil w e sz, ⟨rfl, rfl, rfl, Nat.le_refl _, fun _ _ _ => rfl⟩, fun k hk => .inl hk, .inl (Below.refl _ _)⟩
      have hsl := hs'.len
      have hsc := hs'.cells
      rcases hs.kind with ⟨e', hk⟩ | hk <;> simp [Builtin.append_, run_underlying ht, run_underlying hk, sizeOf, typeInfo, hi, hsl, hsc]
    · have hr := run_append_grow_src (P := P) w t tx ty e i z ht hi hz none 0 0 [] (by simp [Builtin.firstCells]) x n _ hs' (by omega) (by omega) (growslice_fits (by omega) (by simpa using hb))
      have hgr := hgrow 0 (Value.ownBlock (.slice none 0 0)) (by omega)
      simp only [Nat.zero_add, List.nil_append] at hgr hr ⊢
      exact ⟨_, _, hr, hgr.1, hgr.2, fun k hk => .inr (by simp [Value.ownBlock] at hk; omega), .inl ⟨rfl, rfl, rfl, by simp, fun k hk => Below.heap_alloc w.drew _ k hk⟩⟩
  · by_cases hroom : m + n ≤ cap
    · have hmc : (m + n) * sz ≤ cap * sz := Nat.mul_le_mul_right sz hroom
      have hmn : (m + n) * sz = m * sz + n * sz := Nat.add_mul m n sz
      have hfit : off + m * sz + news.length ≤ cur.size := by rw [hnl]; omega
      have hst := run_storeCells_at P g (off + m * sz) e news 0 cur w hg (by simpa using hfit) hs.one
      simp only [Nat.add_zero] at hst
      have hsl := hs.len
      have hsc := hs.cells
      refine ⟨.slice (some ⟨g, off, none⟩) (m + n) cap, w.setRow g (cur.toList.take (off + m * sz) ++ news ++ cur.toList.drop (off + m * sz + news.length)).toArray, ?_, ⟨hlen, .inr ⟨g, off, cap, _, rfl, setRow_heap w g cur _ e _ hg, hroom, hcm, ?_, ?_⟩⟩, ⟨rfl, rfl, rfl, by simp, fun k _ hk => setRow_other w g k _ (fun e => hk (by simp [Value.ownBlock, e]))⟩, fun k hk => .inl (by simpa [Value.ownBlock] using hk), .inr ⟨g, off, cap, rfl, hroom⟩⟩
      · rcases hs.kind with ⟨e', hk⟩ | hk <;> simp [Builtin.append_, run_underlying ht, run_underlying hk, sizeOf, typeInfo, hi, h1, hsl, hroom, hsc, Addr.add_lit] <;> simp at hst <;> simp [hst]
      · simp only [List.size_toArray, List.length_append, List.length_take, List.length_drop, Array.length_toList] at hfit ⊢
        omega
      · have hl0 : (cur.toList.take (off + m * sz)).length = off + m * sz := by rw [List.length_take, Array.length_toList]; omega
        have e1 : cur.toList.take (off + m * sz) = cur.toList.take off ++ xs := by rw [← htake, List.take_add]
        have hlo : (cur.toList.take off).length = off := by rw [List.length_take, Array.length_toList]; omega
        show ((cur.toList.take (off + m * sz) ++ news ++ cur.toList.drop (off + m * sz + news.length)).drop off).take ((m + n) * sz) = xs ++ news
        rw [e1, List.append_assoc, List.append_assoc, List.drop_left' hlo, ← List.append_assoc, ← hlen]
        exact List.take_left
    · have holds : ∀ j u, xs[j]? = some u → w.drew.cell? ((⟨g, off, none⟩ : Addr).add j) = some u := fun j u hu => by
        rw [Addr.add_lit]
        exact hown.cell hu
      have hr := run_append_grow_src (P := P) w t tx ty e i z ht hi hz (some ⟨g, off, none⟩) m cap xs (run_firstCells_some w.drew i.size m ⟨g, off, none⟩ m cap _ (by rw [h1]; exact hxl) holds) x n _ hs' (by omega) (by omega) (growslice_fits (by omega) hb)
      have hgr := hgrow cap (Value.ownBlock (.slice (some ⟨g, off, none⟩) m cap)) (by omega)
      exact ⟨_, _, hr, hgr.1, hgr.2, fun k hk => .inr (by simp [Value.ownBlock] at hk; omega), .inl ⟨rfl, rfl, rfl, by simp, fun k hk => Below.heap_alloc w.drew _ k hk⟩⟩
theorem wp_append_ofx {P : Program} {w : World} {o : Oper} {a : Act} {K : Act → World → Prop} {Q : Exit → Act → World → Prop} (s x : Operand) (t tx e : TypeId) (ho : o.op = .call { callee := .builtin .append, args := #[s, x], argTypes := #[t, tx] })
    (i : TypeInfo) (z : Value) (sz : Nat) (ht : P.underlying t = some (.slice e)) (hi : P.info? e = some i) (hz : i.zero = some z) (h1 : i.size = sz) (hzc : z.cells.size = sz) (hs0 : 0 < sz)
    (v : Value) (m : Nat) (xs : List Value) (hs : a.eval s = v) (hown : Rof w e sz v m xs) (xv : Value) (n : Nat) (news : List Value) (hx : a.eval x = xv) (hsrc : Src P sz tx xv n news w) (hb : (m + n) * i.bytes ≤ 140737488355328) (hm : m + n ≤ 140737488355328)
    (h : ∀ v' w', Rof w' e sz v' (m + n) (xs ++ news) → w.grownBy w' v.ownBlock → (∀ k, v'.ownBlock = some k → v.ownBlock = some k ∨ w.heap.size ≤ k) → (Below w.heap.size w w' ∨ ∃ g o cap, v = .slice (some ⟨g, o, none⟩) m cap ∧ m + n ≤ cap) → K (a.put o.dst v') w') : o.wp P a w K Q := by
  obtain ⟨v', w', hr, h2, h3, h4, h5⟩ := run_append_ofx (P := P) w t tx o.type e i z sz ht hi hz h1 hzc hs0 v m xs hown xv n news hsrc hb hm
  unfold Oper.wp execOp
  simp only [ho, resolve, invoke, builtin, Sem.run_bind, Sem.run_pure, Result.andThen_ok, List.map_toArray, List.map_cons, List.map_nil, hs, hx, hr]
  exact h v' w' h2 h3 h4 h5

def Big (w : World) (k : Nat) : Prop := ∃ cur, w.heap[k]? = some (.cells cur 85 (0, 0)) ∧ 6 ≤ cur.size
/-- the document's buffer at p: all that was said, in order. -/
structure Rr (w : World) (p : Nat) (v : Value) (ys : List En) : Prop where
  blk : w.heap[p]? = some (.cells #[v] 32 (0, 0))
  row : Rof w 85 3 v ys.length (rowc ys)
  each : ∀ y ∈ ys, y.Own 0 w
  cap0 : ys = [] → ∃ a, v = .slice a 0 0
theorem Rr.of_block {w w' : World} {p : Nat} {v : Value} {ys : List En} (h : Rr w p v ys) (hb : ∀ k, (k = p ∨ v.ownBlock = some k ∨ ∃ y ∈ ys, y.has k) → w'.heap[k]? = w.heap[k]?) : Rr w' p v ys :=
  ⟨(hb p (.inl rfl)).trans h.blk, h.row.keep fun k hk => hb k (.inr (.inl hk)), fun y hy => (h.each y hy).of_block fun k hk => hb k (.inr (.inr ⟨y, hy, hk⟩)), h.cap0⟩
theorem Rr.lt {w : World} {p : Nat} {v : Value} {ys : List En} (h : Rr w p v ys) {k : Nat} (hk : k = p ∨ v.ownBlock = some k ∨ ∃ y ∈ ys, y.has k) : k < w.heap.size := by
  rcases hk with rfl | hk | ⟨y, hy, hk⟩
  · exact lt_of_block h.blk
  · exact h.row.lt hk
  · exact (h.each y hy).lt hk
theorem Rr.below {w w' : World} {p : Nat} {v : Value} {ys : List En} (h : Rr w p v ys) (hb : Below w.heap.size w w') : Rr w' p v ys := h.of_block fun k hk => hb.block k (h.lt hk)
theorem Rr.ens {w : World} {p : Nat} {v : Value} {ys : List En} (h : Rr w p v ys) : ∃ a c, v = .slice a ys.length c ∧ Ens w a ys.length c ys := by
  rcases h.row.2 with ⟨e, h0⟩ | ⟨g, o, cap, cur, e, hg, hn, hm, _⟩
  · have e0 : ys = [] := List.eq_nil_of_length_eq_zero h0
    subst e0
    exact ⟨none, 0, e, ens_nil w⟩
  · refine ⟨_, cap, e, rfl, hn, by unfold maxLen at hm; omega, (by intro e; cases e), .inr ⟨g, o, rfl, lt_of_block hg, fun j u hu => ?_⟩, fun y hy => (h.each y hy).ok⟩
    have hr := h.row
    rw [e] at hr
    exact hr.cell hu
theorem Rr.cell {w : World} {p : Nat} {v : Value} {ys : List En} (h : Rr w p v ys) : w.cell? ⟨p, 0, none⟩ = some v := cell_of_one h.blk
theorem Rr.ne {w : World} {p : Nat} {v : Value} {ys : List En} (h : Rr w p v ys) : v.ownBlock ≠ some p := fun e => by
  obtain ⟨cur, _, h1⟩ := h.row.type e
  rw [h.blk] at h1
  have := congrArg (fun o : Option Obj => match o with | some (.cells _ t _) => t | _ => 0) h1
  simp at this
/-- what a call of it leaves: all but it stays, and of its row only one with room. -/
def RrOut (w : World) (p : Nat) (v : Value) (ys : List En) (e : Ee) (r : Ending) (w' : World) : Prop := r = .returned (.tuple #[]) ∧ ∃ v' y, y.e = e ∧ Rr w' p v' (ys ++ [y]) ∧ y.Own w.heap.size w' ∧ Mv (fun k => k = p ∨ (v.ownBlock = some k ∧ Big w k)) w w' ∧ (∀ k, v'.ownBlock = some k → v.ownBlock = some k ∨ w.heap.size ≤ k)
/-- one more is said. -/
theorem Rr.snoc {w w1 w2 : World} {p : Nat} {v v' : Value} {ys : List En} {y : En} (h : Rr w p v ys) (hb : Below w.heap.size w w1) (hy : y.Own w.heap.size w1) (hg : w1.grownBy w2 v.ownBlock) (hr : Rof w2 85 3 v' (ys.length + 1) (rowc ys ++ y.cells)) (hf : ∀ k, v'.ownBlock = some k → v.ownBlock = some k ∨ w1.heap.size ≤ k)
    (hx : Below w1.heap.size w1 w2 ∨ ∃ g o cap, v = .slice (some ⟨g, o, none⟩) ys.length cap ∧ ys.length + 1 ≤ cap) :
    RrOut w p v ys y.e (.returned (.tuple #[])) (w2.setCell ⟨p, 0, none⟩ v') := by
  have hp := lt_of_block h.blk
  have hp1 : w1.heap[p]? = some (.cells #[v] 32 (0, 0)) := (hb.block p hp).trans h.blk
  have hp2 : w2.heap[p]? = some (.cells #[v] 32 (0, 0)) := (hg.block p (lt_of_block hp1) (fun e => h.ne e.symm)).trans hp1
  have hstay : ∀ k, k ≠ p → (w2.setCell ⟨p, 0, none⟩ v').heap[k]? = w2.heap[k]? := fun k hk => set_other _ _ _ _ _ hk
  have u8p : ∀ {k : Nat} {W : World} {c : Array Value}, W.heap[k]? = some (.cells c 5 (0, 0)) → W.heap[p]? = some (.cells #[v] 32 (0, 0)) → k ≠ p := fun h1 h2 e => by
    subst e
    rw [h1] at h2
    have := congrArg (fun o : Option Obj => match o with | some (.cells _ t _) => t | _ => 0) h2
    simp at this
  have u8v : ∀ {k : Nat} {c : Array Value}, w1.heap[k]? = some (.cells c 5 (0, 0)) → v.ownBlock ≠ some k := fun h1 e => by
    obtain ⟨cur, _, h2⟩ := (h.row.below hb).type e
    rw [h1] at h2
    have := congrArg (fun o : Option Obj => match o with | some (.cells _ t _) => t | _ => 0) h2
    simp at this
  have keep : ∀ (z : En) (B : Nat), z.Own B w1 → z.Own B (w2.setCell ⟨p, 0, none⟩ v') := fun z B hz => by
    refine hz.of_block fun k hk => ?_
    obtain ⟨c, hc⟩ := hz.u8 hk
    rw [hstay k (u8p hc hp1)]
    exact hg.block k (hz.lt hk) (fun e => u8v hc e.symm)
  have hvp : ∀ k, v'.ownBlock = some k → k ≠ p := fun k hk e => by
    subst e
    rcases hf _ hk with h1 | h1
    · exact h.ne h1
    · have := hb.size; omega
  refine ⟨rfl, v', y, rfl, ⟨?_, ?_, fun z hz => ?_, fun e => by simp at e⟩, keep y _ hy, ?_, fun k hk => ?_⟩
  · rw [heap_setCell_same w2 p 0 _ 32 _ hp2]; rfl
  · rw [List.length_append, List.length_singleton, rowc_app, rowc_one]
    exact hr.keep fun k hk => hstay k (hvp k hk)
  · rcases List.mem_append.1 hz with hz | hz
    · exact keep z _ ((h.each z hz).below hb)
    · simp at hz; subst hz
      exact (keep _ _ hy).mono (Nat.zero_le _)
  · rcases hx with hx | ⟨g, o, cap, e, hcap⟩
    · exact ((Mv.of_below hb).trans' (Mv.of_below hx)).setB (.inl rfl) 0 v'
    · have hbig : ∀ k, v.ownBlock = some k → Big w k := fun k hk => by
        rcases h.row.2 with ⟨e2, _⟩ | ⟨g2, o2, cap2, cur, e2, hg2, _, _, hsz, _⟩
        · rw [e2] at hk; simp [Value.ownBlock] at hk
        · have e3 := e
          rw [e2] at e3
          simp only [Value.slice.injEq, Option.some.injEq, Addr.mk.injEq, and_true] at e3
          obtain ⟨⟨rfl, rfl⟩, -, rfl⟩ := e3
          rw [e2] at hk
          simp [Value.ownBlock] at hk
          subst hk
          refine ⟨cur, hg2, ?_⟩
          have h1 : ys ≠ [] := fun h0 => by
            obtain ⟨a, ha⟩ := h.cap0 h0
            rw [e2] at ha
            simp only [Value.slice.injEq] at ha
            omega
          have := List.length_pos_iff.2 h1
          omega
      exact ((Mv.of_below hb).grown hg fun k hk => .inl (.inr ⟨hk, hbig k hk⟩)).setB (.inl rfl) 0 v'
  · exact (hf k hk).imp id fun h1 => by have := hb.size; omega
/-- two copies, and what an append of them makes. -/
theorem rput2_end {w wK wV : World} {p : Nat} {v : Value} {ys : List En} {aK aV : Option Addr} {cK cV : Nat} {key val : List Int} (h : Rr w p v ys) (hK : Made w.drew (.slice aK key.length cK) key wK) (hV : Made wK (.slice aV val.length cV) val wV) (k8 : Byts key) (v8 : Byts val) (hBK : Below w.heap.size w wK) (hBV : Below w.heap.size w wV) :
    Below w.heap.size w (wV.alloc (.cells #[.slice aK key.length cK, .slice aV val.length cV, .bool false] 85)) ∧ (⟨⟨key, val, false⟩, aK, cK, aV, cV⟩ : En).Own w.heap.size (wV.alloc (.cells #[.slice aK key.length cK, .slice aV val.length cV, .bool false] 85)) := by
  have b1 : Below wK.heap.size wK (wV.alloc (.cells #[.slice aK key.length cK, .slice aV val.length cV, .bool false] 85)) := hV.2.2.trans ((below_alloc wV _).mono hV.2.2.size)
  refine ⟨hBV.trans ((below_alloc wV _).mono hBV.size), hK.1.below b1, hV.1.below (below_alloc wV _), fun k hk => hK.2.1 k hk, fun k hk => Nat.le_trans hBK.size (hV.2.1 k hk), fun k hk e => ?_, k8, v8⟩
  have h1 := hK.1.lt hk
  have h2 := hV.2.1 k e
  omega
set_option maxHeartbeats 3200000 in
set_option maxRecDepth 1000000 in
theorem rput2_any {w : World} {p : Nat} {v : Value} {ys : List En} (h : Rr w p v ys) (ka va : Option Addr) (kn kc vn vc : Nat) (key val : List Int) (hk : Inn w ka kn kc key) (hv : Inn w va vn vc val) (hkn : kn ≤ 140737488351232) (hvn : vn ≤ 140737488351232) (hn : ys.length ≤ 900000) :
    Calls Try.prog 22 #[.pointer (some ⟨p, 0, none⟩), .slice ka kn kc, .slice va vn vc] w (RrOut w p v ys ⟨key, val, false⟩) := by
  obtain ⟨i0, hi, hz0, hz1, hz2⟩ := info_parts infoE2
  have HK8 := hide hk.byts
  have HV8 := hide hv.byts
  have HK := hide (fun W (hW : Below w.heap.size w W) => copied_any ka kn kc key W (hk.below hW) hkn)
  have HV := hide (fun W (hW : Below w.heap.size w W) => copied_any va vn vc val W (hv.below hW) hvn)
  have c0 := cell_of_one h.blk
  have f0 := free_of_one h.blk
  have H := hide h
  clear h hk hv
  go_enter Try.func22, Try.ntmps22
  go_wp2
  refine wp_region_noPanic ?_
  refine wp_region_held_drew (S := (fun W => True)) (by kernel_rfl) trivial (fun _hS => ?_)
  refine wtk (i := 0) (oi := zoqrx1) (v := ?v0x101) rfl ⟨by rfl, ?hy0x101⟩ (by assumption) ?_
  case hy0x101 => (intro w s; (try dsimp only at s); first | (go_simp; with_reducible rfl) | go_simp)
  try simp only [Act.put, zps]
  refine wtk (i := 1) (oi := zoqrx2) (v := ?v1x102) rfl ⟨by rfl, ?hy1x102⟩ (by assumption) ?_
  case hy1x102 => (intro w s; (try dsimp only at s); first | (go_simp; with_reducible rfl) | go_simp)
  try simp only [Act.put, zps]
  refine wtk (i := 2) (oi := zoqrx3) (v := ?v2x103) rfl ⟨by rfl, ?hy2x103⟩ (by assumption) ?_
  case hy2x103 => (intro w s; (try dsimp only at s); first | (go_simp; with_reducible rfl) | go_simp)
  try simp only [Act.put, zps]
  refine wtk (i := 3) (oi := zoqrx4) (v := ?v3x104) rfl ⟨by rfl, ?hy3x104⟩ (by assumption) ?_
  case hy3x104 => (intro w s; (try dsimp only at s); first | (go_simp; with_reducible rfl) | go_simp)
  try simp only [Act.put, zps]
  refine wtk (i := 5) (oi := zoqrx5) (v := ?v5x105) rfl ⟨by rfl, ?hy5x105⟩ (by assumption) ?_
  case hy5x105 => (intro w s; (try dsimp only at s); first | (go_simp; with_reducible rfl) | go_simp)
  try simp only [Act.put, zps]
  refine wtk (i := 7) (oi := zoqrx6) (v := ?v7x106) rfl ⟨by rfl, ?hy7x106⟩ (by assumption) ?_
  case hy7x106 => (intro w s; (try dsimp only at s); first | (go_simp; with_reducible rfl) | go_simp)
  try simp only [Act.put, zps]
  refine wpAnyH_ready (rs := [4, 6]) (by kernel_rfl) (by simp) ?_
  refine AllReadyH.cons (o := zoqrx7) rfl (fun K hK => ?_) (AllReadyH.cons (o := zoqrx8) rfl (fun K hK => ?_) (AllReadyH.nil))
  · go_simp
    refine hK.out _ _ ?_ (fun _hS => ?_)
    · exact trivial
    clear hK K
    try simp only [Act.put, zps]
    refine wpAnyH_ready (rs := [6]) (by kernel_rfl) (by simp) ?_
    refine AllReadyH.cons (o := zoqrx8) rfl (fun K hK => ?_) (AllReadyH.nil)
    go_simp
    go_at_call_of 73 (Value.slice ka kn kc)
    refine (HK.out _ (Below.refl _ _).drew).mono ?_
    rintro e wK ⟨vK, rfl, hmK⟩
    obtain ⟨aK, cK, rfl, -⟩ := hmK.1.shape
    have HBK := hide ((Below.refl w.heap.size w).drew.trans hmK.2.2)
    have cK0 := one_below c0 HBK.out
    have HMK := hide hmK
    clear hmK
    go_simp
    refine hK.out _ _ ?_ (fun _hS => ?_)
    · exact trivial
    clear hK K
    try simp only [Act.put, zps]
    refine wpAnyH_ready (rs := [8]) (by kernel_rfl) (by simp) ?_
    refine AllReadyH.cons (o := zoqrx9) rfl (fun K hK => ?_) (AllReadyH.nil)
    go_simp
    go_at_call_of 73 (Value.slice va vn vc)
    refine (HV.out _ HBK.out).mono ?_
    rintro e wV ⟨vV, rfl, hmV⟩
    obtain ⟨aV, cV, rfl, -⟩ := hmV.1.shape
    have HBV := hide (HBK.out.trans (hmV.2.2.mono HBK.out.size))
    have cV0 := one_below c0 HBV.out
    have cA0 : (wV.alloc (.cells #[.slice aK key.length cK, .slice aV val.length cV, .bool false] 85)).cell? ⟨p, 0, none⟩ = some v := one_below cV0 (below_alloc wV _)
    have HMV := hide hmV
    clear hmV
    go_simp
    refine hK.out _ _ ?_ (fun _hS => ?_)
    · exact trivial
    clear hK K
    try simp only [Act.put, zps]
    refine wtk (i := 9) (oi := zoqrx10) (v := ?v9x107) rfl ⟨by rfl, ?hy9x107⟩ (by assumption) ?_
    case hy9x107 => (intro w s; (try dsimp only at s); first | (go_simp; with_reducible rfl) | go_simp)
    try simp only [Act.put, zps]
    refine wpAnyH_ready (rs := [10]) (by kernel_rfl) (by simp) ?_
    refine AllReadyH.cons (o := zoqrx11) rfl (fun K hK => ?_) (AllReadyH.nil)
    go_simp
    refine hK.out _ _ ?_ (fun _hS => ?_)
    · exact trivial
    clear hK K
    try simp only [Act.put, zps]
    have HFin := hide (rput2_end H.out HMK.out HMV.out HK8.out HV8.out HBK.out HBV.out)
    have HU := hide (H.out.row.below HFin.out.1)
    have HSr := hide (box_src wV (⟨⟨key, val, false⟩, aK, cK, aV, cV⟩ : En))
    refine wpAnyH_ready (rs := [11]) (by kernel_rfl) (by simp) ?_
    refine AllReadyH.cons (o := zoqrx12) rfl (fun K hK => ?_) (AllReadyH.nil)
    refine step_of rfl ?_
    refine wp_append_ofx (.tmp 10) (.tmp 16) 30 30 85 rfl i0 _ 3 Try.underlying30 hi hz0 hz1 (by rfl) (by omega) v ys.length (rowc ys) rfl HU.out (.slice (some ⟨wV.heap.size, 0, none⟩) 1 1) 1 (⟨⟨key, val, false⟩, aK, cK, aV, cV⟩ : En).cells rfl HSr.out (by rw [hz2]; omega) (by omega) ?_
    intro v6 w6 hown6 hg6 hloc6 hx6
    obtain ⟨a6, c6, rfl, -⟩ := hown6.shape
    have k3 : w6.heap[p]? = some (.cells #[v] 32 (0, 0)) := (hg6.block p (lt_of_block ((HFin.out.1.block p (lt_of_block H.out.blk)).trans H.out.blk)) (fun e => H.out.ne e.symm)).trans ((HFin.out.1.block p (lt_of_block H.out.blk)).trans H.out.blk)
    have s2 := cell_of_one k3
    have f2 := free_of_one k3
    have HF6 := hide (Rr.snoc (y := ⟨⟨key, val, false⟩, aK, cK, aV, cV⟩) H.out HFin.out.1 HFin.out.2 hg6 hown6 hloc6 hx6)
    clear hown6 hg6 hloc6 hx6 k3
    go_simp
    refine hK.out _ _ ?_ (fun _hS => ?_)
    · exact trivial
    clear hK K
    try simp only [Act.put, zps]
    refine wtk (i := 12) (oi := zoqrx13) (v := ?v12x108) rfl ⟨by rfl, ?hy12x108⟩ (by assumption) ?_
    case hy12x108 => (intro w s; (try dsimp only at s); first | (go_simp; with_reducible rfl) | go_simp)
    try simp only [Act.put, zps]
    refine wtk (i := 13) (oi := zoqrx14) (v := ?v13x109) rfl ⟨by rfl, ?hy13x109⟩ (by assumption) ?_
    case hy13x109 => (intro w s; (try dsimp only at s); first | (go_simp; with_reducible rfl) | go_simp)
    try simp only [Act.put, zps]
    refine wpAnyH_ready (rs := [14]) (by kernel_rfl) (by simp) ?_
    refine AllReadyH.cons (o := zoqrx15) rfl (fun K hK => ?_) (AllReadyH.nil)
    go_simp
    refine hK.out _ _ ?_ (fun _hS => ?_)
    · exact trivial
    clear hK K
    try simp only [Act.put, zps]
    refine wpAnyH_done (by kernel_rfl) ?_ _
    refine NoPanic.normal ?_
    go_wp2
    go_end0
    exact HF6.out
  · go_simp
    go_at_call_of 73 (Value.slice ka kn kc)
    refine (HK.out _ (Below.refl _ _).drew).mono ?_
    rintro e wK ⟨vK, rfl, hmK⟩
    obtain ⟨aK, cK, rfl, -⟩ := hmK.1.shape
    have HBK := hide ((Below.refl w.heap.size w).drew.trans hmK.2.2)
    have cK0 := one_below c0 HBK.out
    have HMK := hide hmK
    clear hmK
    go_simp
    refine hK.out _ _ ?_ (fun _hS => ?_)
    · exact trivial
    clear hK K
    try simp only [Act.put, zps]
    refine wpAnyH_ready (rs := [4, 8]) (by kernel_rfl) (by simp) ?_
    refine AllReadyH.cons (o := zoqrx7) rfl (fun K hK => ?_) (AllReadyH.cons (o := zoqrx9) rfl (fun K hK => ?_) (AllReadyH.nil))
    · go_simp
      refine hK.out _ _ ?_ (fun _hS => ?_)
      · exact trivial
      clear hK K
      try simp only [Act.put, zps]
      refine wpAnyH_ready (rs := [8]) (by kernel_rfl) (by simp) ?_
      refine AllReadyH.cons (o := zoqrx9) rfl (fun K hK => ?_) (AllReadyH.nil)
      go_simp
      go_at_call_of 73 (Value.slice va vn vc)
      refine (HV.out _ HBK.out).mono ?_
      rintro e wV ⟨vV, rfl, hmV⟩
      obtain ⟨aV, cV, rfl, -⟩ := hmV.1.shape
      have HBV := hide (HBK.out.trans (hmV.2.2.mono HBK.out.size))
      have cV0 := one_below c0 HBV.out
      have cA0 : (wV.alloc (.cells #[.slice aK key.length cK, .slice aV val.length cV, .bool false] 85)).cell? ⟨p, 0, none⟩ = some v := one_below cV0 (below_alloc wV _)
      have HMV := hide hmV
      clear hmV
      go_simp
      refine hK.out _ _ ?_ (fun _hS => ?_)
      · exact trivial
      clear hK K
      try simp only [Act.put, zps]
      refine wtk (i := 9) (oi := zoqrx10) (v := ?v9x110) rfl ⟨by rfl, ?hy9x110⟩ (by assumption) ?_
      case hy9x110 => (intro w s; (try dsimp only at s); first | (go_simp; with_reducible rfl) | go_simp)
      try simp only [Act.put, zps]
      refine wpAnyH_ready (rs := [10]) (by kernel_rfl) (by simp) ?_
      refine AllReadyH.cons (o := zoqrx11) rfl (fun K hK => ?_) (AllReadyH.nil)
      go_simp
      refine hK.out _ _ ?_ (fun _hS => ?_)
      · exact trivial
      clear hK K
      try simp only [Act.put, zps]
      have HFin := hide (rput2_end H.out HMK.out HMV.out HK8.out HV8.out HBK.out HBV.out)
      have HU := hide (H.out.row.below HFin.out.1)
      have HSr := hide (box_src wV (⟨⟨key, val, false⟩, aK, cK, aV, cV⟩ : En))
      refine wpAnyH_ready (rs := [11]) (by kernel_rfl) (by simp) ?_
      refine AllReadyH.cons (o := zoqrx12) rfl (fun K hK => ?_) (AllReadyH.nil)
      refine step_of rfl ?_
      refine wp_append_ofx (.tmp 10) (.tmp 16) 30 30 85 rfl i0 _ 3 Try.underlying30 hi hz0 hz1 (by rfl) (by omega) v ys.length (rowc ys) rfl HU.out (.slice (some ⟨wV.heap.size, 0, none⟩) 1 1) 1 (⟨⟨key, val, false⟩, aK, cK, aV, cV⟩ : En).cells rfl HSr.out (by rw [hz2]; omega) (by omega) ?_
      intro v6 w6 hown6 hg6 hloc6 hx6
      obtain ⟨a6, c6, rfl, -⟩ := hown6.shape
      have k3 : w6.heap[p]? = some (.cells #[v] 32 (0, 0)) := (hg6.block p (lt_of_block ((HFin.out.1.block p (lt_of_block H.out.blk)).trans H.out.blk)) (fun e => H.out.ne e.symm)).trans ((HFin.out.1.block p (lt_of_block H.out.blk)).trans H.out.blk)
      have s2 := cell_of_one k3
      have f2 := free_of_one k3
      have HF6 := hide (Rr.snoc (y := ⟨⟨key, val, false⟩, aK, cK, aV, cV⟩) H.out HFin.out.1 HFin.out.2 hg6 hown6 hloc6 hx6)
      clear hown6 hg6 hloc6 hx6 k3
      go_simp
      refine hK.out _ _ ?_ (fun _hS => ?_)
      · exact trivial
      clear hK K
      try simp only [Act.put, zps]
      refine wtk (i := 12) (oi := zoqrx13) (v := ?v12x111) rfl ⟨by rfl, ?hy12x111⟩ (by assumption) ?_
      case hy12x111 => (intro w s; (try dsimp only at s); first | (go_simp; with_reducible rfl) | go_simp)
      try simp only [Act.put, zps]
      refine wtk (i := 13) (oi := zoqrx14) (v := ?v13x112) rfl ⟨by rfl, ?hy13x112⟩ (by assumption) ?_
      case hy13x112 => (intro w s; (try dsimp only at s); first | (go_simp; with_reducible rfl) | go_simp)
      try simp only [Act.put, zps]
      refine wpAnyH_ready (rs := [14]) (by kernel_rfl) (by simp) ?_
      refine AllReadyH.cons (o := zoqrx15) rfl (fun K hK => ?_) (AllReadyH.nil)
      go_simp
      refine hK.out _ _ ?_ (fun _hS => ?_)
      · exact trivial
      clear hK K
      try simp only [Act.put, zps]
      refine wpAnyH_done (by kernel_rfl) ?_ _
      refine NoPanic.normal ?_
      go_wp2
      go_end0
      exact HF6.out
    · go_simp
      go_at_call_of 73 (Value.slice va vn vc)
      refine (HV.out _ HBK.out).mono ?_
      rintro e wV ⟨vV, rfl, hmV⟩
      obtain ⟨aV, cV, rfl, -⟩ := hmV.1.shape
      have HBV := hide (HBK.out.trans (hmV.2.2.mono HBK.out.size))
      have cV0 := one_below c0 HBV.out
      have cA0 : (wV.alloc (.cells #[.slice aK key.length cK, .slice aV val.length cV, .bool false] 85)).cell? ⟨p, 0, none⟩ = some v := one_below cV0 (below_alloc wV _)
      have HMV := hide hmV
      clear hmV
      go_simp
      refine hK.out _ _ ?_ (fun _hS => ?_)
      · exact trivial
      clear hK K
      try simp only [Act.put, zps]
      refine wtk (i := 9) (oi := zoqrx10) (v := ?v9x113) rfl ⟨by rfl, ?hy9x113⟩ (by assumption) ?_
      case hy9x113 => (intro w s; (try dsimp only at s); first | (go_simp; with_reducible rfl) | go_simp)
      try simp only [Act.put, zps]
      refine wpAnyH_ready (rs := [4, 10]) (by kernel_rfl) (by simp) ?_
      refine AllReadyH.cons (o := zoqrx7) rfl (fun K hK => ?_) (AllReadyH.cons (o := zoqrx11) rfl (fun K hK => ?_) (AllReadyH.nil))
      · go_simp
        refine hK.out _ _ ?_ (fun _hS => ?_)
        · exact trivial
        clear hK K
        try simp only [Act.put, zps]
        refine wpAnyH_ready (rs := [10]) (by kernel_rfl) (by simp) ?_
        refine AllReadyH.cons (o := zoqrx11) rfl (fun K hK => ?_) (AllReadyH.nil)
        go_simp
        refine hK.out _ _ ?_ (fun _hS => ?_)
        · exact trivial
        clear hK K
        try simp only [Act.put, zps]
        have HFin := hide (rput2_end H.out HMK.out HMV.out HK8.out HV8.out HBK.out HBV.out)
        have HU := hide (H.out.row.below HFin.out.1)
        have HSr := hide (box_src wV (⟨⟨key, val, false⟩, aK, cK, aV, cV⟩ : En))
        refine wpAnyH_ready (rs := [11]) (by kernel_rfl) (by simp) ?_
        refine AllReadyH.cons (o := zoqrx12) rfl (fun K hK => ?_) (AllReadyH.nil)
        refine step_of rfl ?_
        refine wp_append_ofx (.tmp 10) (.tmp 16) 30 30 85 rfl i0 _ 3 Try.underlying30 hi hz0 hz1 (by rfl) (by omega) v ys.length (rowc ys) rfl HU.out (.slice (some ⟨wV.heap.size, 0, none⟩) 1 1) 1 (⟨⟨key, val, false⟩, aK, cK, aV, cV⟩ : En).cells rfl HSr.out (by rw [hz2]; omega) (by omega) ?_
        intro v6 w6 hown6 hg6 hloc6 hx6
        obtain ⟨a6, c6, rfl, -⟩ := hown6.shape
        have k3 : w6.heap[p]? = some (.cells #[v] 32 (0, 0)) := (hg6.block p (lt_of_block ((HFin.out.1.block p (lt_of_block H.out.blk)).trans H.out.blk)) (fun e => H.out.ne e.symm)).trans ((HFin.out.1.block p (lt_of_block H.out.blk)).trans H.out.blk)
        have s2 := cell_of_one k3
        have f2 := free_of_one k3
        have HF6 := hide (Rr.snoc (y := ⟨⟨key, val, false⟩, aK, cK, aV, cV⟩) H.out HFin.out.1 HFin.out.2 hg6 hown6 hloc6 hx6)
        clear hown6 hg6 hloc6 hx6 k3
        go_simp
        refine hK.out _ _ ?_ (fun _hS => ?_)
        · exact trivial
        clear hK K
        try simp only [Act.put, zps]
        refine wtk (i := 12) (oi := zoqrx13) (v := ?v12x114) rfl ⟨by rfl, ?hy12x114⟩ (by assumption) ?_
        case hy12x114 => (intro w s; (try dsimp only at s); first | (go_simp; with_reducible rfl) | go_simp)
        try simp only [Act.put, zps]
        refine wtk (i := 13) (oi := zoqrx14) (v := ?v13x115) rfl ⟨by rfl, ?hy13x115⟩ (by assumption) ?_
        case hy13x115 => (intro w s; (try dsimp only at s); first | (go_simp; with_reducible rfl) | go_simp)
        try simp only [Act.put, zps]
        refine wpAnyH_ready (rs := [14]) (by kernel_rfl) (by simp) ?_
        refine AllReadyH.cons (o := zoqrx15) rfl (fun K hK => ?_) (AllReadyH.nil)
        go_simp
        refine hK.out _ _ ?_ (fun _hS => ?_)
        · exact trivial
        clear hK K
        try simp only [Act.put, zps]
        refine wpAnyH_done (by kernel_rfl) ?_ _
        refine NoPanic.normal ?_
        go_wp2
        go_end0
        exact HF6.out
      · go_simp
        refine hK.out _ _ ?_ (fun _hS => ?_)
        · exact trivial
        clear hK K
        try simp only [Act.put, zps]
        refine wpAnyH_ready (rs := [4]) (by kernel_rfl) (by simp) ?_
        refine AllReadyH.cons (o := zoqrx7) rfl (fun K hK => ?_) (AllReadyH.nil)
        go_simp
        refine hK.out _ _ ?_ (fun _hS => ?_)
        · exact trivial
        clear hK K
        try simp only [Act.put, zps]
        have HFin := hide (rput2_end H.out HMK.out HMV.out HK8.out HV8.out HBK.out HBV.out)
        have HU := hide (H.out.row.below HFin.out.1)
        have HSr := hide (box_src wV (⟨⟨key, val, false⟩, aK, cK, aV, cV⟩ : En))
        refine wpAnyH_ready (rs := [11]) (by kernel_rfl) (by simp) ?_
        refine AllReadyH.cons (o := zoqrx12) rfl (fun K hK => ?_) (AllReadyH.nil)
        refine step_of rfl ?_
        refine wp_append_ofx (.tmp 10) (.tmp 16) 30 30 85 rfl i0 _ 3 Try.underlying30 hi hz0 hz1 (by rfl) (by omega) v ys.length (rowc ys) rfl HU.out (.slice (some ⟨wV.heap.size, 0, none⟩) 1 1) 1 (⟨⟨key, val, false⟩, aK, cK, aV, cV⟩ : En).cells rfl HSr.out (by rw [hz2]; omega) (by omega) ?_
        intro v6 w6 hown6 hg6 hloc6 hx6
        obtain ⟨a6, c6, rfl, -⟩ := hown6.shape
        have k3 : w6.heap[p]? = some (.cells #[v] 32 (0, 0)) := (hg6.block p (lt_of_block ((HFin.out.1.block p (lt_of_block H.out.blk)).trans H.out.blk)) (fun e => H.out.ne e.symm)).trans ((HFin.out.1.block p (lt_of_block H.out.blk)).trans H.out.blk)
        have s2 := cell_of_one k3
        have f2 := free_of_one k3
        have HF6 := hide (Rr.snoc (y := ⟨⟨key, val, false⟩, aK, cK, aV, cV⟩) H.out HFin.out.1 HFin.out.2 hg6 hown6 hloc6 hx6)
        clear hown6 hg6 hloc6 hx6 k3
        go_simp
        refine hK.out _ _ ?_ (fun _hS => ?_)
        · exact trivial
        clear hK K
        try simp only [Act.put, zps]
        refine wtk (i := 12) (oi := zoqrx13) (v := ?v12x116) rfl ⟨by rfl, ?hy12x116⟩ (by assumption) ?_
        case hy12x116 => (intro w s; (try dsimp only at s); first | (go_simp; with_reducible rfl) | go_simp)
        try simp only [Act.put, zps]
        refine wtk (i := 13) (oi := zoqrx14) (v := ?v13x117) rfl ⟨by rfl, ?hy13x117⟩ (by assumption) ?_
        case hy13x117 => (intro w s; (try dsimp only at s); first | (go_simp; with_reducible rfl) | go_simp)
        try simp only [Act.put, zps]
        refine wpAnyH_ready (rs := [14]) (by kernel_rfl) (by simp) ?_
        refine AllReadyH.cons (o := zoqrx15) rfl (fun K hK => ?_) (AllReadyH.nil)
        go_simp
        refine hK.out _ _ ?_ (fun _hS => ?_)
        · exact trivial
        clear hK K
        try simp only [Act.put, zps]
        refine wpAnyH_done (by kernel_rfl) ?_ _
        refine NoPanic.normal ?_
        go_wp2
        go_end0
        exact HF6.out
theorem rdel2_end {w wK : World} {p : Nat} {v : Value} {ys : List En} {aK : Option Addr} {cK : Nat} {key : List Int} (h : Rr w p v ys) (hK : Made w.drew (.slice aK key.length cK) key wK) (k8 : Byts key) (hBK : Below w.heap.size w wK) :
    Below w.heap.size w (wK.alloc (.cells #[.slice aK key.length cK, .slice none 0 0, .bool true] 85)) ∧ (⟨⟨key, [], true⟩, aK, cK, none, 0⟩ : En).Own w.heap.size (wK.alloc (.cells #[.slice aK key.length cK, .slice none 0 0, .bool true] 85)) :=
  ⟨hBK.trans ((below_alloc wK _).mono hBK.size), hK.1.below (below_alloc wK _), Own.nil _, fun k hk => hK.2.1 k hk, fun k hk => by simp [Value.ownBlock] at hk, fun k hk e => by simp [Value.ownBlock] at e, k8, by intro c hc; simp at hc⟩
set_option maxHeartbeats 3200000 in
set_option maxRecDepth 1000000 in
theorem rdelete2_any {w : World} {p : Nat} {v : Value} {ys : List En} (h : Rr w p v ys) (ka : Option Addr) (kn kc : Nat) (key : List Int) (hk : Inn w ka kn kc key) (hkn : kn ≤ 140737488351232) (hn : ys.length ≤ 900000) :
    Calls Try.prog 25 #[.pointer (some ⟨p, 0, none⟩), .slice ka kn kc] w (RrOut w p v ys ⟨key, [], true⟩) := by
  obtain ⟨i0, hi, hz0, hz1, hz2⟩ := info_parts infoE2
  have HK8 := hide hk.byts
  have HK := hide (fun W (hW : Below w.heap.size w W) => copied_any ka kn kc key W (hk.below hW) hkn)
  have c0 := cell_of_one h.blk
  have f0 := free_of_one h.blk
  have H := hide h
  clear h hk
  go_enter Try.func25, Try.ntmps25
  go_wp2
  refine wp_region_noPanic ?_
  refine wp_region_held_drew (S := (fun W => True)) (by kernel_rfl) trivial (fun _hS => ?_)
  refine wtk (i := 0) (oi := zoqrx16) (v := ?v0x5001) rfl ⟨by rfl, ?hy0x5001⟩ (by assumption) ?_
  case hy0x5001 => (intro w s; (try dsimp only at s); first | (go_simp; with_reducible rfl) | go_simp)
  try simp only [Act.put, zps]
  refine wtk (i := 1) (oi := zoqrx17) (v := ?v1x5002) rfl ⟨by rfl, ?hy1x5002⟩ (by assumption) ?_
  case hy1x5002 => (intro w s; (try dsimp only at s); first | (go_simp; with_reducible rfl) | go_simp)
  try simp only [Act.put, zps]
  refine wtk (i := 2) (oi := zoqrx18) (v := ?v2x5003) rfl ⟨by rfl, ?hy2x5003⟩ (by assumption) ?_
  case hy2x5003 => (intro w s; (try dsimp only at s); first | (go_simp; with_reducible rfl) | go_simp)
  try simp only [Act.put, zps]
  refine wtk (i := 3) (oi := zoqrx19) (v := ?v3x5004) rfl ⟨by rfl, ?hy3x5004⟩ (by assumption) ?_
  case hy3x5004 => (intro w s; (try dsimp only at s); first | (go_simp; with_reducible rfl) | go_simp)
  try simp only [Act.put, zps]
  refine wtk (i := 5) (oi := zoqrx20) (v := ?v5x5005) rfl ⟨by rfl, ?hy5x5005⟩ (by assumption) ?_
  case hy5x5005 => (intro w s; (try dsimp only at s); first | (go_simp; with_reducible rfl) | go_simp)
  try simp only [Act.put, zps]
  refine wpAnyH_ready (rs := [4, 6]) (by kernel_rfl) (by simp) ?_
  refine AllReadyH.cons (o := zoqrx21) rfl (fun K hK => ?_) (AllReadyH.cons (o := zoqrx22) rfl (fun K hK => ?_) (AllReadyH.nil))
  · go_simp
    refine hK.out _ _ ?_ (fun _hS => ?_)
    · exact trivial
    clear hK K
    try simp only [Act.put, zps]
    refine wpAnyH_ready (rs := [6]) (by kernel_rfl) (by simp) ?_
    refine AllReadyH.cons (o := zoqrx22) rfl (fun K hK => ?_) (AllReadyH.nil)
    go_simp
    go_at_call_of 73 (Value.slice ka kn kc)
    refine (HK.out _ (Below.refl _ _).drew).mono ?_
    rintro e wK ⟨vK, rfl, hmK⟩
    obtain ⟨aK, cK, rfl, -⟩ := hmK.1.shape
    have HBK := hide ((Below.refl w.heap.size w).drew.trans hmK.2.2)
    have cK0 := one_below c0 HBK.out
    have cA0 : (wK.alloc (.cells #[.slice aK key.length cK, .slice none 0 0, .bool true] 85)).cell? ⟨p, 0, none⟩ = some v := one_below cK0 (below_alloc wK _)
    have HMK := hide hmK
    clear hmK
    go_simp
    refine hK.out _ _ ?_ (fun _hS => ?_)
    · exact trivial
    clear hK K
    try simp only [Act.put, zps]
    refine wtk (i := 7) (oi := zoqrx23) (v := ?v7x5006) rfl ⟨by rfl, ?hy7x5006⟩ (by assumption) ?_
    case hy7x5006 => (intro w s; (try dsimp only at s); first | (go_simp; with_reducible rfl) | go_simp)
    try simp only [Act.put, zps]
    refine wpAnyH_ready (rs := [8]) (by kernel_rfl) (by simp) ?_
    refine AllReadyH.cons (o := zoqrx24) rfl (fun K hK => ?_) (AllReadyH.nil)
    go_simp
    refine hK.out _ _ ?_ (fun _hS => ?_)
    · exact trivial
    clear hK K
    try simp only [Act.put, zps]
    have HFin := hide (rdel2_end H.out HMK.out HK8.out HBK.out)
    have HU := hide (H.out.row.below HFin.out.1)
    have HSr := hide (box_src wK (⟨⟨key, [], true⟩, aK, cK, none, 0⟩ : En))
    refine wpAnyH_ready (rs := [9]) (by kernel_rfl) (by simp) ?_
    refine AllReadyH.cons (o := zoqrx25) rfl (fun K hK => ?_) (AllReadyH.nil)
    refine step_of rfl ?_
    refine wp_append_ofx (.tmp 8) (.tmp 12) 30 30 85 rfl i0 _ 3 Try.underlying30 hi hz0 hz1 (by rfl) (by omega) v ys.length (rowc ys) rfl HU.out (.slice (some ⟨wK.heap.size, 0, none⟩) 1 1) 1 (⟨⟨key, [], true⟩, aK, cK, none, 0⟩ : En).cells rfl HSr.out (by rw [hz2]; omega) (by omega) ?_
    intro v6 w6 hown6 hg6 hloc6 hx6
    obtain ⟨a6, c6, rfl, -⟩ := hown6.shape
    have k3 : w6.heap[p]? = some (.cells #[v] 32 (0, 0)) := (hg6.block p (lt_of_block ((HFin.out.1.block p (lt_of_block H.out.blk)).trans H.out.blk)) (fun e => H.out.ne e.symm)).trans ((HFin.out.1.block p (lt_of_block H.out.blk)).trans H.out.blk)
    have s2 := cell_of_one k3
    have f2 := free_of_one k3
    have HF6 := hide (Rr.snoc (y := ⟨⟨key, [], true⟩, aK, cK, none, 0⟩) H.out HFin.out.1 HFin.out.2 hg6 hown6 hloc6 hx6)
    clear hown6 hg6 hloc6 hx6 k3
    go_simp
    refine hK.out _ _ ?_ (fun _hS => ?_)
    · exact trivial
    clear hK K
    try simp only [Act.put, zps]
    refine wtk (i := 10) (oi := zoqrx26) (v := ?v10x5007) rfl ⟨by rfl, ?hy10x5007⟩ (by assumption) ?_
    case hy10x5007 => (intro w s; (try dsimp only at s); first | (go_simp; with_reducible rfl) | go_simp)
    try simp only [Act.put, zps]
    refine wtk (i := 11) (oi := zoqrx27) (v := ?v11x5008) rfl ⟨by rfl, ?hy11x5008⟩ (by assumption) ?_
    case hy11x5008 => (intro w s; (try dsimp only at s); first | (go_simp; with_reducible rfl) | go_simp)
    try simp only [Act.put, zps]
    refine wpAnyH_ready (rs := [12]) (by kernel_rfl) (by simp) ?_
    refine AllReadyH.cons (o := zoqrx28) rfl (fun K hK => ?_) (AllReadyH.nil)
    go_simp
    refine hK.out _ _ ?_ (fun _hS => ?_)
    · exact trivial
    clear hK K
    try simp only [Act.put, zps]
    refine wpAnyH_done (by kernel_rfl) ?_ _
    refine NoPanic.normal ?_
    go_wp2
    go_end0
    exact HF6.out
  · go_simp
    go_at_call_of 73 (Value.slice ka kn kc)
    refine (HK.out _ (Below.refl _ _).drew).mono ?_
    rintro e wK ⟨vK, rfl, hmK⟩
    obtain ⟨aK, cK, rfl, -⟩ := hmK.1.shape
    have HBK := hide ((Below.refl w.heap.size w).drew.trans hmK.2.2)
    have cK0 := one_below c0 HBK.out
    have cA0 : (wK.alloc (.cells #[.slice aK key.length cK, .slice none 0 0, .bool true] 85)).cell? ⟨p, 0, none⟩ = some v := one_below cK0 (below_alloc wK _)
    have HMK := hide hmK
    clear hmK
    go_simp
    refine hK.out _ _ ?_ (fun _hS => ?_)
    · exact trivial
    clear hK K
    try simp only [Act.put, zps]
    refine wtk (i := 7) (oi := zoqrx23) (v := ?v7x5009) rfl ⟨by rfl, ?hy7x5009⟩ (by assumption) ?_
    case hy7x5009 => (intro w s; (try dsimp only at s); first | (go_simp; with_reducible rfl) | go_simp)
    try simp only [Act.put, zps]
    refine wpAnyH_ready (rs := [4, 8]) (by kernel_rfl) (by simp) ?_
    refine AllReadyH.cons (o := zoqrx21) rfl (fun K hK => ?_) (AllReadyH.cons (o := zoqrx24) rfl (fun K hK => ?_) (AllReadyH.nil))
    · go_simp
      refine hK.out _ _ ?_ (fun _hS => ?_)
      · exact trivial
      clear hK K
      try simp only [Act.put, zps]
      refine wpAnyH_ready (rs := [8]) (by kernel_rfl) (by simp) ?_
      refine AllReadyH.cons (o := zoqrx24) rfl (fun K hK => ?_) (AllReadyH.nil)
      go_simp
      refine hK.out _ _ ?_ (fun _hS => ?_)
      · exact trivial
      clear hK K
      try simp only [Act.put, zps]
      have HFin := hide (rdel2_end H.out HMK.out HK8.out HBK.out)
      have HU := hide (H.out.row.below HFin.out.1)
      have HSr := hide (box_src wK (⟨⟨key, [], true⟩, aK, cK, none, 0⟩ : En))
      refine wpAnyH_ready (rs := [9]) (by kernel_rfl) (by simp) ?_
      refine AllReadyH.cons (o := zoqrx25) rfl (fun K hK => ?_) (AllReadyH.nil)
      refine step_of rfl ?_
      refine wp_append_ofx (.tmp 8) (.tmp 12) 30 30 85 rfl i0 _ 3 Try.underlying30 hi hz0 hz1 (by rfl) (by omega) v ys.length (rowc ys) rfl HU.out (.slice (some ⟨wK.heap.size, 0, none⟩) 1 1) 1 (⟨⟨key, [], true⟩, aK, cK, none, 0⟩ : En).cells rfl HSr.out (by rw [hz2]; omega) (by omega) ?_
      intro v6 w6 hown6 hg6 hloc6 hx6
      obtain ⟨a6, c6, rfl, -⟩ := hown6.shape
      have k3 : w6.heap[p]? = some (.cells #[v] 32 (0, 0)) := (hg6.block p (lt_of_block ((HFin.out.1.block p (lt_of_block H.out.blk)).trans H.out.blk)) (fun e => H.out.ne e.symm)).trans ((HFin.out.1.block p (lt_of_block H.out.blk)).trans H.out.blk)
      have s2 := cell_of_one k3
      have f2 := free_of_one k3
      have HF6 := hide (Rr.snoc (y := ⟨⟨key, [], true⟩, aK, cK, none, 0⟩) H.out HFin.out.1 HFin.out.2 hg6 hown6 hloc6 hx6)
      clear hown6 hg6 hloc6 hx6 k3
      go_simp
      refine hK.out _ _ ?_ (fun _hS => ?_)
      · exact trivial
      clear hK K
      try simp only [Act.put, zps]
      refine wtk (i := 10) (oi := zoqrx26) (v := ?v10x5010) rfl ⟨by rfl, ?hy10x5010⟩ (by assumption) ?_
      case hy10x5010 => (intro w s; (try dsimp only at s); first | (go_simp; with_reducible rfl) | go_simp)
      try simp only [Act.put, zps]
      refine wtk (i := 11) (oi := zoqrx27) (v := ?v11x5011) rfl ⟨by rfl, ?hy11x5011⟩ (by assumption) ?_
      case hy11x5011 => (intro w s; (try dsimp only at s); first | (go_simp; with_reducible rfl) | go_simp)
      try simp only [Act.put, zps]
      refine wpAnyH_ready (rs := [12]) (by kernel_rfl) (by simp) ?_
      refine AllReadyH.cons (o := zoqrx28) rfl (fun K hK => ?_) (AllReadyH.nil)
      go_simp
      refine hK.out _ _ ?_ (fun _hS => ?_)
      · exact trivial
      clear hK K
      try simp only [Act.put, zps]
      refine wpAnyH_done (by kernel_rfl) ?_ _
      refine NoPanic.normal ?_
      go_wp2
      go_end0
      exact HF6.out
    · go_simp
      refine hK.out _ _ ?_ (fun _hS => ?_)
      · exact trivial
      clear hK K
      try simp only [Act.put, zps]
      refine wpAnyH_ready (rs := [4]) (by kernel_rfl) (by simp) ?_
      refine AllReadyH.cons (o := zoqrx21) rfl (fun K hK => ?_) (AllReadyH.nil)
      go_simp
      refine hK.out _ _ ?_ (fun _hS => ?_)
      · exact trivial
      clear hK K
      try simp only [Act.put, zps]
      have HFin := hide (rdel2_end H.out HMK.out HK8.out HBK.out)
      have HU := hide (H.out.row.below HFin.out.1)
      have HSr := hide (box_src wK (⟨⟨key, [], true⟩, aK, cK, none, 0⟩ : En))
      refine wpAnyH_ready (rs := [9]) (by kernel_rfl) (by simp) ?_
      refine AllReadyH.cons (o := zoqrx25) rfl (fun K hK => ?_) (AllReadyH.nil)
      refine step_of rfl ?_
      refine wp_append_ofx (.tmp 8) (.tmp 12) 30 30 85 rfl i0 _ 3 Try.underlying30 hi hz0 hz1 (by rfl) (by omega) v ys.length (rowc ys) rfl HU.out (.slice (some ⟨wK.heap.size, 0, none⟩) 1 1) 1 (⟨⟨key, [], true⟩, aK, cK, none, 0⟩ : En).cells rfl HSr.out (by rw [hz2]; omega) (by omega) ?_
      intro v6 w6 hown6 hg6 hloc6 hx6
      obtain ⟨a6, c6, rfl, -⟩ := hown6.shape
      have k3 : w6.heap[p]? = some (.cells #[v] 32 (0, 0)) := (hg6.block p (lt_of_block ((HFin.out.1.block p (lt_of_block H.out.blk)).trans H.out.blk)) (fun e => H.out.ne e.symm)).trans ((HFin.out.1.block p (lt_of_block H.out.blk)).trans H.out.blk)
      have s2 := cell_of_one k3
      have f2 := free_of_one k3
      have HF6 := hide (Rr.snoc (y := ⟨⟨key, [], true⟩, aK, cK, none, 0⟩) H.out HFin.out.1 HFin.out.2 hg6 hown6 hloc6 hx6)
      clear hown6 hg6 hloc6 hx6 k3
      go_simp
      refine hK.out _ _ ?_ (fun _hS => ?_)
      · exact trivial
      clear hK K
      try simp only [Act.put, zps]
      refine wtk (i := 10) (oi := zoqrx26) (v := ?v10x5012) rfl ⟨by rfl, ?hy10x5012⟩ (by assumption) ?_
      case hy10x5012 => (intro w s; (try dsimp only at s); first | (go_simp; with_reducible rfl) | go_simp)
      try simp only [Act.put, zps]
      refine wtk (i := 11) (oi := zoqrx27) (v := ?v11x5013) rfl ⟨by rfl, ?hy11x5013⟩ (by assumption) ?_
      case hy11x5013 => (intro w s; (try dsimp only at s); first | (go_simp; with_reducible rfl) | go_simp)
      try simp only [Act.put, zps]
      refine wpAnyH_ready (rs := [12]) (by kernel_rfl) (by simp) ?_
      refine AllReadyH.cons (o := zoqrx28) rfl (fun K hK => ?_) (AllReadyH.nil)
      go_simp
      refine hK.out _ _ ?_ (fun _hS => ?_)
      · exact trivial
      clear hK K
      try simp only [Act.put, zps]
      refine wpAnyH_done (by kernel_rfl) ?_ _
      refine NoPanic.normal ?_
      go_wp2
      go_end0
      exact HF6.out
set_option maxHeartbeats 800000 in
set_option maxRecDepth 1000000 in
theorem rback_no {w : World} {p : Nat} {v : Value} {ys : List En} (h : Rr w p v ys) (N : Int) (hN : N < 0 ∨ (ys.length : Int) < N) :
    Calls Try.prog 34 #[.pointer (some ⟨p, 0, none⟩), .int .i64 N] w fun e w' => e = .returned (.int .i64 1) ∧ w' = w := by
  obtain ⟨a, c, rfl, -⟩ := h.ens
  have c0 := cell_of_one h.blk
  clear h
  by_cases hn : N < 0
  · go_enter Try.func34, Try.ntmps34
    go_wp2
    go_ret
    exact ⟨rfl, rfl⟩
  · have h2 : (ys.length : Int) < N := by omega
    go_enter Try.func34, Try.ntmps34
    go_wp2
    go_ret
    exact ⟨rfl, rfl⟩
/-- the first ones of a row. -/
theorem Rof.pre {w : World} {e sz n m : Nat} {g o c : Nat} {xs : List Value} (h : Rof w e sz (.slice (some ⟨g, o, none⟩) n c) n xs) (hm : m ≤ n) : Rof w e sz (.slice (some ⟨g, o, none⟩) m m) m (xs.take (m * sz)) := by
  rcases h.2 with ⟨e, _⟩ | ⟨g2, o2, cap, cur, e, hg, hn, hx, hs, ht⟩
  · cases e
  · cases e
    have h1 : m * sz ≤ n * sz := Nat.mul_le_mul_right sz hm
    have h2 : n * sz ≤ c * sz := Nat.mul_le_mul_right sz hn
    refine ⟨by rw [List.length_take, h.1, Nat.min_eq_left h1], .inr ⟨g, o, m, cur, rfl, hg, Nat.le_refl _, by omega, by omega, ?_⟩⟩
    rw [← ht, List.take_take, Nat.min_eq_left h1]
set_option maxHeartbeats 800000 in
set_option maxRecDepth 1000000 in
theorem rback_yes {w : World} {p : Nat} {v : Value} {ys : List En} (h : Rr w p v ys) (m : Nat) (hm : m ≤ ys.length) :
    Calls Try.prog 34 #[.pointer (some ⟨p, 0, none⟩), .int .i64 (m : Int)] w fun e w' => e = .returned (.int .i64 0) ∧ ∃ v', Rr w' p v' (ys.take m) ∧ Mv (fun k => k = p) w w' ∧ ∀ k, v'.ownBlock = some k → v.ownBlock = some k := by
  have c0 := cell_of_one h.blk
  have f0 := free_of_one h.blk
  have H := hide h
  have e0 : ¬ (m : Int) < 0 := by omega
  have e1 : ¬ (ys.length : Int) < (m : Int) := by omega
  have e3 : (0 : Int) ≤ (m : Int) := by omega
  have fin : ∀ v', Rof w 85 3 v' m (rowc (ys.take m)) → (∀ k, v'.ownBlock = some k → v.ownBlock = some k) → (m = 0 → ∃ a, v' = .slice a 0 0) → Rr (w.setCell ⟨p, 0, none⟩ v') p v' (ys.take m) ∧ Mv (fun k => k = p) w (w.setCell ⟨p, 0, none⟩ v') := fun v' hr ho h0 => by
    have hst : ∀ k, k ≠ p → (w.setCell ⟨p, 0, none⟩ v').heap[k]? = w.heap[k]? := fun k hk => set_other _ _ _ _ _ hk
    refine ⟨⟨?_, ?_, fun y hy => ?_, fun e => ?_⟩, (Mv.refl _ w).setB (O := fun k => k = p) rfl 0 v'⟩
    · rw [heap_setCell_same w p 0 _ 32 _ H.out.blk]; rfl
    · rw [List.length_take, Nat.min_eq_left hm]
      exact hr.keep fun k hk => hst k (fun e => H.out.ne (by rw [← e]; exact ho k hk))
    · have hy' := H.out.each y (List.mem_of_mem_take hy)
      refine hy'.of_block fun k hk => hst k (fun e => ?_)
      subst e
      obtain ⟨c, hc⟩ := hy'.u8 hk
      rw [H.out.blk] at hc
      have := congrArg (fun o : Option Obj => match o with | some (.cells _ t _) => t | _ => 0) hc
      simp at this
    · refine h0 ?_
      have := congrArg List.length e
      rw [List.length_take, Nat.min_eq_left hm] at this
      simpa using this
  have HFn := hide fin
  rcases h.row.2 with ⟨rfl, h0⟩ | ⟨g, o, cap, cur, rfl, hg, hnc, hcm, hcs, htk⟩
  · have hm0 : m = 0 := by omega
    subst hm0
    have hy0 : (ys.length : Int) = 0 := by omega
    obtain ⟨q1, q2⟩ := HFn.out (.slice none 0 0) (by simpa [rowc] using Rof.nil w 85 3) (fun k hk => hk) (fun _ => ⟨none, rfl⟩)
    have Q1 := hide q1
    have Q2 := hide q2
    clear h fin q1 q2 HFn
    go_enter Try.func34, Try.ntmps34
    go_wp2
    go_ret
    exact ⟨rfl, _, Q1.out, Q2.out, fun k hk => hk⟩
  · have hpre := H.out.row.pre hm
    rw [← rowc_take] at hpre
    obtain ⟨q1, q2⟩ := HFn.out _ hpre (fun k hk => hk) (fun e => by subst e; exact ⟨_, rfl⟩)
    have Q1 := hide q1
    have Q2 := hide q2
    have e4 : (m : Int) ≤ (cap : Int) := by omega
    have e5 : m ≤ cap := by omega
    clear h fin q1 q2 HFn hpre htk hcs
    go_enter Try.func34, Try.ntmps34
    go_wp2
    go_ret
    exact ⟨rfl, _, Q1.out, Q2.out, fun k hk => hk⟩
end Go.Proofs.Ytgohhlngnnmknaa
