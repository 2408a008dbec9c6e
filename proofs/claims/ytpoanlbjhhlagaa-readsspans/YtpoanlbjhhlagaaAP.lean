/- Appends to rows of spans. -/
import Derived.Test.YtpoanlbjhhlagaaSB
import Derived.Maps.AppendAt
namespace Go.Proofs.Ytpoanlbjhhlagaa
open Go.RowKit Go.Maps
set_option linter.unusedVariables false

theorem wpList_run_append {P : Program} {w w' : World} {ops : Array Oper} {rest : List Oper} {o : Oper} {a : Act} {Q : Exit → Act → World → Prop} {v u v' : Value} (hgd : o.guard = none) (s x : Operand) (t : TypeId)
    (ho : o.op = .call { callee := .builtin .append, args := #[s, x], argTypes := #[t, t] }) (hs : a.eval s = v) (hx : a.eval x = u) (hrun : (Builtin.append_ #[t, t] o.type #[v, u]).run P w = .ok v' w')
    (h : wpList P ops Q rest (a.put o.dst v') w') : wpList P ops Q (o :: rest) a w := by
  refine wpList_plain hgd fun K hK => ?_
  unfold Oper.wp
  simp [execOp, ho, resolve, invoke, builtin, hs, hx, hrun, Result.andThen]
  exact hK _ _ h
theorem wp_run_append {P : Program} {w w' : World} {o : Oper} {a : Act} {K : Act → World → Prop} {Q : Exit → Act → World → Prop} {v u v' : Value} (s x : Operand) (t : TypeId)
    (ho : o.op = .call { callee := .builtin .append, args := #[s, x], argTypes := #[t, t] }) (hs : a.eval s = v) (hx : a.eval x = u) (hrun : (Builtin.append_ #[t, t] o.type #[v, u]).run P w = .ok v' w')
    (h : K (a.put o.dst v') w') : o.wp P a w K Q := by
  unfold Oper.wp execOp
  simp only [ho, resolve, invoke, builtin, Sem.run_bind, Sem.run_pure, Result.andThen_ok, List.map_toArray, List.map_cons, List.map_nil, hs, hx, hrun]
  exact h
theorem box_at {w : World} {q : Nat} {y : En} (hq : w.heap[q]? = some (.cells #[.slice y.ka y.e.key.length y.kc, .slice y.va y.e.val.length y.vc, .bool y.e.del] 65 (0, 0))) : ∀ j u, y.cells[j]? = some u → w.cell? ((⟨q, 0, none⟩ : Addr).add j) = some u := fun j u hj => by
  rw [Addr.add_lit, World.cell?, hq]
  simp only [Nat.zero_add, En.cells] at hj ⊢
  simpa using hj
theorem cells_one (y : En) : ∀ u ∈ y.cells, u.oneCell' = true := by
  intro u hu
  simp only [En.cells, List.mem_cons, List.not_mem_nil, or_false] at hu
  rcases hu with rfl | rfl | rfl <;> rfl
theorem box_news (w : World) (y : En) : ∀ j u, y.cells[j]? = some u → (w.alloc (.cells #[.slice y.ka y.e.key.length y.kc, .slice y.va y.e.val.length y.vc, .bool y.e.del] 65)).cell? ((⟨w.heap.size, 0, none⟩ : Addr).add j) = some u := box_at (heap_alloc_new w _)
theorem row_keep {B : Nat} {w W : World} {v : Value} {n : Nat} {cs : List Value} (h : w.ownsRow B 65 3 v n cs) (hb : Below w.heap.size w W) : W.ownsRow B 65 3 v n cs := row_of_block h fun k hk => hb.block k (row_at h hk).2.1
/-- one span more, behind the others. -/
theorem app_row {B : Nat} {wr W : World} {v : Value} {ys : List En} (y : En) (hrow : wr.ownsRow B 65 3 v ys.length (rowc ys)) (hB : B ≤ wr.heap.size) (hb : Below wr.heap.size wr W) (hy : ys.length ≤ 100000) :
    ∃ v6 w6, (Builtin.append_ #[23, 23] 23 #[v, .slice (some ⟨W.heap.size, 0, none⟩) 1 1]).run Try.prog (W.alloc (.cells #[.slice y.ka y.e.key.length y.kc, .slice y.va y.e.val.length y.vc, .bool y.e.del] 65)) = .ok v6 w6 ∧
      w6.ownsRow B 65 3 v6 (ys ++ [y]).length (rowc (ys ++ [y])) ∧ Mv (fun k => v.ownBlock = some k) wr w6 ∧ (∀ k, v6.ownBlock = some k → v.ownBlock = some k ∨ wr.heap.size ≤ k) ∧ W.heap.size < w6.heap.size ∧ (∀ k, k < W.heap.size → v.ownBlock ≠ some k → w6.heap[k]? = W.heap[k]?) := by
  obtain ⟨i0, hi, hz0, hz1, hz2⟩ := info_parts Try.infoE
  have hB3 : Below W.heap.size W (W.alloc (.cells #[.slice y.ka y.e.key.length y.kc, .slice y.va y.e.val.length y.vc, .bool y.e.del] 65)) := below_alloc _ _
  have hb3 := hb.trans (hB3.mono hb.size)
  obtain ⟨v6, w6, run6, hown6, hg6, -, hloc6⟩ := run_append_own_at (P := Try.prog) (w := W.alloc (.cells #[.slice y.ka y.e.key.length y.kc, .slice y.va y.e.val.length y.vc, .bool y.e.del] 65)) B 23 23 65 i0 _ 3 56 Try.underlying23 hi hz0 hz1 hz2 (by rfl) (by omega) v ys.length (rowc ys) (row_keep hrow hb3) ⟨W.heap.size, 0, none⟩ 1 1 y.cells rfl (box_news W y) (cells_one y) (by unfold maxLen; omega) (by omega) (Nat.le_trans hB hb3.size)
  have hs3 : (W.alloc (.cells #[.slice y.ka y.e.key.length y.kc, .slice y.va y.e.val.length y.vc, .bool y.e.del] 65)).heap.size = W.heap.size + 1 := by simp
  have hs6 := hg6.size
  refine ⟨v6, w6, run6, by rw [List.length_append, List.length_singleton, rowc_app, rowc_one]; exact hown6, ?_, fun k hk => ?_, by omega, fun k hk hne => ?_⟩
  · exact ((Mv.refl _ wr).trans' (Mv.of_below hb3)).grown hg6 fun k hk => .inl hk
  · rcases hloc6 with h | h
    · left; rw [← h]; exact hk
    · right; rw [h] at hk; cases hk; have := hb3.size; omega
  · rw [hg6.block k (by omega) (fun e => hne e.symm)]
    exact hB3.block k hk
end Go.Proofs.Ytpoanlbjhhlagaa
