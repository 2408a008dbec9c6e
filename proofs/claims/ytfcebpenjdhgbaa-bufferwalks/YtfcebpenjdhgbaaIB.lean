/- slices.Insert of one entry into a list that has room for itself alone. -/
import Derived.Test.YtfcebpenjdhgbaaFB
import Derived.Laws.CopyOwn
import Derived.Lib.Overlaps
import Derived.Lib.AppendZerosOnto
namespace Go.Proofs.Ytfcebpenjdhgbaa
open Go.RowKit
set_option linter.unusedVariables false

theorem cells_one (y : En) : ∀ u ∈ y.cells, u.oneCell' = true := fun u hu => rowc_one_cell [y] u (by rw [rowc_one]; exact hu)
theorem rowc_drop (xs : List En) (k : Nat) : rowc (xs.drop k) = (rowc xs).drop (k * 3) := by
  induction k generalizing xs with
  | zero => simp
  | succ k ih => cases xs with
    | nil => simp [rowc]
    | cons x xs =>
      have e : rowc (x :: xs) = x.cells ++ rowc xs := by simp [rowc]
      rw [List.drop_succ_cons, ih, e, List.drop_append, En.cells_len, (List.drop_eq_nil_of_le (by rw [En.cells_len]; omega) : x.cells.drop ((k + 1) * 3) = []), List.nil_append, show (k + 1) * 3 - 3 = k * 3 by omega]
theorem wpList_run_append {P : Program} {w w' : World} {ops : Array Oper} {rest : List Oper} {o : Oper} {a : Act} {Q : Exit → Act → World → Prop} {v u v' : Value} (hgd : o.guard = none) (s x : Operand) (t : TypeId)
    (ho : o.op = .call { callee := .builtin .append, args := #[s, x], argTypes := #[t, t] }) (hs : a.eval s = v) (hx : a.eval x = u) (hrun : (Builtin.append_ #[t, t] o.type #[v, u]).run P w = .ok v' w')
    (h : wpList P ops Q rest (a.put o.dst v') w') : wpList P ops Q (o :: rest) a w := by
  refine wpList_plain hgd fun K hK => ?_
  unfold Oper.wp
  simp [execOp, ho, resolve, invoke, builtin, hs, hx, hrun, Result.andThen]
  exact hK _ _ h
/-- a copy of elements of three cells, into a row that is known whole. -/
theorem run_copy_row3 {P : Program} (w : World) (dT sT ty elem : TypeId) (g o dLen dCap : Nat) (a : Addr) (sLen sCap : Nat) (cur : Array Value) (t : TypeId) (cs : List Value)
    (hu : P.underlying dT = some (.slice elem)) (hs : (P.info? elem).map (·.size) = some 3)
    (hg : w.heap[g]? = some (.cells cur t (0, 0))) (k : Nat) (hk : k = Nat.min sLen dLen) (hn : cs.length = k * 3)
    (hsrc : ∀ j v, cs[j]? = some v → w.cell? (a.add j) = some v) (hfit : o + cs.length ≤ cur.size) (h1 : ∀ v ∈ cs, v.oneCell' = true) :
    (Builtin.copy_ #[dT, sT] ty #[.slice (some ⟨g, o, none⟩) dLen dCap, .slice (some a) sLen sCap]).run P w =
      .ok (goInt k) (w.setRow g (cur.toList.take o ++ cs ++ cur.toList.drop (o + cs.length)).toArray) := by
  have hl := run_loadCells_list (P := P) w a cs hsrc
  have hst := run_storeCells_at P g o t cs 0 cur w hg (by simpa using hfit) h1
  cases hq : P.info? elem with
  | none => simp [hq] at hs
  | some i =>
    have hi : i.size = 3 := by simpa [hq] using hs
    simp [Builtin.copy_, run_underlying hu, Builtin.lenOf, Builtin.firstCells, sizeOf, typeInfo, hq, hi, ← hk, ← hn, hl, hst]
theorem wpList_run_append2 {P : Program} {w w' : World} {ops : Array Oper} {rest : List Oper} {o : Oper} {a : Act} {Q : Exit → Act → World → Prop} {v u v' : Value} (hgd : o.guard = none) (s x : Operand) (t tn : TypeId)
    (ho : o.op = .call { callee := .builtin .append, args := #[s, x], argTypes := #[t, tn] }) (hs : a.eval s = v) (hx : a.eval x = u) (hrun : (Builtin.append_ #[t, tn] o.type #[v, u]).run P w = .ok v' w')
    (h : wpList P ops Q rest (a.put o.dst v') w') : wpList P ops Q (o :: rest) a w := by
  refine wpList_plain hgd fun K hK => ?_
  unfold Oper.wp
  simp [execOp, ho, resolve, invoke, builtin, hs, hx, hrun, Result.andThen]
  exact hK _ _ h
theorem wpList_run_copy {P : Program} {w w' : World} {ops : Array Oper} {rest : List Oper} {o : Oper} {a : Act} {Q : Exit → Act → World → Prop} {v u v' : Value} (hgd : o.guard = none) (s x : Operand) (t tn : TypeId)
    (ho : o.op = .call { callee := .builtin .copy, args := #[s, x], argTypes := #[t, tn] }) (hs : a.eval s = v) (hx : a.eval x = u) (hrun : (Builtin.copy_ #[t, tn] o.type #[v, u]).run P w = .ok v' w')
    (h : wpList P ops Q rest (a.put o.dst v') w') : wpList P ops Q (o :: rest) a w := by
  refine wpList_plain hgd fun K hK => ?_
  unfold Oper.wp
  simp [execOp, ho, resolve, invoke, builtin, hs, hx, hrun, Result.andThen]
  exact hK _ _ h
theorem row_two (R A Y C : List Value) (i n : Nat) (hA : A.length = i * 3) (hY : Y.length = 3) (hC : C.length = (n - i) * 3) (hi : i < n) (hR : R.take (i * 3) = A) (hRl : (n + 1) * 3 ≤ R.length) :
    (R.take (i * 3) ++ Y ++ R.drop (i * 3 + Y.length)).length = R.length ∧
    ((R.take (i * 3) ++ Y ++ R.drop (i * 3 + Y.length)).take ((i + 1) * 3) ++ C ++ (R.take (i * 3) ++ Y ++ R.drop (i * 3 + Y.length)).drop ((i + 1) * 3 + C.length)).length = R.length ∧
    ((R.take (i * 3) ++ Y ++ R.drop (i * 3 + Y.length)).take ((i + 1) * 3) ++ C ++ (R.take (i * 3) ++ Y ++ R.drop (i * 3 + Y.length)).drop ((i + 1) * 3 + C.length)).take ((n + 1) * 3) = A ++ Y ++ C := by
  have h1 : (R.take (i * 3) ++ Y ++ R.drop (i * 3 + Y.length)).length = R.length := by simp only [List.length_append, List.length_take, List.length_drop]; omega
  have h2 : (R.take (i * 3) ++ Y ++ R.drop (i * 3 + Y.length)).take ((i + 1) * 3) = A ++ Y := by
    rw [hR]
    exact List.take_left' (by rw [List.length_append]; omega)
  refine ⟨h1, ?_, ?_⟩
  · rw [h2]
    simp only [List.length_append, List.length_drop, List.length_take]
    omega
  · rw [h2]
    exact List.take_left' (by simp only [List.length_append]; omega)
set_option maxHeartbeats 1600000 in
set_option maxRecDepth 1000000 in
theorem insert_mid (g q n i : Nat) (ys : List En) (y : En) (w : World) (hi : i < n) (hn : n ≤ 1000000) (hl : ys.length = n) (hcs : ∀ j u, (rowc ys)[j]? = some u → w.cell? ⟨g, j, none⟩ = some u) (hy : ∀ j u, y.cells[j]? = some u → w.cell? ⟨q, j, none⟩ = some u) :
    Calls Try.prog 46 #[.slice (some ⟨g, 0, none⟩) n n, .int .i64 (i : Int), .slice (some ⟨q, 0, none⟩) 1 1] w fun e w' => ∃ G, e = .returned (.slice (some ⟨w.heap.size, 0, none⟩) (n + 1) G) ∧ w'.ownsRow w.heap.size 36 3 (.slice (some ⟨w.heap.size, 0, none⟩) (n + 1) G) (n + 1) (rowc (ys.take i ++ y :: ys.drop i)) ∧ Below w.heap.size w w' := by
  obtain ⟨i0, hi0, hz0, hzs, hzb⟩ := info_parts Try.infoE
  have hold : (Builtin.firstCells i0.size i (.slice (some ⟨g, 0, none⟩) i n)).run Try.prog w.drew = .ok ((rowc ys).take (i * 3)).toArray w.drew := by
    rw [hzs]
    exact run_firstCells_some w.drew 3 i ⟨g, 0, none⟩ i n ((rowc ys).take (i * 3)) (by rw [List.length_take, rowc_len]; omega) (fun j v hj => by
      rw [Addr.add_lit]
      rw [List.getElem?_take] at hj
      split at hj
      · simpa using hcs j v hj
      · cases hj)
  have hik : i + (n + 1 - i) = n + 1 := by omega
  have hkk : (n : Int) + 1 - (i : Int) = ((n + 1 - i : Nat) : Int) := by omega
  obtain ⟨G, hG⟩ : ∃ G, G = grownCap w (n + 1) n 36 := ⟨_, rfl⟩
  have hGn : n + 1 ≤ G := by rw [hG]; exact grownCap_ge _ _ _ _
  have hGm : G ≤ 9223372036854775807 := by have := grownCap_le_maxLen w (n + 1) n 36 (by unfold maxLen; omega); unfold maxLen at this; omega
  have hrz : (Builtin.append_ #[30, 3] 30 #[.slice (some ⟨g, 0, none⟩) i n, .int .i64 ((n : Int) + 1 - (i : Int))]).run Try.prog w =
      .ok (.slice (some ⟨w.heap.size, 0, none⟩) (n + 1) G) (w.drew.alloc (.cells (((rowc ys).take (i * 3)).toArray ++ Builtin.zeroCells (Value.agg #[.slice none 0 0, .slice none 0 0, .bool false]).cells (n + 1 - i) ++ Builtin.zeroCells (Value.agg #[.slice none 0 0, .slice none 0 0, .bool false]).cells (G - (n + 1))) 36)) := by
    have h := Lib.run_append_grow_zeros (P := Try.prog) w 30 3 30 36 i0 _ .i64 .i64 Try.underlying30 Try.underlying3 hi0 hz0 (some ⟨g, 0, none⟩) i n ((rowc ys).take (i * 3)) hold (n + 1 - i) (by omega) (by omega) (by omega) (by omega) (by rw [hzb]; omega) (by rw [hzb, hik]; exact growslice_fits (by omega) (by omega))
    rw [hik, ← hG] at h
    rw [hkk]
    exact h
  obtain ⟨ROW, hROW⟩ : ∃ ROW : Array Value, ROW = ((rowc ys).take (i * 3)).toArray ++ Builtin.zeroCells (Value.agg #[.slice none 0 0, .slice none 0 0, .bool false]).cells (n + 1 - i) ++ Builtin.zeroCells (Value.agg #[.slice none 0 0, .slice none 0 0, .bool false]).cells (G - (n + 1)) := ⟨_, rfl⟩
  rw [← hROW] at hrz
  have hRs : ROW.size = G * 3 := by
    rw [hROW]
    simp [Builtin.zeroCells, Value.cells, rowc_len, hl]
    omega
  have hRt : ROW.toList.take (i * 3) = rowc (ys.take i) := by
    rw [hROW]
    simp only [Array.toList_append, List.append_assoc]
    rw [List.take_left' (by rw [List.length_take, rowc_len]; omega)]
    conv => lhs; rw [← List.take_append_drop i ys, rowc_app]
    exact List.take_left' (by rw [rowc_len, List.length_take]; omega)
  have hq : q < w.heap.size := World.block_lt_of_cell? w ⟨q, 0, none⟩ (hy 0 _ rfl)
  have hgl : g < w.heap.size := by
    obtain ⟨u, hu⟩ : ∃ u, (rowc ys)[0]? = some u := ⟨_, List.getElem?_eq_getElem (by rw [rowc_len]; omega)⟩
    exact World.block_lt_of_cell? w ⟨g, 0, none⟩ (hcs 0 u hu)
  obtain ⟨W1, hW1⟩ : ∃ W1, W1 = (w.alloc (.cells ROW 36)).drew := ⟨_, rfl⟩
  have hB1 : Below w.heap.size w W1 := by rw [hW1]; exact (below_alloc w _).drew
  have hg1 : W1.heap[w.heap.size]? = some (.cells ROW 36 (0, 0)) := by rw [hW1]; exact heap_alloc_new w _
  have hsz3 : (Try.prog.info? 36).map (·.size) = some 3 := by rw [hi0]; simp [hzs]
  obtain ⟨R2, hR2⟩ : ∃ R2 : Array Value, R2 = (ROW.toList.take (i * 3) ++ y.cells ++ ROW.toList.drop (i * 3 + y.cells.length)).toArray := ⟨_, rfl⟩
  have hCl : (rowc (ys.drop i)).length = (n - i) * 3 := by rw [rowc_len, List.length_drop, hl]
  have hAl : (rowc (ys.take i)).length = i * 3 := by rw [rowc_len, List.length_take]; omega
  obtain ⟨t1, t2, t3⟩ := row_two ROW.toList (rowc (ys.take i)) y.cells (rowc (ys.drop i)) i n hAl rfl hCl hi hRt (by rw [Array.length_toList, hRs]; omega)
  have hRs2 : R2.size = G * 3 := by rw [hR2, List.size_toArray, t1, Array.length_toList, hRs]
  have run1 := run_copy_row3 (P := Try.prog) W1 30 30 3 36 w.heap.size (i * 3) (n + 1 - i) (G - i) ⟨q, 0, none⟩ 1 1 ROW 36 y.cells Try.underlying30 hsz3 hg1 1 (by simp only [Nat.min_def]; split <;> omega) rfl (fun j v hj => by rw [Addr.add_lit]; have := (hB1.cell (p := ⟨q, 0 + j, none⟩) hq); rw [this]; simpa using hy j v hj) (by rw [hRs]; simp [En.cells]; omega) (cells_one y)
  rw [← hR2] at run1
  obtain ⟨W2, hW2⟩ : ∃ W2, W2 = W1.setRow w.heap.size R2 := ⟨_, rfl⟩
  have hB2 : Below w.heap.size w W2 := by rw [hW2]; exact below_setRow hB1 (Nat.le_refl _) _
  have hg2 : W2.heap[w.heap.size]? = some (.cells R2 36 (0, 0)) := by rw [hW2]; exact setRow_heap W1 w.heap.size _ _ _ _ hg1
  rw [← hW2, hW1] at run1
  obtain ⟨R3, hR3⟩ : ∃ R3 : Array Value, R3 = (R2.toList.take ((i + 1) * 3) ++ rowc (ys.drop i) ++ R2.toList.drop ((i + 1) * 3 + (rowc (ys.drop i)).length)).toArray := ⟨_, rfl⟩
  have run2 := run_copy_row3 (P := Try.prog) W2.drew 30 30 3 36 w.heap.size ((i + 1) * 3) (n - i) (G - (i + 1)) ⟨g, i * 3, none⟩ (n - i) (n - i) R2 36 (rowc (ys.drop i)) Try.underlying30 hsz3 hg2 (n - i) (by simp only [Nat.min_def]; split <;> omega) hCl (fun j v hj => by rw [Addr.add_lit]; rw [rowc_drop, List.getElem?_drop] at hj; have := (hB2.drew.cell (p := ⟨g, i * 3 + j, none⟩) hgl); rw [this]; exact hcs _ v hj) (by rw [hRs2, hCl]; omega) (rowc_one_cell _)
  rw [← hR3] at run2
  obtain ⟨W3, hW3⟩ : ∃ W3, W3 = W2.drew.setRow w.heap.size R3 := ⟨_, rfl⟩
  have hB3 : Below w.heap.size w W3 := by rw [hW3]; exact below_setRow hB2.drew (Nat.le_refl _) _
  have hg3 : W3.heap[w.heap.size]? = some (.cells R3 36 (0, 0)) := by rw [hW3]; exact setRow_heap W2.drew w.heap.size _ _ _ _ hg2
  rw [← hW3] at run2
  have hown : W3.ownsRow w.heap.size 36 3 (.slice (some ⟨w.heap.size, 0, none⟩) (n + 1) G) (n + 1) (rowc (ys.take i ++ y :: ys.drop i)) := by
    have e : rowc (ys.take i ++ y :: ys.drop i) = rowc (ys.take i) ++ y.cells ++ rowc (ys.drop i) := by simp [rowc]
    refine ⟨by rw [e]; simp only [List.length_append, hAl, hCl, En.cells_len]; omega, .inr ⟨w.heap.size, G, R3, rfl, Nat.le_refl _, hg3, hGn, by unfold maxLen; omega, ?_, ?_⟩⟩
    · rw [hR3, List.size_toArray, hR2]
      exact t2.trans (by rw [Array.length_toList, hRs])
    · rw [hR3, hR2, e]
      exact t3
  have HOwn := hide hown
  have HB3 := hide hB3
  clear hROW hold hcs hy hkk hik hG hRt hW1 hB1 hg1 hR2 t1 t2 t3 hW2 hB2 hg2 hR3 hW3 hB3 hg3 hown hCl hAl hRs hRs2 hsz3
  go_enter Try.func46, Try.ntmps46
  have hz2 : ¬ ((i : Int) = (n : Int)) := by omega
  have hz3 : (n : Int) < (n : Int) + 1 := by omega
  go_wp2_with (at_builtin; (refine wpList_run_append2 (by rfl) (.tmp 34) (.tmp 39) 30 3 (by rfl) (by rfl) (by rfl) hrz ?_))
  have c1 : ¬ (G - (i + 1) = 0) := by omega
  have c2 : ¬ (i + 1 = G) := by omega
  have c3 : ((i : Int) + 1).toNat = i + 1 := by omega
  have c4 : IntKind.i64.wrap ((i : Int) + 1) = (i : Int) + 1 := by rw [IntKind.wrap_i64] <;> omega
  have c5 : ¬ (n - i = 0) := by omega
  have c6 : ¬ (i = n) := by omega
  have c7 : (i : Int) + 1 ≤ (n : Int) + 1 := by omega
  have c8 : ¬ (G = i + 1) := by omega
  have c9 : ¬ ((i : Int) + 1 < 0) := by omega
  have c10 : i + 1 ≤ n + 1 := by omega
  have c11 : (0 : Int) ≤ (i : Int) := by omega
  have c12 : (i : Int) ≤ (n : Int) := by omega
  have c13 : (0 : Int) ≤ (i : Int) + 1 := by omega
  have c14 : (i : Int) + 1 ≤ (G : Int) := by omega
  have c15 : (i : Int) < (n : Int) := by omega
  have c16 : ¬ (n : Int) < (i : Int) := by omega
  have c17 : ¬ (i : Int) < 0 := by omega
  have c18 : ¬ (n : Int) + 1 < (i : Int) + 1 := by omega
  have c19 : ¬ n < i := by omega
  have c20 : ¬ n ≤ i := by omega
  have c21 : ¬ n + 1 < i + 1 := by omega
  have c22 : ¬ G ≤ i + 1 := by omega
  go_region_with (fail)
  go_wp2
  go_ret
  exact ⟨G, rfl, HOwn.out, HB3.out⟩
end Go.Proofs.Ytfcebpenjdhgbaa
