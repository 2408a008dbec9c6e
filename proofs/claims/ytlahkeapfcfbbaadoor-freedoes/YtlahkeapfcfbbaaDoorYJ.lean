/- The marks of a list, loaded and stored whole. -/
import Derived.Test.YtlahkeapfcfbbaaDoorYH
import Derived.Laws.CopyRow
import Derived.Laws.Tables
namespace Go.Proofs.YtlahkeapfcfbbaaDoor
open Go.RowKit Go.Maps
set_option linter.unusedVariables false
/-- the cells of the marks. -/
def mcl (ms : List Nat) : List Value := ms.map fun (x : Nat) => Value.int .u64 (x : Int)
theorem mcl_len (ms : List Nat) : (mcl ms).length = ms.length := by simp [mcl]
set_option maxRecDepth 1000000 in
theorem infoMk : (Tryd.prog.info? 76).map (·.size) = some 256 := by kernel_rfl
set_option maxRecDepth 1000000 in
theorem uMk : Tryd.prog.underlying 76 = some (.array 256 57) := by kernel_rfl
theorem run_load_marks (W : World) (l : Nat) (cs : List Value) (hl : cs.length = 256) (hc : ∀ j v, cs[j]? = some v → W.cell? ⟨l, j, none⟩ = some v) : (Instr.loadAt 76 (.pointer (some ⟨l, 0, none⟩))).run Tryd.prog W = .ok (.agg cs.toArray) W := by
  have h1 : (loadCells ⟨l, 0, none⟩ cs.length).run Tryd.prog W = .ok cs.toArray W :=
    run_loadCells_list (P := Tryd.prog) W ⟨l, 0, none⟩ cs (fun j v hv => by
      rw [Addr.add_lit, Nat.zero_add]; exact hc j v hv)
  rw [hl] at h1
  simp only [Instr.loadAt, Instr.sureAddr, Sem.run_bind, Sem.run_pure, Result.andThen]
  cases hq : Tryd.prog.info? 76 with
  | none => have := infoMk; simp [hq] at this
  | some i =>
    have hs : i.size = 256 := by have := infoMk; simpa [hq] using this
    have hagg : (isAgg 76).run Tryd.prog W = .ok true W := by
      unfold isAgg
      rw [Sem.run_bind, run_underlying uMk W]
      rfl
    unfold loadVar
    simp only [Sem.run_bind, hagg, Result.andThen_ok, if_true]
    simp [sizeOf, typeInfo, hq, hs, h1]
theorem run_store_marks (W : World) (g : Nat) (t : TypeId) (cur : Array Value) (hg : W.heap[g]? = some (.cells cur t (0, 0))) (hn : 256 ≤ cur.size) (cs : List Value) (hl : cs.length = 256) (h1 : ∀ v ∈ cs, v.oneCell' = true) : (Instr.storeAt 76 (.pointer (some ⟨g, 0, none⟩)) (.agg cs.toArray)).run Tryd.prog W = .ok () (W.setRow g (cs ++ cur.toList.drop 256).toArray) := by
  have h2 := run_storeCells_at (P := Tryd.prog) g 0 t cs 0 cur W hg (by omega) h1
  simp only [Nat.zero_add, List.take_zero, List.nil_append, hl] at h2
  simp only [Instr.storeAt, Instr.sureAddr, Sem.run_bind, Sem.run_pure, Result.andThen]
  cases hq : Tryd.prog.info? 76 with
  | none => have := infoMk; simp [hq] at this
  | some i =>
    have hs : i.size = 256 := by have := infoMk; simpa [hq] using this
    simp [storeVar, sizeOf, typeInfo, hq, Value.cells, hs, hl, h2]
theorem wp_load_marks {o : Oper} {a : Act} {w : World} {K : Act → World → Prop} {Q : Exit → Act → World → Prop} (x : Operand) (ho : o.op = .load 76 x) (l : Nat) (hx : a.eval x = .pointer (some ⟨l, 0, none⟩)) (cs : List Value) (hl : cs.length = 256) (hc : ∀ j v, cs[j]? = some v → w.cell? ⟨l, j, none⟩ = some v)
    (h : K (a.put o.dst (.agg cs.toArray)) w) : o.wp Tryd.prog a w K Q := by
  unfold Oper.wp execOp
  simp only [ho, Sem.run_bind, hx, run_load_marks w l cs hl hc, Result.andThen_ok]
  exact h
theorem wp_store_marks {o : Oper} {a : Act} {w : World} {K : Act → World → Prop} {Q : Exit → Act → World → Prop} (x y : Operand) (ho : o.op = .store 76 x y) (g : Nat) (hx : a.eval x = .pointer (some ⟨g, 0, none⟩)) (cs : List Value) (hy : a.eval y = .agg cs.toArray) (t : TypeId) (cur : Array Value) (hg : w.heap[g]? = some (.cells cur t (0, 0))) (hn : 256 ≤ cur.size) (hl : cs.length = 256) (h1 : ∀ v ∈ cs, v.oneCell' = true)
    (h : K (a.put o.dst undef) (w.setRow g (cs ++ cur.toList.drop 256).toArray)) : o.wp Tryd.prog a w K Q := by
  unfold Oper.wp execOp
  simp only [ho, Sem.run_bind, hx, hy, run_store_marks w g t cur hg hn cs hl h1, Result.andThen_ok]
  exact h
theorem mcl_cells (ms : List Nat) : ∀ v ∈ mcl ms, v.oneCell' = true := by
  intro v hv
  simp only [mcl, List.mem_map] at hv
  obtain ⟨x, _, rfl⟩ := hv
  rfl
theorem lcl_store {ms1 ms : List Nat} (h1 : ms1.length = 256) (R : Int) (pw pr : Nat) : (mcl ms ++ (lcl ms1 R pw pr).toArray.toList.drop 256).toArray = (lcl ms R pw pr).toArray := by
  unfold lcl mcl
  rw [List.drop_append_of_le_length (by simp [h1])]
  rw [List.drop_of_length_le (by simp [h1])]
  rfl
end Go.Proofs.YtlahkeapfcfbbaaDoor
