/- A write of the cache is built of its number and its bytes. -/
import Derived.Test.YtkkjppdooaipiaaDE
import Derived.Great.BuildSlice
namespace Go.Proofs.Ytkkjppdooaipiaa
open Go.RowKit Go.Maps
set_option linter.unusedVariables false

theorem fold_set (off : Nat) : ∀ (vs : List Value) (k : Nat) (cells : Array Value), off + k + vs.length ≤ cells.size →
    (vs.zipIdx k).foldl (fun cs (x : Value × Nat) => cs.setIfInBounds (off + x.2) x.1) cells = (cells.toList.take (off + k) ++ vs ++ cells.toList.drop (off + k + vs.length)).toArray
  | [], k, cells, _ => by simp
  | v :: vs, k, cells, h => by
    simp only [List.length_cons] at h
    rw [List.zipIdx_cons, List.foldl_cons, fold_set off vs (k + 1) _ (by simp; omega)]
    congr 1
    have e := list_seg_step cells.toList (off + k) v vs (by simp; omega)
    simpa [Array.toList_setIfInBounds, Nat.add_assoc] using e
theorem fill_one (place : Nat → Option (Nat × Nat)) (cells : Array Value) (i off : Nat) (v : Value) (rest : List (Nat × Value)) (hp : place i = some (off, v.cells.size)) (hs : off + v.cells.size ≤ cells.size) :
    Instr.fill place cells ((i, v) :: rest) = Instr.fill place (cells.toList.take off ++ v.cells.toList ++ cells.toList.drop (off + v.cells.size)).toArray rest := by
  rw [Instr.fill, hp]
  have e : v.cells.zipIdx.foldl (fun cs (x : Value × Nat) => cs.setIfInBounds (off + x.2) x.1) cells = (cells.toList.take off ++ v.cells.toList ++ cells.toList.drop (off + v.cells.size)).toArray := by
    have := fold_set off v.cells.toList 0 cells (by simpa using hs)
    rw [← Array.foldl_toList, Array.toList_zipIdx, this]
    simp
  have e2 : (v.cells.size ≠ v.cells.size || off + v.cells.size > cells.size) = false := by simp; omega
  simp only [e2, Bool.false_eq_true, if_false]
  exact congrArg (fun c => Instr.fill place c rest) e
def z117 : Array Value := #[.int .i64 0] ++ Array.replicate 128 (.int .u8 0)
theorem info117 : (Try.prog.info? 112).map (fun i => (i.zero, i.size, i.bytes)) = some (some (.agg z117), 129, 136) := by kernel_rfl
theorem size117 : (Try.prog.info? 112).map (·.size) = some 129 := by kernel_rfl
theorem size3 : (Try.prog.info? 3).map (·.size) = some 1 := by kernel_rfl
set_option maxRecDepth 100000 in
theorem built117 (n : Int) (A : List Value) (hA : A.length = 128) : Try.prog.built 112 [(0, .int .i64 n), (1, .agg A.toArray)] = some (Value.int .i64 n :: A).toArray := by
  obtain ⟨it, hi, hz, hs, hb⟩ := info_parts info117
  have h3 := size3
  have h110 := size110
  cases h3' : Try.prog.info? 3 with
  | none => rw [h3'] at h3; cases h3
  | some i3 =>
    cases h110' : Try.prog.info? 93 with
    | none => rw [h110'] at h110; cases h110
    | some i110 =>
      rw [h3'] at h3
      rw [h110'] at h110
      simp only [Option.map_some, Option.some.injEq] at h3 h110
      unfold Program.built
      rw [hi, Try.underlying112]
      simp only [hz, List.mapM_cons, List.mapM_nil, h3', h110', Option.map_some, Option.bind_eq_bind, Option.bind_some, Option.pure_def, h3, h110, Value.cells]
      rw [fill_one _ _ 0 0 (.int .i64 n) _ rfl (by simp [z117, Value.cells]), fill_one _ _ 1 1 (.agg A.toArray) _ (by simp [Value.cells, hA]) (by simp [z117, Value.cells, hA])]
      simp only [Instr.fill, Option.some.injEq]
      simp [z117, Value.cells, hA]
theorem slice91 (n : Int) (A : List Value) (hA : A.length = 128) (w : World) : (Instr.buildSlice 57 1 #[(0, .agg (Value.int .i64 n :: A).toArray)]).run Try.prog w = .ok (.slice (some ⟨w.heap.size, 0, none⟩) 1 1) (w.alloc (.cells (Value.int .i64 n :: A).toArray 112)) := by
  obtain ⟨it, hi, hz, hs, hb⟩ := info_parts info117
  refine run_buildSlice w 57 112 1 _ _ it _ Try.underlying57 hi hz (by rw [hs]; decide) (by rw [hs]; decide) ?_
  rw [hs]
  show Instr.fill _ _ [(0, Value.agg _)] = _
  rw [fill_one _ _ 0 0 _ _ (by simp [Value.cells, hA]) (by simp [Value.cells, hA])]
  simp only [Instr.fill, Option.some.injEq]
  simp [Value.cells, hA]
end Go.Proofs.Ytkkjppdooaipiaa
