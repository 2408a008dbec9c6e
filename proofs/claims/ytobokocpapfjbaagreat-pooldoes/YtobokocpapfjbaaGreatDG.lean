/- A sector out of bytes; a write into the cache. -/
import Derived.Test.YtobokocpapfjbaaGreatDD
import Derived.Deep.WholeRow
import Derived.Great.BuildSlice
import Derived.Laws.Cover3
import Derived.Deep.RegionHeld3
namespace Go.Proofs.YtobokocpapfjbaaGreat
open Go.RowKit Go.Maps
set_option linter.unusedVariables false

def z110 : Array Value := Array.replicate 128 (.int .u8 0)
theorem zero110 : ∀ w, (zeroValue 114).run Tryz.prog w = .ok (.agg z110) w := (zero_of_info (P := Tryz.prog) (t := 114) (v := .agg z110) (n := 128) (by kernel_rfl)).1
theorem size110 : (Tryz.prog.info? 114).map (·.size) = some 128 := by kernel_rfl
theorem Row.range {w : World} {b off : Nat} {zs : List Int} (h : Row w (some ⟨b, off, none⟩) zs) (k n : Nat) (hk : k + n ≤ zs.length) : w.rangeAt b (off + k) (sv ((zs.drop k).take n)) := by
  intro j v hv
  rcases h with h | ⟨b', off', e, hlt, hc⟩
  · subst h; simp [sv] at hv
  · cases e
    have hj : j < n := by
      have := (List.getElem?_eq_some_iff.1 hv).1
      simp only [sv, List.length_map, List.length_take] at this
      omega
    have := hc (k + j) (by omega)
    rw [Nat.add_assoc, this]
    rw [← hv]
    simp [sv, hj, show k + j < zs.length by omega]

theorem arrayAt110 (a : Option Addr) (n c : Nat) (h : 128 ≤ n) (W : World) : (Instr.arrayAt 114 (.slice a n c)).run Tryz.prog W = .ok (.pointer a) W := by
  simp [Instr.arrayAt, run_underlying Tryz.underlying114, show ¬ n < 128 by omega]
set_option maxHeartbeats 1600000 in
set_option maxRecDepth 1000000 in
theorem sectorAt_any (b off len cap : Nat) (zs : List Int) (at_ : Nat) (w : World) (hr : Row w (some ⟨b, off, none⟩) zs) (hl : zs.length = len) (hlc : len ≤ cap) (hc : cap ≤ 9223372036854775807) (ha : at_ * 128 + 128 ≤ len) :
    Calls Tryz.prog 41 #[.slice (some ⟨b, off, none⟩) len cap, .int .i64 (at_ : Int)] w fun e w' => e = .returned (.agg (sv ((zs.drop (at_ * 128)).take 128)).toArray) ∧ Below w.heap.size w w' := by
  have HR := hide (World.rangeAt_alloc (hr.range (at_ * 128) 128 (by omega)) (.cells z110 114))
  have hL : (sv ((zs.drop (at_ * 128)).take 128)).length = 128 := by rw [sv_len]; simp; omega
  have h1 := all_oneCell_toArray (sv_one ((zs.drop (at_ * 128)).take 128))
  have hz := zero110
  generalize sv ((zs.drop (at_ * 128)).take 128) = cs at *
  have hat := arrayAt110 (some ⟨b, off + at_ * 128, none⟩) (len - at_ * 128) (cap - at_ * 128) (by omega)
  have HI : Hid ((Tryz.prog.info? 114).map (·.size) = some cs.length) := by rw [hL]; exact size110
  have HI2 : Hid ((Tryz.prog.info? 114).map (·.size) = some cs.toArray.size) := by rw [List.size_toArray, hL]; exact size110
  have HT : Hid ((w.alloc (.cells z110 114)).heap[w.heap.size]? = some (.cells z110 114 (0, 0))) := heap_alloc_new w _
  have HZ : Hid (z110.size = cs.toArray.size) := by simp [z110, hL, Hid]
  have H1 := hide h1
  have HN := hide (heap_alloc_new w (.cells cs.toArray 114))
  have HB := hide (below_alloc w (.cells cs.toArray 114))
  clear hr h1 hL
  go_enter Tryz.func41, Tryz.ntmps41
  go_wp2_with (first | (refine wpList_load_mid (by rfl) 114 (.tmp 9) (by rfl) b (off + at_ * 128) (by rfl) cs _ HR.out Tryz.underlying114 rfl HI.out ?_) | (refine wpList_store_row (by rfl) 114 (.tmp 4) (.tmp 10) (by rfl) w.heap.size cs.toArray (by rfl) (by rfl) 114 z110 HT.out HI2.out HZ.out H1.out ?_; rw [World.setRow_alloc_new]))
  refine bodyPost_ret (v := .agg cs.toArray) ?_ rfl ?_
  · exact results_cell_row (p := 4) (ty := 114) rfl _ _ w.heap.size 114 _ (0, 0) _ rfl HN.out Tryz.underlying114 rfl HI2.out
  · exact ⟨rfl, HB.out⟩
end Go.Proofs.YtobokocpapfjbaaGreat
/- A write of the cache is built of its number and its bytes. -/
namespace Go.Proofs.YtobokocpapfjbaaGreat
open Go.RowKit Go.Maps
set_option linter.unusedVariables false

theorem fold_set (off : Nat) : ∀ (vs : List Value) (k : Nat) (cells : Array Value), off + k + vs.length ≤ cells.size →
    (vs.zipIdx k).foldl (fun cs (x : Value × Nat) => cs.setIfInBounds (off + x.2) x.1) cells = (cells.toList.take (off + k) ++ vs ++ cells.toList.drop (off + k + vs.length)).toArray
  | [], k, cells, _ => by simp
  | v :: vs, k, cells, h => by
    simp only [List.length_cons] at h
    rw [List.zipIdx_cons, List.foldl_cons, fold_set off vs (k + 1) _ (by simp; omega)]
    congr 1
    have e := list_seg_step cells.toList (off + k) v vs (by simp; omega)
    simpa [Array.toList_setIfInBounds, Nat.add_assoc] using e
theorem fill_one (place : Nat → Option (Nat × Nat)) (cells : Array Value) (i off : Nat) (v : Value) (rest : List (Nat × Value)) (hp : place i = some (off, v.cells.size)) (hs : off + v.cells.size ≤ cells.size) :
    Instr.fill place cells ((i, v) :: rest) = Instr.fill place (cells.toList.take off ++ v.cells.toList ++ cells.toList.drop (off + v.cells.size)).toArray rest := by
  rw [Instr.fill, hp]
  have e : v.cells.zipIdx.foldl (fun cs (x : Value × Nat) => cs.setIfInBounds (off + x.2) x.1) cells = (cells.toList.take off ++ v.cells.toList ++ cells.toList.drop (off + v.cells.size)).toArray := by
    have := fold_set off v.cells.toList 0 cells (by simpa using hs)
    rw [← Array.foldl_toList, Array.toList_zipIdx, this]
    simp
  have e2 : (v.cells.size ≠ v.cells.size || off + v.cells.size > cells.size) = false := by simp; omega
  simp only [e2, Bool.false_eq_true, if_false]
  exact congrArg (fun c => Instr.fill place c rest) e
def z117 : Array Value := #[.int .i64 0] ++ Array.replicate 128 (.int .u8 0)
theorem info117 : (Tryz.prog.info? 165).map (fun i => (i.zero, i.size, i.bytes)) = some (some (.agg z117), 129, 136) := by kernel_rfl
theorem size117 : (Tryz.prog.info? 165).map (·.size) = some 129 := by kernel_rfl
theorem size3 : (Tryz.prog.info? 3).map (·.size) = some 1 := by kernel_rfl
set_option maxRecDepth 100000 in
theorem built117 (n : Int) (A : List Value) (hA : A.length = 128) : Tryz.prog.built 165 [(0, .int .i64 n), (1, .agg A.toArray)] = some (Value.int .i64 n :: A).toArray := by
  obtain ⟨it, hi, hz, hs, hb⟩ := info_parts info117
  have h3 := size3
  have h110 := size110
  cases h3' : Tryz.prog.info? 3 with
  | none => rw [h3'] at h3; cases h3
  | some i3 =>
    cases h110' : Tryz.prog.info? 114 with
    | none => rw [h110'] at h110; cases h110
    | some i110 =>
      rw [h3'] at h3
      rw [h110'] at h110
      simp only [Option.map_some, Option.some.injEq] at h3 h110
      unfold Program.built
      rw [hi, Tryz.underlying165]
      simp only [hz, List.mapM_cons, List.mapM_nil, h3', h110', Option.map_some, Option.bind_eq_bind, Option.bind_some, Option.pure_def, h3, h110, Value.cells]
      rw [fill_one _ _ 0 0 (.int .i64 n) _ rfl (by simp [z117, Value.cells]), fill_one _ _ 1 1 (.agg A.toArray) _ (by simp [Value.cells, hA]) (by simp [z117, Value.cells, hA])]
      simp only [Instr.fill, Option.some.injEq]
      simp [z117, Value.cells, hA]
theorem slice91 (n : Int) (A : List Value) (hA : A.length = 128) (w : World) : (Instr.buildSlice 99 1 #[(0, .agg (Value.int .i64 n :: A).toArray)]).run Tryz.prog w = .ok (.slice (some ⟨w.heap.size, 0, none⟩) 1 1) (w.alloc (.cells (Value.int .i64 n :: A).toArray 165)) := by
  obtain ⟨it, hi, hz, hs, hb⟩ := info_parts info117
  refine run_buildSlice w 99 165 1 _ _ it _ Tryz.underlying99 hi hz (by rw [hs]; decide) (by rw [hs]; decide) ?_
  rw [hs]
  show Instr.fill _ _ [(0, Value.agg _)] = _
  rw [fill_one _ _ 0 0 _ _ (by simp [Value.cells, hA]) (by simp [Value.cells, hA])]
  simp only [Instr.fill, Option.some.injEq]
  simp [Value.cells, hA]
end Go.Proofs.YtobokocpapfjbaaGreat
/- A write goes into the cache. -/
namespace Go.Proofs.YtobokocpapfjbaaGreat
open Go.RowKit Go.Maps
set_option linter.unusedVariables false

theorem map_nil (m : Option Nat) (W : World) : (binOp .eql 100 (.map m) (.map none)).run Tryz.prog W = .ok (.bool m.isNone) W := by
  simp only [binOp]
  simp [run_equal_map_nil W 100 3 3 m Tryz.underlying100]
theorem law3 : Keyed Tryz.prog 3 := int_keyed Tryz.underlying3
def DS.add (S : DS) (n : Nat) (ys : List Int) : DS := { S with ws := S.ws ++ [(n, ys)] }
theorem wflat_len (W : List (Nat × List Int)) (h : ∀ x ∈ W, x.2.length = 128) : (wflat W).length = W.length * 129 := by
  have := flatten_len (n := 129) (W.map wv) (by intro s hs; simp only [List.mem_map] at hs; obtain ⟨x, hx, rfl⟩ := hs; simp [wv, sv_len, h x hx])
  simpa [wflat] using this
theorem wflat_snoc (W : List (Nat × List Int)) (x : Nat × List Int) : wflat (W ++ [x]) = wflat W ++ wv x := by simp [wflat]
theorem DS.Good.add {S : DS} (h : S.Good) (n : Nat) (ys : List Int) (hn : n < S.ls.length) (hy : ys.length = 128) (hb : Byts ys) (hf : S.ws.length + 1 ≤ 1000000) : (S.add n ys).Good :=
  ⟨h.ls, fun x hx => by
    simp only [DS.add, List.mem_append, List.mem_singleton] at hx
    rcases hx with hx | rfl
    · exact h.ws x hx
    · exact ⟨hn, hy, hb⟩, h.most, by simp only [DS.add, List.length_append, List.length_singleton]; exact hf, h.t, h.f1, h.f2, h.f3, h.n1, h.n2, h.n3⟩

theorem grown_setCell (w : World) (p j : Nat) (v : Value) : w.grownBy (w.setCell ⟨p, j, none⟩ v) (some p) :=
  ⟨rfl, rfl, rfl, by simp [World.setCell], fun k _ hne => Below.heap_setCell _ _ _ _ (fun e => hne (by rw [e]))⟩
theorem row_shape {w : World} {base e size : Nat} {v : Value} {n : Nat} {xs : List Value} (h : w.ownsRow base e size v n xs) : ∃ a len cap, v = .slice a len cap := by
  rcases h.2 with ⟨e, _⟩ | ⟨g, cap, cur, e, _⟩
  · exact ⟨_, _, _, e⟩
  · exact ⟨_, _, _, e⟩
theorem World.rangeAt_setCell {w : World} {b o : Nat} {cs : List Value} (h : w.rangeAt b o cs) (b' i : Nat) (v : Value) (hne : b ≠ b') : (w.setCell ⟨b', i, none⟩ v).rangeAt b o cs := fun j u hu => by
  rw [World.cell?_of_block (w := w) (set_other w b' i v b hne)]
  exact h j u hu
theorem step_of {P : Program} {ops : Array Oper} {w : World} {o : Oper} {a : Act} {K : Act → World → Prop} {Q : Exit → Act → World → Prop} {E : Prop} (hgd : o.guard = none) (h : o.wp P a w K Q) :
    if Region.wanted o (yielded ops a.tmps) = true then Oper.wp P o a w K Q else E := by
  have hw : Region.wanted o (yielded ops a.tmps) = true := by simp [Region.wanted, hgd]
  rw [if_pos hw]
  exact h
theorem wp_slice91 {o : Oper} {a : Act} {w : World} {K : Act → World → Prop} {Q : Exit → Act → World → Prop} (x : Operand) (ho : o.op = .buildSlice 99 1 #[(0, x)]) (n : Int) (A : List Value) (hA : A.length = 128) (hx : a.eval x = .agg (Value.int .i64 n :: A).toArray)
    (h : K (a.put o.dst (.slice (some ⟨w.heap.size, 0, none⟩) 1 1)) (w.alloc (.cells (Value.int .i64 n :: A).toArray 165))) : o.wp Tryz.prog a w K Q := by
  unfold Oper.wp execOp
  simp only [ho, Sem.run_bind, List.map_toArray, List.map_cons, List.map_nil, hx, slice91 n A hA w, Result.andThen_ok]
  exact h
theorem wp_append_at {P : Program} {w : World} {o : Oper} {a : Act} {K : Act → World → Prop} {Q : Exit → Act → World → Prop} (s x : Operand) (t e : TypeId) (ho : o.op = .call { callee := .builtin .append, args := #[s, x], argTypes := #[t, t] })
    (base : Nat) (i : TypeInfo) (z : Value) (size bytes : Nat) (ht : P.underlying t = some (.slice e)) (hi : P.info? e = some i) (hz : i.zero = some z) (hsize : i.size = size) (hby : i.bytes = bytes) (hzs : z.cells.size = size) (hsz : 0 < size)
    (v : Value) (n : Nat) (xs : List Value) (hs : a.eval s = v) (hown : w.ownsRow base e size v n xs) (ad : Addr) (m c : Nat) (news : List Value) (hx : a.eval x = .slice (some ad) m c) (hl : news.length = m * size) (hnews : ∀ j u, news[j]? = some u → w.cell? (ad.add j) = some u) (h1 : ∀ u ∈ news, u.oneCell' = true)
    (h63 : n + m ≤ maxLen) (hbytes : (n + m) * bytes ≤ 140737488355328) (hbase : base ≤ w.heap.size)
    (h : ∀ v' w', w'.ownsRow base e size v' (n + m) (xs ++ news) → w.grownBy w' v.ownBlock → (v'.ownBlock = v.ownBlock ∨ v'.ownBlock = some w.heap.size) → K (a.put o.dst v') w') : o.wp P a w K Q := by
  obtain ⟨v', w', hr, h2, h3, _, h4⟩ := run_append_own_at (P := P) w base t o.type e i z size bytes ht hi hz hsize hby hzs hsz v n xs hown ad m c news hl hnews h1 h63 hbytes hbase
  unfold Oper.wp execOp
  simp only [ho, resolve, invoke, builtin, Sem.run_bind, Sem.run_pure, Result.andThen_ok, List.map_toArray, List.map_cons, List.map_nil, hs, hx, hr]
  exact h v' w' h2 h3 h4
theorem yields_build {o : Oper} {a : Act} (n : Int) (A : List Value) (hA : A.length = 128) (w : World) (x y : Operand) (ho : o.op = .build 165 #[(0, x), (1, y)]) (hx : a.eval x = .int .i64 n) (hy : a.eval y = .agg A.toArray) : (execOp a.eval o).run Tryz.prog w = .ok (.value (.agg (Value.int .i64 n :: A).toArray)) w := by
  unfold execOp
  simp only [ho, Sem.run_bind, List.map_toArray, List.map_cons, List.map_nil, hx, hy, run_build w 165 #[(0, .int .i64 n), (1, .agg A.toArray)] _ (built117 n A hA), Result.andThen_ok, Sem.run_pure]
set_option maxHeartbeats 3200000 in
set_option maxRecDepth 1000000 in
theorem add_some (p q : Nat) (vw : Value) (b : Nat) (S : DS) (n : Nat) (ys : List Int) (w : World) (h : Dk w p q vw (some b) S) (hn : n < S.ls.length) (hy : ys.length = 128) (hb : Byts ys) (hf : S.ws.length + 1 ≤ 1000000) :
    Calls Tryz.prog 40 #[.pointer (some ⟨p, 1, none⟩), .int .i64 (n : Int), .agg (sv ys).toArray] w fun e w' => e = .returned (.tuple #[]) ∧ ∃ vw', Dk w' p q vw' (some b) (S.add n ys) ∧ (∀ k, vw'.ownBlock = some k → vw.ownBlock = some k ∨ w.heap.size ≤ k) ∧ Mv (Ow p q vw (some b)) w w' := by
  have HY := hide hy
  have hd0 := h.below (below_alloc w (.cells (sv ys).toArray 114))
  have HD0 := hide hd0
  have k1 := hd0.c 1 vw rfl
  have k2 := hd0.c 2 (.map (some b)) rfl
  obtain ⟨a, len, cap, rfl, hlen⟩ : ∃ a len cap, vw = .slice a len cap ∧ len = S.ws.length := by
    rcases hd0.wri.2 with ⟨e, e2⟩ | ⟨g, cap, cur, e, _⟩
    · exact ⟨none, 0, 0, e, e2.symm⟩
    · exact ⟨_, _, cap, e, rfl⟩
  have HL := hide hlen
  clear hlen hd0
  obtain ⟨N, D, hN, hown, htell⟩ := HD0.out.map
  have hkey : keyOf Tryz.prog 3 (.int .i64 (n : Int)) = some (.int .i64 (n : Int)) := keyOf_int_mk Tryz.underlying3 (WalkArith.wf_i64 (by have := HD0.out.good.most; omega))
  obtain ⟨w1, hrun, hown1, hgrow1⟩ := hown.drew.update law3 Tryz.underlying100 (by unfold maxLen; omega) hkey (plainElem_int Tryz.underlying3 (WalkArith.wf_i64 (n := (S.ws.length : Int)) (by omega)))
  rw [← HL.out] at hrun
  have HO1 := hide hown1
  have HG1 := hide hgrow1
  have HT := hide htell
  have HO0 := hide hown
  clear hown1 hgrow1 htell hown hkey
  have heq := map_nil (some b)
  go_enter Tryz.func40, Tryz.ntmps40
  go_wp2
  go_region
  have hbl : b < w.heap.size := h.lt b (.inr (.inr (.inr rfl)))
  have hpl : p < w.heap.size := h.lt p (.inl rfl)
  have HNe : Hid (w.heap.size ≠ p) := by rw [Hid]; omega
  have HDp : Hid (w1.heap[p]? = some (.cells (cells q (.slice a len cap) (some b) S) 108 (0, 0))) := by
    rw [Hid, HG1.out.block p (lt_of_block HD0.out.blk) (by intro e; cases e; exact HD0.out.pm rfl)]
    exact HD0.out.blk
  have k1' : w1.cell? ⟨p, 1, none⟩ = some (.slice a len cap) := by simp [World.cell?, HDp.out, cells]
  have k1a : (w1.alloc (.cells (Value.int .i64 (n : Int) :: sv ys).toArray 165)).cell? ⟨p, 1, none⟩ = some (.slice a len cap) := by rw [World.cell?_of_block (w := w1) (Below.heap_alloc w1 _ p (lt_of_block HDp.out))]; exact k1'
  have HIm := hide (HO0.out.isMap)
  have HBx : Hid (w1.heap[w.heap.size]? = some (.cells (sv ys).toArray 114 (0, 0))) := by
    rw [Hid, HG1.out.block w.heap.size (lt_of_block (heap_alloc_new w _)) (by intro e; cases e; omega)]
    exact heap_alloc_new w _
  have HRg : Hid (w1.drew.rangeAt w.heap.size 0 (sv ys)) := fun j v hv => by
    rw [cell_of_row w1.drew w.heap.size (0 + j) _ 114 (0, 0) HBx.out]
    simpa using hv
  have HA : Hid ((sv ys).length = 128) := by rw [Hid, sv_len]; exact hy
  have HI : Hid ((Tryz.prog.info? 114).map (·.size) = some (sv ys).length) := by rw [Hid, HA.out]; exact size110
  have HR2 : Hid ((w1.drew.alloc (.cells (Value.int .i64 (n : Int) :: sv ys).toArray 165)).rangeAt w.heap.size 0 (sv ys)) := World.rangeAt_alloc HRg.out _
  have HO1' := hide HD0.out.wri
  have HO2 : Hid ((w1.drew.alloc (.cells (Value.int .i64 (n : Int) :: sv ys).toArray 165)).ownsRow 0 165 129 (.slice a len cap) S.ws.length (wflat S.ws)) := (HD0.out.wri.kept (w' := w1) (row := some b) ⟨HG1.out.os, HG1.out.tape, HG1.out.output, HG1.out.size, HG1.out.block⟩ (by
      right
      intro e
      exact HD0.out.vm b e rfl)).alloc _
  have HWl : Hid ((wv (n, ys)).length = 1 * 129) := by simp [wv, sv_len, hy, Hid]
  have HB1 : Hid (S.ws.length + 1 ≤ maxLen) := by unfold Hid maxLen; omega
  have HB2 : Hid ((S.ws.length + 1) * 136 ≤ 140737488355328) := by rw [Hid]; omega
  have HNw : Hid (∀ j u, (wv (n, ys))[j]? = some u → (w1.drew.alloc (.cells (Value.int .i64 (n : Int) :: sv ys).toArray 165)).cell? ((⟨w1.drew.heap.size, 0, none⟩ : Addr).add j) = some u) := fun j u hu => by
    rw [Addr.add_lit, cell_of_row _ _ (0 + j) _ 165 (0, 0) (heap_alloc_new w1.drew _)]
    simpa [wv] using hu
  have HPp : Hid (∀ w2, (w1.drew.alloc (.cells (Value.int .i64 (n : Int) :: sv ys).toArray 165)).grownBy w2 (Value.slice a len cap).ownBlock → w2.heap[p]? = some (.cells (cells q (.slice a len cap) (some b) S) 108 (0, 0))) := fun w2 hg => by
    rw [hg.block p (Nat.lt_of_lt_of_le (lt_of_block HDp.out) (by simp)) (fun e => HD0.out.pv e.symm), Below.heap_alloc w1.drew _ p (lt_of_block HDp.out)]
    exact HDp.out
  have HRr : Hid (∀ w2, (w1.drew.alloc (.cells (Value.int .i64 (n : Int) :: sv ys).toArray 165)).grownBy w2 (Value.slice a len cap).ownBlock → w2.rangeAt w.heap.size 0 (sv ys)) := fun w2 hg j v hv => by
    refine hg.cell (HR2.out j v hv) (fun e => ?_)
    have := (h.wri.lt w.heap.size e.symm).2
    omega
  have HFin : Hid (∀ v' w2, w2.ownsRow 0 165 129 v' (S.ws.length + 1) (wflat S.ws ++ wv (n, ys)) → (w1.drew.alloc (.cells (Value.int .i64 (n : Int) :: sv ys).toArray 165)).grownBy w2 (Value.slice a len cap).ownBlock → (v'.ownBlock = (Value.slice a len cap).ownBlock ∨ v'.ownBlock = some (w1.drew.alloc (.cells (Value.int .i64 (n : Int) :: sv ys).toArray 165)).heap.size) → w2.heap[p]? = some (.cells (cells q (.slice a len cap) (some b) S) 108 (0, 0)) →
      ∃ vw', Dk (w2.setCell ⟨p, 1, none⟩ v') p q vw' (some b) (S.add n ys) ∧ (∀ k, vw'.ownBlock = some k → (Value.slice a len cap).ownBlock = some k ∨ w.heap.size ≤ k) ∧ Mv (Ow p q (.slice a len cap) (some b)) w (w2.setCell ⟨p, 1, none⟩ v')) := by
    intro v' w2 ho hg hloc hblk
    have hql : q < w.heap.size := h.lt q (.inr (.inl rfl))
    have hsz : w.heap.size < w1.heap.size := Nat.lt_of_lt_of_le (lt_of_block (heap_alloc_new w _)) HG1.out.size
    have hsz2 : (w1.drew.alloc (.cells (Value.int .i64 (n : Int) :: sv ys).toArray 165)).heap.size = w1.heap.size + 1 := by simp [World.alloc]
    have old : ∀ k, k < w.heap.size → k ≠ b → (Value.slice a len cap).ownBlock ≠ some k → w2.heap[k]? = w.heap[k]? := fun k hk h1 h2 => by
      rw [hg.block k (by omega) (fun e => h2 e.symm), Below.heap_alloc w1.drew _ k (by show k < w1.heap.size; omega)]
      show w1.heap[k]? = _
      rw [HG1.out.block k (by show k < (w.alloc _).heap.size; have := lt_of_block (heap_alloc_new w (.cells (sv ys).toArray 114)); omega) (by intro e; cases e; exact h1 rfl)]
      exact Below.heap_alloc w _ k hk
    have hnp : v'.ownBlock ≠ some p := by
      rcases hloc with e | e <;> rw [e]
      · exact h.pv
      · intro e'; cases e'; omega
    have hnq : v'.ownBlock ≠ some q := by
      rcases hloc with e | e <;> rw [e]
      · exact h.qv
      · intro e'; cases e'; omega
    have hnb : v'.ownBlock ≠ some b := by
      rcases hloc with e | e <;> rw [e]
      · exact fun e => h.vm b e rfl
      · intro e'; cases e'; omega
    refine ⟨v', ⟨?_, ?_, ?_, ?_, h.pq, hnp, hnq, h.pm, h.qm, fun k hk e => hnb (by cases e; exact hk), h.good.add n ys hn hy hb hf⟩, ?_, ?_⟩
    · rw [heap_setCell_same w2 p 1 _ 108 _ hblk]; rfl
    · rw [set_other _ _ _ _ _ h.pq.symm, old q hql (fun e => h.qm (by rw [e])) h.qv]
      exact h.las
    · show World.ownsRow _ 0 165 129 v' (S.ws ++ [(n, ys)]).length (wflat (S.ws ++ [(n, ys)]))
      rw [wflat_snoc, List.length_append, List.length_singleton]
      exact ho.kept (row := some p) (grown_setCell w2 p 1 v') (.inr hnp)
    · refine ⟨N + 1, _, by show N + 1 ≤ (S.ws ++ [(n, ys)]).length; simp; exact hN, ?_, HT.out.snoc HIm.out (n, ys)⟩
      exact ((HO1.out.drew.alloc _).kept hg (fun e => h.vm b e.symm rfl)).kept (row := some p) (grown_setCell w2 p 1 v') (by intro e; cases e; exact h.pm rfl)
    · intro k hk
      rcases hloc with e | e
      · left; rw [← e]; exact hk
      · right; rw [e] at hk; cases hk; omega
    · refine ⟨?_, ?_, ?_, ?_, fun k hk ho => ?_⟩
      · show w2.os = _; rw [hg.os]; show w1.os = _; rw [HG1.out.os]; rfl
      · show w2.tape = _; rw [hg.tape]; show w1.tape = _; rw [HG1.out.tape]; rfl
      · show w2.output = _; rw [hg.output]; show w1.output = _; rw [HG1.out.output]; rfl
      · have := hg.size
        simp only [World.size_setCell]
        omega
      · rw [set_other _ _ _ _ _ (fun e => ho (.inl e)), old k hk (fun e => ho (.inr (.inr (.inr (by rw [e]))))) (fun e => ho (.inr (.inr (.inl e))))]
  obtain ⟨i0, hi, hz0, hz1, hz2⟩ := info_parts info117
  clear hrun k1 k2 heq h HO1' hbl hpl
  go_wp2
  refine wp_region_noPanic ?_
  refine wp_region_held_drew (S := (fun W => W.rangeAt w.heap.size 0 (sv ys))) (by kernel_rfl) HRg.out (fun _hS => ?_)
  refine wpAnyH_take (i := 0) (oi := { dst := some 25, op := Op.move (Operand.tmp 0), type := 163, pos := "cache.go:21", after := #[], guard := none }) (v := ?v0x1) rfl (by kernel_rfl) (by kernel_rfl) (by kernel_rfl) (fun _ _ _ h => h) (Or.inl ⟨by rfl, ?hy0x1⟩) (by assumption) ?rest0x1
  case hy0x1 => (intro w hSw; (try dsimp only at hSw); (first | (go_simp; with_reducible rfl) | go_simp))
  try simp only [Act.put, List.setIfInBounds_toArray, List.set_cons_zero, List.set_cons_succ]
  refine wpAnyH_take (i := 1) (oi := { dst := some 26, op := Op.move (Operand.tmp 0), type := 163, pos := "cache.go:21", after := #[], guard := none }) (v := ?v1x2) rfl (by kernel_rfl) (by kernel_rfl) (by kernel_rfl) (fun _ _ _ h => h) (Or.inl ⟨by rfl, ?hy1x2⟩) (by assumption) ?rest1x2
  case hy1x2 => (intro w hSw; (try dsimp only at hSw); (first | (go_simp; with_reducible rfl) | go_simp))
  try simp only [Act.put, List.setIfInBounds_toArray, List.set_cons_zero, List.set_cons_succ]
  refine wpAnyH_take (i := 2) (oi := { dst := some 27, op := Op.nilCheck (Operand.tmp 26), type := 0, pos := "cache.go:21", after := #[{ on := 1, ground := Ground.data }], guard := none }) (v := ?v2x3) rfl (by kernel_rfl) (by kernel_rfl) (by kernel_rfl) (fun _ _ _ h => h) (Or.inl ⟨by rfl, ?hy2x3⟩) (by assumption) ?rest2x3
  case hy2x3 => (intro w hSw; (try dsimp only at hSw); (first | (go_simp; with_reducible rfl) | go_simp))
  try simp only [Act.put, List.setIfInBounds_toArray, List.set_cons_zero, List.set_cons_succ]
  refine wpAnyH_take (i := 3) (oi := { dst := some 28, op := Op.fieldAddr 102 (Operand.tmp 27) 0, type := 0, pos := "cache.go:21", after := #[{ on := 2, ground := Ground.data }], guard := none }) (v := ?v3x4) rfl (by kernel_rfl) (by kernel_rfl) (by kernel_rfl) (fun _ _ _ h => h) (Or.inl ⟨by rfl, ?hy3x4⟩) (by assumption) ?rest3x4
  case hy3x4 => (intro w hSw; (try dsimp only at hSw); (first | (go_simp; with_reducible rfl) | go_simp))
  try simp only [Act.put, List.setIfInBounds_toArray, List.set_cons_zero, List.set_cons_succ]
  refine wpAnyH_take (i := 5) (oi := { dst := some 30, op := Op.move (Operand.tmp 1), type := 3, pos := "cache.go:21", after := #[], guard := none }) (v := ?v5x5) rfl (by kernel_rfl) (by kernel_rfl) (by kernel_rfl) (fun _ _ _ h => h) (Or.inl ⟨by rfl, ?hy5x5⟩) (by assumption) ?rest5x5
  case hy5x5 => (intro w hSw; (try dsimp only at hSw); (first | (go_simp; with_reducible rfl) | go_simp))
  try simp only [Act.put, List.setIfInBounds_toArray, List.set_cons_zero, List.set_cons_succ]
  refine wpAnyH_take (i := 6) (oi := { dst := some 31, op := Op.load 114 (Operand.tmp 5), type := 114, pos := "cache.go:21", after := #[], guard := none }) (v := .agg (sv ys).toArray) rfl (by kernel_rfl) (by kernel_rfl) (by kernel_rfl) (fun _ _ _ h => h) (yieldsIf_load_mid (by rfl) 114 (.tmp 5) (by rfl) w.heap.size 0 (by rfl) (sv ys) _ (fun w h => h) Tryz.underlying114 rfl HI.out) (by assumption) ?_
  try simp only [Act.put, List.setIfInBounds_toArray, List.set_cons_zero, List.set_cons_succ]
  refine wpAnyH_take (i := 7) (oi := { dst := some 32, op := Op.build 165 #[(0, Operand.tmp 30), (1, Operand.tmp 31)], type := 165, pos := "cache.go:21", after := #[{ on := 5, ground := Ground.data }, { on := 6, ground := Ground.data }], guard := none }) (v := .agg (wv (n, ys)).toArray) rfl (by kernel_rfl) (by kernel_rfl) (by kernel_rfl) (fun _ _ _ h => h) (Or.inl ⟨by rfl, fun w _ => yields_build (n : Int) (sv ys) HA.out w (.tmp 30) (.tmp 31) rfl rfl rfl⟩) (by assumption) ?_
  try simp only [Act.put, List.setIfInBounds_toArray, List.set_cons_zero, List.set_cons_succ]
  refine wpAnyH_ready (rs := [4, 8]) (by kernel_rfl) (by simp) ?_
  refine AllReadyH.cons (o := { dst := some 29, op := Op.load 99 (Operand.tmp 28), type := 99, pos := "cache.go:21", after := #[{ on := 3, ground := Ground.data }], guard := none }) rfl (fun K hK => ?_) (AllReadyH.cons (o := { dst := some 33, op := Op.buildSlice 99 1 #[(0, Operand.tmp 32)], type := 99, pos := "cache.go:21", after := #[{ on := 7, ground := Ground.data }], guard := none }) rfl (fun K hK => ?_) AllReadyH.nil)
  · go_simp
    refine hK.out _ _ (by assumption) (fun _hS => ?_)
    clear hK K
    try simp only [Act.put, List.setIfInBounds_toArray, List.set_cons_zero, List.set_cons_succ]
    refine wpAnyH_ready (rs := [8]) (by kernel_rfl) (by simp) ?_
    refine AllReadyH.cons (o := { dst := some 33, op := Op.buildSlice 99 1 #[(0, Operand.tmp 32)], type := 99, pos := "cache.go:21", after := #[{ on := 7, ground := Ground.data }], guard := none }) rfl (fun K hK => ?_) AllReadyH.nil
    refine step_of rfl ?_
    refine wp_slice91 (.tmp 32) rfl (n : Int) (sv ys) HA.out rfl ?_
    refine hK.out _ _ HR2.out (fun _hS => ?_)
    clear hK K
    try simp only [Act.put, List.setIfInBounds_toArray, List.set_cons_zero, List.set_cons_succ]
    refine wpAnyH_ready (rs := [9]) (by kernel_rfl) (by simp) ?_
    refine AllReadyH.cons (o := { dst := some 34, op := Op.call { callee := Callee.builtin Builtin.append, args := #[Operand.tmp 29, Operand.tmp 33], argTypes := #[99, 99] }, type := 99, pos := "cache.go:21", after := #[{ on := 4, ground := Ground.data }, { on := 8, ground := Ground.data }], guard := none }) rfl (fun K hK => ?_) AllReadyH.nil
    refine step_of rfl ?_
    refine wp_append_at (.tmp 29) (.tmp 33) 99 165 rfl 0 i0 (.agg z117) 129 136 Tryz.underlying99 hi hz0 hz1 hz2 (by simp [z117, Value.cells]) (by omega) (.slice a len cap) S.ws.length (wflat S.ws) rfl HO2.out _ 1 1 (wv (n, ys)) rfl HWl.out HNw.out (wv_one _) HB1.out HB2.out (Nat.zero_le _) ?_
    intro v' w2 hown2 hgr2 hloc2
    obtain ⟨a', len', cap', rfl⟩ := row_shape hown2
    have HO3 := hide hown2
    have HG2 := hide hgr2
    have HLc := hide hloc2
    have HDp2 := hide (HPp.out w2 hgr2)
    have k1'' : w2.cell? ⟨p, 1, none⟩ = some (.slice a len cap) := by simp [World.cell?, HDp2.out, cells]
    have f1'' : w2.frozen? ⟨p, 1, none⟩ = false := by simp [World.frozen?, HDp2.out]
    clear hown2 hgr2 hloc2
    refine hK.out _ _ (HRr.out w2 HG2.out) (fun _hS => ?_)
    clear hK K
    try simp only [Act.put, List.setIfInBounds_toArray, List.set_cons_zero, List.set_cons_succ]
    refine wpAnyH_take (i := 10) (oi := { dst := some 35, op := Op.nilCheck (Operand.tmp 25), type := 0, pos := "cache.go:21", after := #[{ on := 0, ground := Ground.data }, { on := 0, ground := Ground.phase }, { on := 1, ground := Ground.phase }, { on := 2, ground := Ground.phase }, { on := 3, ground := Ground.phase }, { on := 4, ground := Ground.phase }, { on := 5, ground := Ground.phase }, { on := 6, ground := Ground.phase }, { on := 7, ground := Ground.phase }, { on := 8, ground := Ground.phase }, { on := 9, ground := Ground.phase }], guard := none }) (v := ?v10x101) rfl (by kernel_rfl) (by kernel_rfl) (by kernel_rfl) (fun _ _ _ h => h) (Or.inl ⟨by rfl, ?hy10x101⟩) (by assumption) ?rest10x101
    case hy10x101 => (intro w hSw; (try dsimp only at hSw); (first | (go_simp; with_reducible rfl) | go_simp))
    try simp only [Act.put, List.setIfInBounds_toArray, List.set_cons_zero, List.set_cons_succ]
    refine wpAnyH_take (i := 11) (oi := { dst := some 36, op := Op.fieldAddr 102 (Operand.tmp 35) 0, type := 0, pos := "cache.go:21", after := #[{ on := 10, ground := Ground.data }, { on := 0, ground := Ground.phase }, { on := 1, ground := Ground.phase }, { on := 2, ground := Ground.phase }, { on := 3, ground := Ground.phase }, { on := 4, ground := Ground.phase }, { on := 5, ground := Ground.phase }, { on := 6, ground := Ground.phase }, { on := 7, ground := Ground.phase }, { on := 8, ground := Ground.phase }, { on := 9, ground := Ground.phase }], guard := none }) (v := ?v11x102) rfl (by kernel_rfl) (by kernel_rfl) (by kernel_rfl) (fun _ _ _ h => h) (Or.inl ⟨by rfl, ?hy11x102⟩) (by assumption) ?rest11x102
    case hy11x102 => (intro w hSw; (try dsimp only at hSw); (first | (go_simp; with_reducible rfl) | go_simp))
    try simp only [Act.put, List.setIfInBounds_toArray, List.set_cons_zero, List.set_cons_succ]
    refine wpAnyH_ready (rs := [12]) (by kernel_rfl) (by simp) ?_
    refine AllReadyH.cons (o := { dst := none, op := Op.store 99 (Operand.tmp 36) (Operand.tmp 34), type := 0, pos := "cache.go:21", after := #[{ on := 11, ground := Ground.data }, { on := 9, ground := Ground.data }, { on := 9, ground := Ground.chain }, { on := 0, ground := Ground.phase }, { on := 1, ground := Ground.phase }, { on := 2, ground := Ground.phase }, { on := 3, ground := Ground.phase }, { on := 4, ground := Ground.phase }, { on := 5, ground := Ground.phase }, { on := 6, ground := Ground.phase }, { on := 7, ground := Ground.phase }, { on := 8, ground := Ground.phase }, { on := 9, ground := Ground.phase }], guard := none }) rfl (fun K hK => ?_) AllReadyH.nil
    go_simp
    refine hK.out _ _ (World.rangeAt_setCell _hS _ _ _ HNe.out) (fun _hS => ?_)
    clear hK K
    try simp only [Act.put, List.setIfInBounds_toArray, List.set_cons_zero, List.set_cons_succ]
    refine wpAnyH_done (by kernel_rfl) ?_ _
    refine NoPanic.normal ?_
    go_wp2
    go_end0
    exact ⟨rfl, HFin.out _ w2 HO3.out HG2.out HLc.out HDp2.out⟩
  · refine step_of rfl ?_
    refine wp_slice91 (.tmp 32) rfl (n : Int) (sv ys) HA.out rfl ?_
    refine hK.out _ _ HR2.out (fun _hS => ?_)
    clear hK K
    try simp only [Act.put, List.setIfInBounds_toArray, List.set_cons_zero, List.set_cons_succ]
    refine wpAnyH_ready (rs := [4]) (by kernel_rfl) (by simp) ?_
    refine AllReadyH.cons (o := { dst := some 29, op := Op.load 99 (Operand.tmp 28), type := 99, pos := "cache.go:21", after := #[{ on := 3, ground := Ground.data }], guard := none }) rfl (fun K hK => ?_) AllReadyH.nil
    go_simp
    refine hK.out _ _ (by assumption) (fun _hS => ?_)
    clear hK K
    try simp only [Act.put, List.setIfInBounds_toArray, List.set_cons_zero, List.set_cons_succ]
    refine wpAnyH_ready (rs := [9]) (by kernel_rfl) (by simp) ?_
    refine AllReadyH.cons (o := { dst := some 34, op := Op.call { callee := Callee.builtin Builtin.append, args := #[Operand.tmp 29, Operand.tmp 33], argTypes := #[99, 99] }, type := 99, pos := "cache.go:21", after := #[{ on := 4, ground := Ground.data }, { on := 8, ground := Ground.data }], guard := none }) rfl (fun K hK => ?_) AllReadyH.nil
    refine step_of rfl ?_
    refine wp_append_at (.tmp 29) (.tmp 33) 99 165 rfl 0 i0 (.agg z117) 129 136 Tryz.underlying99 hi hz0 hz1 hz2 (by simp [z117, Value.cells]) (by omega) (.slice a len cap) S.ws.length (wflat S.ws) rfl HO2.out _ 1 1 (wv (n, ys)) rfl HWl.out HNw.out (wv_one _) HB1.out HB2.out (Nat.zero_le _) ?_
    intro v' w2 hown2 hgr2 hloc2
    obtain ⟨a', len', cap', rfl⟩ := row_shape hown2
    have HO3 := hide hown2
    have HG2 := hide hgr2
    have HLc := hide hloc2
    have HDp2 := hide (HPp.out w2 hgr2)
    have k1'' : w2.cell? ⟨p, 1, none⟩ = some (.slice a len cap) := by simp [World.cell?, HDp2.out, cells]
    have f1'' : w2.frozen? ⟨p, 1, none⟩ = false := by simp [World.frozen?, HDp2.out]
    clear hown2 hgr2 hloc2
    refine hK.out _ _ (HRr.out w2 HG2.out) (fun _hS => ?_)
    clear hK K
    try simp only [Act.put, List.setIfInBounds_toArray, List.set_cons_zero, List.set_cons_succ]
    refine wpAnyH_take (i := 10) (oi := { dst := some 35, op := Op.nilCheck (Operand.tmp 25), type := 0, pos := "cache.go:21", after := #[{ on := 0, ground := Ground.data }, { on := 0, ground := Ground.phase }, { on := 1, ground := Ground.phase }, { on := 2, ground := Ground.phase }, { on := 3, ground := Ground.phase }, { on := 4, ground := Ground.phase }, { on := 5, ground := Ground.phase }, { on := 6, ground := Ground.phase }, { on := 7, ground := Ground.phase }, { on := 8, ground := Ground.phase }, { on := 9, ground := Ground.phase }], guard := none }) (v := ?v10x201) rfl (by kernel_rfl) (by kernel_rfl) (by kernel_rfl) (fun _ _ _ h => h) (Or.inl ⟨by rfl, ?hy10x201⟩) (by assumption) ?rest10x201
    case hy10x201 => (intro w hSw; (try dsimp only at hSw); (first | (go_simp; with_reducible rfl) | go_simp))
    try simp only [Act.put, List.setIfInBounds_toArray, List.set_cons_zero, List.set_cons_succ]
    refine wpAnyH_take (i := 11) (oi := { dst := some 36, op := Op.fieldAddr 102 (Operand.tmp 35) 0, type := 0, pos := "cache.go:21", after := #[{ on := 10, ground := Ground.data }, { on := 0, ground := Ground.phase }, { on := 1, ground := Ground.phase }, { on := 2, ground := Ground.phase }, { on := 3, ground := Ground.phase }, { on := 4, ground := Ground.phase }, { on := 5, ground := Ground.phase }, { on := 6, ground := Ground.phase }, { on := 7, ground := Ground.phase }, { on := 8, ground := Ground.phase }, { on := 9, ground := Ground.phase }], guard := none }) (v := ?v11x202) rfl (by kernel_rfl) (by kernel_rfl) (by kernel_rfl) (fun _ _ _ h => h) (Or.inl ⟨by rfl, ?hy11x202⟩) (by assumption) ?rest11x202
    case hy11x202 => (intro w hSw; (try dsimp only at hSw); (first | (go_simp; with_reducible rfl) | go_simp))
    try simp only [Act.put, List.setIfInBounds_toArray, List.set_cons_zero, List.set_cons_succ]
    refine wpAnyH_ready (rs := [12]) (by kernel_rfl) (by simp) ?_
    refine AllReadyH.cons (o := { dst := none, op := Op.store 99 (Operand.tmp 36) (Operand.tmp 34), type := 0, pos := "cache.go:21", after := #[{ on := 11, ground := Ground.data }, { on := 9, ground := Ground.data }, { on := 9, ground := Ground.chain }, { on := 0, ground := Ground.phase }, { on := 1, ground := Ground.phase }, { on := 2, ground := Ground.phase }, { on := 3, ground := Ground.phase }, { on := 4, ground := Ground.phase }, { on := 5, ground := Ground.phase }, { on := 6, ground := Ground.phase }, { on := 7, ground := Ground.phase }, { on := 8, ground := Ground.phase }, { on := 9, ground := Ground.phase }], guard := none }) rfl (fun K hK => ?_) AllReadyH.nil
    go_simp
    refine hK.out _ _ (World.rangeAt_setCell _hS _ _ _ HNe.out) (fun _hS => ?_)
    clear hK K
    try simp only [Act.put, List.setIfInBounds_toArray, List.set_cons_zero, List.set_cons_succ]
    refine wpAnyH_done (by kernel_rfl) ?_ _
    refine NoPanic.normal ?_
    go_wp2
    go_end0
    exact ⟨rfl, HFin.out _ w2 HO3.out HG2.out HLc.out HDp2.out⟩
end Go.Proofs.YtobokocpapfjbaaGreat
