/- An operation: the power and the faults first, then what is handed in. -/
import Derived.Test.YtlmofgfkclfgeaaGreatDC
import Derived.Deep.WholeRow
import Derived.Great.BuildSlice
import Derived.Laws.Cover3
import Derived.Deep.RegionHeld3
namespace Go.Proofs.YtlmofgfkclfgeaaGreat
open Go.RowKit Go.Maps
set_option linter.unusedVariables false

/-- the trip has counted. -/
def DS.tr (S : DS) : DS := { S with ts := (tick S.ts S.tl).2.1, tl := (tick S.ts S.tl).2.2 }
def DS.out (S : DS) : DS := { S.tr with dk := true }
/-- an operation whose kind's fault is s, l: its error, 0 where it is done. -/
def DS.er (S : DS) (s : Bool) (l : Int) : Nat := if S.dk = true then 4 else if (tick S.ts S.tl).1 = true then 4 else if (tick s l).1 = true then 6 else 0
def DS.be (S : DS) (S' : DS) : DS := if S.dk = true then S else if (tick S.ts S.tl).1 = true then S.out else S'
theorem DS.Good.tr {S : DS} (h : S.Good) : S.tr.Good := ⟨h.ls, h.ws, h.most, h.few, tick_cd _ _ h.t, h.f1, h.f2, h.f3, h.n1, h.n2, h.n3⟩
theorem DS.Good.out {S : DS} (h : S.Good) : S.out.Good := ⟨h.ls, h.ws, h.most, h.few, tick_cd _ _ h.t, h.f1, h.f2, h.f3, h.n1, h.n2, h.n3⟩
/-- behind the count and the fault of kind 1. -/
def DS.op1 (S : DS) : DS := { S.tr with n1 := S.n1 + 1, s1 := (tick S.s1 S.l1).2.1, l1 := (tick S.s1 S.l1).2.2 }
def DS.c1 (S : DS) : DS := { S.tr with n1 := S.n1 + 1 }
theorem DS.Good.c1 {S : DS} (h : S.Good) (hn : S.n1 + 1 ≤ 1000000) : S.c1.Good := ⟨h.ls, h.ws, h.most, h.few, tick_cd _ _ h.t, h.f1, h.f2, h.f3, ⟨by have := h.n1.1; show 0 ≤ S.n1 + 1; omega, hn⟩, h.n2, h.n3⟩
theorem DS.Good.op1 {S : DS} (h : S.Good) (hn : S.n1 + 1 ≤ 1000000) : S.op1.Good := ⟨h.ls, h.ws, h.most, h.few, tick_cd _ _ h.t, tick_cd _ _ h.f1, h.f2, h.f3, ⟨by have := h.n1.1; show 0 ≤ S.n1 + 1; omega, hn⟩, h.n2, h.n3⟩

set_option maxHeartbeats 1600000 in
set_option maxRecDepth 1000000 in
theorem operate1 (p q : Nat) (vw : Value) (m : Option Nat) (S : DS) (w : World) (x0 x1 x2 : Value) (Post : Int → World → Prop) (h : Dk w p q vw m S) (hn : S.n1 + 1 ≤ 1000000)
    (hcall : S.er S.s1 S.l1 = 0 → ∀ W, Dk W p q vw m S.op1 → Mv (· = p) w W → W.heap.size = w.heap.size → Calls Tryz.prog 86 #[x0, x1, x2] W fun e w' => ∃ x, e = .returned (.int .u16 x) ∧ Post x w')
    (hpost : S.er S.s1 S.l1 ≠ 0 → ∀ W, Dk W p q vw m (S.be S.op1) → Mv (· = p) w W → W.heap.size = w.heap.size → Post (S.er S.s1 S.l1 : Int) W) :
    Calls Tryz.prog 85 #[.pointer (some ⟨p, 0, none⟩), .int .i64 1, .func (.func 86) #[] #[x0, x1, x2]] w fun e w' => ∃ x, e = .returned (.int .u16 x) ∧ Post x w' := by
  have HD := hide h
  have HC := hide hcall
  have HP := hide hpost
  have k3 := h.c 3 (.bool S.dk) rfl
  have HG := hide h.good
  clear h hcall hpost
  cases hdk : S.dk
  · rw [hdk] at k3
    have HT := hide (strikes_at p q vw m S S.tr 4 S.ts S.tl w HD.out rfl rfl HG.out.t rfl rfl HG.out.tr rfl)
    cases ht : (tick S.ts S.tl).1
    · rw [ht] at HT
      have HN : Hid (0 ≤ S.n1 ∧ S.n1 + 1 ≤ 1000000) := ⟨HG.out.n1.1, hn⟩
      have hnw : IntKind.i64.wrap (S.n1 + 1) = S.n1 + 1 := by rw [IntKind.wrap_i64]; have := HN.out; omega
      go_enter Tryz.func85, Tryz.ntmps85
      go_wp2_with fail
      refine HT.out.mono ?_
      rintro e w1 ⟨rfl, hd1, hm1, hs1⟩
      have k16 := hd1.c 15 (.int .i64 S.n1) rfl
      have f16 := hd1.f 15
      have HD2 := hide (hd1.fields (S' := S.c1) rfl rfl (HG.out.c1 hn) (w' := (w1.setCell ⟨p, 15, none⟩ (.int .i64 (S.n1 + 1))).drew) (heap_setCell_same w1 p 15 _ 95 _ hd1.blk) (fun k hk => set_other w1 p 15 _ k hk))
      have HM2 : Hid (Mv (· = p) w (w1.setCell ⟨p, 15, none⟩ (.int .i64 (S.n1 + 1))).drew) := hm1.trans' ((mv_set w1 p 15 _).trans' ⟨rfl, rfl, rfl, Nat.le_refl _, fun _ _ _ => rfl⟩)
      have HS2 : Hid ((w1.setCell ⟨p, 15, none⟩ (.int .i64 (S.n1 + 1))).drew.heap.size = w.heap.size) := by simpa [World.setCell, Hid] using hs1
      clear hd1 hm1 hs1
      go_wp2
      go_region
      generalize (w1.setCell ⟨p, 15, none⟩ (.int .i64 (S.n1 + 1))).drew = w2 at HD2 HM2 HS2 ⊢
      clear k16 f16
      have HT2 := hide (strikes_at p q vw m S.c1 S.op1 8 S.s1 S.l1 w2 HD2.out rfl rfl HG.out.f1 rfl rfl (HG.out.op1 hn) rfl)
      cases ht2 : (tick S.s1 S.l1).1
      · rw [ht2] at HT2
        have e1 : Hid (S.er S.s1 S.l1 = 0) := by simp [DS.er, hdk, ht, ht2, Hid]
        have HC2 := hide (HC.out e1.out)
        clear HC HP e1
        go_wp2_with fail
        refine HT2.out.mono ?_
        rintro e w3 ⟨rfl, hd3, hm3, hs3⟩
        have HR := hide (HC2.out w3 hd3 (HM2.out.trans' hm3) (hs3.trans HS2.out))
        clear hd3 hm3 hs3 HC2
        go_wp2_with fail
        refine HR.out.mono ?_
        rintro e w4 ⟨x, rfl, hpost⟩
        have HQ := hide hpost
        clear hpost
        go_wp2
        go_ret
        exact ⟨x, rfl, HQ.out⟩
      · rw [ht2] at HT2
        have e1 : Hid (S.er S.s1 S.l1 = 6) := by simp [DS.er, hdk, ht, ht2, Hid]
        have e2 : Hid (S.be S.op1 = S.op1) := by simp [DS.be, hdk, ht, Hid]
        go_wp2_with fail
        refine HT2.out.mono ?_
        rintro e w3 ⟨rfl, hd3, hm3, hs3⟩
        have HR := hide (HP.out (by rw [e1.out]; omega) w3 (by rw [e2.out]; exact hd3) (HM2.out.trans' hm3) (hs3.trans HS2.out))
        rw [e1.out] at HR
        clear hd3 hm3 hs3 HC HP
        go_wp2
        go_ret
        exact ⟨_, rfl, HR.out⟩
    · rw [ht] at HT
      have e1 : Hid (S.er S.s1 S.l1 = 4) := by simp [DS.er, hdk, ht, Hid]
      have e2 : Hid (S.be S.op1 = S.out) := by simp [DS.be, hdk, ht, Hid]
      go_enter Tryz.func85, Tryz.ntmps85
      go_wp2_with fail
      refine HT.out.mono ?_
      rintro e w1 ⟨rfl, hd1, hm1, hs1⟩
      have k3' := hd1.c 3 (.bool S.dk) rfl
      have f3 := hd1.f 3
      have HR := hide (HP.out (by rw [e1.out]; omega) (w1.setCell ⟨p, 3, none⟩ (.bool true)) (by rw [e2.out]; exact hd1.fields rfl rfl HG.out.out (heap_setCell_same _ p 3 _ 95 _ hd1.blk) (fun k hk => set_other _ _ _ _ _ hk)) (hm1.trans' (mv_set _ _ _ _)) (by simpa [World.setCell] using hs1))
      rw [e1.out] at HR
      clear hd1 hm1 hs1 HC HP HD HG e1 e2 hdk
      go_wp2
      go_ret
      exact ⟨_, rfl, HR.out⟩
  · rw [hdk] at k3
    have e1 : Hid (S.er S.s1 S.l1 = 4) := by simp [DS.er, hdk, Hid]
    have e2 : Hid (S.be S.op1 = S) := by simp [DS.be, hdk, Hid]
    have HR := hide (HP.out (by rw [e1.out]; omega) w (by rw [e2.out]; exact HD.out) (Mv.refl _ _) rfl)
    rw [e1.out] at HR
    clear HC HP HD HG e1 e2 hdk
    go_enter Tryz.func85, Tryz.ntmps85
    go_wp2
    go_ret
    exact ⟨_, rfl, HR.out⟩
/-- behind the count and the fault of kind 2. -/
def DS.op2 (S : DS) : DS := { S.tr with n2 := S.n2 + 1, s2 := (tick S.s2 S.l2).2.1, l2 := (tick S.s2 S.l2).2.2 }
def DS.c2 (S : DS) : DS := { S.tr with n2 := S.n2 + 1 }
theorem DS.Good.c2 {S : DS} (h : S.Good) (hn : S.n2 + 1 ≤ 1000000) : S.c2.Good := ⟨h.ls, h.ws, h.most, h.few, tick_cd _ _ h.t, h.f1, h.f2, h.f3, h.n1, ⟨by have := h.n2.1; show 0 ≤ S.n2 + 1; omega, hn⟩, h.n3⟩
theorem DS.Good.op2 {S : DS} (h : S.Good) (hn : S.n2 + 1 ≤ 1000000) : S.op2.Good := ⟨h.ls, h.ws, h.most, h.few, tick_cd _ _ h.t, h.f1, tick_cd _ _ h.f2, h.f3, h.n1, ⟨by have := h.n2.1; show 0 ≤ S.n2 + 1; omega, hn⟩, h.n3⟩

/-- behind the count and the fault of kind 3. -/
def DS.op3 (S : DS) : DS := { S.tr with n3 := S.n3 + 1, s3 := (tick S.s3 S.l3).2.1, l3 := (tick S.s3 S.l3).2.2 }
def DS.c3 (S : DS) : DS := { S.tr with n3 := S.n3 + 1 }
theorem DS.Good.c3 {S : DS} (h : S.Good) (hn : S.n3 + 1 ≤ 1000000) : S.c3.Good := ⟨h.ls, h.ws, h.most, h.few, tick_cd _ _ h.t, h.f1, h.f2, h.f3, h.n1, h.n2, ⟨by have := h.n3.1; show 0 ≤ S.n3 + 1; omega, hn⟩⟩
theorem DS.Good.op3 {S : DS} (h : S.Good) (hn : S.n3 + 1 ≤ 1000000) : S.op3.Good := ⟨h.ls, h.ws, h.most, h.few, tick_cd _ _ h.t, h.f1, h.f2, tick_cd _ _ h.f3, h.n1, h.n2, ⟨by have := h.n3.1; show 0 ≤ S.n3 + 1; omega, hn⟩⟩

end Go.Proofs.YtlmofgfkclfgeaaGreat
/- A sector out of bytes; a write into the cache. -/
namespace Go.Proofs.YtlmofgfkclfgeaaGreat
open Go.RowKit Go.Maps
set_option linter.unusedVariables false

def z110 : Array Value := Array.replicate 128 (.int .u8 0)
theorem zero110 : ∀ w, (zeroValue 97).run Tryz.prog w = .ok (.agg z110) w := (zero_of_info (P := Tryz.prog) (t := 97) (v := .agg z110) (n := 128) (by kernel_rfl)).1
theorem size110 : (Tryz.prog.info? 97).map (·.size) = some 128 := by kernel_rfl
theorem Row.range {w : World} {b off : Nat} {zs : List Int} (h : Row w (some ⟨b, off, none⟩) zs) (k n : Nat) (hk : k + n ≤ zs.length) : w.rangeAt b (off + k) (sv ((zs.drop k).take n)) := by
  intro j v hv
  rcases h with h | ⟨b', off', e, hlt, hc⟩
  · subst h; simp [sv] at hv
  · cases e
    have hj : j < n := by
      have := (List.getElem?_eq_some_iff.1 hv).1
      simp only [sv, List.length_map, List.length_take] at this
      omega
    have := hc (k + j) (by omega)
    rw [Nat.add_assoc, this]
    rw [← hv]
    simp [sv, hj, show k + j < zs.length by omega]

theorem arrayAt110 (a : Option Addr) (n c : Nat) (h : 128 ≤ n) (W : World) : (Instr.arrayAt 97 (.slice a n c)).run Tryz.prog W = .ok (.pointer a) W := by
  simp [Instr.arrayAt, run_underlying Tryz.underlying97, show ¬ n < 128 by omega]
set_option maxHeartbeats 1600000 in
set_option maxRecDepth 1000000 in
theorem sectorAt_any (b off len cap : Nat) (zs : List Int) (at_ : Nat) (w : World) (hr : Row w (some ⟨b, off, none⟩) zs) (hl : zs.length = len) (hlc : len ≤ cap) (hc : cap ≤ 9223372036854775807) (ha : at_ * 128 + 128 ≤ len) :
    Calls Tryz.prog 20 #[.slice (some ⟨b, off, none⟩) len cap, .int .i64 (at_ : Int)] w fun e w' => e = .returned (.agg (sv ((zs.drop (at_ * 128)).take 128)).toArray) ∧ Below w.heap.size w w' := by
  have HR := hide (World.rangeAt_alloc (hr.range (at_ * 128) 128 (by omega)) (.cells z110 97))
  have hL : (sv ((zs.drop (at_ * 128)).take 128)).length = 128 := by rw [sv_len]; simp; omega
  have h1 := all_oneCell_toArray (sv_one ((zs.drop (at_ * 128)).take 128))
  have hz := zero110
  generalize sv ((zs.drop (at_ * 128)).take 128) = cs at *
  have hat := arrayAt110 (some ⟨b, off + at_ * 128, none⟩) (len - at_ * 128) (cap - at_ * 128) (by omega)
  have HI : Hid ((Tryz.prog.info? 97).map (·.size) = some cs.length) := by rw [hL]; exact size110
  have HI2 : Hid ((Tryz.prog.info? 97).map (·.size) = some cs.toArray.size) := by rw [List.size_toArray, hL]; exact size110
  have HT : Hid ((w.alloc (.cells z110 97)).heap[w.heap.size]? = some (.cells z110 97 (0, 0))) := heap_alloc_new w _
  have HZ : Hid (z110.size = cs.toArray.size) := by simp [z110, hL, Hid]
  have H1 := hide h1
  have HN := hide (heap_alloc_new w (.cells cs.toArray 97))
  have HB := hide (below_alloc w (.cells cs.toArray 97))
  clear hr h1 hL
  go_enter Tryz.func20, Tryz.ntmps20
  go_wp2_with (first | (refine wpList_load_mid (by rfl) 97 (.tmp 9) (by rfl) b (off + at_ * 128) (by rfl) cs _ HR.out Tryz.underlying97 rfl HI.out ?_) | (refine wpList_store_row (by rfl) 97 (.tmp 4) (.tmp 10) (by rfl) w.heap.size cs.toArray (by rfl) (by rfl) 97 z110 HT.out HI2.out HZ.out H1.out ?_; rw [World.setRow_alloc_new]))
  refine bodyPost_ret (v := .agg cs.toArray) ?_ rfl ?_
  · exact results_cell_row (p := 4) (ty := 97) rfl _ _ w.heap.size 97 _ (0, 0) _ rfl HN.out Tryz.underlying97 rfl HI2.out
  · exact ⟨rfl, HB.out⟩
end Go.Proofs.YtlmofgfkclfgeaaGreat
/- A write of the cache is built of its number and its bytes. -/
namespace Go.Proofs.YtlmofgfkclfgeaaGreat
open Go.RowKit Go.Maps
set_option linter.unusedVariables false

theorem fold_set (off : Nat) : ∀ (vs : List Value) (k : Nat) (cells : Array Value), off + k + vs.length ≤ cells.size →
    (vs.zipIdx k).foldl (fun cs (x : Value × Nat) => cs.setIfInBounds (off + x.2) x.1) cells = (cells.toList.take (off + k) ++ vs ++ cells.toList.drop (off + k + vs.length)).toArray
  | [], k, cells, _ => by simp
  | v :: vs, k, cells, h => by
    simp only [List.length_cons] at h
    rw [List.zipIdx_cons, List.foldl_cons, fold_set off vs (k + 1) _ (by simp; omega)]
    congr 1
    have e := list_seg_step cells.toList (off + k) v vs (by simp; omega)
    simpa [Array.toList_setIfInBounds, Nat.add_assoc] using e
theorem fill_one (place : Nat → Option (Nat × Nat)) (cells : Array Value) (i off : Nat) (v : Value) (rest : List (Nat × Value)) (hp : place i = some (off, v.cells.size)) (hs : off + v.cells.size ≤ cells.size) :
    Instr.fill place cells ((i, v) :: rest) = Instr.fill place (cells.toList.take off ++ v.cells.toList ++ cells.toList.drop (off + v.cells.size)).toArray rest := by
  rw [Instr.fill, hp]
  have e : v.cells.zipIdx.foldl (fun cs (x : Value × Nat) => cs.setIfInBounds (off + x.2) x.1) cells = (cells.toList.take off ++ v.cells.toList ++ cells.toList.drop (off + v.cells.size)).toArray := by
    have := fold_set off v.cells.toList 0 cells (by simpa using hs)
    rw [← Array.foldl_toList, Array.toList_zipIdx, this]
    simp
  have e2 : (v.cells.size ≠ v.cells.size || off + v.cells.size > cells.size) = false := by simp; omega
  simp only [e2, Bool.false_eq_true, if_false]
  exact congrArg (fun c => Instr.fill place c rest) e
def z117 : Array Value := #[.int .i64 0] ++ Array.replicate 128 (.int .u8 0)
theorem info117 : (Tryz.prog.info? 241).map (fun i => (i.zero, i.size, i.bytes)) = some (some (.agg z117), 129, 136) := by kernel_rfl
theorem size117 : (Tryz.prog.info? 241).map (·.size) = some 129 := by kernel_rfl
theorem size3 : (Tryz.prog.info? 3).map (·.size) = some 1 := by kernel_rfl
set_option maxRecDepth 100000 in
theorem built117 (n : Int) (A : List Value) (hA : A.length = 128) : Tryz.prog.built 241 [(0, .int .i64 n), (1, .agg A.toArray)] = some (Value.int .i64 n :: A).toArray := by
  obtain ⟨it, hi, hz, hs, hb⟩ := info_parts info117
  have h3 := size3
  have h110 := size110
  cases h3' : Tryz.prog.info? 3 with
  | none => rw [h3'] at h3; cases h3
  | some i3 =>
    cases h110' : Tryz.prog.info? 97 with
    | none => rw [h110'] at h110; cases h110
    | some i110 =>
      rw [h3'] at h3
      rw [h110'] at h110
      simp only [Option.map_some, Option.some.injEq] at h3 h110
      unfold Program.built
      rw [hi, Tryz.underlying241]
      simp only [hz, List.mapM_cons, List.mapM_nil, h3', h110', Option.map_some, Option.bind_eq_bind, Option.bind_some, Option.pure_def, h3, h110, Value.cells]
      rw [fill_one _ _ 0 0 (.int .i64 n) _ rfl (by simp [z117, Value.cells]), fill_one _ _ 1 1 (.agg A.toArray) _ (by simp [Value.cells, hA]) (by simp [z117, Value.cells, hA])]
      simp only [Instr.fill, Option.some.injEq]
      simp [z117, Value.cells, hA]
theorem slice91 (n : Int) (A : List Value) (hA : A.length = 128) (w : World) : (Instr.buildSlice 86 1 #[(0, .agg (Value.int .i64 n :: A).toArray)]).run Tryz.prog w = .ok (.slice (some ⟨w.heap.size, 0, none⟩) 1 1) (w.alloc (.cells (Value.int .i64 n :: A).toArray 241)) := by
  obtain ⟨it, hi, hz, hs, hb⟩ := info_parts info117
  refine run_buildSlice w 86 241 1 _ _ it _ Tryz.underlying86 hi hz (by rw [hs]; decide) (by rw [hs]; decide) ?_
  rw [hs]
  show Instr.fill _ _ [(0, Value.agg _)] = _
  rw [fill_one _ _ 0 0 _ _ (by simp [Value.cells, hA]) (by simp [Value.cells, hA])]
  simp only [Instr.fill, Option.some.injEq]
  simp [Value.cells, hA]
end Go.Proofs.YtlmofgfkclfgeaaGreat
/- A write goes into the cache. -/
namespace Go.Proofs.YtlmofgfkclfgeaaGreat
open Go.RowKit Go.Maps
set_option linter.unusedVariables false

theorem map_nil (m : Option Nat) (W : World) : (binOp .eql 87 (.map m) (.map none)).run Tryz.prog W = .ok (.bool m.isNone) W := by
  simp only [binOp]
  simp [run_equal_map_nil W 87 3 3 m Tryz.underlying87]
theorem law3 : Keyed Tryz.prog 3 := int_keyed Tryz.underlying3
def DS.add (S : DS) (n : Nat) (ys : List Int) : DS := { S with ws := S.ws ++ [(n, ys)] }
theorem wflat_len (W : List (Nat × List Int)) (h : ∀ x ∈ W, x.2.length = 128) : (wflat W).length = W.length * 129 := by
  have := flatten_len (n := 129) (W.map wv) (by intro s hs; simp only [List.mem_map] at hs; obtain ⟨x, hx, rfl⟩ := hs; simp [wv, sv_len, h x hx])
  simpa [wflat] using this
theorem wflat_snoc (W : List (Nat × List Int)) (x : Nat × List Int) : wflat (W ++ [x]) = wflat W ++ wv x := by simp [wflat]
theorem DS.Good.add {S : DS} (h : S.Good) (n : Nat) (ys : List Int) (hn : n < S.ls.length) (hy : ys.length = 128) (hb : Byts ys) (hf : S.ws.length + 1 ≤ 1000000) : (S.add n ys).Good :=
  ⟨h.ls, fun x hx => by
    simp only [DS.add, List.mem_append, List.mem_singleton] at hx
    rcases hx with hx | rfl
    · exact h.ws x hx
    · exact ⟨hn, hy, hb⟩, h.most, by simp only [DS.add, List.length_append, List.length_singleton]; exact hf, h.t, h.f1, h.f2, h.f3, h.n1, h.n2, h.n3⟩

theorem grown_setCell (w : World) (p j : Nat) (v : Value) : w.grownBy (w.setCell ⟨p, j, none⟩ v) (some p) :=
  ⟨rfl, rfl, rfl, by simp [World.setCell], fun k _ hne => Below.heap_setCell _ _ _ _ (fun e => hne (by rw [e]))⟩
theorem row_shape {w : World} {base e size : Nat} {v : Value} {n : Nat} {xs : List Value} (h : w.ownsRow base e size v n xs) : ∃ a len cap, v = .slice a len cap := by
  rcases h.2 with ⟨e, _⟩ | ⟨g, cap, cur, e, _⟩
  · exact ⟨_, _, _, e⟩
  · exact ⟨_, _, _, e⟩
theorem World.rangeAt_setCell {w : World} {b o : Nat} {cs : List Value} (h : w.rangeAt b o cs) (b' i : Nat) (v : Value) (hne : b ≠ b') : (w.setCell ⟨b', i, none⟩ v).rangeAt b o cs := fun j u hu => by
  rw [World.cell?_of_block (w := w) (set_other w b' i v b hne)]
  exact h j u hu
theorem step_of {P : Program} {ops : Array Oper} {w : World} {o : Oper} {a : Act} {K : Act → World → Prop} {Q : Exit → Act → World → Prop} {E : Prop} (hgd : o.guard = none) (h : o.wp P a w K Q) :
    if Region.wanted o (yielded ops a.tmps) = true then Oper.wp P o a w K Q else E := by
  have hw : Region.wanted o (yielded ops a.tmps) = true := by simp [Region.wanted, hgd]
  rw [if_pos hw]
  exact h
theorem wp_slice91 {o : Oper} {a : Act} {w : World} {K : Act → World → Prop} {Q : Exit → Act → World → Prop} (x : Operand) (ho : o.op = .buildSlice 86 1 #[(0, x)]) (n : Int) (A : List Value) (hA : A.length = 128) (hx : a.eval x = .agg (Value.int .i64 n :: A).toArray)
    (h : K (a.put o.dst (.slice (some ⟨w.heap.size, 0, none⟩) 1 1)) (w.alloc (.cells (Value.int .i64 n :: A).toArray 241))) : o.wp Tryz.prog a w K Q := by
  unfold Oper.wp execOp
  simp only [ho, Sem.run_bind, List.map_toArray, List.map_cons, List.map_nil, hx, slice91 n A hA w, Result.andThen_ok]
  exact h
theorem wp_append_at {P : Program} {w : World} {o : Oper} {a : Act} {K : Act → World → Prop} {Q : Exit → Act → World → Prop} (s x : Operand) (t e : TypeId) (ho : o.op = .call { callee := .builtin .append, args := #[s, x], argTypes := #[t, t] })
    (base : Nat) (i : TypeInfo) (z : Value) (size bytes : Nat) (ht : P.underlying t = some (.slice e)) (hi : P.info? e = some i) (hz : i.zero = some z) (hsize : i.size = size) (hby : i.bytes = bytes) (hzs : z.cells.size = size) (hsz : 0 < size)
    (v : Value) (n : Nat) (xs : List Value) (hs : a.eval s = v) (hown : w.ownsRow base e size v n xs) (ad : Addr) (m c : Nat) (news : List Value) (hx : a.eval x = .slice (some ad) m c) (hl : news.length = m * size) (hnews : ∀ j u, news[j]? = some u → w.cell? (ad.add j) = some u) (h1 : ∀ u ∈ news, u.oneCell' = true)
    (h63 : n + m ≤ maxLen) (hbytes : (n + m) * bytes ≤ 140737488355328) (hbase : base ≤ w.heap.size)
    (h : ∀ v' w', w'.ownsRow base e size v' (n + m) (xs ++ news) → w.grownBy w' v.ownBlock → (v'.ownBlock = v.ownBlock ∨ v'.ownBlock = some w.heap.size) → K (a.put o.dst v') w') : o.wp P a w K Q := by
  obtain ⟨v', w', hr, h2, h3, _, h4⟩ := run_append_own_at (P := P) w base t o.type e i z size bytes ht hi hz hsize hby hzs hsz v n xs hown ad m c news hl hnews h1 h63 hbytes hbase
  unfold Oper.wp execOp
  simp only [ho, resolve, invoke, builtin, Sem.run_bind, Sem.run_pure, Result.andThen_ok, List.map_toArray, List.map_cons, List.map_nil, hs, hx, hr]
  exact h v' w' h2 h3 h4
theorem yields_build {o : Oper} {a : Act} (n : Int) (A : List Value) (hA : A.length = 128) (w : World) (x y : Operand) (ho : o.op = .build 241 #[(0, x), (1, y)]) (hx : a.eval x = .int .i64 n) (hy : a.eval y = .agg A.toArray) : (execOp a.eval o).run Tryz.prog w = .ok (.value (.agg (Value.int .i64 n :: A).toArray)) w := by
  unfold execOp
  simp only [ho, Sem.run_bind, List.map_toArray, List.map_cons, List.map_nil, hx, hy, run_build w 241 #[(0, .int .i64 n), (1, .agg A.toArray)] _ (built117 n A hA), Result.andThen_ok, Sem.run_pure]
end Go.Proofs.YtlmofgfkclfgeaaGreat
/- A first write goes into the cache; any write. -/
namespace Go.Proofs.YtlmofgfkclfgeaaGreat
open Go.RowKit Go.Maps
set_option linter.unusedVariables false
theorem size_al (w : World) (o : Obj) : (w.alloc o).heap.size = w.heap.size + 1 := Array.size_push _
/-- a disk that is given an empty map. -/
theorem Dk.mapped {w : World} {p q : Nat} {vw : Value} {S : DS} (h : Dk w p q vw none S) : Dk ((w.alloc (.map #[] 0)).setCell ⟨p, 2, none⟩ (.map (some w.heap.size))) p q vw (some w.heap.size) S := by
  have hp := h.lt p (.inl rfl)
  have hq := h.lt q (.inr (.inl rfl))
  have hws : S.ws = [] := h.map
  refine ⟨?_, ?_, ?_, ?_, h.pq, h.pv, h.qv, fun e => by cases e; omega, fun e => by cases e; omega, fun k hk e => by cases e; have := (h.wri.lt _ hk).2; omega, h.good⟩
  · rw [heap_setCell_same _ p 2 _ 95 _ ((Below.heap_alloc w _ p hp).trans h.blk)]; rfl
  · rw [set_other _ _ _ _ _ h.pq.symm, Below.heap_alloc w _ q hq]; exact h.las
  · exact (h.wri.alloc _).kept (row := some p) (grown_setCell _ p 2 _) (.inr h.pv)
  · refine ⟨0, .map [], Nat.zero_le _, ?_, by rw [hws]; exact Tells.nil⟩
    exact (World.ownsMap_made w Tryz.prog 3 _).kept (row := some p) (grown_setCell _ p 2 _) (by intro e; cases e; omega)
end Go.Proofs.YtlmofgfkclfgeaaGreat
/- What a write does, where nothing is in its way. -/
namespace Go.Proofs.YtlmofgfkclfgeaaGreat
open Go.RowKit Go.Maps
set_option linter.unusedVariables false

/-- the i-th sector of bytes. -/
def sec (zs : List Int) (i : Nat) : List Int := (zs.drop (i * 128)).take 128
/-- k sectors more in the cache, from the number b on. -/
def DS.adds (S : DS) (b : Nat) (zs : List Int) (k : Nat) : DS := { S with ws := S.ws ++ (List.range k).map fun i => (b + i, sec zs i) }
theorem DS.adds_zero (S : DS) (b : Nat) (zs : List Int) : S.adds b zs 0 = S := by simp [DS.adds]
theorem DS.adds_succ (S : DS) (b : Nat) (zs : List Int) (k : Nat) : S.adds b zs (k + 1) = (S.adds b zs k).add (b + k) (sec zs k) := by
  simp [DS.adds, DS.add, List.range_succ]
theorem DS.adds_len (S : DS) (b : Nat) (zs : List Int) (k : Nat) : (S.adds b zs k).ws.length = S.ws.length + k := by simp [DS.adds]
theorem sec_len (zs : List Int) (i : Nat) (h : i * 128 + 128 ≤ zs.length) : (sec zs i).length = 128 := by simp [sec]; omega
theorem sec_byts {zs : List Int} (h : Byts zs) (i : Nat) : Byts (sec zs i) := (h.drop _).take _
theorem Mv.drew {O : Nat → Prop} {w w' : World} (h : Mv O w w') : Mv O w w'.drew := ⟨h.os, h.tape, h.output, h.size, h.block⟩
theorem Go1.drew {O O' : Nat → Prop} {w w' : World} (h : Go1 O w O' w') : Go1 O w O' w'.drew := ⟨h.mv.drew, h.own⟩
theorem Mv.cell {O : Nat → Prop} {w w' : World} (h : Mv O w w') {b o : Nat} {v : Value} (hc : w.cell? ⟨b, o, none⟩ = some v) (ho : ¬ O b) : w'.cell? ⟨b, o, none⟩ = some v := by
  rw [World.cell?_of_block (w := w) (h.block b (World.block_lt_of_cell? w _ hc) ho)]; exact hc
theorem Mv.row {O : Nat → Prop} {w w' : World} (h : Mv O w w') {b o : Nat} {zs : List Int} (hr : Row w (some ⟨b, o, none⟩) zs) (ho : ¬ O b) : Row w' (some ⟨b, o, none⟩) zs := by
  rcases hr with hr | ⟨b', off, e, hlt, hc⟩
  · exact .inl hr
  · cases e
    exact .inr ⟨b, o, rfl, Nat.lt_of_lt_of_le hlt h.size, fun i hi => h.cell (hc i hi) ho⟩

end Go.Proofs.YtlmofgfkclfgeaaGreat
