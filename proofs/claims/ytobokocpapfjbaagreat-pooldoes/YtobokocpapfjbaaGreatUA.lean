/- New, of the document's own disk. -/
import Derived.Test.YtobokocpapfjbaaGreatXJ
import Derived.Test.YtobokocpapfjbaaGreatXD
import Derived.Test.YtobokocpapfjbaaGreatXF
import Derived.Test.YtobokocpapfjbaaGreatXH
namespace Go.Proofs.YtobokocpapfjbaaGreat
open Go.RowKit Go.Maps
set_option linter.unusedVariables false

theorem info63 : (Tryz.prog.info? 22).map (fun i => (i.zero, i.size, i.bytes)) = some (some (.slice none 0 0), 1, 24) := by kernel_rfl
/-- a disk of these sectors, nothing in its cache. -/
def DS.of (ls : List (List Int)) : DS := ⟨ls, [], false, false, 0, false, 0, false, 0, false, 0, 0, 0, 0⟩
theorem rbuild100 (a : Option Addr) (l c : Nat) (b : Option Addr) (l2 c2 : Nat) (W : World) : (Instr.build 88 #[(0, .slice a l c), (3, .int .i64 (-1)), (4, .slice b l2 c2)]).run Tryz.prog W = .ok (.agg #[.slice a l c, .slice none 0 0, .bool false, .int .i64 (-1), .slice b l2 c2, .int .i64 0, .int .i64 0, .int .i64 0]) W := run_build W 88 _ _ (by kernel_rfl)
set_option maxHeartbeats 800000 in
set_option maxRecDepth 1000000 in
theorem rmade_any (a : Option Addr) (l c : Nat) (w : World) : Calls Tryz.prog 36 #[.slice a l c] w fun e w' => ∃ p f, e = .returned (.pointer (some ⟨p, 0, none⟩)) ∧ w.heap.size ≤ p ∧ w.heap.size ≤ f ∧ w'.heap[p]? = some (.cells #[.slice a l c, .slice none 0 0, .bool false, .int .i64 (-1), .slice (some ⟨f, 0, none⟩) 4 4, .int .i64 0, .int .i64 0, .int .i64 0] 88 (0, 0)) ∧ w'.heap[f]? = some (.cells #[.int .i64 (-1), .int .i64 (-1), .int .i64 (-1), .int .i64 (-1)] 3 (0, 0)) ∧ Below w.heap.size w w' := by
  have hbd := rbuild100
  go_enter Tryz.func36, Tryz.ntmps36
  go_wp2
  go_ret
  refine ⟨w.heap.size + 1, w.heap.size, rfl, by omega, Nat.le_refl _, ?_, ?_, (below_alloc w _).trans ((below_alloc _ _).mono (by rw [size_al]; omega))⟩
  · have := heap_alloc_new (w.alloc (.cells #[.int .i64 (-1), .int .i64 (-1), .int .i64 (-1), .int .i64 (-1)] 3)) (.cells #[.slice a l c, .slice none 0 0, .bool false, .int .i64 (-1), .slice (some ⟨w.heap.size, 0, none⟩) 4 4, .int .i64 0, .int .i64 0, .int .i64 0] 88)
    rw [size_al] at this
    exact this
  · rw [Below.heap_alloc _ _ w.heap.size (by rw [size_al]; omega)]
    exact heap_alloc_new w _
theorem make128 (W : World) : (Instr.makeSlice 22 (.int .i64 128) (.int .i64 128)).run Tryz.prog W = .ok (.slice (some ⟨W.heap.size, 0, none⟩) 128 128) (W.alloc (.cells (madeCells #[.int .u8 0] 128) 5)) := by
  obtain ⟨i0, hi, hz0, hz1, hz2⟩ := info_parts Tryz.info5
  have := run_make (P := Tryz.prog) W 22 5 i0 _ Tryz.underlying22 hi hz0 .i64 .i64 128 128 (by omega) (by omega) (by rw [hz2]; omega) (by omega)
  rw [hz1] at this
  simpa [Value.cells] using this
theorem own_zeros (W : World) : Own (W.alloc (.cells (madeCells #[.int .u8 0] 128) 5)) (.slice (some ⟨W.heap.size, 0, none⟩) 128 128) (List.replicate 128 0) := by
  have := World.ownsRow_lit (base := 0) (e := 5) (size := 1) W (madeCells #[.int .u8 0] 128) 128 (Nat.zero_le _) (by decide) (by rw [size_madeCells])
  rw [toList_madeCells_one] at this
  unfold Own
  rw [List.length_replicate, List.map_replicate]
  exact this
/-- a table of k sectors of noughts. -/
structure Tbl (w wr : World) (v : Value) (k : Nat) (Ls : List Value) : Prop where
  row : wr.ownsRow 0 22 1 v k Ls
  sl : ∀ u ∈ Ls, Sl wr u (List.replicate 128 0) ∧ ∀ g, u.ownBlock = some g → w.heap.size ≤ g
  vb : ∀ g, v.ownBlock = some g → w.heap.size ≤ g
  be : Below w.heap.size w wr
theorem Tbl.more {w wr w7 : World} {v v' : Value} {k : Nat} {Ls : List Value} (h : Tbl w wr v k Ls)
    (ho : w7.ownsRow 0 22 1 v' (k + 1) (Ls ++ [.slice (some ⟨wr.heap.size, 0, none⟩) 128 128]))
    (hg : ((wr.alloc (.cells (madeCells #[.int .u8 0] 128) 5)).alloc (.cells #[.slice (some ⟨wr.heap.size, 0, none⟩) 128 128] 22)).grownBy w7 v.ownBlock)
    (hl : v'.ownBlock = v.ownBlock ∨ v'.ownBlock = some ((wr.alloc (.cells (madeCells #[.int .u8 0] 128) 5)).alloc (.cells #[.slice (some ⟨wr.heap.size, 0, none⟩) 128 128] 22)).heap.size) :
    Tbl w w7 v' (k + 1) (Ls ++ [.slice (some ⟨wr.heap.size, 0, none⟩) 128 128]) := by
  have s1 : (wr.alloc (.cells (madeCells #[.int .u8 0] 128) 5)).heap.size = wr.heap.size + 1 := size_al _ _
  have s2 : ((wr.alloc (.cells (madeCells #[.int .u8 0] 128) 5)).alloc (.cells #[.slice (some ⟨wr.heap.size, 0, none⟩) 128 128] 22)).heap.size = wr.heap.size + 2 := by rw [size_al, s1]
  have b1 := below_alloc wr (.cells (madeCells #[.int .u8 0] 128) 5)
  have b2 := below_alloc (wr.alloc (.cells (madeCells #[.int .u8 0] 128) 5)) (.cells #[.slice (some ⟨wr.heap.size, 0, none⟩) 128 128] 22)
  have b3 := b1.trans (b2.mono b1.size)
  have hsz := h.be.size
  have hvl : ∀ g, v.ownBlock = some g → g < wr.heap.size := fun g hv => (h.row.lt g hv).2
  refine ⟨ho, fun u hu => ?_, fun g hv => ?_, ⟨hg.os.trans (b3.os.trans h.be.os), hg.tape.trans (b3.tape.trans h.be.tape), hg.output.trans (b3.output.trans h.be.output), Nat.le_trans hsz (Nat.le_trans b3.size hg.size), fun j hj => ?_⟩⟩
  · rw [List.mem_append, List.mem_singleton] at hu
    rcases hu with hu | rfl
    · refine ⟨(h.sl u hu).1.stays (fun j hj hlt => ?_) (Nat.le_trans b3.size hg.size), (h.sl u hu).2⟩
      rw [hg.block j (by omega) (fun e => ?_), b3.block j hlt]
      obtain ⟨c1, g1, h1⟩ := row_type h.row e.symm
      obtain ⟨c2, g2, h2⟩ := (h.sl u hu).1.type hj
      rw [h1] at h2; simp at h2
    · have hz : Sl (wr.alloc (.cells (madeCells #[.int .u8 0] 128) 5)) (.slice (some ⟨wr.heap.size, 0, none⟩) 128 128) (List.replicate 128 0) := own_zeros wr
      refine ⟨hz.stays (fun j hj hlt => ?_) (Nat.le_trans b2.size hg.size), fun g hv => by simp [Value.ownBlock] at hv; omega⟩
      have hj' : j = wr.heap.size := by simp [Value.ownBlock] at hj; omega
      rw [hg.block j (by omega) (fun e => by have := hvl j e.symm; omega), b2.block j hlt]
  · rcases hl with e | e
    · exact h.vb g (e ▸ hv)
    · rw [e, s2] at hv; cases hv; omega
  · rw [hg.block j (by omega) (fun e => by have := h.vb j e.symm; omega), b3.block j (by omega)]
    exact h.be.block j hj
set_option maxHeartbeats 1600000 in
set_option maxRecDepth 1000000 in
theorem rnew_any (N : Nat) (w : World) (h1 : 1 ≤ N) (h2 : N ≤ 16384) : Calls Tryz.prog 7 #[.int .i64 (N : Int)] w fun e w' => ∃ p f vl Ls, e = .returned (.tuple #[.pointer (some ⟨p, 0, none⟩), .int .u16 0]) ∧ RD w' p vl Ls (.slice none 0 0) [] f (DS.of (List.replicate (8 * N) (List.replicate 128 0))) ∧ (∀ k, OwR p vl Ls (.slice none 0 0) [] f k → w.heap.size ≤ k) ∧ Below w.heap.size w w' := by
  have d1 : decide ((N : Int) < 1) = false := by simp; omega
  have d2 : decide ((N : Int) > 16384) = false := by simp; omega
  have d3 : decide ((16384 : Int) < N) = false := by simp; omega
  have hw : IntKind.i64.wrap (8 * (N : Int)) = 8 * (N : Int) := by rw [IntKind.wrap_i64]; omega
  have hmk := make128
  have hz35 : ∀ w, (zeroValue 42).run Tryz.prog w = .ok (.slice none 0 0) w := (zero_of_info (P := Tryz.prog) (t := 42) (v := .slice none 0 0) (n := 1) (by kernel_rfl)).1
  obtain ⟨i1, hj, hy0, hy1, hy2⟩ := info_parts info63
  go_enter Tryz.func7, Tryz.ntmps7
  go_wp2
  go_loopw [5, 4] (fun i v wr' => ∃ (k : Nat) (Ls : List Value), k ≤ 8 * N ∧ i = .int .i64 (k : Int) ∧ Tbl w wr' v k Ls) (fun i _ _ => 8 * N - (intOf i).toNat)
  case atStart => exact ⟨0, [], Nat.zero_le _, rfl, World.ownsRow_nil _ _ _ _, fun u hu => by simp at hu, fun g hg => by simp [Value.ownBlock] at hg, Below.refl _ _⟩
  case round =>
    obtain ⟨k, Ls, hk, rfl, ht⟩ := hrel
    have HT := hide ht
    clear ht
    by_cases hlt : k < 8 * N
    · have hcc : decide ((k : Int) < 8 * (N : Int)) = true := by simp; omega
      have HO : Hid (((wr.alloc (.cells (madeCells #[.int .u8 0] 128) 5)).alloc (.cells #[.slice (some ⟨wr.heap.size, 0, none⟩) 128 128] 22)).ownsRow 0 22 1 u4 k Ls) := (HT.out.row.alloc _).alloc _
      have HNc : Hid (∀ j u, [Value.slice (some ⟨wr.heap.size, 0, none⟩) 128 128][j]? = some u → ((wr.alloc (.cells (madeCells #[.int .u8 0] 128) 5)).alloc (.cells #[.slice (some ⟨wr.heap.size, 0, none⟩) 128 128] 22)).cell? ((⟨(wr.alloc (.cells (madeCells #[.int .u8 0] 128) 5)).heap.size, 0, none⟩ : Addr).add j) = some u) := fun j u hu => by
        rw [Addr.add_lit, cell_of_row _ _ (0 + j) _ 22 (0, 0) (heap_alloc_new _ _)]
        simpa using hu
      rw [size_al] at HNc
      have HOne : Hid (∀ u ∈ [Value.slice (some ⟨wr.heap.size, 0, none⟩) 128 128], u.oneCell' = true) := fun u hu => by simp only [List.mem_singleton] at hu; rw [hu]; rfl
      have HB1 : Hid (k + 1 ≤ maxLen) := by rw [Hid]; unfold maxLen; omega
      have HB2 : Hid ((k + 1) * 24 ≤ 140737488355328) := by rw [Hid]; omega
      have hkN : k + 1 ≤ 8 * N := hlt
      go_wp2_with (at_builtin; refine wpList_append_at (by rfl) (.tmp 18) (.tmp 20) 42 22 (by rfl) 0 i1 (.slice none 0 0) 1 24 Tryz.underlying42 hj hy0 hy1 hy2 rfl (by omega) u4 k Ls (by rfl) HO.out ⟨wr.heap.size + 1, 0, none⟩ 1 1 [.slice (some ⟨wr.heap.size, 0, none⟩) 128 128] (by rfl) rfl HNc.out HOne.out HB1.out HB2.out (Nat.zero_le _) ?_; intro v' w4 ho4 hg4 hl4; have HT4 := hide (HT.out.more ho4 hg4 hl4); clear ho4 hg4 hl4)
      go_roundw
      case rel => exact ⟨k + 1, _, hkN, by simp, HT4.out⟩
      case measure => simp [intOf]; omega
    · have HE : Hid (k = 8 * N) := by rw [Hid]; omega
      have hcc : decide ((k : Int) < 8 * (N : Int)) = false := by simp; omega
      obtain ⟨la, lc, rfl⟩ := row_len HT.out.row
      have HM := hide (rmade_any la k lc wr)
      go_wp2_with fail
      refine HM.out.mono ?_
      rintro e2 w4 ⟨p, f, rfl, hp, hf, hbp, hbf, hb⟩
      have HFin : Hid (RD w4 p (.slice la k lc) Ls (.slice none 0 0) [] f (DS.of (List.replicate (8 * N) (List.replicate 128 0))) ∧ (∀ q, OwR p (.slice la k lc) Ls (.slice none 0 0) [] f q → w.heap.size ≤ q) ∧ Below w.heap.size w w4) := by
        have hsz := HT.out.be.size
        refine ⟨⟨hbp, ?_, ?_, ?_, World.ownsRow_nil _ _ _ _, rfl, fun i x v g1 g2 => by simp at g2, hbf, ?_⟩, ?_, HT.out.be.trans (hb.mono hsz)⟩
        · show w4.ownsRow 0 22 1 (.slice la k lc) (List.replicate (8 * N) (List.replicate 128 0)).length Ls
          rw [List.length_replicate, ← HE.out]
          exact row_keep HT.out.row (fun q hq => hb.block q (HT.out.row.lt q hq).2)
        · show Ls.length = (List.replicate (8 * N) (List.replicate 128 0)).length
          rw [List.length_replicate, ← HE.out]
          have := HT.out.row.1
          omega
        · intro i zs v g1 g2
          have g1' : (List.replicate (8 * N) (List.replicate 128 (0 : Int)))[i]? = some zs := g1
          have hz := List.eq_of_mem_replicate (List.mem_of_getElem? g1')
          rw [hz]
          exact (HT.out.sl v (List.mem_of_getElem? g2)).1.stays (fun q hq hl => hb.block q hl) hb.size
        · refine ⟨fun s hs => ?_, fun x hx => by simp [DS.of] at hx, by show (List.replicate (8 * N) _).length ≤ _; rw [List.length_replicate]; omega, by simp [DS.of], Cd0, Cd0, Cd0, Cd0, by simp [DS.of], by simp [DS.of], by simp [DS.of]⟩
          rw [List.eq_of_mem_replicate hs]
          exact ⟨List.length_replicate, rep_byts 128 0 (by omega)⟩
        · intro q hq
          rcases hq with rfl | hq | hq | rfl | ⟨v, hv, hq⟩ | ⟨v, hv, _⟩
          · omega
          · exact HT.out.vb q hq
          · simp [Value.ownBlock] at hq
          · omega
          · exact (HT.out.sl v hv).2 q hq
          · simp at hv
      clear hp hf hbp hbf hb
      go_wp2
      go_ret2
      exact ⟨p, f, _, _, rfl, HFin.out⟩
end Go.Proofs.YtobokocpapfjbaaGreat
/- Disks that are refused for their size; Load of the document's own disk. -/
namespace Go.Proofs.YtobokocpapfjbaaGreat
open Go.RowKit Go.Maps
set_option linter.unusedVariables false

set_option maxHeartbeats 800000 in
set_option maxRecDepth 1000000 in
theorem rnew_no (n : Int) (w : World) (h : n < 1 ∨ 16384 < n) : Calls Tryz.prog 7 #[.int .i64 n] w fun e w' => e = .returned (.tuple #[.pointer none, .int .u16 70]) ∧ w' = w := by
  by_cases h1 : n < 1
  · have d1 : decide (n < 1) = true := by simp [h1]
    clear h h1
    go_enter Tryz.func7, Tryz.ntmps7
    go_wp2
    go_ret2
    exact ⟨rfl, rfl⟩
  · have d1 : decide (n < 1) = false := by simp [h1]
    have d2 : decide ((16384 : Int) < n) = true := by simp; omega
    clear h h1
    go_enter Tryz.func7, Tryz.ntmps7
    go_wp2
    go_ret2
    exact ⟨rfl, rfl⟩
set_option maxHeartbeats 800000 in
set_option maxRecDepth 1000000 in
theorem new_no (n : Int) (w : World) (h : n < 1 ∨ 16384 < n) : Calls Tryz.prog 6 #[.int .i64 n] w fun e w' => e = .returned (.tuple #[.pointer none, .int .u16 70]) ∧ Below w.heap.size w w' := by
  by_cases h1 : n < 1
  · have d1 : decide (n < 1) = true := by simp [h1]
    clear h h1
    go_enter Tryz.func6, Tryz.ntmps6
    go_wp2
    go_ret2
    exact ⟨rfl, Below.refl _ _⟩
  · have d1 : decide (n < 1) = false := by simp [h1]
    have d2 : decide ((16384 : Int) < n) = true := by simp; omega
    clear h h1
    go_enter Tryz.func6, Tryz.ntmps6
    go_wp2
    go_ret2
    exact ⟨rfl, Below.refl _ _⟩
end Go.Proofs.YtobokocpapfjbaaGreat
/- A load that the program's disk refuses; both disks begin in the same state. -/
namespace Go.Proofs.YtobokocpapfjbaaGreat
open Go.RowKit Go.Maps
set_option linter.unusedVariables false

theorem new_of (N : Nat) : DS.of (List.replicate N (List.replicate 128 0)) = DS.new N := rfl
end Go.Proofs.YtobokocpapfjbaaGreat
/- Both disks side by side: what each call answers, told by the state that they share. -/
namespace Go.Proofs.YtobokocpapfjbaaGreat
open Go.RowKit Go.Maps
set_option linter.unusedVariables false

section
variable {w w' : World} {p f : Nat} {vl vc : Value} {Ls Cs : List Value} {S S' : DS}
theorem RD.ltA (h : RD w p vl Ls vc Cs f S) (k : Nat) (hk : OwR p vl Ls vc Cs f k) : k < w.heap.size := by
  rcases hk with hk | hk | hk | hk | ⟨v, hv, hk⟩ | ⟨v, hv, hk⟩
  · exact h.lt k (.inl hk)
  · exact h.lt k (.inr (.inl hk))
  · exact h.lt k (.inr (.inr (.inl hk)))
  · exact h.lt k (.inr (.inr (.inr hk)))
  · obtain ⟨i, hi, e⟩ := List.getElem_of_mem hv
    have hi' : i < S.ls.length := by rw [← h.lle]; exact hi
    exact Own.lt (h.lsl i _ v (List.getElem?_eq_getElem hi') (by rw [List.getElem?_eq_getElem hi, e])) hk
  · obtain ⟨i, hi, e⟩ := List.getElem_of_mem hv
    have hi' : i < S.ws.length := by rw [← h.cle]; exact hi
    exact Own.lt (h.csl i _ v (List.getElem?_eq_getElem hi') (by rw [List.getElem?_eq_getElem hi, e])) hk
/-- the document's disk, with its blocks. -/
def RdAt (w : World) (r : Nat) (S : DS) (O : Nat → Prop) : Prop := ∃ vl Ls vc Cs f, RD w r vl Ls vc Cs f S ∧ ∀ k, O k ↔ OwR r vl Ls vc Cs f k
theorem RdAt.lt {r : Nat} {O : Nat → Prop} (h : RdAt w r S O) (k : Nat) (hk : O k) : k < w.heap.size := by
  obtain ⟨vl, Ls, vc, Cs, f, h, ho⟩ := h
  exact h.ltA k ((ho k).1 hk)
theorem RdAt.other {r : Nat} {O O1 : Nat → Prop} (h : RdAt w r S O) (hm : Mv O1 w w') (hap : ∀ k, O k → ¬ O1 k) : RdAt w' r S O := by
  obtain ⟨vl, Ls, vc, Cs, f, h, ho⟩ := h
  exact ⟨vl, Ls, vc, Cs, f, h.stays (fun k hk hl => hm.block k hl (hap k ((ho k).2 hk))) hm.size, ho⟩
theorem RdAt.below {r : Nat} {O : Nat → Prop} (h : RdAt w r S O) (hb : Below w.heap.size w w') : RdAt w' r S O := by
  obtain ⟨vl, Ls, vc, Cs, f, h, ho⟩ := h
  exact ⟨vl, Ls, vc, Cs, f, h.below hb, ho⟩
theorem RdAt.good {r : Nat} {O : Nat → Prop} (h : RdAt w r S O) : S.Good := by
  obtain ⟨vl, Ls, vc, Cs, f, h, ho⟩ := h
  exact h.good
theorem rd_to {O O1 : Nat → Prop} {vl' vc' : Value} {Ls' Cs' : List Value} {f' : Nat} (hO : ∀ k, O k ↔ OwR p vl Ls vc Cs f k) (h' : RD w' p vl' Ls' vc' Cs' f' S') (hm : Mv O1 w w') (h1 : ∀ k, O1 k → OwR p vl Ls vc Cs f k) (h2 : ∀ k, OwR p vl' Ls' vc' Cs' f' k → OwR p vl Ls vc Cs f k ∨ w.heap.size ≤ k) : ∃ O', RdAt w' p S' O' ∧ Go1 O w O' w' :=
  ⟨_, ⟨_, _, _, _, _, h', fun k => Iff.rfl⟩, ⟨hm.os, hm.tape, hm.output, hm.size, fun k hk hn => hm.block k hk (fun h => hn ((hO k).2 (h1 k h)))⟩, fun k hk => (h2 k hk).imp_left (hO k).2⟩
theorem rdat_same {O : Nat → Prop} (hO : ∀ k, O k ↔ OwR p vl Ls vc Cs f k) (h' : RD w' p vl Ls vc Cs f S') (hm : Mv (fun k => k = p ∨ k = f) w w') : ∃ O', RdAt w' p S' O' ∧ Go1 O w O' w' :=
  rd_to hO h' hm (fun k hk => hk.elim (fun e => .inl e) (fun e => .inr (.inr (.inr (.inl e))))) (fun k hk => .inl hk)
end
/-- is it a page of the disk? -/
def Pgs (S : DS) (pg : Int) : Prop := 0 ≤ pg ∧ pg < ((S.ls.length / 8 : Nat) : Int)
instance (S : DS) (pg : Int) : Decidable (Pgs S pg) := by unfold Pgs; infer_instance
def rdE (S : DS) (pg : Int) : Nat := if S.er S.s1 S.l1 ≠ 0 then S.er S.s1 S.l1 else if Pgs S pg then 0 else 2
def rdB (S : DS) (pg : Int) : List Int := if S.er S.s1 S.l1 = 0 ∧ Pgs S pg then rd S (8 * pg.toNat) 8 else []
def News (w : World) (v : Value) : Prop := ∀ g, v.ownBlock = some g → w.heap.size ≤ g
theorem News.nil (w : World) : News w (.slice none 0 0) := fun g hg => by simp [Value.ownBlock] at hg
theorem DkAt.good {w : World} {p q : Nat} {S : DS} {O : Nat → Prop} (h : DkAt w p q S O) : S.Good := by
  obtain ⟨vw, m, hd, ho⟩ := h
  exact hd.good
theorem d_read (p q : Nat) (O : Nat → Prop) (S : DS) (pg : Int) (w : World) (h : DkAt w p q S O) (hn : S.n1 + 1 ≤ 1000000) :
    Calls Tryz.prog 48 #[.pointer (some ⟨p, 0, none⟩), .int .i64 pg] w fun e w' => ∃ v, e = .returned (.tuple #[v, .int .u16 (rdE S pg : Int)]) ∧ Own w' v (rdB S pg) ∧ News w v ∧ DkAt w' p q (S.be S.op1) O ∧ Go1 O w O w' := by
  by_cases hr : Pgs S pg
  · obtain ⟨n, rfl⟩ := Int.eq_ofNat_of_zero_le hr.1
    have h2 := hr.2
    refine (read_any p q O S n w h (by omega) hn).mono ?_
    rintro e w' ⟨v, rfl, h1, h2, h3⟩
    by_cases he : S.er S.s1 S.l1 = 0
    · have h4 := h1.1 he
      refine ⟨v, by simp [rdE, he, hr], ?_, h4.2, h2, h3⟩
      unfold rdB
      rw [if_pos ⟨he, hr⟩]
      exact h4.1
    · refine ⟨v, by simp [rdE, he], ?_, ?_, h2, h3⟩
      · unfold rdB
        rw [if_neg (fun h => he h.1), h1.2 he]
        exact Own.nil _
      · rw [h1.2 he]; exact News.nil _
  · refine (read_no p q O S pg w h hr hn).mono ?_
    rintro e w' ⟨rfl, h2, h3⟩
    refine ⟨_, ?_, ?_, News.nil _, h2, h3⟩
    · simp [rdE, DS.rno, hr]
    · unfold rdB
      rw [if_neg (fun h => hr h.2)]
      exact Own.nil _
theorem r_read (r : Nat) (O : Nat → Prop) (S : DS) (pg : Int) (w : World) (h : RdAt w r S O) (hn : S.n1 + 1 ≤ 1000000) :
    Calls Tryz.prog 53 #[.pointer (some ⟨r, 0, none⟩), .int .i64 pg] w fun e w' => ∃ v, e = .returned (.tuple #[v, .int .u16 (rdE S pg : Int)]) ∧ Own w' v (rdB S pg) ∧ News w v ∧ ∃ O', RdAt w' r (S.be S.op1) O' ∧ Go1 O w O' w' := by
  obtain ⟨vl, Ls, vc, Cs, f, h, ho⟩ := h
  by_cases he : S.er S.s1 S.l1 = 0
  · by_cases hr : Pgs S pg
    · obtain ⟨n, rfl⟩ := Int.eq_ofNat_of_zero_le hr.1
      have h2 := hr.2
      refine (rread_any h n hn he (by omega)).mono ?_
      rintro e w' ⟨v, rfl, h1, h2, h3, h4⟩
      refine ⟨v, by simp [rdE, he, hr], ?_, h2, rdat_same ho h3 h4⟩
      unfold rdB
      rw [if_pos ⟨he, hr⟩]
      exact h1
    · refine (rread_no h pg hn he hr).mono ?_
      rintro e w' ⟨rfl, h3, h4⟩
      refine ⟨_, by simp [rdE, he, hr], ?_, News.nil _, rdat_same ho h3 h4⟩
      unfold rdB
      rw [if_neg (fun h => hr h.2)]
      exact Own.nil _
  · refine (rread_er h pg hn he).mono ?_
    rintro e w' ⟨rfl, h3, h4⟩
    refine ⟨_, by simp [rdE, he], ?_, News.nil _, rdat_same ho h3 h4⟩
    unfold rdB
    rw [if_neg (fun h => he h.1)]
    exact Own.nil _
def wrE (S : DS) (pg : Int) (n : Nat) : Nat := if S.er S.s2 S.l2 ≠ 0 then S.er S.s2 S.l2 else if ¬ Pgs S pg then 2 else if n = 1024 ∨ n = 128 then 0 else 1
def wrS (S : DS) (pg : Int) (zs : List Int) : DS := if S.er S.s2 S.l2 = 0 ∧ Pgs S pg ∧ zs.length = 1024 then S.op2.adds (8 * pg.toNat) zs 8 else if S.er S.s2 S.l2 = 0 ∧ Pgs S pg ∧ zs.length = 128 then S.op2.adds (8 * pg.toNat) zs 1 else S.be S.op2
theorem d_write (p q : Nat) (O : Nat → Prop) (S : DS) (pg : Int) (a : Option Addr) (n cap : Nat) (zs : List Int) (w : World) (h : DkAt w p q S O) (hl : zs.length = n) (hr : Row w a zs) (hby : Byts zs) (hlc : n ≤ cap) (hcm : cap ≤ 9223372036854775807) (hap : zs ≠ [] → ∀ ad, a = some ad → ¬ O ad.block) (hl8 : S.ls.length % 8 = 0) (hf : S.ws.length + 8 ≤ 1000000) (hn : S.n2 + 1 ≤ 1000000) :
    Calls Tryz.prog 8 #[.pointer (some ⟨p, 0, none⟩), .int .i64 pg, .slice a n cap] w fun e w' => e = .returned (.int .u16 (wrE S pg n : Int)) ∧ ∃ O', DkAt w' p q (wrS S pg zs) O' ∧ Go1 O w O' w' := by
  by_cases hok : Pgs S pg ∧ (n = 1024 ∨ n = 128)
  · obtain ⟨hpg, hn2⟩ := hok
    obtain ⟨m, rfl⟩ := Int.eq_ofNat_of_zero_le hpg.1
    have h2 := hpg.2
    rcases hr with h0 | ⟨b, off, rfl, hb, hc⟩
    · rw [h0] at hl; simp at hl; omega
    obtain ⟨N, hN⟩ : ∃ N, n = 1024 ∧ N = 8 ∨ n = 128 ∧ N = 1 := by
      rcases hn2 with e | e
      · exact ⟨8, .inl ⟨e, rfl⟩⟩
      · exact ⟨1, .inr ⟨e, rfl⟩⟩
    refine (write_any p q O S m b off n cap zs N w h (hap (fun e => by rw [e] at hl; simp at hl; omega) _ rfl) (.inr ⟨b, off, rfl, hb, hc⟩) hb hl hby hlc hcm (by omega) hl8 hN hf hn).mono ?_
    rintro e w' ⟨rfl, O', h3, h4⟩
    have eE : wrE S (m : Int) n = S.er S.s2 S.l2 := by
      unfold wrE
      by_cases he : S.er S.s2 S.l2 = 0
      · rw [if_neg (by simp [he]), if_neg (by simpa using hpg), if_pos hn2, he]
      · rw [if_pos he]
    have eS : wrS S (m : Int) zs = S.wr m zs N := by
      unfold wrS DS.wr
      by_cases he : S.er S.s2 S.l2 = 0
      · rw [if_pos he]
        rcases hN with ⟨e1, e2⟩ | ⟨e1, e2⟩
        · rw [if_pos ⟨he, hpg, hl.trans e1⟩, e2]; rfl
        · rw [if_neg (fun h => by have := h.2.2; omega), if_pos ⟨he, hpg, hl.trans e1⟩, e2]; rfl
      · rw [if_neg he, if_neg (fun h => he h.1), if_neg (fun h => he h.1)]
    rw [eE, eS]
    exact ⟨rfl, O', h3, h4⟩
  · refine (write_no p q O S pg a n cap w h ?_ hn).mono ?_
    · by_cases hpg : Pgs S pg
      · exact .inr ⟨fun e => hok ⟨hpg, .inl e⟩, fun e => hok ⟨hpg, .inr e⟩⟩
      · exact .inl hpg
    rintro e w' ⟨rfl, h3, h4⟩
    have eE : S.wno pg n = wrE S pg n := by
      by_cases he : S.er S.s2 S.l2 = 0
      · by_cases hpg : Pgs S pg
        · have e1 : S.wno pg n = 1 := by unfold DS.wno; rw [if_neg (fun h => h he), if_neg (fun h => h hpg)]
          have e2 : wrE S pg n = 1 := by unfold wrE; rw [if_neg (fun h => h he), if_neg (fun h => h hpg), if_neg (fun h => hok ⟨hpg, h⟩)]
          rw [e1, e2]
        · have e1 : S.wno pg n = 2 := by unfold DS.wno; rw [if_neg (fun h => h he), if_pos (show ¬ (0 ≤ pg ∧ pg < ((S.ls.length / 8 : Nat) : Int)) from hpg)]
          have e2 : wrE S pg n = 2 := by unfold wrE; rw [if_neg (fun h => h he), if_pos hpg]
          rw [e1, e2]
      · have e1 : S.wno pg n = S.er S.s2 S.l2 := by unfold DS.wno; rw [if_pos he]
        have e2 : wrE S pg n = S.er S.s2 S.l2 := by unfold wrE; rw [if_pos he]
        rw [e1, e2]
    have eS : wrS S pg zs = S.be S.op2 := by
      unfold wrS
      rw [if_neg (fun h => hok ⟨h.2.1, .inl (hl ▸ h.2.2)⟩), if_neg (fun h => hok ⟨h.2.1, .inr (hl ▸ h.2.2)⟩)]
    rw [eE, eS]
    exact ⟨rfl, O, h3, h4⟩
theorem wst_to {w wa w' : World} {p f : Nat} {vl vc vc' : Value} {Ls Cs Cs' : List Value} {S : DS} {O : Nat → Prop} (hO : ∀ k, O k ↔ OwR p vl Ls vc Cs f k) (hm : Mv (fun k => k = p ∨ k = f) w wa) (h : Wst wa w' p vl Ls vc Cs f S vc' Cs') : ∃ O', RdAt w' p S O' ∧ Go1 O w O' w' := by
  have hs := hm.size
  have hv := h.mv
  have hmv : Mv (fun k => k = p ∨ k = f ∨ vc.ownBlock = some k) w w' :=
    ⟨hv.os.trans hm.os, hv.tape.trans hm.tape, hv.output.trans hm.output, Nat.le_trans hm.size hv.size, fun k hk hn => (hv.block k (by omega) (fun e => hn (e.elim .inl (fun e => .inr (.inr e))))).trans (hm.block k hk (fun e => hn (e.elim .inl (fun e => .inr (.inl e)))))⟩
  refine rd_to hO h.rd hmv ?_ ?_
  · rintro k (e | e | e)
    · exact .inl e
    · exact .inr (.inr (.inr (.inl e)))
    · exact .inr (.inr (.inl e))
  · rintro k (e | e | e | e | ⟨v, hv, e⟩ | ⟨v, hv, e⟩)
    · exact .inl (.inl e)
    · exact .inl (.inr (.inl e))
    · exact (h.vb k e).elim (fun e => .inl (.inr (.inr (.inl e)))) (fun e => .inr (by omega))
    · exact .inl (.inr (.inr (.inr (.inl e))))
    · exact .inl (.inr (.inr (.inr (.inr (.inl ⟨v, hv, e⟩)))))
    · exact (h.cb v hv).elim (fun h => .inl (.inr (.inr (.inr (.inr (.inr ⟨v, h, e⟩)))))) (fun h => .inr (by have := h k e; omega))
theorem r_write (r : Nat) (O : Nat → Prop) (S : DS) (pg : Int) (a : Option Addr) (n cap : Nat) (zs : List Int) (w : World) (h : RdAt w r S O) (hl : zs.length = n) (hr : Row w a zs) (hby : Byts zs) (hlc : n ≤ cap) (hcm : cap ≤ 9223372036854775807) (hap : zs ≠ [] → ∀ ad, a = some ad → ¬ O ad.block) (hf : S.ws.length + 8 ≤ 1000000) (hn : S.n2 + 1 ≤ 1000000) :
    Calls Tryz.prog 9 #[.pointer (some ⟨r, 0, none⟩), .int .i64 pg, .slice a n cap] w fun e w' => e = .returned (.int .u16 (wrE S pg n : Int)) ∧ ∃ O', RdAt w' r (wrS S pg zs) O' ∧ Go1 O w O' w' := by
  obtain ⟨vl, Ls, vc, Cs, f, h, ho⟩ := h
  by_cases he : S.er S.s2 S.l2 = 0
  · by_cases hpg : Pgs S pg
    · obtain ⟨m, rfl⟩ := Int.eq_ofNat_of_zero_le hpg.1
      have h2 := hpg.2
      by_cases hn2 : n = 1024 ∨ n = 128
      · have eE : wrE S (m : Int) n = 0 := by unfold wrE; rw [if_neg (by simp [he]), if_neg (by simpa using hpg), if_pos hn2]
        rcases hr with h0 | ⟨b, off, rfl, hb, hc⟩
        · rw [h0] at hl; simp at hl; omega
        have hnb := hap (fun e => by rw [e] at hl; simp at hl; omega) _ rfl
        have hbp : b ≠ r ∧ b ≠ f ∧ vc.ownBlock ≠ some b := ⟨fun e => hnb ((ho b).2 (.inl e)), fun e => hnb ((ho b).2 (.inr (.inr (.inr (.inl e))))), fun e => hnb ((ho b).2 (.inr (.inr (.inl e))))⟩
        rw [eE]
        rcases hn2 with rfl | rfl
        · refine (rwrite_1024 h m b off cap zs hn he (by omega) (.inr ⟨b, off, rfl, hb, hc⟩) hl hby hlc hcm hbp hb hf).mono ?_
          rintro e w' ⟨rfl, wa, vc', Cs', h3, h4⟩
          have eS : wrS S (m : Int) zs = S.op2.adds (8 * m) zs 8 := by unfold wrS; rw [if_pos ⟨he, hpg, hl⟩]; rfl
          rw [eS]
          exact ⟨rfl, wst_to ho h3 h4⟩
        · refine (rwrite_128 h m b off cap zs hn he (by omega) (.inr ⟨b, off, rfl, hb, hc⟩) hl hby hlc hcm hbp hb hf).mono ?_
          rintro e w' ⟨rfl, wa, vc', Cs', h3, h4⟩
          have eS : wrS S (m : Int) zs = S.op2.adds (8 * m) zs 1 := by unfold wrS; rw [if_neg (fun h => by have := h.2.2; omega), if_pos ⟨he, hpg, hl⟩]; rfl
          rw [eS]
          exact ⟨rfl, wst_to ho h3 h4⟩
      · refine (rwrite_arg h m a n cap hn he (by omega) (fun e => hn2 (.inl e)) (fun e => hn2 (.inr e))).mono ?_
        rintro e w' ⟨rfl, h3, h4⟩
        have eE : wrE S (m : Int) n = 1 := by unfold wrE; rw [if_neg (by simp [he]), if_neg (by simpa using hpg), if_neg hn2]
        have eS : wrS S (m : Int) zs = S.be S.op2 := by
          unfold wrS
          rw [if_neg (fun h => hn2 (.inl (hl ▸ h.2.2))), if_neg (fun h => hn2 (.inr (hl ▸ h.2.2)))]
        rw [eE, eS]
        exact ⟨rfl, rdat_same ho h3 h4⟩
    · refine (rwrite_range h pg _ hn he hpg).mono ?_
      rintro e w' ⟨rfl, h3, h4⟩
      have eE : wrE S pg n = 2 := by unfold wrE; rw [if_neg (by simp [he]), if_pos hpg]
      have eS : wrS S pg zs = S.be S.op2 := by unfold wrS; rw [if_neg (fun h => hpg h.2.1), if_neg (fun h => hpg h.2.1)]
      rw [eE, eS]
      exact ⟨rfl, rdat_same ho h3 h4⟩
  · refine (rwrite_er h pg _ hn he).mono ?_
    rintro e w' ⟨rfl, h3, h4⟩
    have eE : wrE S pg n = S.er S.s2 S.l2 := by unfold wrE; rw [if_pos he]
    have eS : wrS S pg zs = S.be S.op2 := by unfold wrS; rw [if_neg (fun h => he h.1), if_neg (fun h => he h.1)]
    rw [eE, eS]
    exact ⟨rfl, rdat_same ho h3 h4⟩
theorem r_sync (r : Nat) (O : Nat → Prop) (S : DS) (w : World) (h : RdAt w r S O) (hn : S.n3 + 1 ≤ 1000000) :
    Calls Tryz.prog 24 #[.pointer (some ⟨r, 0, none⟩)] w fun e w' => e = .returned (.int .u16 (S.er S.s3 S.l3 : Int)) ∧ ∃ O', RdAt w' r S.sy O' ∧ Go1 O w O' w' := by
  obtain ⟨vl, Ls, vc, Cs, f, h, ho⟩ := h
  unfold DS.sy
  by_cases he : S.er S.s3 S.l3 = 0
  · rw [if_pos he]
    refine (rsync_any h hn he).mono ?_
    rintro e w' ⟨rfl, Lt, h3, h4, h5⟩
    rw [he]
    refine ⟨rfl, rd_to ho h3 h5 ?_ ?_⟩
    · rintro k (e | e | e)
      · exact .inl e
      · exact .inr (.inr (.inr (.inl e)))
      · exact .inr (.inl e)
    · rintro k (e | e | e | e | ⟨v, hv, e⟩ | ⟨v, hv, e⟩)
      · exact .inl (.inl e)
      · exact .inl (.inr (.inl e))
      · simp [Value.ownBlock] at e
      · exact .inl (.inr (.inr (.inr (.inl e))))
      · exact .inl ((h4 v hv).elim (fun h => .inr (.inr (.inr (.inr (.inl ⟨v, h, e⟩))))) (fun h => .inr (.inr (.inr (.inr (.inr ⟨v, h, e⟩))))))
      · simp at hv
  · rw [if_neg he]
    refine (rsync_er h hn he).mono ?_
    rintro e w' ⟨rfl, h3, h4⟩
    exact ⟨rfl, rdat_same ho h3 h4⟩
theorem r_cut (r : Nat) (O : Nat → Prop) (S : DS) (ka : Option Addr) (kc : Nat) (bs : List Bool) (w : World) (h : RdAt w r S O) (hbr : BRow w ka bs) (hka : bs ≠ [] → ∀ ad, ka = some ad → ¬ O ad.block) (hbl : bs.length ≤ 9223372036854775807) :
    Calls Tryz.prog 28 #[.pointer (some ⟨r, 0, none⟩), .slice ka bs.length kc] w fun e w' => e = .returned (.tuple #[]) ∧ ∃ O', RdAt w' r (S.cut bs) O' ∧ Go1 O w O' w' := by
  obtain ⟨vl, Ls, vc, Cs, f, h, ho⟩ := h
  refine (rcut_any h ka kc bs hbr (fun h0 ad e e2 => hka h0 ad e ((ho _).2 (.inr (.inl e2)))) hbl).mono ?_
  rintro e w' ⟨rfl, Lt, f', h3, h4, h5, h6⟩
  refine ⟨rfl, rd_to ho h3 h6 ?_ ?_⟩
  · rintro k (e | e)
    · exact .inl e
    · exact .inr (.inl e)
  · rintro k (e | e | e | e | ⟨v, hv, e⟩ | ⟨v, hv, e⟩)
    · exact .inl (.inl e)
    · exact .inl (.inr (.inl e))
    · simp [Value.ownBlock] at e
    · exact .inr (by omega)
    · exact .inl ((h4 v hv).elim (fun h => .inr (.inr (.inr (.inr (.inl ⟨v, h, e⟩))))) (fun h => .inr (.inr (.inr (.inr (.inr ⟨v, h, e⟩))))))
    · simp at hv
def trE (S : DS) (n : Int) : Nat := if n < 0 then 1 else if S.dk then 4 else 0
def trS (S : DS) (n : Int) : DS := if n < 0 ∨ S.dk = true then S else S.trip n
def flE (S : DS) (f n : Int) : Nat := if f < 1 ∨ 3 < f ∨ n < 0 then 1 else if S.dk then 4 else 0
def flS (S : DS) (f n : Int) : DS := if (f < 1 ∨ 3 < f ∨ n < 0) ∨ S.dk = true then S else if f = 1 then S.fl1 n else if f = 2 then S.fl2 n else S.fl3 n
theorem d_fail (p q : Nat) (O : Nat → Prop) (S : DS) (f n : Int) (w : World) (h : DkAt w p q S O) (h1 : n ≤ 9223372036854775807) :
    Calls Tryz.prog 25 #[.pointer (some ⟨p, 0, none⟩), .int .i64 f, .int .i64 n] w fun e w' => e = .returned (.int .u16 (flE S f n : Int)) ∧ ∃ O', DkAt w' p q (flS S f n) O' ∧ Go1 O w O' w' := by
  by_cases hb : (f < 1 ∨ 3 < f ∨ n < 0) ∨ S.dk = true
  · refine (fail_no p q O S f n w h hb).mono ?_
    rintro e w' ⟨rfl, h3⟩
    unfold flS flE
    rw [if_pos hb]
    refine ⟨?_, O, h.below h3, Go1.of_below h3⟩
    by_cases h0 : f < 1 ∨ 3 < f ∨ n < 0
    · simp [h0]
    · simp [h0, hb.resolve_left h0]
  · have h0 : ¬ (f < 1 ∨ 3 < f ∨ n < 0) := fun h => hb (.inl h)
    have hd : S.dk = false := by simpa using fun h => hb (.inr h)
    have eE : flE S f n = 0 := by unfold flE; rw [if_neg h0]; simp [hd]
    rw [eE]
    unfold flS
    rw [if_neg hb]
    rcases (by omega : f = 1 ∨ f = 2 ∨ f = 3) with rfl | rfl | rfl
    · refine (fl1_any p q O S n w h (by omega) h1 hd).mono ?_
      rintro e w' ⟨rfl, h3, h4⟩
      exact ⟨rfl, O, by simpa using h3, h4⟩
    · refine (fl2_any p q O S n w h (by omega) h1 hd).mono ?_
      rintro e w' ⟨rfl, h3, h4⟩
      exact ⟨rfl, O, by simpa using h3, h4⟩
    · refine (fl3_any p q O S n w h (by omega) h1 hd).mono ?_
      rintro e w' ⟨rfl, h3, h4⟩
      exact ⟨rfl, O, by simpa using h3, h4⟩
theorem r_fail (r : Nat) (O : Nat → Prop) (S : DS) (f n : Int) (w : World) (h : RdAt w r S O) (h1 : n ≤ 9223372036854775807) :
    Calls Tryz.prog 26 #[.pointer (some ⟨r, 0, none⟩), .int .i64 f, .int .i64 n] w fun e w' => e = .returned (.int .u16 (flE S f n : Int)) ∧ ∃ O', RdAt w' r (flS S f n) O' ∧ Go1 O w O' w' := by
  obtain ⟨vl, Ls, vc, Cs, fb, h, ho⟩ := h
  by_cases hb : (f < 1 ∨ 3 < f ∨ n < 0) ∨ S.dk = true
  · refine (rfail_no h f n hb).mono ?_
    rintro e w' ⟨rfl, rfl⟩
    unfold flS flE
    rw [if_pos hb]
    refine ⟨?_, O, ⟨vl, Ls, vc, Cs, fb, h, ho⟩, Go1.refl _ _⟩
    by_cases h0 : f < 1 ∨ 3 < f ∨ n < 0
    · simp [h0]
    · simp [h0, hb.resolve_left h0]
  · have h0 : ¬ (f < 1 ∨ 3 < f ∨ n < 0) := fun h => hb (.inl h)
    have hd : S.dk = false := by simpa using fun h => hb (.inr h)
    have eE : flE S f n = 0 := by unfold flE; rw [if_neg h0]; simp [hd]
    rw [eE]
    unfold flS
    rw [if_neg hb]
    rcases (by omega : f = 1 ∨ f = 2 ∨ f = 3) with rfl | rfl | rfl
    · refine (rfl1_any h n (by omega) h1 hd).mono ?_
      rintro e w' ⟨rfl, h3, h4⟩
      exact ⟨rfl, by simpa using rdat_same ho h3 h4⟩
    · refine (rfl2_any h n (by omega) h1 hd).mono ?_
      rintro e w' ⟨rfl, h3, h4⟩
      exact ⟨rfl, by simpa using rdat_same ho h3 h4⟩
    · refine (rfl3_any h n (by omega) h1 hd).mono ?_
      rintro e w' ⟨rfl, h3, h4⟩
      exact ⟨rfl, by simpa using rdat_same ho h3 h4⟩
end Go.Proofs.YtobokocpapfjbaaGreat
