/- New, of the document's own disk. -/
import Derived.Test.YtkammfkknfflgaaQJ
namespace Go.Proofs.Ytkammfkknfflgaa
open Go.RowKit Go.Maps
set_option linter.unusedVariables false

theorem info63 : (Try.prog.info? 63).map (fun i => (i.zero, i.size, i.bytes)) = some (some (.slice none 0 0), 1, 24) := by kernel_rfl
/-- a disk of these sectors, nothing in its cache. -/
def DS.of (ls : List (List Int)) : DS := ⟨ls, [], false, false, 0, false, 0, false, 0, false, 0, 0, 0, 0⟩
theorem rbuild100 (a : Option Addr) (l c : Nat) (b : Option Addr) (l2 c2 : Nat) (W : World) : (Instr.build 100 #[(0, .slice a l c), (3, .int .i64 (-1)), (4, .slice b l2 c2)]).run Try.prog W = .ok (.agg #[.slice a l c, .slice none 0 0, .bool false, .int .i64 (-1), .slice b l2 c2, .int .i64 0, .int .i64 0, .int .i64 0]) W := run_build W 100 _ _ (by kernel_rfl)
set_option maxHeartbeats 800000 in
set_option maxRecDepth 1000000 in
theorem rmade_any (a : Option Addr) (l c : Nat) (w : World) : Calls Try.prog 25 #[.slice a l c] w fun e w' => ∃ p f, e = .returned (.pointer (some ⟨p, 0, none⟩)) ∧ w.heap.size ≤ p ∧ w.heap.size ≤ f ∧ w'.heap[p]? = some (.cells #[.slice a l c, .slice none 0 0, .bool false, .int .i64 (-1), .slice (some ⟨f, 0, none⟩) 4 4, .int .i64 0, .int .i64 0, .int .i64 0] 100 (0, 0)) ∧ w'.heap[f]? = some (.cells #[.int .i64 (-1), .int .i64 (-1), .int .i64 (-1), .int .i64 (-1)] 3 (0, 0)) ∧ Below w.heap.size w w' := by
  have hbd := rbuild100
  go_enter Try.func25, Try.ntmps25
  go_wp2
  go_ret
  refine ⟨w.heap.size + 1, w.heap.size, rfl, by omega, Nat.le_refl _, ?_, ?_, (below_alloc w _).trans ((below_alloc _ _).mono (by rw [size_al]; omega))⟩
  · have := heap_alloc_new (w.alloc (.cells #[.int .i64 (-1), .int .i64 (-1), .int .i64 (-1), .int .i64 (-1)] 3)) (.cells #[.slice a l c, .slice none 0 0, .bool false, .int .i64 (-1), .slice (some ⟨w.heap.size, 0, none⟩) 4 4, .int .i64 0, .int .i64 0, .int .i64 0] 100)
    rw [size_al] at this
    exact this
  · rw [Below.heap_alloc _ _ w.heap.size (by rw [size_al]; omega)]
    exact heap_alloc_new w _
theorem make128 (W : World) : (Instr.makeSlice 63 (.int .i64 128) (.int .i64 128)).run Try.prog W = .ok (.slice (some ⟨W.heap.size, 0, none⟩) 128 128) (W.alloc (.cells (madeCells #[.int .u8 0] 128) 5)) := by
  obtain ⟨i0, hi, hz0, hz1, hz2⟩ := info_parts Try.info5
  have := run_make (P := Try.prog) W 63 5 i0 _ Try.underlying63 hi hz0 .i64 .i64 128 128 (by omega) (by omega) (by rw [hz2]; omega) (by omega)
  rw [hz1] at this
  simpa [Value.cells] using this
theorem own_zeros (W : World) : Own (W.alloc (.cells (madeCells #[.int .u8 0] 128) 5)) (.slice (some ⟨W.heap.size, 0, none⟩) 128 128) (List.replicate 128 0) := by
  have := World.ownsRow_lit (base := 0) (e := 5) (size := 1) W (madeCells #[.int .u8 0] 128) 128 (Nat.zero_le _) (by decide) (by rw [size_madeCells])
  rw [toList_madeCells_one] at this
  unfold Own
  rw [List.length_replicate, List.map_replicate]
  exact this
/-- a table of k sectors of noughts. -/
structure Tbl (w wr : World) (v : Value) (k : Nat) (Ls : List Value) : Prop where
  row : wr.ownsRow 0 63 1 v k Ls
  sl : ∀ u ∈ Ls, Sl wr u (List.replicate 128 0) ∧ ∀ g, u.ownBlock = some g → w.heap.size ≤ g
  vb : ∀ g, v.ownBlock = some g → w.heap.size ≤ g
  be : Below w.heap.size w wr
theorem Tbl.more {w wr w7 : World} {v v' : Value} {k : Nat} {Ls : List Value} (h : Tbl w wr v k Ls)
    (ho : w7.ownsRow 0 63 1 v' (k + 1) (Ls ++ [.slice (some ⟨wr.heap.size, 0, none⟩) 128 128]))
    (hg : ((wr.alloc (.cells (madeCells #[.int .u8 0] 128) 5)).alloc (.cells #[.slice (some ⟨wr.heap.size, 0, none⟩) 128 128] 63)).grownBy w7 v.ownBlock)
    (hl : v'.ownBlock = v.ownBlock ∨ v'.ownBlock = some ((wr.alloc (.cells (madeCells #[.int .u8 0] 128) 5)).alloc (.cells #[.slice (some ⟨wr.heap.size, 0, none⟩) 128 128] 63)).heap.size) :
    Tbl w w7 v' (k + 1) (Ls ++ [.slice (some ⟨wr.heap.size, 0, none⟩) 128 128]) := by
  have s1 : (wr.alloc (.cells (madeCells #[.int .u8 0] 128) 5)).heap.size = wr.heap.size + 1 := size_al _ _
  have s2 : ((wr.alloc (.cells (madeCells #[.int .u8 0] 128) 5)).alloc (.cells #[.slice (some ⟨wr.heap.size, 0, none⟩) 128 128] 63)).heap.size = wr.heap.size + 2 := by rw [size_al, s1]
  have b1 := below_alloc wr (.cells (madeCells #[.int .u8 0] 128) 5)
  have b2 := below_alloc (wr.alloc (.cells (madeCells #[.int .u8 0] 128) 5)) (.cells #[.slice (some ⟨wr.heap.size, 0, none⟩) 128 128] 63)
  have b3 := b1.trans (b2.mono b1.size)
  have hsz := h.be.size
  have hvl : ∀ g, v.ownBlock = some g → g < wr.heap.size := fun g hv => (h.row.lt g hv).2
  refine ⟨ho, fun u hu => ?_, fun g hv => ?_, ⟨hg.os.trans (b3.os.trans h.be.os), hg.tape.trans (b3.tape.trans h.be.tape), hg.output.trans (b3.output.trans h.be.output), Nat.le_trans hsz (Nat.le_trans b3.size hg.size), fun j hj => ?_⟩⟩
  · rw [List.mem_append, List.mem_singleton] at hu
    rcases hu with hu | rfl
    · refine ⟨(h.sl u hu).1.stays (fun j hj hlt => ?_) (Nat.le_trans b3.size hg.size), (h.sl u hu).2⟩
      rw [hg.block j (by omega) (fun e => ?_), b3.block j hlt]
      obtain ⟨c1, g1, h1⟩ := row_type h.row e.symm
      obtain ⟨c2, g2, h2⟩ := (h.sl u hu).1.type hj
      rw [h1] at h2; simp at h2
    · have hz : Sl (wr.alloc (.cells (madeCells #[.int .u8 0] 128) 5)) (.slice (some ⟨wr.heap.size, 0, none⟩) 128 128) (List.replicate 128 0) := own_zeros wr
      refine ⟨hz.stays (fun j hj hlt => ?_) (Nat.le_trans b2.size hg.size), fun g hv => by simp [Value.ownBlock] at hv; omega⟩
      have hj' : j = wr.heap.size := by simp [Value.ownBlock] at hj; omega
      rw [hg.block j (by omega) (fun e => by have := hvl j e.symm; omega), b2.block j hlt]
  · rcases hl with e | e
    · exact h.vb g (e ▸ hv)
    · rw [e, s2] at hv; cases hv; omega
  · rw [hg.block j (by omega) (fun e => by have := h.vb j e.symm; omega), b3.block j (by omega)]
    exact h.be.block j hj
set_option maxHeartbeats 1600000 in
set_option maxRecDepth 1000000 in
theorem rnew_any (N : Nat) (w : World) (h1 : 1 ≤ N) (h2 : N ≤ 16384) : Calls Try.prog 7 #[.int .i64 (N : Int)] w fun e w' => ∃ p f vl Ls, e = .returned (.tuple #[.pointer (some ⟨p, 0, none⟩), .int .u16 0]) ∧ RD w' p vl Ls (.slice none 0 0) [] f (DS.of (List.replicate (8 * N) (List.replicate 128 0))) ∧ (∀ k, OwR p vl Ls (.slice none 0 0) [] f k → w.heap.size ≤ k) ∧ Below w.heap.size w w' := by
  have d1 : decide ((N : Int) < 1) = false := by simp; omega
  have d2 : decide ((N : Int) > 16384) = false := by simp; omega
  have d3 : decide ((16384 : Int) < N) = false := by simp; omega
  have hw : IntKind.i64.wrap (8 * (N : Int)) = 8 * (N : Int) := by rw [IntKind.wrap_i64]; omega
  have hmk := make128
  have hz35 : ∀ w, (zeroValue 35).run Try.prog w = .ok (.slice none 0 0) w := (zero_of_info (P := Try.prog) (t := 35) (v := .slice none 0 0) (n := 1) (by kernel_rfl)).1
  obtain ⟨i1, hj, hy0, hy1, hy2⟩ := info_parts info63
  go_enter Try.func7, Try.ntmps7
  go_wp2
  go_loopw [5, 4] (fun i v wr' => ∃ (k : Nat) (Ls : List Value), k ≤ 8 * N ∧ i = .int .i64 (k : Int) ∧ Tbl w wr' v k Ls) (fun i _ _ => 8 * N - (intOf i).toNat)
  case atStart => exact ⟨0, [], Nat.zero_le _, rfl, World.ownsRow_nil _ _ _ _, fun u hu => by simp at hu, fun g hg => by simp [Value.ownBlock] at hg, Below.refl _ _⟩
  case round =>
    obtain ⟨k, Ls, hk, rfl, ht⟩ := hrel
    have HT := hide ht
    clear ht
    by_cases hlt : k < 8 * N
    · have hcc : decide ((k : Int) < 8 * (N : Int)) = true := by simp; omega
      have HO : Hid (((wr.alloc (.cells (madeCells #[.int .u8 0] 128) 5)).alloc (.cells #[.slice (some ⟨wr.heap.size, 0, none⟩) 128 128] 63)).ownsRow 0 63 1 u4 k Ls) := (HT.out.row.alloc _).alloc _
      have HNc : Hid (∀ j u, [Value.slice (some ⟨wr.heap.size, 0, none⟩) 128 128][j]? = some u → ((wr.alloc (.cells (madeCells #[.int .u8 0] 128) 5)).alloc (.cells #[.slice (some ⟨wr.heap.size, 0, none⟩) 128 128] 63)).cell? ((⟨(wr.alloc (.cells (madeCells #[.int .u8 0] 128) 5)).heap.size, 0, none⟩ : Addr).add j) = some u) := fun j u hu => by
        rw [Addr.add_lit, cell_of_row _ _ (0 + j) _ 63 (0, 0) (heap_alloc_new _ _)]
        simpa using hu
      rw [size_al] at HNc
      have HOne : Hid (∀ u ∈ [Value.slice (some ⟨wr.heap.size, 0, none⟩) 128 128], u.oneCell' = true) := fun u hu => by simp only [List.mem_singleton] at hu; rw [hu]; rfl
      have HB1 : Hid (k + 1 ≤ maxLen) := by rw [Hid]; unfold maxLen; omega
      have HB2 : Hid ((k + 1) * 24 ≤ 140737488355328) := by rw [Hid]; omega
      have hkN : k + 1 ≤ 8 * N := hlt
      go_wp2_with (at_builtin; refine wpList_append_at (by rfl) (.tmp 18) (.tmp 20) 35 63 (by rfl) 0 i1 (.slice none 0 0) 1 24 Try.underlying35 hj hy0 hy1 hy2 rfl (by omega) u4 k Ls (by rfl) HO.out ⟨wr.heap.size + 1, 0, none⟩ 1 1 [.slice (some ⟨wr.heap.size, 0, none⟩) 128 128] (by rfl) rfl HNc.out HOne.out HB1.out HB2.out (Nat.zero_le _) ?_; intro v' w4 ho4 hg4 hl4; have HT4 := hide (HT.out.more ho4 hg4 hl4); clear ho4 hg4 hl4)
      go_roundw
      case rel => exact ⟨k + 1, _, hkN, by simp, HT4.out⟩
      case measure => simp [intOf]; omega
    · have HE : Hid (k = 8 * N) := by rw [Hid]; omega
      have hcc : decide ((k : Int) < 8 * (N : Int)) = false := by simp; omega
      obtain ⟨la, lc, rfl⟩ := row_len HT.out.row
      have HM := hide (rmade_any la k lc wr)
      go_wp2_with fail
      refine HM.out.mono ?_
      rintro e2 w4 ⟨p, f, rfl, hp, hf, hbp, hbf, hb⟩
      have HFin : Hid (RD w4 p (.slice la k lc) Ls (.slice none 0 0) [] f (DS.of (List.replicate (8 * N) (List.replicate 128 0))) ∧ (∀ q, OwR p (.slice la k lc) Ls (.slice none 0 0) [] f q → w.heap.size ≤ q) ∧ Below w.heap.size w w4) := by
        have hsz := HT.out.be.size
        refine ⟨⟨hbp, ?_, ?_, ?_, World.ownsRow_nil _ _ _ _, rfl, fun i x v g1 g2 => by simp at g2, hbf, ?_⟩, ?_, HT.out.be.trans (hb.mono hsz)⟩
        · show w4.ownsRow 0 63 1 (.slice la k lc) (List.replicate (8 * N) (List.replicate 128 0)).length Ls
          rw [List.length_replicate, ← HE.out]
          exact row_keep HT.out.row (fun q hq => hb.block q (HT.out.row.lt q hq).2)
        · show Ls.length = (List.replicate (8 * N) (List.replicate 128 0)).length
          rw [List.length_replicate, ← HE.out]
          have := HT.out.row.1
          omega
        · intro i zs v g1 g2
          have g1' : (List.replicate (8 * N) (List.replicate 128 (0 : Int)))[i]? = some zs := g1
          have hz := List.eq_of_mem_replicate (List.mem_of_getElem? g1')
          rw [hz]
          exact (HT.out.sl v (List.mem_of_getElem? g2)).1.stays (fun q hq hl => hb.block q hl) hb.size
        · refine ⟨fun s hs => ?_, fun x hx => by simp [DS.of] at hx, by show (List.replicate (8 * N) _).length ≤ _; rw [List.length_replicate]; omega, by simp [DS.of], Cd0, Cd0, Cd0, Cd0, by simp [DS.of], by simp [DS.of], by simp [DS.of]⟩
          rw [List.eq_of_mem_replicate hs]
          exact ⟨List.length_replicate, rep_byts 128 0 (by omega)⟩
        · intro q hq
          rcases hq with rfl | hq | hq | rfl | ⟨v, hv, hq⟩ | ⟨v, hv, _⟩
          · omega
          · exact HT.out.vb q hq
          · simp [Value.ownBlock] at hq
          · omega
          · exact (HT.out.sl v hv).2 q hq
          · simp at hv
      clear hp hf hbp hbf hb
      go_wp2
      go_ret2
      exact ⟨p, f, _, _, rfl, HFin.out⟩
end Go.Proofs.Ytkammfkknfflgaa
