/- slices.Insert of one entry where there is room: the others are moved up. -/
import Derived.Test.YtfcebpenjdhgbaaIB
import Derived.ArgAppend
namespace Go.Proofs.Ytfcebpenjdhgbaa
open Go.RowKit
set_option linter.unusedVariables false

set_option maxHeartbeats 1600000 in
set_option maxRecDepth 1000000 in
theorem insert_shift (g q n i c B : Nat) (ys : List En) (y : En) (w : World) (hi : i < n) (hn : n ≤ 1000000) (hc : n < c) (hl : ys.length = n) (h : w.ownsRow B 36 3 (.slice (some ⟨g, 0, none⟩) n c) n (rowc ys)) (hqg : q ≠ g)
    (hq : w.heap[q]? = some (.cells #[.slice y.ka y.e.key.length y.kc, .slice y.va y.e.val.length y.vc, .bool y.e.del] 36 (0, 0))) :
    Calls Try.prog 46 #[.slice (some ⟨g, 0, none⟩) n c, .int .i64 (i : Int), .slice (some ⟨q, 0, none⟩) 1 1] w fun e w' => e = .returned (.slice (some ⟨g, 0, none⟩) (n + 1) c) ∧ w'.ownsRow B 36 3 (.slice (some ⟨g, 0, none⟩) (n + 1) c) (n + 1) (rowc (ys.take i ++ y :: ys.drop i)) ∧ w.grownBy w' (some g) := by
  obtain ⟨i0, hi0, hz0, hzs, hzb⟩ := info_parts Try.infoE
  have hcell := h.cells (g := g) rfl
  obtain ⟨cur, hgB, hg, hcm, hcs, htk⟩ : ∃ cur : Array Value, B ≤ g ∧ w.heap[g]? = some (.cells cur 36 (0, 0)) ∧ c ≤ maxLen ∧ cur.size = c * 3 ∧ cur.toList.take (n * 3) = rowc ys := by
    rcases h.2 with ⟨e, _⟩ | ⟨g', cap, cur, e, hb, hg, hnc, hcm, hcs, htk⟩
    · cases e
    · simp only [Value.slice.injEq, Option.some.injEq, Addr.mk.injEq, and_true, true_and] at e
      obtain ⟨rfl, rfl⟩ := e
      exact ⟨cur, hb, hg, hcm, hcs, htk⟩
  have hsz3 : (Try.prog.info? 36).map (·.size) = some 3 := by rw [hi0]; simp [hzs]
  have hCl : (rowc (ys.drop i)).length = (n - i) * 3 := by rw [rowc_len, List.length_drop, hl]
  have hAl : (rowc (ys.take i)).length = i * 3 := by rw [rowc_len, List.length_take]; omega
  have hA : cur.toList.take (i * 3) = rowc (ys.take i) := by
    have : cur.toList.take (i * 3) = (cur.toList.take (n * 3)).take (i * 3) := by rw [List.take_take, Nat.min_eq_left (by omega)]
    rw [this, htk]
    conv => lhs; rw [← List.take_append_drop i ys, rowc_app]
    exact List.take_left' hAl
  have hov : ∀ W : World, W.heap = w.heap → (Extern.SlicesOverlaps.overlaps #[30, 30] #[4] #[.slice (some ⟨q, 0, none⟩) 1 1, .slice (some ⟨g, (i + 1) * 3, none⟩) (n + 1 - (i + 1)) (c - (i + 1))]).run Try.prog W = .ok (.bool false) W := fun W hW => by
    have hz : ∀ w, (Go.sizeOf 36).run Try.prog w = .ok 3 w := fun w => by simp [sizeOf, typeInfo, hi0, hzs]
    refine Lib.run_overlaps_apart (P := Try.prog) W 30 4 36 Try.underlying30 3 hz ⟨q, 0, none⟩ ⟨g, (i + 1) * 3, none⟩ 1 1 (n + 1 - (i + 1)) (c - (i + 1)) hqg 36 36 3 (c * 3) ?_ ?_ (by omega) ?_ ?_
    · simp [World.shape?, hW, hq]
    · simp [World.shape?, hW, hg, hcs]
    · simp [World.frozen?, hW, hq]
    · simp [World.frozen?, hW, hq]
  obtain ⟨R2, hR2⟩ : ∃ R2 : Array Value, R2 = (cur.toList.take ((i + 1) * 3) ++ rowc (ys.drop i) ++ cur.toList.drop ((i + 1) * 3 + (rowc (ys.drop i)).length)).toArray := ⟨_, rfl⟩
  have run1 := run_copy_row3 (P := Try.prog) w.drew 30 30 3 36 g ((i + 1) * 3) (n + 1 - (i + 1)) (c - (i + 1)) ⟨g, i * 3, none⟩ (n + 1 - i) (c - i) cur 36 (rowc (ys.drop i)) Try.underlying30 hsz3 hg (n - i) (by simp only [Nat.min_def]; split <;> omega) hCl (fun j v hj => by rw [Addr.add_lit]; rw [rowc_drop, List.getElem?_drop] at hj; have := hcell _ v hj; rw [Addr.add_lit] at this; simpa using this) (by rw [hcs, hCl]; omega) (rowc_one_cell _)
  rw [← hR2] at run1
  obtain ⟨W2, hW2⟩ : ∃ W2, W2 = w.drew.setRow g R2 := ⟨_, rfl⟩
  have hg2 : W2.heap[g]? = some (.cells R2 36 (0, 0)) := by rw [hW2]; exact setRow_heap w.drew g _ _ _ _ hg
  rw [← hW2] at run1
  have hRs2 : R2.size = c * 3 := by
    rw [hR2, List.size_toArray]
    simp only [List.length_append, List.length_take, List.length_drop, Array.length_toList, hcs, hCl]
    omega
  obtain ⟨R3, hR3⟩ : ∃ R3 : Array Value, R3 = (R2.toList.take (i * 3) ++ y.cells ++ R2.toList.drop (i * 3 + y.cells.length)).toArray := ⟨_, rfl⟩
  have hqW2 : W2.heap[q]? = w.heap[q]? := by rw [hW2]; exact setRow_other _ g q _ hqg
  have hy : ∀ j v, y.cells[j]? = some v → W2.cell? ((⟨q, 0, none⟩ : Addr).add j) = some v := fun j v hj => by
    rw [Addr.add_lit, World.cell?, hqW2, hq]
    simp only [Nat.zero_add, En.cells] at hj ⊢
    simpa using hj
  have run2 := run_copy_row3 (P := Try.prog) W2 30 30 3 36 g (i * 3) (n + 1 - i) (c - i) ⟨q, 0, none⟩ 1 1 R2 36 y.cells Try.underlying30 hsz3 hg2 1 (by simp only [Nat.min_def]; split <;> omega) rfl hy (by rw [hRs2, En.cells_len]; omega) (cells_one y)
  rw [← hR3] at run2
  obtain ⟨W3, hW3⟩ : ∃ W3, W3 = W2.setRow g R3 := ⟨_, rfl⟩
  have hg3 : W3.heap[g]? = some (.cells R3 36 (0, 0)) := by rw [hW3]; exact setRow_heap W2 g _ _ _ _ hg2
  rw [← hW3] at run2
  have hown : W3.ownsRow B 36 3 (.slice (some ⟨g, 0, none⟩) (n + 1) c) (n + 1) (rowc (ys.take i ++ y :: ys.drop i)) := by
    have e : rowc (ys.take i ++ y :: ys.drop i) = rowc (ys.take i) ++ y.cells ++ rowc (ys.drop i) := by simp [rowc]
    refine ⟨by rw [e]; simp only [List.length_append, hAl, hCl, En.cells_len]; omega, .inr ⟨g, c, R3, rfl, hgB, hg3, by omega, hcm, ?_, ?_⟩⟩
    · rw [hR3, List.size_toArray]
      simp only [List.length_append, List.length_take, List.length_drop, Array.length_toList, hRs2, En.cells_len]
      omega
    · have e1 : R2.toList.take (i * 3) = rowc (ys.take i) := by
        rw [hR2, List.append_assoc, List.take_append_of_le_length (by rw [List.length_take, Array.length_toList, hcs]; omega), List.take_take, Nat.min_eq_left (by omega), hA]
      have e2 : R2.toList.drop (i * 3 + y.cells.length) = rowc (ys.drop i) ++ cur.toList.drop ((i + 1) * 3 + (rowc (ys.drop i)).length) := by
        rw [hR2, List.append_assoc]
        exact List.drop_left' (by rw [List.length_take, Array.length_toList, hcs, En.cells_len]; omega)
      rw [hR3, e, e1, e2, ← List.append_assoc]
      exact List.take_left' (by simp only [List.length_append, hAl, hCl, En.cells_len]; omega)
  have hgrow : w.grownBy W3 (some g) := by
    rw [hW3, hW2]
    exact ⟨rfl, rfl, rfl, by simp [World.setRow], fun k _ hk => (setRow_other _ g k _ (fun e => hk (by rw [e]))).trans (setRow_other _ g k _ (fun e => hk (by rw [e])))⟩
  have HOwn := hide hown
  have HGr := hide hgrow
  have hov1 := hov w rfl
  have en : n + 1 - (i + 1) = n - i := by omega
  rw [en] at hov1 run1
  clear hown hgrow hR3 hW3 hg3 hg2 hRs2 hqW2 hy hR2 hA hcell hCl hAl htk hcs hg hq hov h hW2
  have c1 : (0 : Int) ≤ (i : Int) := by omega
  have c2 : (i : Int) ≤ (n : Int) := by omega
  have c3 : ¬ ((i : Int) = (n : Int)) := by omega
  have c4 : ¬ ((c : Int) < (n : Int) + 1) := by omega
  have c5 : ((n : Int) + 1).toNat = n + 1 := by omega
  have c6 : (0 : Int) ≤ (n : Int) + 1 := by omega
  have c7 : (n : Int) + 1 ≤ (c : Int) := by omega
  have c8 : ((i : Int) + 1).toNat = i + 1 := by omega
  have c9 : (0 : Int) ≤ (i : Int) + 1 := by omega
  have c10 : (i : Int) + 1 ≤ (n : Int) + 1 := by omega
  have c11 : (i : Int) ≤ (n : Int) + 1 := by omega
  have c12 : ¬ (c = i + 1) := by omega
  have c13 : ¬ (i + 1 = c) := by omega
  have c14 : ¬ (c = i) := by omega
  have c15 : ¬ (i = c) := by omega
  have c16 : IntKind.i64.wrap ((i : Int) + 1) = (i : Int) + 1 := by rw [IntKind.wrap_i64] <;> omega
  have c17 : IntKind.i64.wrap ((n : Int) + 1) = (n : Int) + 1 := by rw [IntKind.wrap_i64] <;> omega
  have c18 : i + 1 ≤ n + 1 := by omega
  have c19 : i ≤ n + 1 := by omega
  have c20 : ¬ c ≤ i + 1 := by omega
  have c21 : ¬ c ≤ i := by omega
  go_enter Try.func46, Try.ntmps46
  go_wp2
  rw [run_callFunc_extern Try.func53 (by kernel_rfl) (by kernel_rfl) (by kernel_rfl) (e := Extern.SlicesOverlaps.overlaps #[30, 30] #[4]) (by kernel_rfl), hov1]
  simp only [Result.andThen]
  rw [Oper.upon_value]
  go_wp2
  go_region_with (fail)
  go_wp2
  go_ret
  exact ⟨rfl, HOwn.out, HGr.out⟩
end Go.Proofs.Ytfcebpenjdhgbaa
