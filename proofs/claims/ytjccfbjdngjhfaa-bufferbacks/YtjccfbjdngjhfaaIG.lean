/- slices.Delete of one entry. -/
import Derived.Test.YtjccfbjdngjhfaaID
namespace Go.Proofs.Ytjccfbjdngjhfaa
open Go.RowKit
set_option linter.unusedVariables false

set_option maxHeartbeats 1600000 in
set_option maxRecDepth 1000000 in
theorem delete_mid (g n i c B : Nat) (ys : List En) (w : World) (hi : i + 1 < n) (hn : n ≤ 1000000) (hc : n ≤ c) (hl : ys.length = n) (h : w.ownsRow B 41 3 (.slice (some ⟨g, 0, none⟩) n c) n (rowc ys)) :
    Calls Try.prog 39 #[.slice (some ⟨g, 0, none⟩) n c, .int .i64 (i : Int), .int .i64 ((i : Int) + 1)] w fun e w' => e = .returned (.slice (some ⟨g, 0, none⟩) (n - 1) c) ∧ w'.ownsRow B 41 3 (.slice (some ⟨g, 0, none⟩) (n - 1) c) (n - 1) (rowc (ys.eraseIdx i)) ∧ w.grownBy w' (some g) := by
  obtain ⟨i0, hi0, hz0, hzs, hzb⟩ := info_parts Try.infoE
  have hcell := h.cells (g := g) rfl
  obtain ⟨cur, hgB, hg, hcm, hcs, htk⟩ : ∃ cur : Array Value, B ≤ g ∧ w.heap[g]? = some (.cells cur 41 (0, 0)) ∧ c ≤ maxLen ∧ cur.size = c * 3 ∧ cur.toList.take (n * 3) = rowc ys := by
    rcases h.2 with ⟨e, _⟩ | ⟨g', cap, cur, e, hb, hg, hnc, hcm, hcs, htk⟩
    · cases e
    · simp only [Value.slice.injEq, Option.some.injEq, Addr.mk.injEq, and_true, true_and] at e
      obtain ⟨rfl, rfl⟩ := e
      exact ⟨cur, hb, hg, hcm, hcs, htk⟩
  have hdl : (rowc (ys.drop (i + 1))).length = (n - (i + 1)) * 3 := by rw [rowc_len, List.length_drop, hl]
  obtain ⟨R2, hR2⟩ : ∃ R2 : Array Value, R2 = (cur.toList.take (i * 3) ++ rowc (ys.drop (i + 1)) ++ cur.toList.drop (i * 3 + (rowc (ys.drop (i + 1))).length)).toArray := ⟨_, rfl⟩
  obtain ⟨NEWS, hNEWS⟩ : ∃ NEWS, NEWS = rowc (ys.drop (i + 1)) := ⟨_, rfl⟩
  rw [← hNEWS] at hdl hR2
  have ldq := run_loadCells_list (P := Try.prog) w.drew ⟨g, (i + 1) * 3, none⟩ NEWS (fun j u hu => by rw [hNEWS, rowc_drop, List.getElem?_drop] at hu; have := hcell _ u hu; rw [Addr.add_lit] at this ⊢; simpa using this)
  rw [hdl] at ldq
  unfold loadCells at ldq
  have stq := run_storeCells_at Try.prog g (i * 3) 41 NEWS 0 cur w.drew hg (by rw [hdl, hcs]; omega) (by rw [hNEWS]; exact rowc_one_cell _)
  simp only [Nat.add_zero] at stq
  rw [← hR2] at stq
  obtain ⟨W2, hW2⟩ : ∃ W2, W2 = w.drew.setRow g R2 := ⟨_, rfl⟩
  rw [← hW2] at stq
  have hg2 : W2.heap[g]? = some (.cells R2 41 (0, 0)) := by rw [hW2]; exact setRow_heap w.drew g _ _ _ _ hg
  have hRs2 : R2.size = c * 3 := by
    rw [hR2, List.size_toArray]
    simp only [List.length_append, List.length_take, List.length_drop, Array.length_toList, hcs, hdl]
    omega
  obtain ⟨ZS, hZS⟩ : ∃ ZS : List Value, ZS = [.slice none 0 0, .slice none 0 0, .bool false] := ⟨_, rfl⟩
  obtain ⟨R3, hR3⟩ : ∃ R3 : Array Value, R3 = (R2.toList.take ((n - 1) * 3) ++ ZS ++ R2.toList.drop ((n - 1) * 3 + ZS.length)).toArray := ⟨_, rfl⟩
  have stz := run_storeCells_at Try.prog g ((n - 1) * 3) 41 ZS 0 R2 W2 hg2 (by rw [hRs2, hZS]; simp; omega) (by rw [hZS]; intro v hv; simp at hv; rcases hv with rfl | rfl <;> rfl)
  simp only [Nat.add_zero] at stz
  rw [← hR3] at stz
  obtain ⟨W3, hW3⟩ : ∃ W3, W3 = W2.setRow g R3 := ⟨_, rfl⟩
  have hg3 : W3.heap[g]? = some (.cells R3 41 (0, 0)) := by rw [hW3]; exact setRow_heap W2 g _ _ _ _ hg2
  rw [← hW3] at stz
  have clq : (Builtin.clear_ #[28] 0 #[.slice (some ⟨g, (n - 1) * 3, none⟩) 1 (c - (n - 1))]).run Try.prog W2 = .ok (.tuple #[]) W3 := by
    have hv : ∀ w, (zeroValue 41).run Try.prog w = .ok (.agg #[.slice none 0 0, .slice none 0 0, .bool false]) w := fun w => by simp [zeroValue, typeInfo, hi0, hz0]
    have hzc : (Builtin.zeroCells (Value.agg #[.slice none 0 0, .slice none 0 0, .bool false]).cells 1).toList = ZS := by rw [hZS]; simp [Builtin.zeroCells, Value.cells, List.range, List.range.loop]
    simp [Builtin.clear_, run_underlying Try.underlying28, hv, hzc, stz]
  have hown : W3.ownsRow B 41 3 (.slice (some ⟨g, 0, none⟩) (n - 1) c) (n - 1) (rowc (ys.eraseIdx i)) := by
    have e : rowc (ys.eraseIdx i) = rowc (ys.take i) ++ NEWS := by rw [List.eraseIdx_eq_take_drop_succ, rowc_app, hNEWS]
    have hA : cur.toList.take (i * 3) = rowc (ys.take i) := by
      have : cur.toList.take (i * 3) = (cur.toList.take (n * 3)).take (i * 3) := by rw [List.take_take, Nat.min_eq_left (by omega)]
      rw [this, htk]
      conv => lhs; rw [← List.take_append_drop i ys, rowc_app]
      exact List.take_left' (by rw [rowc_len, List.length_take]; omega)
    have hAl : (rowc (ys.take i)).length = i * 3 := by rw [rowc_len, List.length_take]; omega
    refine ⟨by rw [e, List.length_append, hAl, hdl]; omega, .inr ⟨g, c, R3, rfl, hgB, hg3, by omega, hcm, ?_, ?_⟩⟩
    · rw [hR3, List.size_toArray]
      simp only [List.length_append, List.length_take, List.length_drop, Array.length_toList, hRs2]
      rw [hZS]
      simp
      omega
    · rw [hR3, List.append_assoc]
      rw [List.take_left' (by rw [List.length_take, Array.length_toList, hRs2]; omega)]
      rw [hR2, e, hA]
      exact List.take_left' (by rw [List.length_append, hAl, hdl]; omega)
  have hgrow : w.grownBy W3 (some g) := by
    rw [hW3, hW2]
    exact ⟨rfl, rfl, rfl, by simp [World.setRow], fun k _ hk => (setRow_other _ g k _ (fun e => hk (by rw [e]))).trans (setRow_other _ g k _ (fun e => hk (by rw [e])))⟩
  have HOwn := hide hown
  have HGr := hide hgrow
  clear hown hgrow hR3 hW3 hg3 hg2 hRs2 stz hZS
  have HNews := hide hNEWS
  have HR2 := hide hR2
  have HW2 := hide hW2
  have HDl := hide hdl
  have HCs := hide hcs
  have HG := hide hg
  have hin : i + (n - (i + 1)) = n - 1 := by omega
  clear hNEWS hR2 hW2 hdl hcs hg htk hcell
  have c1 : (0 : Int) ≤ (i : Int) := by omega
  have c2 : (i : Int) + 1 < (n : Int) := by omega
  have c3 : ¬ (i : Int) = (i : Int) + 1 := by omega
  have c4 : (i : Int) ≤ (n : Int) := by omega
  have c5 : (0 : Int) ≤ (i : Int) + 1 := by omega
  have c6 : ((i : Int) + 1).toNat = i + 1 := by omega
  go_enter Try.func39, Try.ntmps39
  go_wp2_with (at_builtin; fail)
  have c7 : ¬ n ≤ i + 1 := by omega
  have e7 : ¬ c ≤ i + 1 := by omega
  have e8 : ¬ (i + 1 = c) := by omega
  have e9 : ¬ (c = i + 1) := by omega
  have e10 : (n : Int) ≤ (c : Int) := by omega
  have e11 : i + (n - (i + 1)) ≤ c := by omega
  have e12 : (i : Int) ≤ (c : Int) := by omega
  have c8 : ¬ (i + 1 = n) := by omega
  have c9 : ¬ (n = i + 1) := by omega
  have c10 : (i : Int) + 1 ≤ (n : Int) := by omega
  have c11 : ¬ (n : Int) < (i : Int) + 1 := by omega
  have c12 : ¬ (i : Int) < 0 := by omega
  have c13 : ¬ (i : Int) + 1 < 0 := by omega
  have c14 : ¬ (n : Int) < (i : Int) := by omega
  go_region_with (fail)
  have d1 : ((n - 1 : Nat) : Int) ≤ (n : Int) := by omega
  have e1 : ((n - 1 : Nat) : Int) ≤ (c : Int) := by omega
  have e3 : ¬ (c ≤ n - 1) := by omega
  have e4 : ¬ (n - 1 = c) := by omega
  have e5 : ¬ (c = n - 1) := by omega
  have d2 : n - (n - 1) = 1 := by omega
  have d3 : ¬ (n ≤ n - 1) := by omega
  have d4 : ¬ (n - 1 = n) := by omega
  have d5 : (0 : Int) ≤ ((n - 1 : Nat) : Int) := by omega
  go_wp2
  go_ret
  exact ⟨rfl, HOwn.out, HGr.out⟩
end Go.Proofs.Ytjccfbjdngjhfaa
