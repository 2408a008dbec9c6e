/- slices.Delete of the last entry. -/
import Derived.Test.YtjccfbjdngjhfaaIG
namespace Go.Proofs.Ytjccfbjdngjhfaa
open Go.RowKit
set_option linter.unusedVariables false

set_option maxHeartbeats 1600000 in
set_option maxRecDepth 1000000 in
theorem delete_last (g i c B : Nat) (ys : List En) (w : World) (hn : i + 1 ≤ 1000000) (hc : i + 1 ≤ c) (hl : ys.length = i + 1) (h : w.ownsRow B 41 3 (.slice (some ⟨g, 0, none⟩) (i + 1) c) (i + 1) (rowc ys)) :
    Calls Try.prog 39 #[.slice (some ⟨g, 0, none⟩) (i + 1) c, .int .i64 (i : Int), .int .i64 ((i : Int) + 1)] w fun e w' => e = .returned (.slice (some ⟨g, 0, none⟩) i c) ∧ w'.ownsRow B 41 3 (.slice (some ⟨g, 0, none⟩) i c) i (rowc (ys.eraseIdx i)) ∧ w.grownBy w' (some g) := by
  obtain ⟨i0, hi0, hz0, hzs, hzb⟩ := info_parts Try.infoE
  obtain ⟨cur, hgB, hg, hcm, hcs, htk⟩ : ∃ cur : Array Value, B ≤ g ∧ w.heap[g]? = some (.cells cur 41 (0, 0)) ∧ c ≤ maxLen ∧ cur.size = c * 3 ∧ cur.toList.take ((i + 1) * 3) = rowc ys := by
    rcases h.2 with ⟨e, _⟩ | ⟨g', cap, cur, e, hb, hg, hnc, hcm, hcs, htk⟩
    · cases e
    · simp only [Value.slice.injEq, Option.some.injEq, Addr.mk.injEq, and_true, true_and] at e
      obtain ⟨rfl, rfl⟩ := e
      exact ⟨cur, hb, hg, hcm, hcs, htk⟩
  obtain ⟨ZS, hZS⟩ : ∃ ZS : List Value, ZS = [.slice none 0 0, .slice none 0 0, .bool false] := ⟨_, rfl⟩
  obtain ⟨R3, hR3⟩ : ∃ R3 : Array Value, R3 = (cur.toList.take (i * 3) ++ ZS ++ cur.toList.drop (i * 3 + ZS.length)).toArray := ⟨_, rfl⟩
  have hstz : ∀ W : World, W.heap[g]? = some (.cells cur 41 (0, 0)) → (storeCells ⟨g, i * 3, none⟩ ZS).run Try.prog W = .ok () (W.setRow g R3) := fun W hgW => by
    have stz := run_storeCells_at Try.prog g (i * 3) 41 ZS 0 cur W hgW (by rw [hcs, hZS]; simp; omega) (by rw [hZS]; intro v hv; simp at hv; rcases hv with rfl | rfl <;> rfl)
    simp only [Nat.add_zero] at stz
    rw [← hR3] at stz
    exact stz
  have hv : ∀ w, (zeroValue 41).run Try.prog w = .ok (.agg #[.slice none 0 0, .slice none 0 0, .bool false]) w := fun w => by simp [zeroValue, typeInfo, hi0, hz0]
  have hzc : (Builtin.zeroCells (Value.agg #[.slice none 0 0, .slice none 0 0, .bool false]).cells 1).toList = ZS := by rw [hZS]; simp [Builtin.zeroCells, Value.cells, List.range, List.range.loop]
  obtain ⟨W2, hW2⟩ : ∃ W2, W2 = w.drew := ⟨_, rfl⟩
  obtain ⟨W3, hW3⟩ : ∃ W3, W3 = w.drew.setRow g R3 := ⟨_, rfl⟩
  have hg3 : W3.heap[g]? = some (.cells R3 41 (0, 0)) := by rw [hW3]; exact setRow_heap w.drew g _ _ _ _ hg
  have clq : (Builtin.clear_ #[28] 0 #[.slice (some ⟨g, i * 3, none⟩) 1 (c - i)]).run Try.prog w.drew = .ok (.tuple #[]) W3 := by
    rw [hW3]
    simp [Builtin.clear_, run_underlying Try.underlying28, hv, hzc, hstz w.drew hg]
  have hown : W3.ownsRow B 41 3 (.slice (some ⟨g, 0, none⟩) i c) i (rowc (ys.eraseIdx i)) := by
    have e : rowc (ys.eraseIdx i) = rowc (ys.take i) := by rw [List.eraseIdx_eq_take_drop_succ, List.drop_eq_nil_of_le (by omega), List.append_nil]
    have hA : cur.toList.take (i * 3) = rowc (ys.take i) := by
      have : cur.toList.take (i * 3) = (cur.toList.take ((i + 1) * 3)).take (i * 3) := by rw [List.take_take, Nat.min_eq_left (by omega)]
      rw [this, htk]
      conv => lhs; rw [← List.take_append_drop i ys, rowc_app]
      exact List.take_left' (by rw [rowc_len, List.length_take]; omega)
    have hAl : (rowc (ys.take i)).length = i * 3 := by rw [rowc_len, List.length_take]; omega
    refine ⟨by rw [e, hAl], .inr ⟨g, c, R3, rfl, hgB, hg3, by omega, hcm, ?_, ?_⟩⟩
    · rw [hR3, List.size_toArray]
      simp only [List.length_append, List.length_take, List.length_drop, Array.length_toList, hcs]
      rw [hZS]
      simp
      omega
    · rw [hR3, e, hA, List.append_assoc]
      exact List.take_left' hAl
  have hgrow : w.grownBy W3 (some g) := by
    rw [hW3]
    exact ⟨rfl, rfl, rfl, by simp [World.setRow], fun k _ hk => setRow_other _ g k _ (fun e => hk (by rw [e]))⟩
  have HOwn := hide hown
  have HGr := hide hgrow
  clear hown hgrow hR3 hW3 hg3 hZS hstz hv hzc hW2 htk hcs hg
  have c1 : (0 : Int) ≤ (i : Int) := by omega
  have c3 : ¬ (i : Int) = (i : Int) + 1 := by omega
  have c4 : (i : Int) ≤ (i : Int) + 1 := by omega
  have c5 : (0 : Int) ≤ (i : Int) + 1 := by omega
  have c6 : ((i : Int) + 1).toNat = i + 1 := by omega
  have c7 : i + 1 - i = 1 := by omega
  have e7 : ¬ (c ≤ i) := by omega
  have e8 : ¬ (i = c) := by omega
  have e9 : ¬ (c = i) := by omega
  have e10 : (i : Int) + 1 ≤ (c : Int) := by omega
  have e12 : (i : Int) ≤ (c : Int) := by omega
  have c8 : ¬ (i + 1 ≤ i) := by omega
  by_cases hce : c = i + 1
  · subst hce
    rw [c7] at clq
    go_enter Try.func39, Try.ntmps39
    go_wp2_with (at_builtin; fail)
    go_region_with (fail)
    go_wp2
    go_ret
    exact ⟨rfl, HOwn.out, HGr.out⟩
  · have f1 : ¬ (i + 1 = c) := fun e => hce e.symm
    have f2 : ¬ (c ≤ i + 1) := by omega
    have f3 : (i : Int) + 1 ≤ (c : Int) := by omega
    have f4 : i + 1 - (i + 1) = 0 := by omega
    go_enter Try.func39, Try.ntmps39
    go_wp2_with (at_builtin; fail)
    go_region_with (fail)
    go_wp2
    go_ret
    exact ⟨rfl, HOwn.out, HGr.out⟩
theorem delete_any (v : Value) (n i B : Nat) (ys : List En) (w : World) (hi : i < n) (hn : n ≤ 1000000) (hl : ys.length = n) (h : w.ownsRow B 41 3 v n (rowc ys)) :
    Calls Try.prog 39 #[v, .int .i64 (i : Int), .int .i64 ((i : Int) + 1)] w fun e w' => ∃ v', e = .returned v' ∧ w'.ownsRow B 41 3 v' (n - 1) (rowc (ys.eraseIdx i)) ∧ w.grownBy w' v.ownBlock ∧ v'.ownBlock = v.ownBlock := by
  obtain ⟨a, c, rfl, h1, h2, h3, h4⟩ := row_shape h
  rcases h4 with rfl | ⟨g, rfl⟩
  · have := (h3 rfl).1; omega
  by_cases hlt : i + 1 < n
  · refine (delete_mid g n i c B ys w hlt hn h1 hl h).mono ?_
    rintro e w' ⟨rfl, ho, hg⟩
    exact ⟨_, rfl, ho, hg, rfl⟩
  · obtain rfl : n = i + 1 := by omega
    refine (delete_last g i c B ys w hn h1 hl h).mono ?_
    rintro e w' ⟨rfl, ho, hg⟩
    exact ⟨_, rfl, ho, hg, rfl⟩
end Go.Proofs.Ytjccfbjdngjhfaa
