/- slices.Delete of all that lies behind a place, of functions. -/
import Derived.Test.YtjccfbjdngjhfaaBB
namespace Go.Proofs.Ytjccfbjdngjhfaa
open Go.RowKit
set_option linter.unusedVariables false

theorem zero_funcs (k : Nat) : (Builtin.zeroCells Value.nilFunc.cells k).toList = List.replicate k .nilFunc := by
  have e : Value.nilFunc.cells = #[.nilFunc] := rfl
  rw [e, Builtin.zeroCells, Array.toList_map, Array.toList_range]
  apply List.ext_getElem
  · simp
  · intro i h1 h2
    simp [Nat.mod_one]
set_option maxHeartbeats 1600000 in
set_option maxRecDepth 1000000 in
theorem deletef_any (v : Value) (n m B : Nat) (us : List Value) (w : World) (hm : m ≤ n) (hn : n ≤ 1000000) (h : w.ownsRow B 1 1 v n us) :
    Calls Try.prog 26 #[v, .int .i64 (m : Int), .int .i64 (n : Int)] w fun e w' => ∃ v', e = .returned v' ∧ w'.ownsRow B 1 1 v' m (us.take m) ∧ w.grownBy w' v.ownBlock ∧ v'.ownBlock = v.ownBlock := by
  obtain ⟨a, c, rfl, h1, h2, h3, h4⟩ := row_shape h
  have hl : us.length = n := by have := h.1; omega
  have c1 : (0 : Int) ≤ (m : Int) := by omega
  have c2 : (m : Int) ≤ (n : Int) := by omega
  have c5 : (n : Int) ≤ (c : Int) := by omega
  have c6 : (m : Int) ≤ (c : Int) := by omega
  have c7 : (0 : Int) ≤ (n : Int) := by omega
  by_cases hmn : m = n
  · subst hmn
    have HFin : Hid (w.ownsRow B 1 1 (.slice a m c) m (us.take m)) := by
      rw [Hid, List.take_of_length_le (by omega)]; exact h
    clear h h3 h4 hl
    rcases (inferInstance : Decidable (a = none)) with hne | rfl
    · obtain ⟨g, rfl⟩ : ∃ g, a = some g := by cases a <;> simp_all
      go_enter Try.func26, Try.ntmps26
      go_wp2
      go_ret
      exact ⟨_, rfl, HFin.out, ⟨rfl, rfl, rfl, Nat.le_refl _, fun _ _ _ => rfl⟩, rfl⟩
    · go_enter Try.func26, Try.ntmps26
      go_wp2
      go_ret
      exact ⟨_, rfl, HFin.out, ⟨rfl, rfl, rfl, Nat.le_refl _, fun _ _ _ => rfl⟩, rfl⟩
  obtain ⟨g, rfl⟩ : ∃ g, a = some ⟨g, 0, none⟩ := h4.elim (fun e => by have := (h3 e).1; omega) id
  obtain ⟨i0, hi0, hz0, hzs, hzb⟩ := info_parts Try.infoF
  obtain ⟨cur, hgB, hg, hcm, hcs, htk⟩ : ∃ cur : Array Value, B ≤ g ∧ w.heap[g]? = some (.cells cur 1 (0, 0)) ∧ c ≤ maxLen ∧ cur.size = c * 1 ∧ cur.toList.take (n * 1) = us := by
    rcases h.2 with ⟨e, _⟩ | ⟨g', cap, cur, e, hb, hg, hnc, hcm, hcs, htk⟩
    · cases e
    · simp only [Value.slice.injEq, Option.some.injEq, Addr.mk.injEq, and_true, true_and] at e
      obtain ⟨rfl, rfl⟩ := e
      exact ⟨cur, hb, hg, hcm, hcs, htk⟩
  obtain ⟨ZS, hZS⟩ : ∃ ZS : List Value, ZS = List.replicate (n - m) .nilFunc := ⟨_, rfl⟩
  have hZL : ZS.length = n - m := by rw [hZS, List.length_replicate]
  obtain ⟨R3, hR3⟩ : ∃ R3 : Array Value, R3 = (cur.toList.take m ++ ZS ++ cur.toList.drop (m + ZS.length)).toArray := ⟨_, rfl⟩
  have hstz : ∀ W : World, W.heap[g]? = some (.cells cur 1 (0, 0)) → (storeCells ⟨g, m, none⟩ ZS).run Try.prog W = .ok () (W.setRow g R3) := fun W hgW => by
    have stz := run_storeCells_at Try.prog g m 1 ZS 0 cur W hgW (by rw [hcs, hZL]; omega) (by rw [hZS]; intro v hv; rw [List.mem_replicate] at hv; rw [hv.2]; rfl)
    simp only [Nat.add_zero] at stz
    rw [← hR3] at stz
    exact stz
  have hv : ∀ w, (zeroValue 1).run Try.prog w = .ok .nilFunc w := fun w => by simp [zeroValue, typeInfo, hi0, hz0]
  obtain ⟨W3, hW3⟩ : ∃ W3, W3 = w.drew.setRow g R3 := ⟨_, rfl⟩
  obtain ⟨k, hk⟩ : ∃ k, n - m = k + 1 := ⟨n - m - 1, by omega⟩
  have clq : (Builtin.clear_ #[55] 0 #[.slice (some ⟨g, m, none⟩) (n - m) (c - m)]).run Try.prog w.drew = .ok (.tuple #[]) W3 := by
    rw [hW3]
    have hzc := zero_funcs (n - m)
    rw [← hZS] at hzc
    rw [hk] at hzc ⊢
    simp [Builtin.clear_, run_underlying Try.underlying55, hv, hzc, hstz w.drew hg]
  have hown : W3.ownsRow B 1 1 (.slice (some ⟨g, 0, none⟩) m c) m (us.take m) := by
    have hg3 : W3.heap[g]? = some (.cells R3 1 (0, 0)) := by rw [hW3]; exact setRow_heap w.drew g _ _ _ _ hg
    have hA : cur.toList.take m = us.take m := by
      have : cur.toList.take m = (cur.toList.take (n * 1)).take m := by rw [List.take_take, Nat.min_eq_left (by omega)]
      rw [this, htk]
    refine ⟨by rw [List.length_take]; omega, .inr ⟨g, c, R3, rfl, hgB, hg3, by omega, hcm, ?_, ?_⟩⟩
    · rw [hR3, List.size_toArray]
      simp only [List.length_append, List.length_take, List.length_drop, Array.length_toList, hcs, hZL]
      omega
    · rw [hR3, List.append_assoc, Nat.mul_one, List.take_left' (by rw [List.length_take, Array.length_toList, hcs]; omega), hA]
  have hgrow : w.grownBy W3 (some g) := by
    rw [hW3]
    exact ⟨rfl, rfl, rfl, by simp [World.setRow], fun k _ hk => setRow_other _ g k _ (fun e => hk (by rw [e]))⟩
  have HOwn := hide hown
  have HGr := hide hgrow
  have hlt : m < n := by omega
  clear hown hgrow hR3 hW3 hZS hZL hstz hv htk hcs hg hk h h3 h4 hl
  have c3 : ¬ (m : Int) = (n : Int) := by omega
  have e7 : ¬ (c ≤ m) := by omega
  have e8 : ¬ (m = c) := by omega
  have e9 : ¬ (c = m) := by omega
  have c8 : ¬ (n ≤ m) := by omega
  have c9 : ¬ (n = m) := by omega
  by_cases hce : c = n
  · subst hce
    go_enter Try.func26, Try.ntmps26
    go_wp2_with (at_builtin; fail)
    go_region_with (fail)
    go_wp2
    go_ret
    exact ⟨_, rfl, HOwn.out, HGr.out, rfl⟩
  · have f1 : ¬ (n = c) := fun e => hce e.symm
    have f2 : ¬ (c ≤ n) := by omega
    have f4 : n - n = 0 := by omega
    go_enter Try.func26, Try.ntmps26
    go_wp2_with (at_builtin; fail)
    go_region_with (fail)
    go_wp2
    go_ret
    exact ⟨_, rfl, HOwn.out, HGr.out, rfl⟩
end Go.Proofs.Ytjccfbjdngjhfaa
