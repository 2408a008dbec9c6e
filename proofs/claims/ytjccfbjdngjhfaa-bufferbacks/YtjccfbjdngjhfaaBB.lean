/- slices.Backward over what undoes. -/
import Derived.Test.YtjccfbjdngjhfaaBR
import Derived.Test.YtjccfbjdngjhfaaBA
import Derived.Shelf.Abstract
import Derived.Shelf.RegionOpen
import Derived.OwnWalkIn
import Derived.TacticsInMore
import Derived.LoopNIn
import Derived.LoopIn
import Derived.Sort.BigQuietIn
namespace Go.Proofs.Ytjccfbjdngjhfaa
open Go.RowKit Go.Shelf Go.Maps
attribute [local go_sem] Oper.semAt_some
set_option linter.unusedVariables false
set_option maxHeartbeats 800000 in
theorem backward_any (a : Option Addr) (n c : Nat) (w : World) :
    Calls Try.prog 25 #[.slice a n c] w fun e w' => e = .returned (.func (.func 40) #[] #[.pointer (some ⟨w.heap.size, 0, none⟩)]) ∧ w' = w.alloc (.cells #[.slice a n c] 55) := by
  have hmf : ∀ (fn : Fn) (first cap : Array Value) (w : World), (Instr.makeFunc fn first cap).run Try.prog w = .ok (.func fn first cap) w := fun _ _ _ _ => rfl
  go_enter Try.func25, Try.ntmps25
  go_wp2
  go_ret
  exact ⟨rfl, rfl⟩
/-- the box of what is ranged over, and its row. -/
structure Mb (bq : Nat) (a : Option Addr) (r c : Nat) (vs : List Value) (W : World) : Prop where
  box : W.heap[bq]? = some (.cells #[.slice a r c] 55 (0, 0))
  row : vs = [] ∨ ∃ g o, a = some ⟨g, o, none⟩ ∧ ∀ k u, vs[k]? = some u → W.cell? ⟨g, o + k, none⟩ = some u
set_option maxHeartbeats 3200000 in
set_option maxRecDepth 1000000 in
theorem back_goes (bq : Nat) (a : Option Addr) (r c : Nat) (vs : List Value) (hl : vs.length = r) (hr : r ≤ 900000) (hc : r ≤ c) :
    GoesS Try.prog 40 #[.pointer (some ⟨bq, 0, none⟩)] (fun (x : Nat) => #[.int .i64 (x : Int), vs.getD x undef]) (List.range r).reverse (Mb bq a r c vs) := by
  intro l J Jx W hJ hJx hM hY h0
  have HM := hide hM
  have HJ := hide hJ
  have HY := hide hY
  have H0 := hide h0
  have hc0 := (hM [] W h0)
  have q0 := cell_of_one hc0.box
  clear hM hJ hY h0 hJx hc0
  refine (callsIn_wide (n := 9)).1 ?_
  refine callsIn_of_wp Try.func40 rfl trivial ?_ rfl
  simp only [Try.ntmps40, List.size_toArray, List.length_cons, List.length_nil, Nat.reduceAdd, Nat.reduceSub, Array.replicate_succ, Array.replicate_zero, List.push_toArray, List.append_toArray, List.nil_append, List.cons_append]
  gi_wp2
  gi_loopw [3] (fun i wr => ∃ j : Nat, j ≤ r ∧ i = .int .i64 ((j : Int) - 1) ∧ J ((List.range r).reverse.take (r - j)) wr) (fun i _ => (intOf i + 1).toNat)
  case atStart => exact ⟨r, Nat.le_refl _, rfl, by simpa using H0.out⟩
  case round =>
    obtain ⟨j, hj, rfl, hJs⟩ := hrel
    have hc1 := HM.out _ _ hJs
    have q2 := cell_of_one hc1.box
    clear q0
    by_cases hlt : 0 < j
    · obtain ⟨j, rfl⟩ : ∃ k, j = k + 1 := ⟨j - 1, by omega⟩
      have ek : (((j + 1 : Nat) : Int) - 1) = (j : Int) := by omega
      rw [ek]
      have d0 : (0 : Int) ≤ (j : Int) := by omega
      have d1 : (j : Int) < (r : Int) := by omega
      have hu : vs[j]? = some vs[j] := List.getElem?_eq_getElem (by omega)
      have hgd : vs.getD j undef = vs[j] := by rw [List.getD_eq_getElem?_getD, hu]; rfl
      obtain ⟨g, o, rfl, hrow⟩ : ∃ g o, a = some ⟨g, o, none⟩ ∧ ∀ k u, vs[k]? = some u → wr.cell? ⟨g, o + k, none⟩ = some u := by
        rcases hc1.row with h | h
        · rw [h] at hl; simp at hl; omega
        · exact h
      have q3 := hrow j _ hu
      have hrev : (List.range r).reverse = (List.range r).reverse.take (r - (j + 1)) ++ j :: (List.range r).reverse.drop (r - j) := by
        conv => lhs; rw [← List.take_append_drop (r - (j + 1)) (List.range r).reverse]
        congr 1
        have hlt2 : r - (j + 1) < (List.range r).reverse.length := by simp; omega
        rw [List.drop_eq_getElem_cons hlt2]
        congr 1
        · simp only [List.getElem_reverse, List.getElem_range, List.length_range]; omega
        · rw [show r - (j + 1) + 1 = r - j by omega]
      have hstep : (List.range r).reverse.take (r - j) = (List.range r).reverse.take (r - (j + 1)) ++ [j] := by
        have e : r - j = r - (j + 1) + 1 := by omega
        rw [e, List.take_add_one]
        congr 1
        have hlt2 : r - (j + 1) < (List.range r).reverse.length := by simp; omega
        rw [List.getElem?_eq_getElem hlt2]
        simp only [List.getElem_reverse, List.getElem_range, List.length_range, Option.toList]
        congr 1; omega
      obtain ⟨fn, tmps, assign, body, hy, hR⟩ := HY.out _ j _ wr hrev hJs
      rw [hgd] at hy
      have HStep := hide hstep
      clear hrev hstep hrow hu hgd hc1
      gi_wp2
      refine (RoundIn.anyDepth rfl hR).mono ?_
      rintro e W3 (⟨rfl, hJ3⟩ | ⟨rfl, hJx3⟩)
      · clear q2 q3
        gi_wp2
        refine ⟨⟨j, by omega, by rfl, by rw [HStep.out]; exact hJ3⟩, ?_⟩
        simp [intOf]
      · clear q2 q3
        gi_wp2
        refine bodyPost_ret (results_none rfl _ _ _) rfl ?_
        exact ⟨⟨_, rfl⟩, .inr hJx3⟩
    · obtain rfl : j = 0 := by omega
      have d0 : ¬ ((0 : Int) ≤ ((0 : Nat) : Int) - 1) := by omega
      have hfin : (List.range r).reverse.take (r - 0) = (List.range r).reverse := List.take_of_length_le (by simp)
      rw [hfin] at hJs
      gi_wp2
      refine bodyPost_end (results_none rfl _ _ _) rfl ?_
      exact ⟨⟨_, rfl⟩, .inl hJs⟩
end Go.Proofs.Ytjccfbjdngjhfaa
