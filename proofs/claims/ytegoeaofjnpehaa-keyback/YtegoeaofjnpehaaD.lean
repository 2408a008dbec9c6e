/- A value without lists, gone through: itself, and nothing below it. -/
import Derived.Test.YtegoeaofjnpehaaC
import Derived.Test.YtegoeaofjnpehaaR
import Derived.RangeFuncNested
import Derived.RangeFuncBound
import Derived.RangeFuncCalls
import Derived.RangeFuncLeaves
import Derived.Shelf.Abstract
import Derived.Shelf.RegionOpen
import Derived.OwnWalkIn
import Derived.TacticsInMore
import Derived.LoopNIn
import Derived.LoopIn
namespace Go.Proofs.Ytegoeaofjnpehaa
open Go.RowKit Go.Shelf
attribute [local go_sem] Oper.semAt_some
set_option linter.unusedVariables false

set_option maxHeartbeats 800000 in
theorem below1_leaf (y : Value) (b : Nat) (c0 c1 c2 c3 c4 : Value) (W : World) (hb : Box7 W b c0 c1 c2 c3 c4 (.slice none 0 0) (.slice none 0 0)) :
    Calls Try.prog 55 #[y, .pointer (some ⟨b, 0, none⟩)] W fun e w' => (∃ v, e = .returned v) ∧ w' = W := by
  obtain ⟨k0, k1, k2, k3, k4, k5, k6⟩ := hb.cells
  clear hb k0 k1 k2 k3 k4
  go_enter Try.func55, Try.ntmps55
  go_wp2
  go_loop [10] (fun i => i = .int .i64 0) (fun _ => 0)
  case atStart => rfl
  case round =>
    subst hrel
    go_wp2
    go_loop [22] (fun i => i = .int .i64 0) (fun _ => 0)
    case atStart => rfl
    case round =>
      subst hrel
      go_wp2
      go_end0
      exact ⟨⟨_, rfl⟩, rfl⟩
set_option maxHeartbeats 800000 in
theorem below_any (c0 c1 c2 c3 c4 c5 c6 : Value) (w : World) :
    Calls Try.prog 52 #[.agg #[c0, c1, c2, c3, c4, c5, c6]] w fun e w' => e = .returned (.func (.func 55) #[] #[.pointer (some ⟨w.heap.size, 0, none⟩)]) ∧ w' = w.alloc (.cells #[c0, c1, c2, c3, c4, c5, c6] 41) := by
  go_enter Try.func52, Try.ntmps52
  go_wp2
  go_ret
  exact ⟨rfl, rfl⟩
set_option maxHeartbeats 800000 in
theorem parts_any (c0 c1 c2 c3 c4 c5 c6 : Value) (w : World) :
    Calls Try.prog 33 #[.agg #[c0, c1, c2, c3, c4, c5, c6]] w fun e w' => e = .returned (.func (.func 44) #[] #[.pointer (some ⟨w.heap.size, 0, none⟩)]) ∧ w' = w.alloc (.cells #[c0, c1, c2, c3, c4, c5, c6] 41) := by
  go_enter Try.func33, Try.ntmps33
  go_wp2
  go_ret
  exact ⟨rfl, rfl⟩
theorem AB.box {B b : Nat} {W W' : World} {c0 c1 c2 c3 c4 c5 c6 : Value} (h : AB B W W') (hB : B ≤ b) (hb : Box7 W b c0 c1 c2 c3 c4 c5 c6) : Box7 W' b c0 c1 c2 c3 c4 c5 c6 := (h.same b hB hb.lt).trans hb
theorem AB.one {B b : Nat} {W W' : World} {v : Value} {t : TypeId} (h : AB B W W') (hB : B ≤ b) (hb : W.heap[b]? = some (.cells #[v] t (0, 0))) : W'.heap[b]? = some (.cells #[v] t (0, 0)) := (h.same b hB (lt_of_block hb)).trans hb
theorem none_goes (b : Nat) (c0 c1 c2 c3 c4 : Value) (w : World) (hb : Box7 w b c0 c1 c2 c3 c4 (.slice none 0 0) (.slice none 0 0)) :
    Goes Try.prog 55 #[.pointer (some ⟨b, 0, none⟩)] (fun x : Empty => #[.bool true]) [] w := by
  intro l J Jx W hW _ _ _ h0
  refine (below1_leaf (.func (.yield l) #[] #[]) b c0 c1 c2 c3 c4 W (hb.below hW)).mono ?_
  rintro e W' ⟨hv, rfl⟩
  exact ⟨hv, .inl h0⟩

set_option maxHeartbeats 1600000 in
set_option maxRecDepth 1000000 in
theorem walk_leaf (l : Nat) (d : Int) (c0 c1 c2 c3 c4 : Value) (B : Nat) (W : World) (hB : B ≤ W.heap.size) (R1 R0 : World → Prop) (h1 : ∀ V V', R1 V → Below B V V' → R1 V') (h0 : ∀ V V', R0 V → Below B V V' → R0 V')
    (hY : ∀ W1, Below W.heap.size W W1 → YieldAt Fence.wide 0 Try.prog l #[.int .i64 d, .agg #[c0, c1, c2, c3, c4, .slice none 0 0, .slice none 0 0]] W1 fun e W' => (e = .returned (.bool true) ∧ R1 W' ∧ AB B W1 W') ∨ (e = .returned (.bool false) ∧ R0 W' ∧ AB B W1 W')) :
    Calls Try.prog 45 #[.agg #[c0, c1, c2, c3, c4, .slice none 0 0, .slice none 0 0], .int .i64 d, .func (.yield l) #[] #[]] W fun e W'' =>
      (e = .returned (.bool true) ∧ R1 W'') ∨ (e = .returned (.bool false) ∧ R0 W'') := by
  obtain ⟨W1, hW1⟩ : ∃ W1, ((((W.alloc (.cells #[c0, c1, c2, c3, c4, .slice none 0 0, .slice none 0 0] 41)).alloc (.cells #[.int .i64 d] 3)).alloc (.cells #[.func (.yield l) #[] #[]] 86)).alloc (.cells #[.bool false] 4)) = W1 := ⟨_, rfl⟩
  have hB1 : Fr W.heap.size W W1 := by rw [← hW1]; exact ((((Fr.refl W).alloc _).alloc _).alloc _).alloc _
  have hbx : Box7 W1 W.heap.size c0 c1 c2 c3 c4 (.slice none 0 0) (.slice none 0 0) := by
    rw [← hW1]; exact (((Box7.new W _ _ _ _ _ _ _).below (below_alloc _ _)).below (below_alloc _ _)).below (below_alloc _ _)
  have hb6 : W1.heap[W.heap.size + 1 + 1 + 1]? = some (.cells #[.bool false] 4 (0, 0)) := by
    rw [← hW1]
    have := heap_alloc_new (((W.alloc (.cells #[c0, c1, c2, c3, c4, .slice none 0 0, .slice none 0 0] 41)).alloc (.cells #[.int .i64 d] 3)).alloc (.cells #[.func (.yield l) #[] #[]] 86)) (.cells #[.bool false] 4)
    simpa using this
  obtain ⟨fn, tmps, assign, body, hy, hR⟩ := hY W1 hB1.below
  rw [← hW1] at hy hR
  have HB1 := hide hB1
  have HBx := hide hbx
  have HB6 := hide hb6
  have HW1 := hide hW1
  have H1 := hide h1
  have H0 := hide h0
  clear hY hB1 hbx hb6 hW1 h1 h0
  refine (callsIn_wide (n := 9)).1 ?_
  refine callsIn_of_wp_marks Try.func45 rfl trivial ?_ rfl
  simp only [Try.ntmps45, List.size_toArray, List.length_cons, List.length_nil, Nat.reduceAdd, Nat.reduceSub, Array.replicate_succ, Array.replicate_zero, List.push_toArray, List.append_toArray, List.nil_append, List.cons_append]
  gi_wp2
  refine (RoundIn.anyDepth rfl hR).mono ?_
  rintro e W2 (⟨rfl, hJ, hk⟩ | ⟨rfl, hJ, hk⟩)
  · rw [HW1.out] at hk
    have HBx2 := hide (hk.box hB HBx.out)
    have HB62 := hide (hk.one (by omega) HB6.out)
    obtain ⟨k0, k1, k2, k3, k4, k5, k6⟩ := HBx2.out.cells
    clear hR hy HBx HB6
    gi_wp2
    refine ⟨trivial, (callsIn_wide.2 (below_any _ _ _ _ _ _ _ _)).mono ?_⟩
    rintro e w' ⟨rfl, rfl⟩
    have HN := hide (none_goes W2.heap.size c0 c1 c2 c3 c4 _ (Box7.new W2 c0 c1 c2 c3 c4 (.slice none 0 0) (.slice none 0 0)))
    have HX := hide (below_alloc W2 (.cells #[c0, c1, c2, c3, c4, .slice none 0 0, .slice none 0 0] 41))
    have HJ := hide hJ
    have hsz : W2.heap.size < (W2.alloc (.cells #[c0, c1, c2, c3, c4, .slice none 0 0, .slice none 0 0] 41)).heap.size := by simp
    clear hJ hk k0 k1 k2 k3 k4 k5 k6 HBx2
    gi_wp2
    generalize W2.alloc (.cells #[c0, c1, c2, c3, c4, .slice none 0 0, .slice none 0 0] 41) = X at *
    refine range_gen (gf := 55) (lb := #[.pointer (some ⟨W2.heap.size, 0, none⟩)]) rfl (enters_of Try.func55 (by kernel_rfl) rfl)
      HN.out (fun x => nomatch x)
      (fun _ V => Below X.heap.size X V) (fun _ _ => False) (fun _ _ _ h hb => h.trans hb) (fun _ _ _ h _ => h) (Below.refl _ _) (fun x => nomatch x) (fun x => nomatch x) ?assign ?body ?done ?stop
    case assign => exact fun _ _ x => nomatch x
    case body => exact fun _ _ x => nomatch x
    case stop => exact fun _ _ _ _ h => h.elim
    case done =>
      intro D V hD hBV hK
      have hlt6 := lt_of_block HB62.out
      have hb6 := (hBV.block (W.heap.size + 1 + 1 + 1) (by omega)).trans ((HX.out.block _ hlt6).trans HB62.out)
      have g6 := cell_of_one hb6
      have f6 := free_of_one hb6
      have HK := hide hK
      have HBV := hide hBV
      have HG6 := hide hb6
      clear hb6 hK hBV
      gi_wp2
      have hK' : (V.setCell ⟨W.heap.size + 1 + 1 + 1, 0, none⟩ (.bool true)).heap[D]? = some (.deferred (some [])) := (Below.heap_setCell _ _ _ _ (fun e => by have e' : D = W.heap.size + 1 + 1 + 1 := e; omega)).trans HK.out
      refine ⟨by simp, .inl ⟨_, _, rfl, run_takeDeferred hK', ?_⟩⟩
      have hc6 : ((V.setCell ⟨W.heap.size + 1 + 1 + 1, 0, none⟩ (.bool true)).putObj D (.deferred none)).cell? ⟨W.heap.size + 1 + 1 + 1, 0, none⟩ = some (.bool true) := by
        have h := one_setCell (u := .bool true) HG6.out
        have h2 : ((V.setCell ⟨W.heap.size + 1 + 1 + 1, 0, none⟩ (.bool true)).putObj D (.deferred none)).heap[W.heap.size + 1 + 1 + 1]? = _ := (World.putObj_heap_other (by omega)).trans h
        exact cell_of_one h2
      refine ⟨.bool true, ?_, .inl ⟨rfl, ?_⟩⟩
      · simp [results, Try.results45, go_sem, hc6]
      · refine H1.out _ _ HJ.out ?_
        refine ((HX.out.mono (by omega)).trans (HBV.out.mono (by omega))).trans ?_
        refine ((Below.refl B V).setCell (p := ⟨W.heap.size + 1 + 1 + 1, 0, none⟩) (by simp; omega) (.bool true)).trans ?_
        exact below_put _ _ _ (by omega) (lt_of_block hK')
  · rw [HW1.out] at hk
    have HB62 := hide (hk.one (by omega) HB6.out)
    have g6 := cell_of_one HB62.out
    have f6 := free_of_one HB62.out
    have HJ := hide hJ
    clear hR hy HBx HB6 hJ hk
    gi_wp2
    have hc6 := cell_of_one (one_setCell (u := .bool false) HB62.out)
    refine ⟨.bool false, ?_, .inr ⟨rfl, ?_⟩⟩
    · simp [results, Try.results45, go_sem, hc6]
    · exact H0.out _ _ HJ.out ((Below.refl B W2).setCell (p := ⟨W.heap.size + 1 + 1 + 1, 0, none⟩) (by simp; omega) (.bool false))

set_option maxHeartbeats 1600000 in
set_option maxRecDepth 1000000 in
theorem parts1_leaf (l b : Nat) (c0 c1 c2 c3 c4 : Value) (B : Nat) (W : World) (hB : B ≤ W.heap.size) (hb : Box7 W b c0 c1 c2 c3 c4 (.slice none 0 0) (.slice none 0 0)) (R1 R0 : World → Prop) (h1 : ∀ V V', R1 V → Below B V V' → R1 V') (h0 : ∀ V V', R0 V → Below B V V' → R0 V')
    (hY : ∀ W1, Below W.heap.size W W1 → YieldAt Fence.wide 0 Try.prog l #[.int .i64 1, .agg #[c0, c1, c2, c3, c4, .slice none 0 0, .slice none 0 0]] W1 fun e W' => (e = .returned (.bool true) ∧ R1 W' ∧ AB B W1 W') ∨ (e = .returned (.bool false) ∧ R0 W' ∧ AB B W1 W')) :
    Calls Try.prog 44 #[.func (.yield l) #[] #[], .pointer (some ⟨b, 0, none⟩)] W fun e W'' => (∃ v, e = .returned v) ∧ (R1 W'' ∨ R0 W'') := by
  have HC := hide (walk_leaf l 1 c0 c1 c2 c3 c4 B W hB R1 R0 h1 h0 hY)
  obtain ⟨k0, k1, k2, k3, k4, k5, k6⟩ := hb.cells
  clear hY h1 h0 hb
  go_enter Try.func44, Try.ntmps44
  go_wp2_with fail
  refine HC.out.mono ?_
  rintro e W1 (⟨rfl, h⟩ | ⟨rfl, h⟩)
  · go_wp2
    go_end0
    exact ⟨⟨_, rfl⟩, .inl h⟩
  · go_wp2
    go_end0
    exact ⟨⟨_, rfl⟩, .inr h⟩
theorem parts_goes (b : Nat) (c0 c1 c2 c3 c4 : Value) (w : World) (hb : Box7 w b c0 c1 c2 c3 c4 (.slice none 0 0) (.slice none 0 0)) :
    Goes Try.prog 44 #[.pointer (some ⟨b, 0, none⟩)] (fun _ : Unit => #[.int .i64 1, .agg #[c0, c1, c2, c3, c4, .slice none 0 0, .slice none 0 0]]) [()] w := by
  intro l J Jx W hW hJ hJx hY h0
  exact parts1_leaf l b c0 c1 c2 c3 c4 W.heap.size W (Nat.le_refl _) (hb.below hW) (J [()]) Jx (fun V V' h hb => hJ _ V V' h hb) hJx
    (fun W1 hb1 => hY [] () [] W1 rfl (hJ _ _ _ h0 hb1))
end Go.Proofs.Ytegoeaofjnpehaa
