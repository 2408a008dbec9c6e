/- A value and all below it, gone through. -/
import Derived.Test.YtegoeaofjnpehaaVB
namespace Go.Proofs.Ytegoeaofjnpehaa
open Go.RowKit Go.Shelf
attribute [local go_sem] Oper.semAt_some
set_option linter.unusedVariables false

/-- walk's own memory at b: the value, the depth, the one yield, the answer. -/
structure Wk (V : World) (b l : Nat) (d : Int) (v : T) (r : Bool) : Prop where
  box : BoxT V b v
  dp : V.heap[b + 1]? = some (.cells #[.int .i64 d] 3 (0, 0))
  yl : V.heap[b + 1 + 1]? = some (.cells #[.func (.yield l) #[] #[]] 86 (0, 0))
  res : V.heap[b + 1 + 1 + 1]? = some (.cells #[.bool r] 4 (0, 0))
theorem Wk.lt {V : World} {b l : Nat} {d : Int} {v : T} {r : Bool} (h : Wk V b l d v r) : b + 1 + 1 + 1 < V.heap.size := lt_of_block h.res
theorem Wk.keep {V V' : World} {b l : Nat} {d : Int} {v : T} {r : Bool} (h : Wk V b l d v r) (hs : ∀ k, b ≤ k → k ≤ b + 1 + 1 + 1 → V'.heap[k]? = V.heap[k]?) : Wk V' b l d v r :=
  ⟨(hs _ (by omega) (by omega)).trans h.box, (hs _ (by omega) (by omega)).trans h.dp, (hs _ (by omega) (by omega)).trans h.yl, (hs _ (by omega) (by omega)).trans h.res⟩
theorem BoxT.new (W : World) (v : T) : BoxT (W.alloc (.cells v.cells.toArray 41)) W.heap.size v := heap_alloc_new W _
theorem wk_new (V : World) (l : Nat) (d : Int) (v : T) : Wk ((((V.alloc (.cells v.cells.toArray 41)).alloc (.cells #[.int .i64 d] 3)).alloc (.cells #[.func (.yield l) #[] #[]] 86)).alloc (.cells #[.bool false] 4)) V.heap.size l d v false := by
  have h1 := heap_alloc_new (V.alloc (.cells v.cells.toArray 41)) (.cells #[.int .i64 d] 3)
  have h2 := heap_alloc_new ((V.alloc (.cells v.cells.toArray 41)).alloc (.cells #[.int .i64 d] 3)) (.cells #[.func (.yield l) #[] #[]] 86)
  have h3 := heap_alloc_new (((V.alloc (.cells v.cells.toArray 41)).alloc (.cells #[.int .i64 d] 3)).alloc (.cells #[.func (.yield l) #[] #[]] 86)) (.cells #[.bool false] 4)
  simp only [World.size_alloc] at h1 h2 h3
  refine ⟨?_, ?_, ?_, h3⟩
  · exact (Below.heap_alloc _ _ _ (by simp; omega)).trans ((Below.heap_alloc _ _ _ (by simp; omega)).trans ((Below.heap_alloc _ _ _ (by simp)).trans (heap_alloc_new V _)))
  · exact (Below.heap_alloc _ _ _ (by simp)).trans ((Below.heap_alloc _ _ _ (by simp)).trans h1)
  · exact (Below.heap_alloc _ _ _ (by simp)).trans h2

set_option maxHeartbeats 3200000 in
set_option maxRecDepth 1000000 in
theorem walk_gen (B n₀ l : Nat) (xs : List (Int × T)) (J : List (Int × T) → World → Prop) (Jx : World → Prop) (hJ : ∀ pre V V', J pre V → Below B V V' → J pre V') (hJx : ∀ V V', Jx V → Below B V V' → Jx V')
    (hM : ∀ pre V, J pre V → (∀ x ∈ xs, x.2.Mem n₀ V) ∧ B ≤ V.heap.size)
    (hY : ∀ pre x rest V, xs = pre ++ x :: rest → J pre V → YieldAt Fence.wide 0 Try.prog l #[.int .i64 x.1, x.2.val] V fun e V' =>
      (e = .returned (.bool true) ∧ J (pre ++ [x]) V' ∧ AB B V V') ∨ (e = .returned (.bool false) ∧ Jx V' ∧ AB B V V')) :
    ∀ (N : Nat) (v : T), v.sz ≤ N → ∀ (d : Int) (pre post : List (Int × T)) (V : World), xs = pre ++ v.flat d ++ post → J pre V → 0 ≤ d → d + v.sz ≤ 1000000 →
      Calls Try.prog 45 #[v.val, .int .i64 d, .func (.yield l) #[] #[]] V fun e V' =>
        (e = .returned (.bool true) ∧ J (pre ++ v.flat d) V' ∧ AB B V V') ∨ (e = .returned (.bool false) ∧ Jx V' ∧ AB B V V') := by
  intro N
  induction N with
  | zero => intro v hv; cases v; simp only [T.sz] at hv; omega
  | succ N ih =>
    intro v hv d pre post V hxs hJp hd0 hd1
    have hVB := (hM _ _ hJp).2
    have IH := hide ih
    have HJ := hide hJ
    have HJx := hide hJx
    have HM := hide hM
    have HY := hide hY
    have HFl := hide (T.flat_is d v)
    have HXs : Hid (xs = pre ++ (d, v) :: (v.kids.flatMap (fun c => c.flat (d + 1)) ++ post)) := by
      rw [Hid, hxs, T.flat_is]
      simp
    have hmem : (d, v) ∈ xs := by rw [HXs.out]; simp
    obtain ⟨W1, hW1⟩ : ∃ W1, ((((V.alloc (.cells v.cells.toArray 41)).alloc (.cells #[.int .i64 d] 3)).alloc (.cells #[.func (.yield l) #[] #[]] 86)).alloc (.cells #[.bool false] 4)) = W1 := ⟨_, rfl⟩
    have hF1 : Fr V.heap.size V W1 := by rw [← hW1]; exact ((((Fr.refl V).alloc _).alloc _).alloc _).alloc _
    have hK1 : Wk W1 V.heap.size l d v false := by rw [← hW1]; exact wk_new V l d v
    obtain ⟨fn, tmps, assign, body, hy, hR⟩ := hY pre (d, v) _ W1 HXs.out (hJ _ _ _ hJp (hF1.below.mono hVB))
    have HA1 : Hid (AB B V W1) := AB.of_below hF1.below
    rw [← hW1] at hy hR
    have HW1 := hide hW1
    have HK1 := hide hK1
    have HF1 := hide hF1
    have HMem := hide hmem
    clear hY hJ hJx hM ih hxs hW1 hK1 hF1 hJp hmem
    have HKid := hide (fun c hc => T.kid_sz v c hc)
    have HV : Hid (∃ k bo n t ya yc y la lc ls fa fc fs, v = .mk k bo n t ya yc y la lc ls fa fc fs) := by cases v; exact ⟨_, _, _, _, _, _, _, _, _, _, _, _, _, rfl⟩
    obtain ⟨k, bo, n, t, ya, yc, y, la, lc, ls, fa, fc, fs, hv'⟩ := HV.out
    have hval : v.val = .agg #[.int .u8 k, .bool bo, .int .i64 n, .string t, .slice ya y.length yc, .slice la ls.list.length lc, .slice fa fs.list.length fc] := by rw [hv']; rfl
    have hcs : v.cells.toArray = #[.int .u8 k, .bool bo, .int .i64 n, .string t, .slice ya y.length yc, .slice la ls.list.length lc, .slice fa fs.list.length fc] := by rw [hv']; rfl
    have HBx : Hid (∀ W b, BoxT W b v → Box7 W b (.int .u8 k) (.bool bo) (.int .i64 n) (.string t) (.slice ya y.length yc) (.slice la ls.list.length lc) (.slice fa fs.list.length fc)) := fun W b h => by rw [hv'] at h; exact h.seven
    simp only [hval, hcs] at hy hR HW1 ⊢
    clear HV hv'
    refine (callsIn_wide (n := 9)).1 ?_
    refine callsIn_of_wp_marks Try.func45 rfl trivial ?_ rfl
    simp only [Try.ntmps45, List.size_toArray, List.length_cons, List.length_nil, Nat.reduceAdd, Nat.reduceSub, Array.replicate_succ, Array.replicate_zero, List.push_toArray, List.append_toArray, List.nil_append, List.cons_append]
    have HVal := hide hval
    have HCs := hide hcs
    clear hval hcs
    gi_wp2
    refine (RoundIn.anyDepth rfl hR).mono ?_
    rintro e W2 (⟨rfl, hJ2, hk2⟩ | ⟨rfl, hJ2, hk2⟩)
    · rw [HW1.out] at hk2
      have hlt1 := HK1.out.lt
      have HK2 : Hid (Wk W2 V.heap.size l d v false) := HK1.out.keep (fun k h1 h2 => hk2.same k (by omega) (by omega))
      have HA2 := hide (HA1.out.trans hk2)
      have hsz2 := hk2.size
      have HJ2 := hide hJ2
      obtain ⟨k0, k1, k2, k3, k4, k5, k6⟩ := (HBx.out _ _ HK2.out.box).cells
      clear hR hy hJ2 hk2 HK1 HA1 HF1
      gi_wp2
      refine ⟨trivial, (callsIn_wide.2 (below_any _ _ _ _ _ _ _ _)).mono ?_⟩
      rintro e w' ⟨rfl, rfl⟩
      have HXb : Hid (BoxT (W2.alloc (.cells #[.int .u8 k, .bool bo, .int .i64 n, .string t, .slice ya y.length yc, .slice la ls.list.length lc, .slice fa fs.list.length fc] 41)) W2.heap.size v) := by rw [← HCs.out]; exact BoxT.new W2 v
      have HX := hide (below_alloc W2 (.cells #[.int .u8 k, .bool bo, .int .i64 n, .string t, .slice ya y.length yc, .slice la ls.list.length lc, .slice fa fs.list.length fc] 41))
      have hszx : W2.heap.size < (W2.alloc (.cells #[.int .u8 k, .bool bo, .int .i64 n, .string t, .slice ya y.length yc, .slice la ls.list.length lc, .slice fa fs.list.length fc] 41)).heap.size := by simp
      clear k0 k1 k2 k3 k4 k5 k6
      gi_wp2
      generalize W2.alloc (.cells #[.int .u8 k, .bool bo, .int .i64 n, .string t, .slice ya y.length yc, .slice la ls.list.length lc, .slice fa fs.list.length fc] 41) = X at *
      have hlt2 := HK2.out.lt
      refine range_genM (gf := 55) (lb := #[.pointer (some ⟨W2.heap.size, 0, none⟩)]) rfl (enters_of Try.func55 (by kernel_rfl) rfl)
        (below_goes W2.heap.size n₀ v X) (fun _ => rfl)
        (fun q W => J (pre ++ [(d, v)] ++ q.flatMap (fun c => c.flat (d + 1))) W ∧ AB B V W ∧ Wk W V.heap.size l d v false ∧ BoxT W W2.heap.size v ∧ X.heap.size ≤ W.heap.size)
        (fun c W => c = .ret ∧ Jx W ∧ AB B V W ∧ W.heap[V.heap.size + 1 + 1 + 1]? = some (.cells #[.bool false] 4 (0, 0)) ∧ X.heap.size ≤ W.heap.size)
        (fun q W W' h hb => ⟨HJ.out _ _ _ h.1 (hb.mono (by omega)), ⟨Nat.le_trans h.2.1.size hb.size, fun k h1 h2 => (hb.block k (by omega)).trans (h.2.1.same k h1 h2)⟩, h.2.2.1.keep (fun k h1 h2 => hb.block k (by omega)), (hb.block _ (by omega)).trans h.2.2.2.1, Nat.le_trans h.2.2.2.2 hb.size⟩)
        (fun c W W' h hb => ⟨h.1, HJx.out _ _ h.2.1 (hb.mono (by omega)), ⟨Nat.le_trans h.2.2.1.size hb.size, fun k h1 h2 => (hb.block k (by omega)).trans (h.2.2.1.same k h1 h2)⟩, (hb.block _ (by omega)).trans h.2.2.2.1, Nat.le_trans h.2.2.2.2 hb.size⟩)
        ⟨by simpa using HJ.out _ _ _ HJ2.out (HX.out.mono (by omega)), HA2.out.trans (AB.of_below HX.out), HK2.out.keep (fun k h1 h2 => HX.out.block k (by omega)), HXb.out, Nat.le_refl _⟩
        (fun q W h => ⟨(HM.out _ _ h.1).1 (d, v) HMem.out, h.2.2.2.1⟩)
        (fun x a' W => ∃ p, X.heap.size ≤ p ∧ BoxT W p x ∧ a' = { tmps := #[.agg #[.int .u8 k, .bool bo, .int .i64 n, .string t, .slice ya y.length yc, .slice la ls.list.length lc, .slice fa fs.list.length fc], .int .i64 d, .func (.yield l) #[] #[], .pointer (some ⟨V.heap.size, 0, none⟩), .pointer (some ⟨V.heap.size + 1, 0, none⟩), .pointer (some ⟨V.heap.size + 1 + 1, 0, none⟩), .pointer (some ⟨V.heap.size + 1 + 1 + 1, 0, none⟩), .pointer (some ⟨p, 0, none⟩), .func (.yield l) #[] #[], .int .i64 d, .agg #[.int .u8 k, .bool bo, .int .i64 n, .string t, .slice ya y.length yc, .slice la ls.list.length lc, .slice fa fs.list.length fc], .bool true, .bool false, .agg #[.int .u8 k, .bool bo, .int .i64 n, .string t, .slice ya y.length yc, .slice la ls.list.length lc, .slice fa fs.list.length fc], .func (.func 55) #[] #[.pointer (some ⟨W2.heap.size, 0, none⟩)], x.val, undef, undef, undef, undef, undef, undef], defers := [] })
        (fun x _ W lp r o h hl => by
          obtain ⟨p, hp0, hp, ha⟩ := h
          refine ⟨p, hp0, (World.putObj_heap_other (fun e => ?_)).trans hp, ha⟩
          subst e
          unfold BoxT at hp
          rw [hl] at hp
          cases hp) ?assign ?body ?done ?stop
      case assign =>
        rintro lp q x W K ⟨i1, i2, i3, i4, i5⟩ hK
        cases x with
        | mk ck cbo cn ct cya cyc cy cla clc cl cfa cfc cf =>
        simp only [T.val]
        gi_wp2
        have hb := below_alloc W (.cells #[.int .u8 ck, .bool cbo, .int .i64 cn, .string ct, .slice cya cy.length cyc, .slice cla cl.list.length clc, .slice cfa cf.list.length cfc] 41)
        exact hK _ _ ⟨HJ.out _ _ _ i1 (hb.mono (by omega)), i2.trans (AB.of_below hb), i3.keep (fun k h1 h2 => hb.block k (by omega)), (hb.block _ (by omega)).trans i4, Nat.le_trans i5 hb.size⟩ (AB.of_below hb) ⟨W.heap.size, i5, BoxT.new W (.mk ck cbo cn ct cya cyc cy cla clc cl cfa cfc cf), rfl⟩
      case body =>
        rintro lp q x rest a' W hx ⟨i1, i2, i3, i4, i5⟩ ⟨p, hp0, hp, rfl⟩
        have hkid := HKid.out x (by rw [hx]; simp)
        have HXs2 : Hid (xs = pre ++ [(d, v)] ++ q.flatMap (fun c => c.flat (d + 1)) ++ x.flat (d + 1) ++ (rest.flatMap (fun c => c.flat (d + 1)) ++ post)) := by
          rw [Hid, HXs.out, hx]
          simp
        have HRec := hide (IH.out x (by omega) (d + 1) _ _ W HXs2.out i1 (by omega) (by omega))
        have g4 := cell_of_one i3.dp
        have g5 := cell_of_one i3.yl
        have g6 := cell_of_one i3.res
        have f6 := free_of_one i3.res
        have HI2 := hide i2
        have HI3 := hide i3
        have HI4 := hide i4
        cases x with
        | mk ck cbo cn ct cya cyc cy cla clc cl cfa cfc cf =>
        obtain ⟨p0, p1, p2, p3, p4, p5, p6⟩ := hp.seven.cells
        simp only [T.val] at HRec ⊢
        clear i1 i2 i3 i4 hx hp
        gi_wp2
        refine ⟨trivial, (CallsIn.inRound lp (callsIn_wide.2 HRec.out)).mono ?_⟩
        rintro e W3 (⟨rfl, hJ3, hk3⟩ | ⟨rfl, hJ3, hk3⟩)
        · have HJ3 := hide hJ3
          have HK3 := hide hk3
          have hw3 := hk3.size
          clear hJ3 hk3 p0 p1 p2 p3 p4 p5 p6 g4 g5 g6 f6
          gi_wp2
          have hVW := HI2.out.size
          refine ⟨⟨by have := HJ3.out; rw [List.flatMap_append]; simpa using this, HI2.out.trans HK3.out, HI3.out.keep (fun k h1 h2 => HK3.out.same k (by omega) (by have := HI3.out.lt; omega)), (HK3.out.same _ (by omega) (by omega)).trans HI4.out, by omega⟩, HK3.out.mono (by omega)⟩
        · have HJ3 := hide hJ3
          have HK3 := hide hk3
          have hw3 := hk3.size
          have hr3 := (hk3.same _ (by omega) HI3.out.lt).trans HI3.out.res
          have g63 := cell_of_one hr3
          have f63 := free_of_one hr3
          have HR3 := hide hr3
          clear hJ3 hk3 hr3 p0 p1 p2 p3 p4 p5 p6 g4 g5 g6 f6
          gi_wp2
          have hVW := HI2.out.size
          refine ⟨⟨rfl, HJx.out _ _ HJ3.out ((Below.refl B W3).setCell (p := ⟨V.heap.size + 1 + 1 + 1, 0, none⟩) (by simp; omega) _), ?_, one_setCell HR3.out, by simp [World.setCell]; omega⟩, (HK3.out.mono (by omega)).trans (AB.set _ _ (by omega))⟩
          refine ⟨by have := HI2.out.size; simp [World.setCell]; omega, fun k h1 h2 => ?_⟩
          exact (Below.heap_setCell _ _ _ _ (fun e => by have e' : k = V.heap.size + 1 + 1 + 1 := e; omega)).trans ((HI2.out.trans HK3.out).same k h1 h2)
      case done =>
        rintro D W hD ⟨i1, i2, i3, i4, i5⟩ hK
        have g6 := cell_of_one i3.res
        have f6 := free_of_one i3.res
        have HI1 := hide i1
        have HI2 := hide i2
        have HI3 := hide i3
        have HK := hide hK
        clear i1 i2 i3 i4 hK
        gi_wp2
        have hK' : (W.setCell ⟨V.heap.size + 1 + 1 + 1, 0, none⟩ (.bool true)).heap[D]? = some (.deferred (some [])) := (Below.heap_setCell _ _ _ _ (fun e => by have e' : D = V.heap.size + 1 + 1 + 1 := e; omega)).trans HK.out
        refine ⟨by simp, .inl ⟨_, _, rfl, run_takeDeferred hK', ?_⟩⟩
        have hc6 : ((W.setCell ⟨V.heap.size + 1 + 1 + 1, 0, none⟩ (.bool true)).putObj D (.deferred none)).cell? ⟨V.heap.size + 1 + 1 + 1, 0, none⟩ = some (.bool true) :=
          cell_of_one ((World.putObj_heap_other (by omega)).trans (one_setCell (u := .bool true) HI3.out.res))
        have hVW := HI2.out.size
        have hDW := lt_of_block HK.out
        refine ⟨.bool true, ?_, .inl ⟨rfl, ?_, ?_⟩⟩
        · simp [results, Try.results45, go_sem, hc6]
        · rw [HFl.out]
          have h9 := HI1.out
          simp only [List.append_assoc, List.singleton_append] at h9
          refine HJ.out _ _ _ h9 ?_
          exact ((Below.refl B W).setCell (p := ⟨V.heap.size + 1 + 1 + 1, 0, none⟩) (by simp; omega) (.bool true)).trans (below_put _ _ _ (by omega) (lt_of_block hK'))
        · refine ⟨by simp [World.setCell, World.putObj]; omega, fun k h1 h2 => ?_⟩
          exact (World.putObj_heap_other (by omega)).trans ((Below.heap_setCell _ _ _ _ (fun e => by have e' : k = V.heap.size + 1 + 1 + 1 := e; omega)).trans (HI2.out.same k h1 h2))
      case stop =>
        rintro D c W hD ⟨rfl, i1, i2, i3, i5⟩ hK
        have HI1 := hide i1
        have HI2 := hide i2
        have HI3 := hide i3
        have HK := hide hK
        clear i1 i2 i3 hK
        gi_wp2
        refine ⟨by simp, .inl ⟨_, _, rfl, run_takeDeferred HK.out, ?_⟩⟩
        have hc6 : (W.putObj D (.deferred none)).cell? ⟨V.heap.size + 1 + 1 + 1, 0, none⟩ = some (.bool false) :=
          cell_of_one ((World.putObj_heap_other (by omega)).trans HI3.out)
        have hVW := HI2.out.size
        have hDW := lt_of_block HK.out
        refine ⟨.bool false, ?_, .inr ⟨rfl, ?_, ?_⟩⟩
        · simp [results, Try.results45, go_sem, hc6]
        · exact HJx.out _ _ HI1.out (below_put _ _ _ (by omega) hDW)
        · refine ⟨by simp [World.putObj]; omega, fun k h1 h2 => ?_⟩
          exact (World.putObj_heap_other (by omega)).trans (HI2.out.same k h1 h2)
    · rw [HW1.out] at hk2
      have hlt1 := HK1.out.lt
      have hr2 := (hk2.same _ (by omega) hlt1).trans HK1.out.res
      have g6 := cell_of_one hr2
      have f6 := free_of_one hr2
      have HR2 := hide hr2
      have HJ2 := hide hJ2
      have HA2 := hide (HA1.out.trans hk2)
      have hsz2 := hk2.size
      clear hR hy hJ2 hk2 hr2
      gi_wp2
      have hc6 := cell_of_one (one_setCell (u := .bool false) HR2.out)
      refine ⟨.bool false, ?_, .inr ⟨rfl, ?_, ?_⟩⟩
      · simp [results, Try.results45, go_sem, hc6]
      · exact HJx.out _ _ HJ2.out ((Below.refl B W2).setCell (p := ⟨V.heap.size + 1 + 1 + 1, 0, none⟩) (by simp; omega) (.bool false))
      · refine ⟨by have := HA2.out.size; simp [World.setCell]; omega, fun k h1 h2 => ?_⟩
        exact (Below.heap_setCell _ _ _ _ (fun e => by have e' : k = V.heap.size + 1 + 1 + 1 := e; omega)).trans (HA2.out.same k h1 h2)
end Go.Proofs.Ytegoeaofjnpehaa
