/- The values right below a value, gone through. -/
import Derived.Test.YtegoeaofjnpehabVA
import Derived.Test.YtegoeaofjnpehabRM
import Derived.Test.YtegoeaofjnpehabG
namespace Go.Proofs.Ytegoeaofjnpehab
open Go.RowKit Go.Shelf
attribute [local go_sem] Oper.semAt_some
set_option linter.unusedVariables false

/-- the value's own cells lie at b. -/
def BoxT (W : World) (b : Nat) (v : T) : Prop := W.heap[b]? = some (.cells v.cells.toArray 32 (0, 0))
theorem BoxT.seven {W : World} {b : Nat} {k : Int} {bo : Bool} {n : Int} {t : ByteArray} {ya : Option Addr} {yc : Nat} {y : List Int} {la : Option Addr} {lc : Nat} {l : TL} {fa : Option Addr} {fc : Nat} {f : FL} (h : BoxT W b (.mk k bo n t ya yc y la lc l fa fc f)) :
    Box7 W b (.int .u8 k) (.bool bo) (.int .i64 n) (.string t) (.slice ya y.length yc) (.slice la l.list.length lc) (.slice fa f.list.length fc) := h

set_option maxHeartbeats 3200000 in
set_option maxRecDepth 1000000 in
theorem below1_gen (l b n₀ B : Nat) (v : T) (J : List T → World → Prop) (Jx : World → Prop) (hJ : ∀ pre V V', J pre V → Below B V V' → J pre V') (hM : ∀ pre V, J pre V → (v.Mem n₀ V ∧ BoxT V b v) ∧ B ≤ V.heap.size)
    (hY : ∀ pre x rest V, v.kids = pre ++ x :: rest → J pre V → YieldAt Fence.wide 0 Try.prog l #[x.val] V fun e V' =>
      (e = .returned (.bool true) ∧ J (pre ++ [x]) V' ∧ AB B V V') ∨ (e = .returned (.bool false) ∧ Jx V' ∧ AB B V V')) (W : World) (h0 : J [] W) :
    CallsIn Fence.wide 9 Try.prog 59 #[.func (.yield l) #[] #[], .pointer (some ⟨b, 0, none⟩)] W fun e W' => (∃ v, e = .returned v) ∧ (J v.kids W' ∨ Jx W') := by
  cases v with
  | mk k bo n t ya yc y la lc ls fa fc fs =>
  have HM := hide hM
  have HJ := hide hJ
  have HY := hide hY
  have H0 := hide h0
  have HB0 := hide (hM [] W h0).1.2.seven
  have hl7 := (hM [] W h0).1.1.2.2.2.2.2.2.1
  have hf7 := (hM [] W h0).1.1.2.2.2.2.2.2.2.2.2
  obtain ⟨q0, q1, q2, q3, q4, q5, q6⟩ := HB0.out.cells
  clear hM hJ hY h0 q0 q1 q2 q3 q4
  refine callsIn_of_wp Try.func59 rfl trivial ?_ rfl
  simp only [Try.ntmps59, List.size_toArray, List.length_cons, List.length_nil, Nat.reduceAdd, Nat.reduceSub, Array.replicate_succ, Array.replicate_zero, List.push_toArray, List.append_toArray, List.nil_append, List.cons_append]
  gi_wp2
  gi_loopw [10] (fun i wr => ∃ j : Nat, j ≤ ls.list.length ∧ i = .int .i64 (j : Int) ∧ J (ls.list.take j) wr) (fun i _ => ls.list.length - (intOf i).toNat)
  case atStart => exact ⟨0, by omega, rfl, by simpa using H0.out⟩
  case round =>
    obtain ⟨j, hj, rfl, hJs⟩ := hrel
    by_cases hlt : j < ls.list.length
    · obtain ⟨c, hc⟩ : ∃ c, ls.list[j]? = some c := ⟨_, List.getElem?_eq_getElem hlt⟩
      have hm := (HM.out _ _ hJs).1.1
      have HTk := hide (take_next ls.list j c hc)
      have HDec : Hid ((T.mk k bo n t ya yc y la lc ls fa fc fs).kids = ls.list.take j ++ c :: (ls.list.drop (j + 1) ++ fs.list.map (·.2))) := by
        rw [Hid]
        simp only [T.kids]
        conv => lhs; rw [split_list ls.list j c hc]
        simp
      have hsz := (HM.out _ _ hJs).2
      cases c with
      | mk ck cbo cn ct cya cyc cy cla clc cl cfa cfc cf =>
      obtain ⟨b', o', rfl, hb', c0, c1, c2, c3, c4, c5, c6⟩ := hm.2.2.2.2.1.cells hc
      clear hm hc
      have HX := hide (below_alloc wr (.cells #[.int .u8 ck, .bool cbo, .int .i64 cn, .string ct, .slice cya cy.length cyc, .slice cla cl.list.length clc, .slice cfa cf.list.length cfc] 32))
      obtain ⟨fn, tmps, assign, body, hy, hR⟩ := HY.out _ _ _ _ HDec.out (HJ.out _ _ _ hJs (HX.out.mono hsz))
      simp only [T.val] at hy
      clear hJs
      gi_wp2
      refine (RoundIn.anyDepth rfl hR).mono ?_
      rintro e W3 (⟨rfl, hJ3, -⟩ | ⟨rfl, hJx3, -⟩)
      · gi_wp2
        go_roundw
        case rel => exact ⟨j + 1, by omega, by go_num, by rw [HTk.out]; exact hJ3⟩
        case measure => simp [intOf]; omega
      · gi_wp2
        refine bodyPost_ret (results_none rfl _ _ _) rfl ?_
        exact ⟨⟨_, rfl⟩, .inr hJx3⟩
    · have hjl : ls.list.take j = ls.list := List.take_of_length_le (by omega)
      rw [hjl] at hJs
      have HB1 := hide (HM.out _ _ hJs).1.2.seven
      obtain ⟨q0, q1, q2, q3, q4, q5, q6⟩ := HB1.out.cells
      have HJs := hide hJs
      clear hJs hjl q0 q1 q2 q3 q4 q5
      gi_wp2
      gi_loopw [22] (fun i wr => ∃ j : Nat, j ≤ fs.list.length ∧ i = .int .i64 (j : Int) ∧ J (ls.list ++ (fs.list.take j).map (·.2)) wr) (fun i _ => fs.list.length - (intOf i).toNat)
      case atStart => exact ⟨0, by omega, rfl, by simpa using HJs.out⟩
      case round =>
        obtain ⟨j, hj, rfl, hJs⟩ := hrel
        by_cases hlt : j < fs.list.length
        · obtain ⟨⟨s, c⟩, hc⟩ : ∃ c, fs.list[j]? = some c := ⟨_, List.getElem?_eq_getElem hlt⟩
          have hm := (HM.out _ _ hJs).1.1
          have HTk := hide (take_next fs.list j (s, c) hc)
          have HDec : Hid ((T.mk k bo n t ya yc y la lc ls fa fc fs).kids = (ls.list ++ (fs.list.take j).map (·.2)) ++ c :: (fs.list.drop (j + 1)).map (·.2)) := by
            rw [Hid]
            simp only [T.kids]
            conv => lhs; rw [split_list fs.list j (s, c) hc]
            simp
          have hsz := (HM.out _ _ hJs).2
          cases c with
          | mk ck cbo cn ct cya cyc cy cla clc cl cfa cfc cf =>
          obtain ⟨b', o', rfl, hb', cs, c0, c1, c2, c3, c4, c5, c6⟩ := hm.2.2.2.2.2.2.2.1.cells hc
          clear hm hc
          have HX := hide (below_alloc wr (.cells #[.string s, .int .u8 ck, .bool cbo, .int .i64 cn, .string ct, .slice cya cy.length cyc, .slice cla cl.list.length clc, .slice cfa cf.list.length cfc] 69))
          obtain ⟨fn, tmps, assign, body, hy, hR⟩ := HY.out _ _ _ _ HDec.out (HJ.out _ _ _ hJs (HX.out.mono hsz))
          simp only [T.val] at hy
          clear hJs
          gi_wp2
          refine (RoundIn.anyDepth rfl hR).mono ?_
          rintro e W3 (⟨rfl, hJ3, -⟩ | ⟨rfl, hJx3, -⟩)
          · gi_wp2
            go_roundw
            case rel => exact ⟨j + 1, by omega, by go_num, by rw [HTk.out]; simpa using hJ3⟩
            case measure => simp [intOf]; omega
          · gi_wp2
            refine bodyPost_ret (results_none rfl _ _ _) rfl ?_
            exact ⟨⟨_, rfl⟩, .inr hJx3⟩
        · have hjl : fs.list.take j = fs.list := List.take_of_length_le (by omega)
          rw [hjl] at hJs
          gi_wp2
          go_end0
          exact ⟨⟨_, rfl⟩, .inl hJs⟩
theorem below_goes (b n₀ : Nat) (v : T) (w : World) : GoesM Try.prog 59 #[.pointer (some ⟨b, 0, none⟩)] (fun x : T => #[x.val]) v.kids (fun V => v.Mem n₀ V ∧ BoxT V b v) w := by
  intro l J Jx W hW hJ hJx hM hY h0
  exact callsIn_wide.1 (below1_gen l b n₀ W.heap.size v J Jx hJ hM hY W h0)
end Go.Proofs.Ytegoeaofjnpehab
/- A value and all below it, gone through. -/
namespace Go.Proofs.Ytegoeaofjnpehab
open Go.RowKit Go.Shelf
attribute [local go_sem] Oper.semAt_some
set_option linter.unusedVariables false

/-- walk's own memory at b: the value, the depth, the one yield, the answer. -/
structure Wk (V : World) (b l : Nat) (d : Int) (v : T) (r : Bool) : Prop where
  box : BoxT V b v
  dp : V.heap[b + 1]? = some (.cells #[.int .i64 d] 3 (0, 0))
  yl : V.heap[b + 1 + 1]? = some (.cells #[.func (.yield l) #[] #[]] 84 (0, 0))
  res : V.heap[b + 1 + 1 + 1]? = some (.cells #[.bool r] 4 (0, 0))
theorem Wk.lt {V : World} {b l : Nat} {d : Int} {v : T} {r : Bool} (h : Wk V b l d v r) : b + 1 + 1 + 1 < V.heap.size := lt_of_block h.res
theorem Wk.keep {V V' : World} {b l : Nat} {d : Int} {v : T} {r : Bool} (h : Wk V b l d v r) (hs : ∀ k, b ≤ k → k ≤ b + 1 + 1 + 1 → V'.heap[k]? = V.heap[k]?) : Wk V' b l d v r :=
  ⟨(hs _ (by omega) (by omega)).trans h.box, (hs _ (by omega) (by omega)).trans h.dp, (hs _ (by omega) (by omega)).trans h.yl, (hs _ (by omega) (by omega)).trans h.res⟩
theorem BoxT.new (W : World) (v : T) : BoxT (W.alloc (.cells v.cells.toArray 32)) W.heap.size v := heap_alloc_new W _
theorem wk_new (V : World) (l : Nat) (d : Int) (v : T) : Wk ((((V.alloc (.cells v.cells.toArray 32)).alloc (.cells #[.int .i64 d] 3)).alloc (.cells #[.func (.yield l) #[] #[]] 84)).alloc (.cells #[.bool false] 4)) V.heap.size l d v false := by
  have h1 := heap_alloc_new (V.alloc (.cells v.cells.toArray 32)) (.cells #[.int .i64 d] 3)
  have h2 := heap_alloc_new ((V.alloc (.cells v.cells.toArray 32)).alloc (.cells #[.int .i64 d] 3)) (.cells #[.func (.yield l) #[] #[]] 84)
  have h3 := heap_alloc_new (((V.alloc (.cells v.cells.toArray 32)).alloc (.cells #[.int .i64 d] 3)).alloc (.cells #[.func (.yield l) #[] #[]] 84)) (.cells #[.bool false] 4)
  simp only [World.size_alloc] at h1 h2 h3
  refine ⟨?_, ?_, ?_, h3⟩
  · exact (Below.heap_alloc _ _ _ (by simp; omega)).trans ((Below.heap_alloc _ _ _ (by simp; omega)).trans ((Below.heap_alloc _ _ _ (by simp)).trans (heap_alloc_new V _)))
  · exact (Below.heap_alloc _ _ _ (by simp)).trans ((Below.heap_alloc _ _ _ (by simp)).trans h1)
  · exact (Below.heap_alloc _ _ _ (by simp)).trans h2

set_option maxHeartbeats 3200000 in
set_option maxRecDepth 1000000 in
theorem walk_gen (B n₀ l : Nat) (xs : List (Int × T)) (J : List (Int × T) → World → Prop) (Jx : World → Prop) (hJ : ∀ pre V V', J pre V → Below B V V' → J pre V') (hJx : ∀ V V', Jx V → Below B V V' → Jx V')
    (hM : ∀ pre V, J pre V → (∀ x ∈ xs, x.2.Mem n₀ V) ∧ B ≤ V.heap.size)
    (hY : ∀ pre x rest V, xs = pre ++ x :: rest → J pre V → YieldAt Fence.wide 0 Try.prog l #[.int .i64 x.1, x.2.val] V fun e V' =>
      (e = .returned (.bool true) ∧ J (pre ++ [x]) V' ∧ AB B V V') ∨ (e = .returned (.bool false) ∧ Jx V' ∧ AB B V V')) :
    ∀ (N : Nat) (v : T), v.sz ≤ N → ∀ (d : Int) (pre post : List (Int × T)) (V : World), xs = pre ++ v.flat d ++ post → J pre V → 0 ≤ d → d + v.sz ≤ 1000000 →
      Calls Try.prog 46 #[v.val, .int .i64 d, .func (.yield l) #[] #[]] V fun e V' =>
        (e = .returned (.bool true) ∧ J (pre ++ v.flat d) V' ∧ AB B V V') ∨ (e = .returned (.bool false) ∧ Jx V' ∧ AB B V V') := by
  intro N
  induction N with
  | zero => intro v hv; cases v; simp only [T.sz] at hv; omega
  | succ N ih =>
    intro v hv d pre post V hxs hJp hd0 hd1
    have hVB := (hM _ _ hJp).2
    have IH := hide ih
    have HJ := hide hJ
    have HJx := hide hJx
    have HM := hide hM
    have HY := hide hY
    have HFl := hide (T.flat_is d v)
    have HXs : Hid (xs = pre ++ (d, v) :: (v.kids.flatMap (fun c => c.flat (d + 1)) ++ post)) := by
      rw [Hid, hxs, T.flat_is]
      simp
    have hmem : (d, v) ∈ xs := by rw [HXs.out]; simp
    obtain ⟨W1, hW1⟩ : ∃ W1, ((((V.alloc (.cells v.cells.toArray 32)).alloc (.cells #[.int .i64 d] 3)).alloc (.cells #[.func (.yield l) #[] #[]] 84)).alloc (.cells #[.bool false] 4)) = W1 := ⟨_, rfl⟩
    have hF1 : Fr V.heap.size V W1 := by rw [← hW1]; exact ((((Fr.refl V).alloc _).alloc _).alloc _).alloc _
    have hK1 : Wk W1 V.heap.size l d v false := by rw [← hW1]; exact wk_new V l d v
    obtain ⟨fn, tmps, assign, body, hy, hR⟩ := hY pre (d, v) _ W1 HXs.out (hJ _ _ _ hJp (hF1.below.mono hVB))
    have HA1 : Hid (AB B V W1) := AB.of_below hF1.below
    rw [← hW1] at hy hR
    have HW1 := hide hW1
    have HK1 := hide hK1
    have HF1 := hide hF1
    have HMem := hide hmem
    clear hY hJ hJx hM ih hxs hW1 hK1 hF1 hJp hmem
    have HKid := hide (fun c hc => T.kid_sz v c hc)
    have HV : Hid (∃ k bo n t ya yc y la lc ls fa fc fs, v = .mk k bo n t ya yc y la lc ls fa fc fs) := by cases v; exact ⟨_, _, _, _, _, _, _, _, _, _, _, _, _, rfl⟩
    obtain ⟨k, bo, n, t, ya, yc, y, la, lc, ls, fa, fc, fs, hv'⟩ := HV.out
    have hval : v.val = .agg #[.int .u8 k, .bool bo, .int .i64 n, .string t, .slice ya y.length yc, .slice la ls.list.length lc, .slice fa fs.list.length fc] := by rw [hv']; rfl
    have hcs : v.cells.toArray = #[.int .u8 k, .bool bo, .int .i64 n, .string t, .slice ya y.length yc, .slice la ls.list.length lc, .slice fa fs.list.length fc] := by rw [hv']; rfl
    have HBx : Hid (∀ W b, BoxT W b v → Box7 W b (.int .u8 k) (.bool bo) (.int .i64 n) (.string t) (.slice ya y.length yc) (.slice la ls.list.length lc) (.slice fa fs.list.length fc)) := fun W b h => by rw [hv'] at h; exact h.seven
    simp only [hval, hcs] at hy hR HW1 ⊢
    clear HV hv'
    refine (callsIn_wide (n := 9)).1 ?_
    refine callsIn_of_wp_marks Try.func46 rfl trivial ?_ rfl
    simp only [Try.ntmps46, List.size_toArray, List.length_cons, List.length_nil, Nat.reduceAdd, Nat.reduceSub, Array.replicate_succ, Array.replicate_zero, List.push_toArray, List.append_toArray, List.nil_append, List.cons_append]
    have HVal := hide hval
    have HCs := hide hcs
    clear hval hcs
    gi_wp2
    refine (RoundIn.anyDepth rfl hR).mono ?_
    rintro e W2 (⟨rfl, hJ2, hk2⟩ | ⟨rfl, hJ2, hk2⟩)
    · rw [HW1.out] at hk2
      have hlt1 := HK1.out.lt
      have HK2 : Hid (Wk W2 V.heap.size l d v false) := HK1.out.keep (fun k h1 h2 => hk2.same k (by omega) (by omega))
      have HA2 := hide (HA1.out.trans hk2)
      have hsz2 := hk2.size
      have HJ2 := hide hJ2
      obtain ⟨k0, k1, k2, k3, k4, k5, k6⟩ := (HBx.out _ _ HK2.out.box).cells
      clear hR hy hJ2 hk2 HK1 HA1 HF1
      gi_wp2
      refine ⟨trivial, (callsIn_wide.2 (below_any _ _ _ _ _ _ _ _)).mono ?_⟩
      rintro e w' ⟨rfl, rfl⟩
      have HXb : Hid (BoxT (W2.alloc (.cells #[.int .u8 k, .bool bo, .int .i64 n, .string t, .slice ya y.length yc, .slice la ls.list.length lc, .slice fa fs.list.length fc] 32)) W2.heap.size v) := by rw [← HCs.out]; exact BoxT.new W2 v
      have HX := hide (below_alloc W2 (.cells #[.int .u8 k, .bool bo, .int .i64 n, .string t, .slice ya y.length yc, .slice la ls.list.length lc, .slice fa fs.list.length fc] 32))
      have hszx : W2.heap.size < (W2.alloc (.cells #[.int .u8 k, .bool bo, .int .i64 n, .string t, .slice ya y.length yc, .slice la ls.list.length lc, .slice fa fs.list.length fc] 32)).heap.size := by simp
      clear k0 k1 k2 k3 k4 k5 k6
      gi_wp2
      generalize W2.alloc (.cells #[.int .u8 k, .bool bo, .int .i64 n, .string t, .slice ya y.length yc, .slice la ls.list.length lc, .slice fa fs.list.length fc] 32) = X at *
      have hlt2 := HK2.out.lt
      refine range_genM (gf := 59) (lb := #[.pointer (some ⟨W2.heap.size, 0, none⟩)]) rfl (enters_of Try.func59 (by kernel_rfl) rfl)
        (below_goes W2.heap.size n₀ v X) (fun _ => rfl)
        (fun q W => J (pre ++ [(d, v)] ++ q.flatMap (fun c => c.flat (d + 1))) W ∧ AB B V W ∧ Wk W V.heap.size l d v false ∧ BoxT W W2.heap.size v ∧ X.heap.size ≤ W.heap.size)
        (fun c W => c = .ret ∧ Jx W ∧ AB B V W ∧ W.heap[V.heap.size + 1 + 1 + 1]? = some (.cells #[.bool false] 4 (0, 0)) ∧ X.heap.size ≤ W.heap.size)
        (fun q W W' h hb => ⟨HJ.out _ _ _ h.1 (hb.mono (by omega)), ⟨Nat.le_trans h.2.1.size hb.size, fun k h1 h2 => (hb.block k (by omega)).trans (h.2.1.same k h1 h2)⟩, h.2.2.1.keep (fun k h1 h2 => hb.block k (by omega)), (hb.block _ (by omega)).trans h.2.2.2.1, Nat.le_trans h.2.2.2.2 hb.size⟩)
        (fun c W W' h hb => ⟨h.1, HJx.out _ _ h.2.1 (hb.mono (by omega)), ⟨Nat.le_trans h.2.2.1.size hb.size, fun k h1 h2 => (hb.block k (by omega)).trans (h.2.2.1.same k h1 h2)⟩, (hb.block _ (by omega)).trans h.2.2.2.1, Nat.le_trans h.2.2.2.2 hb.size⟩)
        ⟨by simpa using HJ.out _ _ _ HJ2.out (HX.out.mono (by omega)), HA2.out.trans (AB.of_below HX.out), HK2.out.keep (fun k h1 h2 => HX.out.block k (by omega)), HXb.out, Nat.le_refl _⟩
        (fun q W h => ⟨(HM.out _ _ h.1).1 (d, v) HMem.out, h.2.2.2.1⟩)
        (fun x a' W => ∃ p, X.heap.size ≤ p ∧ BoxT W p x ∧ a' = { tmps := #[.agg #[.int .u8 k, .bool bo, .int .i64 n, .string t, .slice ya y.length yc, .slice la ls.list.length lc, .slice fa fs.list.length fc], .int .i64 d, .func (.yield l) #[] #[], .pointer (some ⟨V.heap.size, 0, none⟩), .pointer (some ⟨V.heap.size + 1, 0, none⟩), .pointer (some ⟨V.heap.size + 1 + 1, 0, none⟩), .pointer (some ⟨V.heap.size + 1 + 1 + 1, 0, none⟩), .pointer (some ⟨p, 0, none⟩), .func (.yield l) #[] #[], .int .i64 d, .agg #[.int .u8 k, .bool bo, .int .i64 n, .string t, .slice ya y.length yc, .slice la ls.list.length lc, .slice fa fs.list.length fc], .bool true, .bool false, .agg #[.int .u8 k, .bool bo, .int .i64 n, .string t, .slice ya y.length yc, .slice la ls.list.length lc, .slice fa fs.list.length fc], .func (.func 59) #[] #[.pointer (some ⟨W2.heap.size, 0, none⟩)], x.val, undef, undef, undef, undef, undef, undef], defers := [] })
        (fun x _ W lp r o h hl => by
          obtain ⟨p, hp0, hp, ha⟩ := h
          refine ⟨p, hp0, (World.putObj_heap_other (fun e => ?_)).trans hp, ha⟩
          subst e
          unfold BoxT at hp
          rw [hl] at hp
          cases hp) ?assign ?body ?done ?stop
      case assign =>
        rintro lp q x W K ⟨i1, i2, i3, i4, i5⟩ hK
        cases x with
        | mk ck cbo cn ct cya cyc cy cla clc cl cfa cfc cf =>
        simp only [T.val]
        gi_wp2
        have hb := below_alloc W (.cells #[.int .u8 ck, .bool cbo, .int .i64 cn, .string ct, .slice cya cy.length cyc, .slice cla cl.list.length clc, .slice cfa cf.list.length cfc] 32)
        exact hK _ _ ⟨HJ.out _ _ _ i1 (hb.mono (by omega)), i2.trans (AB.of_below hb), i3.keep (fun k h1 h2 => hb.block k (by omega)), (hb.block _ (by omega)).trans i4, Nat.le_trans i5 hb.size⟩ (AB.of_below hb) ⟨W.heap.size, i5, BoxT.new W (.mk ck cbo cn ct cya cyc cy cla clc cl cfa cfc cf), rfl⟩
      case body =>
        rintro lp q x rest a' W hx ⟨i1, i2, i3, i4, i5⟩ ⟨p, hp0, hp, rfl⟩
        have hkid := HKid.out x (by rw [hx]; simp)
        have HXs2 : Hid (xs = pre ++ [(d, v)] ++ q.flatMap (fun c => c.flat (d + 1)) ++ x.flat (d + 1) ++ (rest.flatMap (fun c => c.flat (d + 1)) ++ post)) := by
          rw [Hid, HXs.out, hx]
          simp
        have HRec := hide (IH.out x (by omega) (d + 1) _ _ W HXs2.out i1 (by omega) (by omega))
        have g4 := cell_of_one i3.dp
        have g5 := cell_of_one i3.yl
        have g6 := cell_of_one i3.res
        have f6 := free_of_one i3.res
        have HI2 := hide i2
        have HI3 := hide i3
        have HI4 := hide i4
        cases x with
        | mk ck cbo cn ct cya cyc cy cla clc cl cfa cfc cf =>
        obtain ⟨p0, p1, p2, p3, p4, p5, p6⟩ := hp.seven.cells
        simp only [T.val] at HRec ⊢
        clear i1 i2 i3 i4 hx hp
        gi_wp2
        refine ⟨trivial, (CallsIn.inRound lp (callsIn_wide.2 HRec.out)).mono ?_⟩
        rintro e W3 (⟨rfl, hJ3, hk3⟩ | ⟨rfl, hJ3, hk3⟩)
        · have HJ3 := hide hJ3
          have HK3 := hide hk3
          have hw3 := hk3.size
          clear hJ3 hk3 p0 p1 p2 p3 p4 p5 p6 g4 g5 g6 f6
          gi_wp2
          have hVW := HI2.out.size
          refine ⟨⟨by have := HJ3.out; rw [List.flatMap_append]; simpa using this, HI2.out.trans HK3.out, HI3.out.keep (fun k h1 h2 => HK3.out.same k (by omega) (by have := HI3.out.lt; omega)), (HK3.out.same _ (by omega) (by omega)).trans HI4.out, by omega⟩, HK3.out.mono (by omega)⟩
        · have HJ3 := hide hJ3
          have HK3 := hide hk3
          have hw3 := hk3.size
          have hr3 := (hk3.same _ (by omega) HI3.out.lt).trans HI3.out.res
          have g63 := cell_of_one hr3
          have f63 := free_of_one hr3
          have HR3 := hide hr3
          clear hJ3 hk3 hr3 p0 p1 p2 p3 p4 p5 p6 g4 g5 g6 f6
          gi_wp2
          have hVW := HI2.out.size
          refine ⟨⟨rfl, HJx.out _ _ HJ3.out ((Below.refl B W3).setCell (p := ⟨V.heap.size + 1 + 1 + 1, 0, none⟩) (by simp; omega) _), ?_, one_setCell HR3.out, by simp [World.setCell]; omega⟩, (HK3.out.mono (by omega)).trans (AB.set _ _ (by omega))⟩
          refine ⟨by have := HI2.out.size; simp [World.setCell]; omega, fun k h1 h2 => ?_⟩
          exact (Below.heap_setCell _ _ _ _ (fun e => by have e' : k = V.heap.size + 1 + 1 + 1 := e; omega)).trans ((HI2.out.trans HK3.out).same k h1 h2)
      case done =>
        rintro D W hD ⟨i1, i2, i3, i4, i5⟩ hK
        have g6 := cell_of_one i3.res
        have f6 := free_of_one i3.res
        have HI1 := hide i1
        have HI2 := hide i2
        have HI3 := hide i3
        have HK := hide hK
        clear i1 i2 i3 i4 hK
        gi_wp2
        have hK' : (W.setCell ⟨V.heap.size + 1 + 1 + 1, 0, none⟩ (.bool true)).heap[D]? = some (.deferred (some [])) := (Below.heap_setCell _ _ _ _ (fun e => by have e' : D = V.heap.size + 1 + 1 + 1 := e; omega)).trans HK.out
        refine ⟨by simp, .inl ⟨_, _, rfl, run_takeDeferred hK', ?_⟩⟩
        have hc6 : ((W.setCell ⟨V.heap.size + 1 + 1 + 1, 0, none⟩ (.bool true)).putObj D (.deferred none)).cell? ⟨V.heap.size + 1 + 1 + 1, 0, none⟩ = some (.bool true) :=
          cell_of_one ((World.putObj_heap_other (by omega)).trans (one_setCell (u := .bool true) HI3.out.res))
        have hVW := HI2.out.size
        have hDW := lt_of_block HK.out
        refine ⟨.bool true, ?_, .inl ⟨rfl, ?_, ?_⟩⟩
        · simp [results, Try.results46, go_sem, hc6]
        · rw [HFl.out]
          have h9 := HI1.out
          simp only [List.append_assoc, List.singleton_append] at h9
          refine HJ.out _ _ _ h9 ?_
          exact ((Below.refl B W).setCell (p := ⟨V.heap.size + 1 + 1 + 1, 0, none⟩) (by simp; omega) (.bool true)).trans (below_put _ _ _ (by omega) (lt_of_block hK'))
        · refine ⟨by simp [World.setCell, World.putObj]; omega, fun k h1 h2 => ?_⟩
          exact (World.putObj_heap_other (by omega)).trans ((Below.heap_setCell _ _ _ _ (fun e => by have e' : k = V.heap.size + 1 + 1 + 1 := e; omega)).trans (HI2.out.same k h1 h2))
      case stop =>
        rintro D c W hD ⟨rfl, i1, i2, i3, i5⟩ hK
        have HI1 := hide i1
        have HI2 := hide i2
        have HI3 := hide i3
        have HK := hide hK
        clear i1 i2 i3 hK
        gi_wp2
        refine ⟨by simp, .inl ⟨_, _, rfl, run_takeDeferred HK.out, ?_⟩⟩
        have hc6 : (W.putObj D (.deferred none)).cell? ⟨V.heap.size + 1 + 1 + 1, 0, none⟩ = some (.bool false) :=
          cell_of_one ((World.putObj_heap_other (by omega)).trans HI3.out)
        have hVW := HI2.out.size
        have hDW := lt_of_block HK.out
        refine ⟨.bool false, ?_, .inr ⟨rfl, ?_, ?_⟩⟩
        · simp [results, Try.results46, go_sem, hc6]
        · exact HJx.out _ _ HI1.out (below_put _ _ _ (by omega) hDW)
        · refine ⟨by simp [World.putObj]; omega, fun k h1 h2 => ?_⟩
          exact (World.putObj_heap_other (by omega)).trans (HI2.out.same k h1 h2)
    · rw [HW1.out] at hk2
      have hlt1 := HK1.out.lt
      have hr2 := (hk2.same _ (by omega) hlt1).trans HK1.out.res
      have g6 := cell_of_one hr2
      have f6 := free_of_one hr2
      have HR2 := hide hr2
      have HJ2 := hide hJ2
      have HA2 := hide (HA1.out.trans hk2)
      have hsz2 := hk2.size
      clear hR hy hJ2 hk2 hr2
      gi_wp2
      have hc6 := cell_of_one (one_setCell (u := .bool false) HR2.out)
      refine ⟨.bool false, ?_, .inr ⟨rfl, ?_, ?_⟩⟩
      · simp [results, Try.results46, go_sem, hc6]
      · exact HJx.out _ _ HJ2.out ((Below.refl B W2).setCell (p := ⟨V.heap.size + 1 + 1 + 1, 0, none⟩) (by simp; omega) (.bool false))
      · refine ⟨by have := HA2.out.size; simp [World.setCell]; omega, fun k h1 h2 => ?_⟩
        exact (Below.heap_setCell _ _ _ _ (fun e => by have e' : k = V.heap.size + 1 + 1 + 1 := e; omega)).trans (HA2.out.same k h1 h2)
end Go.Proofs.Ytegoeaofjnpehab
/- Contract of Check, of any value. -/
namespace Go.Proofs.Ytegoeaofjnpehab
open Go.RowKit Go.Shelf
attribute [local go_sem] Oper.semAt_some
set_option linter.unusedVariables false

theorem flat_mem {n₀ : Nat} {W : World} : ∀ (N : Nat) (v : T), v.sz ≤ N → v.Mem n₀ W → ∀ (d : Int), ∀ x ∈ v.flat d, x.2.Mem n₀ W := by
  intro N
  induction N with
  | zero => intro v hv; cases v; simp only [T.sz] at hv; omega
  | succ N ih =>
    intro v hv hm d x hx
    rw [T.flat_is, List.mem_cons, List.mem_flatMap] at hx
    rcases hx with rfl | ⟨c, hc, hx⟩
    · exact hm
    · exact ih c (by have := T.kid_sz v c hc; omega) (hm.kid hc) (d + 1) x hx
theorem T.seven (v : T) : ∃ k bo n t ya yc y la lc ls fa fc fs, v = .mk k bo n t ya yc y la lc ls fa fc fs := by cases v; exact ⟨_, _, _, _, _, _, _, _, _, _, _, _, _, rfl⟩
set_option maxHeartbeats 1600000 in
set_option maxRecDepth 1000000 in
theorem parts_goesM (b n₀ : Nat) (v : T) (w : World) (hb : BoxT w b v) (hs : v.sz ≤ 999999) :
    GoesM Try.prog 45 #[.pointer (some ⟨b, 0, none⟩)] (fun x : Int × T => #[.int .i64 x.1, x.2.val]) (v.flat 1) (fun V => ∀ x ∈ v.flat 1, x.2.Mem n₀ V) w := by
  intro l J Jx W hW hJ hJx hM hY h0
  have hbW : BoxT W b v := (hW.block b (lt_of_block hb)).trans hb
  have HC := hide (walk_gen W.heap.size n₀ l (v.flat 1) J Jx hJ hJx hM hY v.sz v (Nat.le_refl _) 1 [] [] W (by simp) h0 (by omega) (by omega))
  obtain ⟨k, bo, n, t, ya, yc, y, la, lc, ls, fa, fc, fs, rfl⟩ := v.seven
  obtain ⟨k0, k1, k2, k3, k4, k5, k6⟩ := hbW.seven.cells
  simp only [T.val] at HC
  clear hY hJ hJx hM hb hbW h0 hW
  show Calls Try.prog 45 #[.func (.yield l) #[] #[], .pointer (some ⟨b, 0, none⟩)] W _
  go_enter Try.func45, Try.ntmps45
  go_wp2_with fail
  refine HC.out.mono ?_
  rintro e W1 (⟨rfl, h, -⟩ | ⟨rfl, h, -⟩)
  · go_wp2
    go_end0
    exact ⟨⟨_, rfl⟩, .inl (by simpa using h)⟩
  · go_wp2
    go_end0
    exact ⟨⟨_, rfl⟩, .inr h⟩

/-- the first that is not 0. -/
def firstE (fe : T → Nat) : List (Int × T) → Nat
  | [] => 0
  | x :: xs => if fe x.2 = 0 then firstE fe xs else fe x.2
theorem firstE_snoc (fe : T → Nat) (pre : List (Int × T)) (x : Int × T) (rest : List (Int × T)) (h : ∀ z ∈ pre, fe z.2 = 0) : firstE fe (pre ++ x :: rest) = if fe x.2 = 0 then firstE fe rest else fe x.2 := by
  induction pre with
  | nil => rfl
  | cons z pre ih =>
    simp only [List.cons_append, firstE]
    rw [if_pos (h z (by simp)), ih (fun w hw => h w (by simp [hw]))]
theorem firstE_all (fe : T → Nat) (l : List (Int × T)) (h : ∀ z ∈ l, fe z.2 = 0) : firstE fe l = 0 := by
  induction l with
  | nil => rfl
  | cons z l ih => simp only [firstE]; rw [if_pos (h z (by simp)), ih (fun w hw => h w (by simp [hw]))]
/-- what Check answers. -/
def chk (fe : T → Nat) (v : T) : Nat := if (v.flat 1).any (fun x => decide (8 < x.1)) then 31 else if 512 < (v.flat 1).length then 32 else firstE fe (v.flat 1)

/-- Check's own memory: the value, the answer, the count. -/
structure Cg (b : Nat) (w V : World) (v : T) (r : Nat) (cnt : Int) : Prop where
  fr : Fr b w V
  box : BoxT V b v
  res : V.heap[b + 1]? = some (.cells #[.int .u16 (r : Int)] 26 (0, 0))
  cn : V.heap[b + 1 + 1]? = some (.cells #[.int .i64 cnt] 3 (0, 0))
theorem Cg.on {b B : Nat} {w V V' : World} {v : T} {r : Nat} {cnt : Int} (h : Cg b w V v r cnt) (hb : Below B V V') (hB : b + 1 + 1 < B) : Cg b w V' v r cnt :=
  ⟨⟨h.fr.below.trans (hb.mono (by omega)), Nat.le_trans h.fr.size hb.size⟩, (hb.block _ (by omega)).trans h.box, (hb.block _ (by omega)).trans h.res, (hb.block _ (by omega)).trans h.cn⟩
theorem Cg.sz {b : Nat} {w V : World} {v : T} {r : Nat} {cnt : Int} (h : Cg b w V v r cnt) : b + 1 + 1 < V.heap.size := lt_of_block h.cn
theorem Cg.start (w : World) (v : T) : Cg w.heap.size w (((w.alloc (.cells v.cells.toArray 32)).alloc (.cells #[.int .u16 0] 26)).alloc (.cells #[.int .i64 0] 3)) v 0 0 := by
  refine ⟨(((Fr.refl w).alloc _).alloc _).alloc _, (Below.heap_alloc _ _ _ (by simp; omega)).trans ((Below.heap_alloc _ _ _ (by simp)).trans (heap_alloc_new w _)), ?_, ?_⟩
  · have := heap_alloc_new (w.alloc (.cells v.cells.toArray 32)) (.cells #[.int .u16 0] 26)
    rw [World.size_alloc] at this
    exact (Below.heap_alloc _ _ _ (by simp)).trans this
  · have := heap_alloc_new ((w.alloc (.cells v.cells.toArray 32)).alloc (.cells #[.int .u16 0] 26)) (.cells #[.int .i64 0] 3)
    rw [World.size_alloc, World.size_alloc] at this
    exact this
theorem Cg.count {b : Nat} {w V : World} {v : T} {r : Nat} {cnt : Int} (h : Cg b w V v r cnt) (n : Int) : Cg b w (V.setCell ⟨b + 1 + 1, 0, none⟩ (.int .i64 n)) v r n :=
  ⟨h.fr.set (by omega) _, (Below.heap_setCell _ _ _ _ (fun e => by have e' : b = b + 1 + 1 := e; omega)).trans h.box, (Below.heap_setCell _ _ _ _ (fun e => by have e' : b + 1 = b + 1 + 1 := e; omega)).trans h.res, one_setCell h.cn⟩
theorem Cg.answer {b : Nat} {w V : World} {v : T} {r : Nat} {cnt : Int} (h : Cg b w V v r cnt) (n : Nat) : Cg b w (V.setCell ⟨b + 1, 0, none⟩ (.int .u16 (n : Int))) v n cnt :=
  ⟨h.fr.set (by omega) _, (Below.heap_setCell _ _ _ _ (fun e => by have e' : b = b + 1 := e; omega)).trans h.box, one_setCell h.res, (Below.heap_setCell _ _ _ _ (fun e => by have e' : b + 1 + 1 = b + 1 := e; omega)).trans h.cn⟩
end Go.Proofs.Ytegoeaofjnpehab
/- Contract of Check, of any value: the walk. -/
namespace Go.Proofs.Ytegoeaofjnpehab
open Go.RowKit Go.Shelf
attribute [local go_sem] Oper.semAt_some
set_option linter.unusedVariables false

mutual
theorem T.flat_len (d : Int) : ∀ v : T, (v.flat d).length = v.sz
  | .mk k bo n t ya yc y la lc l fa fc f => by simp only [T.flat, T.sz, List.length_cons, List.length_append, TL.flat_len (d + 1) l, FL.flat_len (d + 1) f]; omega
theorem TL.flat_len (d : Int) : ∀ l : TL, (l.flat d).length = l.sz
  | .nil => rfl
  | .cons v r => by simp only [TL.flat, TL.sz, List.length_append, T.flat_len d v, TL.flat_len d r]
theorem FL.flat_len (d : Int) : ∀ l : FL, (l.flat d).length = l.sz
  | .nil => rfl
  | .cons s v r => by simp only [FL.flat, FL.sz, List.length_append, T.flat_len d v, FL.flat_len d r]
end
theorem chk_deep (fe : T → Nat) (v : T) (pre : List (Int × T)) (x : Int × T) (rest : List (Int × T)) (h : v.flat 1 = pre ++ x :: rest) (hx : 8 < x.1) : chk fe v = 31 := by
  unfold chk
  rw [if_pos]
  rw [h]
  simp [hx]
theorem chk_many (fe : T → Nat) (v : T) (h : ∀ z ∈ v.flat 1, z.1 ≤ 8) (hl : 512 < (v.flat 1).length) : chk fe v = 32 := by
  unfold chk
  rw [if_neg, if_pos hl]
  simp only [List.any_eq_true, decide_eq_true_eq, not_exists, not_and]
  intro z hz
  have := h z hz
  omega
theorem chk_fits (fe : T → Nat) (v : T) (h : ∀ z ∈ v.flat 1, z.1 ≤ 8) (hl : ¬ 512 < (v.flat 1).length) : chk fe v = firstE fe (v.flat 1) := by
  unfold chk
  rw [if_neg, if_neg hl]
  simp only [List.any_eq_true, decide_eq_true_eq, not_exists, not_and]
  intro z hz
  have := h z hz
  omega

set_option maxHeartbeats 3200000 in
set_option maxRecDepth 1000000 in
theorem check_gen (fe : T → Nat) (n₀ : Nat) (v : T) (w : World) (hm : v.Mem n₀ w) (hn : n₀ ≤ w.heap.size) (hs : v.sz ≤ 999999) (hfe : ∀ x, fe x ≤ 60000)
    (HF : Hid (∀ x W, (∃ d, (d, x) ∈ v.flat 1) → x.Mem n₀ W → n₀ ≤ W.heap.size → Calls Try.prog 34 #[x.val] W fun e w' => e = .returned (.int .u16 (fe x : Int)) ∧ Below W.heap.size W w')) :
    Calls Try.prog 21 #[v.val] w fun e w' => e = .returned (.int .u16 (chk fe v : Int)) ∧ Below w.heap.size w w' := by
  have HFl := hide (T.flat_len 1 v)
  have HMm := hide (fun W (hW : Below n₀ w W) => flat_mem v.sz v (Nat.le_refl _) (hm.on hW) 1)
  have HP := hide (fun b w hb => parts_goesM b n₀ v w hb hs)
  have HC0 := hide (Cg.start w v)
  have HCd := hide (chk_deep fe v)
  have HCm := hide (chk_many fe v)
  have HCf := hide (chk_fits fe v)
  have HFe := hide hfe
  generalize hFL : v.flat 1 = fl at *
  clear hFL
  obtain ⟨k, bo, n, t, ya, yc, y, la, lc, ls, fa, fc, fs, hv'⟩ := v.seven
  have hval : v.val = .agg #[.int .u8 k, .bool bo, .int .i64 n, .string t, .slice ya y.length yc, .slice la ls.list.length lc, .slice fa fs.list.length fc] := by rw [hv']; rfl
  have hcs : v.cells.toArray = #[.int .u8 k, .bool bo, .int .i64 n, .string t, .slice ya y.length yc, .slice la ls.list.length lc, .slice fa fs.list.length fc] := by rw [hv']; rfl
  have HBx : Hid (∀ W b, BoxT W b v → Box7 W b (.int .u8 k) (.bool bo) (.int .i64 n) (.string t) (.slice ya y.length yc) (.slice la ls.list.length lc) (.slice fa fs.list.length fc)) := fun W b h => by rw [hv'] at h; exact h.seven
  have HBn : Hid (∀ W : World, BoxT (W.alloc (.cells #[.int .u8 k, .bool bo, .int .i64 n, .string t, .slice ya y.length yc, .slice la ls.list.length lc, .slice fa fs.list.length fc] 32)) W.heap.size v) := fun W => by rw [← hcs]; exact BoxT.new W v
  simp only [hval, hcs] at HC0 ⊢
  clear hv' hm hfe
  have HVal := hide hval
  clear hval hcs
  refine (callsIn_wide (n := 9)).1 ?_
  refine callsIn_of_wp_marks Try.func21 rfl trivial ?_ rfl
  simp only [Try.ntmps21, List.size_toArray, List.length_cons, List.length_nil, Nat.reduceAdd, Nat.reduceSub, Array.replicate_succ, Array.replicate_zero, List.push_toArray, List.append_toArray, List.nil_append, List.cons_append]
  gi_wp2
  refine ⟨trivial, (callsIn_wide.2 (parts_any _ _ _ _ _ _ _ _)).mono ?_⟩
  rintro e w' ⟨rfl, rfl⟩
  gi_wp2
  generalize hX0 : ((w.alloc (.cells #[.int .u8 k, .bool bo, .int .i64 n, .string t, .slice ya y.length yc, .slice la ls.list.length lc, .slice fa fs.list.length fc] 32)).alloc (.cells #[.int .u16 0] 26)).alloc (.cells #[.int .i64 0] 3) = X0 at *
  have hsx : X0.heap.size = w.heap.size + 1 + 1 + 1 := by rw [← hX0]; simp
  clear hX0
  rw [← hsx]
  have HG := hide (HP.out X0.heap.size _ (HBn.out X0))
  have HC1 := hide (HC0.out.on (below_alloc X0 (.cells #[.int .u8 k, .bool bo, .int .i64 n, .string t, .slice ya y.length yc, .slice la ls.list.length lc, .slice fa fs.list.length fc] 32)) (by omega))
  have hsx1 : X0.heap.size < (X0.alloc (.cells #[.int .u8 k, .bool bo, .int .i64 n, .string t, .slice ya y.length yc, .slice la ls.list.length lc, .slice fa fs.list.length fc] 32)).heap.size := by simp
  generalize X0.alloc (.cells #[.int .u8 k, .bool bo, .int .i64 n, .string t, .slice ya y.length yc, .slice la ls.list.length lc, .slice fa fs.list.length fc] 32) = X1 at *
  rw [hsx] at hsx1 HG ⊢
  clear hsx HC0
  generalize hb : w.heap.size = b at *
  have HBB := hide hb
  clear hb
  refine range_genM (gf := 45) (lb := #[.pointer (some ⟨b + 1 + 1 + 1, 0, none⟩)]) rfl (enters_of Try.func45 (by kernel_rfl) rfl)
    HG.out (fun _ => rfl)
    (fun pre V => Cg b w V v 0 (pre.length : Int) ∧ X1.heap.size ≤ V.heap.size ∧ ∀ z ∈ pre, z.1 ≤ 8) (fun c V => c = .ret ∧ (∃ cnt, Cg b w V v 31 cnt) ∧ X1.heap.size ≤ V.heap.size ∧ chk fe v = 31)
    (fun _ _ _ h hb => ⟨h.1.on hb (by omega), Nat.le_trans h.2.1 hb.size, h.2.2⟩)
    (fun _ _ _ h hb => ⟨h.1, ⟨_, h.2.1.choose_spec.on hb (by omega)⟩, Nat.le_trans h.2.2.1 hb.size, h.2.2.2⟩) ⟨HC1.out, Nat.le_refl _, by simp⟩
    (fun pre V h => HMm.out V (h.1.fr.below.mono hn))
    (fun x a' _ => a' = { tmps := #[.agg #[.int .u8 k, .bool bo, .int .i64 n, .string t, .slice ya y.length yc, .slice la ls.list.length lc, .slice fa fs.list.length fc], .pointer (some ⟨b, 0, none⟩), .pointer (some ⟨b + 1, 0, none⟩), .pointer (some ⟨b + 1 + 1, 0, none⟩), .int .i64 x.1, undef, undef, undef, .agg #[.int .u8 k, .bool bo, .int .i64 n, .string t, .slice ya y.length yc, .slice la ls.list.length lc, .slice fa fs.list.length fc], .func (.func 45) #[] #[.pointer (some ⟨b + 1 + 1 + 1, 0, none⟩)], .int .i64 x.1, x.2.val, undef, undef, undef, undef, undef, undef, undef, undef, undef, undef, undef, undef, undef, undef, undef], defers := [] }) (fun _ _ _ _ _ _ h _ => h) ?assign ?body ?done ?stop
  case assign =>
    intro l pre x V K hi hK
    gi_wp2
    exact hK _ _ hi (AB.refl _ _) rfl
  case body =>
    rintro l pre x rest a' V hx ⟨hi, hs1, hz⟩ rfl
    have hpl : pre.length < 1000000 := by have h5 := congrArg List.length hx; rw [HFl.out] at h5; simp at h5; omega
    have g3 := cell_of_one hi.cn
    have f3 := free_of_one hi.cn
    have g2 := cell_of_one hi.res
    have f2 := free_of_one hi.res
    have HI := hide hi
    have HZ := hide hz
    by_cases hd : 8 < x.1
    · have HD := hide (HCd.out pre x rest hx hd)
      have HAns := hide (hi.answer 31)
      clear hi hz hx
      gi_wp2
      exact ⟨⟨rfl, ⟨_, HAns.out⟩, by simpa [World.setCell] using hs1, HD.out⟩, AB.set _ _ (by omega)⟩
    · have hd' : x.1 ≤ 8 := by omega
      clear hi hz hx hd
      gi_wp2
      refine ⟨⟨?_, by simpa [World.setCell] using hs1, fun z hz => ?_⟩, AB.set _ _ (by omega)⟩
      · rw [List.length_append]
        exact HI.out.count _
      · rcases List.mem_append.1 hz with h | h
        · exact HZ.out z h
        · rw [List.mem_singleton.1 h]; exact hd'
  case stop =>
    rintro D c V hD ⟨rfl, ⟨cnt, hi⟩, hs1, hc⟩ hK
    have HK := hide hK
    have HI := hide hi
    have HCk := hide hc
    clear hK hi hc
    gi_wp2
    refine ⟨by simp, .inl ⟨_, _, rfl, run_takeDeferred HK.out, ?_⟩⟩
    have hc2 : (V.putObj D (.deferred none)).cell? ⟨b + 1, 0, none⟩ = some (.int .u16 31) := cell_of_one ((World.putObj_heap_other (by omega)).trans HI.out.res)
    refine ⟨.int .u16 31, ?_, by rw [HCk.out]; rfl, ?_⟩
    · simp [results, Try.results21, go_sem, hc2]
    · rw [HBB.out]
      exact HI.out.fr.below.trans (below_put _ _ _ (by omega) (lt_of_block HK.out))
  case done =>
    rintro D V hD ⟨hi, hs1, hz⟩ hK
    have HI := hide hi
    have HK := hide hK
    have HZ := hide hz
    obtain ⟨k0, k1, k2, k3, k4, k5, k6⟩ := (HBx.out _ _ hi.box).cells
    have g3 := cell_of_one hi.cn
    have g2 := cell_of_one hi.res
    have f2 := free_of_one hi.res
    clear hi hK hz
    have hLm : fl.length ≤ 999999 := by have := HFl.out; omega
    generalize hL : fl.length = L at *
    have HL := hide hL
    clear hL
    by_cases hmany : 512 < L
    · have hdm : decide ((512 : Int) < (L : Int)) = true := by simp; omega
      have HD := hide (HCm.out HZ.out hmany)
      have HAns := hide (HI.out.answer 32)
      clear k0 k1 k2 k3 k4 k5 k6
      gi_wp2
      have hK' : (V.setCell ⟨b + 1, 0, none⟩ (.int .u16 32)).heap[D]? = some (.deferred (some [])) := (Below.heap_setCell _ _ _ _ (fun e => by have e' : D = b + 1 := e; omega)).trans HK.out
      refine ⟨by simp, .inl ⟨_, _, rfl, run_takeDeferred hK', ?_⟩⟩
      have hc2 : ((V.setCell ⟨b + 1, 0, none⟩ (.int .u16 32)).putObj D (.deferred none)).cell? ⟨b + 1, 0, none⟩ = some (.int .u16 32) := cell_of_one ((World.putObj_heap_other (by omega)).trans HAns.out.res)
      refine ⟨.int .u16 32, ?_, by rw [HD.out]; rfl, ?_⟩
      · simp [results, Try.results21, go_sem, hc2]
      · rw [HBB.out]
        exact HAns.out.fr.below.trans (below_put _ _ _ (by omega) (lt_of_block hK'))
    · have hdm : decide ((512 : Int) < (L : Int)) = false := by simp; omega
      have HD := hide (HCf.out HZ.out (by omega))
      gi_wp2
      refine ⟨trivial, (callsIn_wide.2 (parts_any _ _ _ _ _ _ _ _)).mono ?_⟩
      rintro e w' ⟨rfl, rfl⟩
      gi_wp2
      have HG2 := hide (HP.out V.heap.size _ (HBn.out V))
      have HI2 := hide (HI.out.on (below_alloc V (.cells #[.int .u8 k, .bool bo, .int .i64 n, .string t, .slice ya y.length yc, .slice la ls.list.length lc, .slice fa fs.list.length fc] 32)) (by omega))
      have HK2 := hide ((Below.heap_alloc V (.cells #[.int .u8 k, .bool bo, .int .i64 n, .string t, .slice ya y.length yc, .slice la ls.list.length lc, .slice fa fs.list.length fc] 32) D (lt_of_block HK.out)).trans HK.out)
      have hDV := lt_of_block HK.out
      have hsx2 : V.heap.size < (V.alloc (.cells #[.int .u8 k, .bool bo, .int .i64 n, .string t, .slice ya y.length yc, .slice la ls.list.length lc, .slice fa fs.list.length fc] 32)).heap.size := by simp
      generalize V.alloc (.cells #[.int .u8 k, .bool bo, .int .i64 n, .string t, .slice ya y.length yc, .slice la ls.list.length lc, .slice fa fs.list.length fc] 32) = X2 at *
      clear k0 k1 k2 k3 k4 k5 k6 g3 g2 f2 HI HK
      refine range_genM (gf := 45) (lb := #[.pointer (some ⟨V.heap.size, 0, none⟩)]) rfl (enters_of Try.func45 (by kernel_rfl) rfl)
        HG2.out (fun _ => rfl)
        (fun pre W => Cg b w W v 0 (L : Int) ∧ X2.heap.size ≤ W.heap.size ∧ W.heap[D]? = some (.deferred (some [])) ∧ ∀ z ∈ pre, fe z.2 = 0) (fun c W => c = .ret ∧ Cg b w W v (chk fe v) (L : Int) ∧ X2.heap.size ≤ W.heap.size ∧ W.heap[D]? = some (.deferred (some [])))
        (fun _ _ _ h hb => ⟨h.1.on hb (by omega), Nat.le_trans h.2.1 hb.size, (hb.block _ (by omega)).trans h.2.2.1, h.2.2.2⟩)
        (fun _ _ _ h hb => ⟨h.1, h.2.1.on hb (by omega), Nat.le_trans h.2.2.1 hb.size, (hb.block _ (by omega)).trans h.2.2.2⟩) ⟨HI2.out, Nat.le_refl _, HK2.out, by simp⟩
        (fun pre W h => HMm.out W (h.1.fr.below.mono hn))
        (fun x a' W => ∃ p, BoxT W p x.2 ∧ a' = { tmps := #[.agg #[.int .u8 k, .bool bo, .int .i64 n, .string t, .slice ya y.length yc, .slice la ls.list.length lc, .slice fa fs.list.length fc], .pointer (some ⟨b, 0, none⟩), .pointer (some ⟨b + 1, 0, none⟩), .pointer (some ⟨b + 1 + 1, 0, none⟩), undef, undef, .pointer (some ⟨p, 0, none⟩), undef, .agg #[.int .u8 k, .bool bo, .int .i64 n, .string t, .slice ya y.length yc, .slice la ls.list.length lc, .slice fa fs.list.length fc], .func (.func 45) #[] #[.pointer (some ⟨b + 1 + 1 + 1, 0, none⟩)], undef, undef, undef, undef, undef, undef, .int .i64 (L : Int), .bool false, .agg #[.int .u8 k, .bool bo, .int .i64 n, .string t, .slice ya y.length yc, .slice la ls.list.length lc, .slice fa fs.list.length fc], .func (.func 45) #[] #[.pointer (some ⟨V.heap.size, 0, none⟩)], .int .i64 x.1, x.2.val, undef, undef, undef, undef, undef], defers := [] })
        (fun _ _ W l r o h hl => by
          obtain ⟨p, hp, ha⟩ := h
          refine ⟨p, (World.putObj_heap_other (fun e => ?_)).trans hp, ha⟩
          subst e
          unfold BoxT at hp
          rw [hl] at hp
          cases hp) ?assign2 ?body2 ?done2 ?stop2
      case assign2 =>
        rintro l pre ⟨xd, x⟩ W K ⟨h1, h2, h3, h4⟩ hK
        cases x with
        | mk ck cbo cn ct cya cyc cy cla clc cl cfa cfc cf =>
        simp only [T.val]
        gi_wp2
        have hb := below_alloc W (.cells #[.int .u8 ck, .bool cbo, .int .i64 cn, .string ct, .slice cya cy.length cyc, .slice cla cl.list.length clc, .slice cfa cf.list.length cfc] 32)
        exact hK _ _ ⟨h1.on hb (by omega), Nat.le_trans h2 hb.size, (hb.block _ (by omega)).trans h3, h4⟩ (AB.of_below hb) ⟨W.heap.size, BoxT.new W (.mk ck cbo cn ct cya cyc cy cla clc cl cfa cfc cf), rfl⟩
      case body2 =>
        rintro l pre ⟨xd, x⟩ rest a' W hx ⟨h1, h2, h3, h4⟩ ⟨p, hp, rfl⟩
        have hxm := HMm.out W (h1.fr.below.mono hn) (xd, x) (by rw [hx]; simp)
        have HCall := hide (HF.out x W ⟨xd, by rw [hx]; simp⟩ hxm (by have := h1.fr.size; omega))
        have HSn := hide (firstE_snoc fe pre (xd, x) rest h4)
        have hfx := HFe.out x
        have H1 := hide h1
        have H3 := hide h3
        have H4 := hide h4
        have HX := hide hx
        clear hx h1 h3 h4 hxm
        by_cases hz : fe x = 0
        · have HZx := hide hz
          cases x with
          | mk ck cbo cn ct cya cyc cy cla clc cl cfa cfc cf =>
          obtain ⟨p0, p1, p2, p3, p4, p5, p6⟩ := hp.seven.cells
          simp only [T.val] at HCall ⊢
          rw [hz] at HCall
          clear hp hz hfx
          gi_wp2
          refine ⟨trivial, (CallsIn.inRound l (callsIn_wide.2 HCall.out)).mono ?_⟩
          rintro e W1 ⟨rfl, hb⟩
          have HB := hide hb
          clear hb p0 p1 p2 p3 p4 p5 p6
          gi_wp2
          refine ⟨⟨H1.out.on HB.out (by omega), Nat.le_trans h2 HB.out.size, (HB.out.block _ (lt_of_block H3.out)).trans H3.out, fun z hz => ?_⟩, AB.of_below HB.out⟩
          rcases List.mem_append.1 hz with h | h
          · exact H4.out z h
          · rw [List.mem_singleton.1 h]; exact HZx.out
        · have HCk : Hid (chk fe v = fe x) := by rw [Hid, HD.out, HX.out, HSn.out, if_neg hz]
          cases x with
          | mk ck cbo cn ct cya cyc cy cla clc cl cfa cfc cf =>
          obtain ⟨p0, p1, p2, p3, p4, p5, p6⟩ := hp.seven.cells
          simp only [T.val] at HCall ⊢
          generalize fe (T.mk ck cbo cn ct cya cyc cy cla clc cl cfa cfc cf) = ex at *
          have hzb : ((ex : Int) != 0) = true := by rw [bne_iff_ne]; omega
          clear hp hz
          gi_wp2
          refine ⟨trivial, (CallsIn.inRound l (callsIn_wide.2 HCall.out)).mono ?_⟩
          rintro e W1 ⟨rfl, hb⟩
          have HB := hide hb
          have HC2 := hide (H1.out.on hb (by omega))
          have hsW1 := hb.size
          clear hb p0 p1 p2 p3 p4 p5 p6
          have g2 := cell_of_one HC2.out.res
          have f2 := free_of_one HC2.out.res
          gi_wp2
          refine ⟨⟨rfl, by rw [HCk.out]; exact HC2.out.answer ex, by simp [World.setCell]; omega, ?_⟩, (AB.of_below HB.out).trans (AB.set _ _ (by omega))⟩
          exact (Below.heap_setCell _ _ _ _ (fun e => by have e' : D = b + 1 := e; omega)).trans ((HB.out.block _ (lt_of_block H3.out)).trans H3.out)
      case stop2 =>
        rintro D2 c W hD2 ⟨rfl, h1, h2, h3⟩ hK2
        have H1 := hide h1
        have H3 := hide h3
        have HKK := hide hK2
        clear h1 h3 hK2
        gi_wp2
        have h4' : (W.putObj D2 (.deferred none)).heap[D]? = some (.deferred (some [])) := (World.putObj_heap_other (by omega)).trans H3.out
        refine ⟨by simp, .inl ⟨_, _, rfl, run_takeDeferred HKK.out, by simp, .inl ⟨_, _, rfl, run_takeDeferred h4', ?_⟩⟩⟩
        have hc : ((W.putObj D2 (.deferred none)).putObj D (.deferred none)).cell? ⟨b + 1, 0, none⟩ = some (.int .u16 (chk fe v : Int)) :=
          cell_of_one ((World.putObj_heap_other (by omega)).trans ((World.putObj_heap_other (by omega)).trans H1.out.res))
        refine ⟨.int .u16 (chk fe v : Int), ?_, rfl, ?_⟩
        · simp [results, Try.results21, go_sem, hc]
        · rw [HBB.out]
          exact H1.out.fr.below.trans ((below_put _ _ _ (by omega) (lt_of_block HKK.out)).trans (below_put _ _ _ (by omega) (lt_of_block h4')))
      case done2 =>
        rintro D2 W hD2 ⟨h1, h2, h3, h4⟩ hK2
        have HCk : Hid (chk fe v = 0) := HD.out.trans (firstE_all fe _ h4)
        have g2 := cell_of_one h1.res
        have f2 := free_of_one h1.res
        have H1 := hide (h1.answer 0)
        have H3 := hide h3
        have HKK := hide hK2
        clear h1 h3 h4 hK2
        gi_wp2
        have h2' : (W.setCell ⟨b + 1, 0, none⟩ (.int .u16 0)).heap[D2]? = some (.deferred (some [])) := (Below.heap_setCell _ _ _ _ (fun e => by have e' : D2 = b + 1 := e; omega)).trans HKK.out
        have h3' : (W.setCell ⟨b + 1, 0, none⟩ (.int .u16 0)).heap[D]? = some (.deferred (some [])) := (Below.heap_setCell _ _ _ _ (fun e => by have e' : D = b + 1 := e; omega)).trans H3.out
        have h4' : ((W.setCell ⟨b + 1, 0, none⟩ (.int .u16 0)).putObj D2 (.deferred none)).heap[D]? = some (.deferred (some [])) := (World.putObj_heap_other (by omega)).trans h3'
        refine ⟨by simp, .inl ⟨_, _, rfl, run_takeDeferred h2', by simp, .inl ⟨_, _, rfl, run_takeDeferred h4', ?_⟩⟩⟩
        have hc : (((W.setCell ⟨b + 1, 0, none⟩ (.int .u16 0)).putObj D2 (.deferred none)).putObj D (.deferred none)).cell? ⟨b + 1, 0, none⟩ = some (.int .u16 0) :=
          cell_of_one ((World.putObj_heap_other (by omega)).trans ((World.putObj_heap_other (by omega)).trans H1.out.res))
        refine ⟨.int .u16 0, ?_, by rw [HCk.out]; rfl, ?_⟩
        · simp [results, Try.results21, go_sem, hc]
        · rw [HBB.out]
          refine H1.out.fr.below.trans ?_
          exact (below_put _ _ _ (by omega) (lt_of_block h2')).trans (below_put _ _ _ (by omega) (lt_of_block h4'))
end Go.Proofs.Ytegoeaofjnpehab
