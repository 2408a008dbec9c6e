/- The values right below a value, gone through. -/
import Derived.Test.YtegoeaofjnpehaaVA
import Derived.Test.YtegoeaofjnpehaaRM
import Derived.Test.YtegoeaofjnpehaaD
namespace Go.Proofs.Ytegoeaofjnpehaa
open Go.RowKit Go.Shelf
attribute [local go_sem] Oper.semAt_some
set_option linter.unusedVariables false

/-- the value's own cells lie at b. -/
def BoxT (W : World) (b : Nat) (v : T) : Prop := W.heap[b]? = some (.cells v.cells.toArray 41 (0, 0))
theorem BoxT.seven {W : World} {b : Nat} {k : Int} {bo : Bool} {n : Int} {t : ByteArray} {ya : Option Addr} {yc : Nat} {y : List Int} {la : Option Addr} {lc : Nat} {l : TL} {fa : Option Addr} {fc : Nat} {f : FL} (h : BoxT W b (.mk k bo n t ya yc y la lc l fa fc f)) :
    Box7 W b (.int .u8 k) (.bool bo) (.int .i64 n) (.string t) (.slice ya y.length yc) (.slice la l.list.length lc) (.slice fa f.list.length fc) := h

set_option maxHeartbeats 3200000 in
set_option maxRecDepth 1000000 in
theorem below1_gen (l b n₀ B : Nat) (v : T) (J : List T → World → Prop) (Jx : World → Prop) (hJ : ∀ pre V V', J pre V → Below B V V' → J pre V') (hM : ∀ pre V, J pre V → (v.Mem n₀ V ∧ BoxT V b v) ∧ B ≤ V.heap.size)
    (hY : ∀ pre x rest V, v.kids = pre ++ x :: rest → J pre V → YieldAt Fence.wide 0 Try.prog l #[x.val] V fun e V' =>
      (e = .returned (.bool true) ∧ J (pre ++ [x]) V' ∧ AB B V V') ∨ (e = .returned (.bool false) ∧ Jx V' ∧ AB B V V')) (W : World) (h0 : J [] W) :
    CallsIn Fence.wide 9 Try.prog 55 #[.func (.yield l) #[] #[], .pointer (some ⟨b, 0, none⟩)] W fun e W' => (∃ v, e = .returned v) ∧ (J v.kids W' ∨ Jx W') := by
  cases v with
  | mk k bo n t ya yc y la lc ls fa fc fs =>
  have HM := hide hM
  have HJ := hide hJ
  have HY := hide hY
  have H0 := hide h0
  have HB0 := hide (hM [] W h0).1.2.seven
  have hl7 := (hM [] W h0).1.1.2.2.2.2.2.2.1
  have hf7 := (hM [] W h0).1.1.2.2.2.2.2.2.2.2.2
  obtain ⟨q0, q1, q2, q3, q4, q5, q6⟩ := HB0.out.cells
  clear hM hJ hY h0 q0 q1 q2 q3 q4
  refine callsIn_of_wp Try.func55 rfl trivial ?_ rfl
  simp only [Try.ntmps55, List.size_toArray, List.length_cons, List.length_nil, Nat.reduceAdd, Nat.reduceSub, Array.replicate_succ, Array.replicate_zero, List.push_toArray, List.append_toArray, List.nil_append, List.cons_append]
  gi_wp2
  gi_loopw [10] (fun i wr => ∃ j : Nat, j ≤ ls.list.length ∧ i = .int .i64 (j : Int) ∧ J (ls.list.take j) wr) (fun i _ => ls.list.length - (intOf i).toNat)
  case atStart => exact ⟨0, by omega, rfl, by simpa using H0.out⟩
  case round =>
    obtain ⟨j, hj, rfl, hJs⟩ := hrel
    by_cases hlt : j < ls.list.length
    · obtain ⟨c, hc⟩ : ∃ c, ls.list[j]? = some c := ⟨_, List.getElem?_eq_getElem hlt⟩
      have hm := (HM.out _ _ hJs).1.1
      have HTk := hide (take_next ls.list j c hc)
      have HDec : Hid ((T.mk k bo n t ya yc y la lc ls fa fc fs).kids = ls.list.take j ++ c :: (ls.list.drop (j + 1) ++ fs.list.map (·.2))) := by
        rw [Hid]
        simp only [T.kids]
        conv => lhs; rw [split_list ls.list j c hc]
        simp
      have hsz := (HM.out _ _ hJs).2
      cases c with
      | mk ck cbo cn ct cya cyc cy cla clc cl cfa cfc cf =>
      obtain ⟨b', o', rfl, hb', c0, c1, c2, c3, c4, c5, c6⟩ := hm.2.2.2.2.1.cells hc
      clear hm hc
      have HX := hide (below_alloc wr (.cells #[.int .u8 ck, .bool cbo, .int .i64 cn, .string ct, .slice cya cy.length cyc, .slice cla cl.list.length clc, .slice cfa cf.list.length cfc] 41))
      obtain ⟨fn, tmps, assign, body, hy, hR⟩ := HY.out _ _ _ _ HDec.out (HJ.out _ _ _ hJs (HX.out.mono hsz))
      simp only [T.val] at hy
      clear hJs
      gi_wp2
      refine (RoundIn.anyDepth rfl hR).mono ?_
      rintro e W3 (⟨rfl, hJ3, -⟩ | ⟨rfl, hJx3, -⟩)
      · gi_wp2
        go_roundw
        case rel => exact ⟨j + 1, by omega, by go_num, by rw [HTk.out]; exact hJ3⟩
        case measure => simp [intOf]; omega
      · gi_wp2
        refine bodyPost_ret (results_none rfl _ _ _) rfl ?_
        exact ⟨⟨_, rfl⟩, .inr hJx3⟩
    · have hjl : ls.list.take j = ls.list := List.take_of_length_le (by omega)
      rw [hjl] at hJs
      have HB1 := hide (HM.out _ _ hJs).1.2.seven
      obtain ⟨q0, q1, q2, q3, q4, q5, q6⟩ := HB1.out.cells
      have HJs := hide hJs
      clear hJs hjl q0 q1 q2 q3 q4 q5
      gi_wp2
      gi_loopw [22] (fun i wr => ∃ j : Nat, j ≤ fs.list.length ∧ i = .int .i64 (j : Int) ∧ J (ls.list ++ (fs.list.take j).map (·.2)) wr) (fun i _ => fs.list.length - (intOf i).toNat)
      case atStart => exact ⟨0, by omega, rfl, by simpa using HJs.out⟩
      case round =>
        obtain ⟨j, hj, rfl, hJs⟩ := hrel
        by_cases hlt : j < fs.list.length
        · obtain ⟨⟨s, c⟩, hc⟩ : ∃ c, fs.list[j]? = some c := ⟨_, List.getElem?_eq_getElem hlt⟩
          have hm := (HM.out _ _ hJs).1.1
          have HTk := hide (take_next fs.list j (s, c) hc)
          have HDec : Hid ((T.mk k bo n t ya yc y la lc ls fa fc fs).kids = (ls.list ++ (fs.list.take j).map (·.2)) ++ c :: (fs.list.drop (j + 1)).map (·.2)) := by
            rw [Hid]
            simp only [T.kids]
            conv => lhs; rw [split_list fs.list j (s, c) hc]
            simp
          have hsz := (HM.out _ _ hJs).2
          cases c with
          | mk ck cbo cn ct cya cyc cy cla clc cl cfa cfc cf =>
          obtain ⟨b', o', rfl, hb', cs, c0, c1, c2, c3, c4, c5, c6⟩ := hm.2.2.2.2.2.2.2.1.cells hc
          clear hm hc
          have HX := hide (below_alloc wr (.cells #[.string s, .int .u8 ck, .bool cbo, .int .i64 cn, .string ct, .slice cya cy.length cyc, .slice cla cl.list.length clc, .slice cfa cf.list.length cfc] 63))
          obtain ⟨fn, tmps, assign, body, hy, hR⟩ := HY.out _ _ _ _ HDec.out (HJ.out _ _ _ hJs (HX.out.mono hsz))
          simp only [T.val] at hy
          clear hJs
          gi_wp2
          refine (RoundIn.anyDepth rfl hR).mono ?_
          rintro e W3 (⟨rfl, hJ3, -⟩ | ⟨rfl, hJx3, -⟩)
          · gi_wp2
            go_roundw
            case rel => exact ⟨j + 1, by omega, by go_num, by rw [HTk.out]; simpa using hJ3⟩
            case measure => simp [intOf]; omega
          · gi_wp2
            refine bodyPost_ret (results_none rfl _ _ _) rfl ?_
            exact ⟨⟨_, rfl⟩, .inr hJx3⟩
        · have hjl : fs.list.take j = fs.list := List.take_of_length_le (by omega)
          rw [hjl] at hJs
          gi_wp2
          go_end0
          exact ⟨⟨_, rfl⟩, .inl hJs⟩
theorem below_goes (b n₀ : Nat) (v : T) (w : World) : GoesM Try.prog 55 #[.pointer (some ⟨b, 0, none⟩)] (fun x : T => #[x.val]) v.kids (fun V => v.Mem n₀ V ∧ BoxT V b v) w := by
  intro l J Jx W hW hJ hJx hM hY h0
  exact callsIn_wide.1 (below1_gen l b n₀ W.heap.size v J Jx hJ hM hY W h0)
end Go.Proofs.Ytegoeaofjnpehaa
