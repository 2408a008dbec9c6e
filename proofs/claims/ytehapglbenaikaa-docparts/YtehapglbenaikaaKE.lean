/- Contract of write, of lists and documents. -/
import Derived.Test.YtehapglbenaikaaKD
namespace Go.Proofs.Ytehapglbenaikaa
open Go.RowKit
set_option linter.unusedVariables false

set_option maxHeartbeats 3200000 in
set_option maxRecDepth 1000000 in
theorem dw6 (W : World) (n₀ p pw pp : Nat) (bo : Bool) (n : Int) (t : ByteArray) (ya : Option Addr) (yl yc : Nat) (la : Option Addr) (lc : Nat) (l : TL) (fa : Option Addr) (fl fc : Nat) (zs : List Int) (h : Wr W p zs) (hs : DS W p pw pp) (hm : l.Mem n₀ W la 0) (hN : New n₀ W p) (hn : n₀ ≤ W.heap.size) (hll : l.list.length ≤ 9223372036854775807) (hb : zs.length + (1 + (vb l.list.length).length + l.denc.length) ≤ 100000000) (hi : ∀ c ∈ l.list, Does n₀ p pw pp c) :
    Calls Try.prog 24 #[.pointer (some ⟨p, 0, none⟩), .agg #[.int .u8 6, .bool bo, .int .i64 n, .string t, .slice ya yl yc, .slice la l.list.length lc, .slice fa fl fc], .func (.func 23) #[] #[.pointer (some ⟨pw, 0, none⟩), .pointer (some ⟨pp, 0, none⟩)]] W fun e W' => e = .returned (.tuple #[]) ∧ Wr W' p (zs ++ (7 :: (vb l.list.length ++ l.denc))) ∧ Wrote p W W' := by
  have H := hide h
  have HX := hide (below_alloc W (.cells #[.int .u8 6, .bool bo, .int .i64 n, .string t, .slice ya yl yc, .slice la l.list.length lc, .slice fa fl fc] 27))
  have HB1 := hide (Box7.new W (.int .u8 6) (.bool bo) (.int .i64 n) (.string t) (.slice ya yl yc) (.slice la l.list.length lc) (.slice fa fl fc))
  have HNf : Hid (¬ foot (W.alloc (.cells #[.int .u8 6, .bool bo, .int .i64 n, .string t, .slice ya yl yc, .slice la l.list.length lc, .slice fa fl fc] 27)) p W.heap.size) := fun hf => by have := h.foot_lt ((foot_same (HX.out.block p h.lt)).1 hf); omega
  have HX0 := hide (h.below HX.out)
  have HWo := hide (Wrote.of_below h.lt HX.out)
  have HU := hide (wu8_any p 7 zs (W.alloc (.cells #[.int .u8 6, .bool bo, .int .i64 n, .string t, .slice ya yl yc, .slice la l.list.length lc, .slice fa fl fc] 27)) HX0.out (by omega) (by omega))
  rw [fb_one 7 (by omega)] at HU
  have HS := hide hs
  have HM := hide hm
  have HNw := hide hN
  have HI := hide hi
  have HVt := hide (vb_ten l.list.length (by omega))
  have HEi := hide (TL.denc_is l)
  clear h hs hm hN hi
  go_enter Try.func24, Try.ntmps24
  go_wp2_with fail
  refine HU.out.mono ?_
  rintro e W1 ⟨rfl, hw1, ho1⟩
  have HW1 := hide hw1
  have HO1 := hide ho1
  have HB2 : Hid (Box7 W1 W.heap.size (.int .u8 6) (.bool bo) (.int .i64 n) (.string t) (.slice ya yl yc) (.slice la l.list.length lc) (.slice fa fl fc)) := HB1.out.wrote ho1 HNf.out
  have HNf2 : Hid (¬ foot W1 p W.heap.size) := fun hf => (ho1.foot _ hf).elim HNf.out (fun hs => by have := HB1.out.lt; omega)
  obtain ⟨k0, k1, k2, k3, k4, k5, k6⟩ := HB2.out.cells
  clear hw1 ho1
  go_wp2_with fail
  refine (wvarint_any p l.list.length _ W1 HW1.out (by omega) (by simp; omega)).mono ?_
  rintro e W2 ⟨rfl, hw2, ho2⟩
  have HW2 := hide hw2
  have HB3 : Hid (Box7 W2 W.heap.size (.int .u8 6) (.bool bo) (.int .i64 n) (.string t) (.slice ya yl yc) (.slice la l.list.length lc) (.slice fa fl fc)) := HB2.out.wrote ho2 HNf2.out
  have HO2 := hide (HWo.out.trans (HO1.out.trans ho2))
  clear hw2 ho2 k0 k1 k2 k3 k4 k5 k6
  obtain ⟨k0, k1, k2, k3, k4, k5, k6⟩ := HB3.out.cells
  clear HB1 HB2 HB3 HNf HNf2 HO1 HW1 HU HX HX0 HWo
  go_wp2
  go_loopw [61] (fun i wr => ∃ j : Nat, j ≤ l.list.length ∧ i = .int .i64 (j : Int) ∧ Wr wr p (zs ++ (7 :: (vb l.list.length ++ (l.list.take j).flatMap T.denc))) ∧ Wrote p W wr) (fun i _ => l.list.length - (intOf i).toNat)
  case atStart => exact ⟨0, by omega, rfl, by simpa using HW2.out, HO2.out⟩
  case round =>
    obtain ⟨j, hj, rfl, hp, ho⟩ := hrel
    have HP := hide hp
    have HO := hide ho
    clear hp ho HW2 HO2 k0 k1 k2 k3 k4 k5 k6
    have hszr : W.heap.size ≤ wr.heap.size := HO.out.size
    by_cases hlt : j < l.list.length
    · obtain ⟨c, hc⟩ : ∃ c, l.list[j]? = some c := ⟨_, List.getElem?_eq_getElem hlt⟩
      have HTk := hide (take_next l.list j c hc)
      have HLn : Hid (((l.list.take j).flatMap T.denc).length + c.denc.length ≤ l.denc.length) := by
        rw [Hid, HEi.out]
        conv => rhs; rw [split_list l.list j c hc]
        simp [← Nat.add_assoc]
      have hmem : c ∈ l.list := List.mem_of_getElem? hc
      have HMw := hide (HM.out.on (HO.out.below HNw.out hn))
      have HMc := hide (TL.Mem.at l 0 HMw.out j c hc).2
      have HNr := hide (HNw.out.wrote HO.out hn)
      have HSr := hide (HS.out.wrote HO.out)
      have HXa := hide (below_alloc wr (.cells c.cells.toArray 27))
      have HIc := hide (part_of n₀ p pw pp c (HI.out c hmem) (wr.alloc (.cells c.cells.toArray 27)) _ (HP.out.below HXa.out) (HSr.out.below HP.out.lt HXa.out) (HMc.out.on (HXa.out.mono (by omega))) (HNr.out.below HP.out.lt HXa.out) (by simp; omega) (by have := HLn.out; have := HVt.out; simp only [List.length_append, List.length_cons]; omega))
      clear hmem
      cases c with
      | mk ck cbo cn ct cya cyc cy cla clc cl cfa cfc cf =>
      obtain ⟨b', o', rfl, hb', c0, c1, c2, c3, c4, c5, c6⟩ := HMw.out.cells hc
      clear hc
      simp only [T.val, T.cells] at HIc HXa
      go_wp2_with fail
      refine HIc.out.mono ?_
      rintro e W3 ⟨rfl, hp3, ho3⟩
      have HP3 := hide hp3
      have HO3 := hide ho3
      clear hp3 ho3 c0 c1 c2 c3 c4 c5 c6
      go_wp2
      go_roundw
      case rel => exact ⟨j + 1, by omega, by go_num, by rw [HTk.out]; simpa using HP3.out, HO.out.trans ((Wrote.of_below HP.out.lt HXa.out).trans HO3.out)⟩
      case measure => simp [intOf]; omega
    · have hjl : l.list.take j = l.list := List.take_of_length_le (by omega)
      rw [hjl, ← HEi.out] at HP
      clear hjl
      go_wp2
      go_end0
      exact ⟨rfl, HP.out, HO.out⟩
end Go.Proofs.Ytehapglbenaikaa
