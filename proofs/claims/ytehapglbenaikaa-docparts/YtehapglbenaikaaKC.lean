/- Contract of write, of a value that has nothing below it. -/
import Derived.Test.YtehapglbenaikaaKB
import Derived.Test.YtehapglbenaikaaVA
import Derived.Laws.BytesString
namespace Go.Proofs.Ytehapglbenaikaa
open Go.RowKit
set_option linter.unusedVariables false

theorem Box7.wrote {X W1 : World} {p b : Nat} {c0 c1 c2 c3 c4 c5 c6 : Value} (hB : Box7 X b c0 c1 c2 c3 c4 c5 c6) (ho : Wrote p X W1) (hn : ¬ foot X p b) : Box7 W1 b c0 c1 c2 c3 c4 c5 c6 := (ho.block b hB.lt hn).trans hB
theorem fb_one (v : Nat) (h : v < 256) : fb v 1 = [(v : Int)] := by
  simp [fb]
  omega

set_option maxHeartbeats 1600000 in
set_option maxRecDepth 1000000 in
theorem dw1 (W : World) (p : Nat) (fv : Value) (bo : Bool) (n : Int) (t : ByteArray) (ya : Option Addr) (yc : Nat) (y : List Int) (la : Option Addr) (ll lc : Nat) (fa : Option Addr) (fl fc : Nat) (zs : List Int) (h : Wr W p zs) (hb : zs.length ≤ 100000000)  :
    Calls Try.prog 24 #[.pointer (some ⟨p, 0, none⟩), .agg #[.int .u8 1, .bool bo, .int .i64 n, .string t, .slice ya y.length yc, .slice la ll lc, .slice fa fl fc], fv] W fun e W' => e = .returned (.tuple #[]) ∧ Wr W' p (zs ++ [1]) ∧ Wrote p W W' := by
  have H := hide h
  have HX := hide (below_alloc W (.cells #[.int .u8 1, .bool bo, .int .i64 n, .string t, .slice ya y.length yc, .slice la ll lc, .slice fa fl fc] 27))
  have HB1 := hide (Box7.new W (.int .u8 1) (.bool bo) (.int .i64 n) (.string t) (.slice ya y.length yc) (.slice la ll lc) (.slice fa fl fc))
  have HNf : Hid (¬ foot (W.alloc (.cells #[.int .u8 1, .bool bo, .int .i64 n, .string t, .slice ya y.length yc, .slice la ll lc, .slice fa fl fc] 27)) p W.heap.size) := fun hf => by have := h.foot_lt ((foot_same (HX.out.block p h.lt)).1 hf); omega
  have HX0 := hide (h.below HX.out)
  have HWo := hide (Wrote.of_below h.lt HX.out)
  have HU := hide (wu8_any p 1 zs (W.alloc (.cells #[.int .u8 1, .bool bo, .int .i64 n, .string t, .slice ya y.length yc, .slice la ll lc, .slice fa fl fc] 27)) HX0.out (by omega) (by omega))
  rw [fb_one 1 (by omega)] at HU
  clear h
  go_enter Try.func24, Try.ntmps24
  go_wp2_with fail
  refine HU.out.mono ?_
  rintro e W1 ⟨rfl, hw1, ho1⟩
  have HW1 := hide hw1
  have HO1 := hide ho1
  clear hw1 ho1
  go_wp2
  go_end0
  exact ⟨rfl, HW1.out, HWo.out.trans HO1.out⟩

set_option maxHeartbeats 1600000 in
set_option maxRecDepth 1000000 in
theorem dw3 (W : World) (p : Nat) (fv : Value) (bo : Bool) (n : Int) (t : ByteArray) (ya : Option Addr) (yc : Nat) (y : List Int) (la : Option Addr) (ll lc : Nat) (fa : Option Addr) (fl fc : Nat) (zs : List Int) (h : Wr W p zs) (hb : zs.length ≤ 100000000) (hn : -9223372036854775808 ≤ n ∧ n ≤ 9223372036854775807) :
    Calls Try.prog 24 #[.pointer (some ⟨p, 0, none⟩), .agg #[.int .u8 3, .bool bo, .int .i64 n, .string t, .slice ya y.length yc, .slice la ll lc, .slice fa fl fc], fv] W fun e W' => e = .returned (.tuple #[]) ∧ Wr W' p (zs ++ (4 :: vb (zz n))) ∧ Wrote p W W' := by
  have H := hide h
  have HX := hide (below_alloc W (.cells #[.int .u8 3, .bool bo, .int .i64 n, .string t, .slice ya y.length yc, .slice la ll lc, .slice fa fl fc] 27))
  have HB1 := hide (Box7.new W (.int .u8 3) (.bool bo) (.int .i64 n) (.string t) (.slice ya y.length yc) (.slice la ll lc) (.slice fa fl fc))
  have HNf : Hid (¬ foot (W.alloc (.cells #[.int .u8 3, .bool bo, .int .i64 n, .string t, .slice ya y.length yc, .slice la ll lc, .slice fa fl fc] 27)) p W.heap.size) := fun hf => by have := h.foot_lt ((foot_same (HX.out.block p h.lt)).1 hf); omega
  have HX0 := hide (h.below HX.out)
  have HWo := hide (Wrote.of_below h.lt HX.out)
  have HU := hide (wu8_any p 4 zs (W.alloc (.cells #[.int .u8 3, .bool bo, .int .i64 n, .string t, .slice ya y.length yc, .slice la ll lc, .slice fa fl fc] 27)) HX0.out (by omega) (by omega))
  rw [fb_one 4 (by omega)] at HU
  clear h
  go_enter Try.func24, Try.ntmps24
  go_wp2_with fail
  refine HU.out.mono ?_
  rintro e W1 ⟨rfl, hw1, ho1⟩
  have HW1 := hide hw1
  have HO1 := hide ho1
  have HB2 : Hid (Box7 W1 W.heap.size (.int .u8 3) (.bool bo) (.int .i64 n) (.string t) (.slice ya y.length yc) (.slice la ll lc) (.slice fa fl fc)) := HB1.out.wrote ho1 HNf.out
  obtain ⟨k0, k1, k2, k3, k4, k5, k6⟩ := HB2.out.cells
  clear hw1 ho1
  go_wp2_with fail
  refine (wsigned_any p n _ W1 HW1.out hn.1 hn.2 (by simp; omega)).mono ?_
  rintro e W2 ⟨rfl, hw2, ho2⟩
  have HW2 := hide hw2
  have HO2 := hide ho2
  clear hw2 ho2 k0 k1 k2 k3 k4 k5 k6
  go_wp2
  go_end0
  refine ⟨rfl, ?_, HWo.out.trans (HO1.out.trans HO2.out)⟩
  have := HW2.out
  simpa using this

set_option maxHeartbeats 1600000 in
set_option maxRecDepth 1000000 in
theorem dw4 (W : World) (p : Nat) (fv : Value) (bo : Bool) (n : Int) (t : ByteArray) (ya : Option Addr) (yc : Nat) (y : List Int) (la : Option Addr) (ll lc : Nat) (fa : Option Addr) (fl fc : Nat) (zs : List Int) (h : Wr W p zs) (hb : zs.length ≤ 100000000) (ht : t.size ≤ 10000000) :
    Calls Try.prog 24 #[.pointer (some ⟨p, 0, none⟩), .agg #[.int .u8 4, .bool bo, .int .i64 n, .string t, .slice ya y.length yc, .slice la ll lc, .slice fa fl fc], fv] W fun e W' => e = .returned (.tuple #[]) ∧ Wr W' p (zs ++ (5 :: (vb t.size ++ sb t))) ∧ Wrote p W W' := by
  have H := hide h
  have HX := hide (below_alloc W (.cells #[.int .u8 4, .bool bo, .int .i64 n, .string t, .slice ya y.length yc, .slice la ll lc, .slice fa fl fc] 27))
  have HB1 := hide (Box7.new W (.int .u8 4) (.bool bo) (.int .i64 n) (.string t) (.slice ya y.length yc) (.slice la ll lc) (.slice fa fl fc))
  have HNf : Hid (¬ foot (W.alloc (.cells #[.int .u8 4, .bool bo, .int .i64 n, .string t, .slice ya y.length yc, .slice la ll lc, .slice fa fl fc] 27)) p W.heap.size) := fun hf => by have := h.foot_lt ((foot_same (HX.out.block p h.lt)).1 hf); omega
  have HX0 := hide (h.below HX.out)
  have HWo := hide (Wrote.of_below h.lt HX.out)
  have HU := hide (wu8_any p 5 zs (W.alloc (.cells #[.int .u8 4, .bool bo, .int .i64 n, .string t, .slice ya y.length yc, .slice la ll lc, .slice fa fl fc] 27)) HX0.out (by omega) (by omega))
  rw [fb_one 5 (by omega)] at HU
  clear h
  go_enter Try.func24, Try.ntmps24
  go_wp2_with fail
  refine HU.out.mono ?_
  rintro e W1 ⟨rfl, hw1, ho1⟩
  have HW1 := hide hw1
  have HO1 := hide ho1
  have HB2 : Hid (Box7 W1 W.heap.size (.int .u8 4) (.bool bo) (.int .i64 n) (.string t) (.slice ya y.length yc) (.slice la ll lc) (.slice fa fl fc)) := HB1.out.wrote ho1 HNf.out
  obtain ⟨k0, k1, k2, k3, k4, k5, k6⟩ := HB2.out.cells
  clear hw1 ho1
  go_wp2_with fail
  refine (wtext_any p t _ W1 HW1.out ht (by simp; omega)).mono ?_
  rintro e W2 ⟨rfl, hw2, ho2⟩
  have HW2 := hide hw2
  have HO2 := hide ho2
  clear hw2 ho2 k0 k1 k2 k3 k4 k5 k6
  go_wp2
  go_end0
  refine ⟨rfl, ?_, HWo.out.trans (HO1.out.trans HO2.out)⟩
  have := HW2.out
  simpa using this
end Go.Proofs.Ytehapglbenaikaa
