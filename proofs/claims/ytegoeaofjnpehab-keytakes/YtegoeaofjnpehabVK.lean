/- Contract of looking at a value alone, of any kind. -/
import Derived.Test.YtegoeaofjnpehabVH
import Derived.Test.YtegoeaofjnpehabVE
import Derived.Test.YtegoeaofjnpehabK
namespace Go.Proofs.Ytegoeaofjnpehab
open Go.RowKit
set_option linter.unusedVariables false

set_option maxHeartbeats 3200000 in
set_option maxRecDepth 1000000 in
theorem fits2_no (bo : Bool) (n : Int) (t : ByteArray) (ya : Option Addr) (yl yc : Nat) (la : Option Addr) (ll lc : Nat) (fa : Option Addr) (fl fc : Nat) (w : World) (hβ : alB 2 bo n t yl ll fl 2 bo 0 ⟨#[]⟩ 0 0 0 = false) : Calls Try.prog 34 #[.agg #[.int .u8 2, .bool bo, .int .i64 n, .string t, .slice ya yl yc, .slice la ll lc, .slice fa fl fc]] w fun e w' => e = .returned (.int .u16 ((30 : Nat) : Int)) ∧ Below w.heap.size w w' := by
  have a0 := ta_no92 104 (by decide)
  have a1 := ta_no95 104 (by decide)
  have a2 := ta_no96 104 (by decide)
  have HX0 := hide ((Fr.refl w).alloc (.cells #[.int .u8 2, .bool bo, .int .i64 n, .string t, .slice ya yl yc, .slice la ll lc, .slice fa fl fc] 32))
  have HB0 := hide (Box7.new w (.int .u8 2) (.bool bo) (.int .i64 n) (.string t) (.slice ya yl yc) (.slice la ll lc) (.slice fa fl fc))
  go_enter Try.func34, Try.ntmps34
  go_wp2_with fail
  refine (inside2 bo n t ya yl yc la ll lc fa fl fc _).mono ?_
  rintro e w1 ⟨rfl, hb⟩
  have HB1 := hide (HB0.out.below hb)
  have HX1 := hide (HX0.out.on hb)
  clear hb HB0 HX0
  generalize hbw : w.heap.size = b at *
  have HBW := hide hbw
  clear hbw
  have HBd := hide (HB1.out.below (Below.refl _ _).drew)
  obtain ⟨k0, k1, k2, k3, k4, k5, k6⟩ := HB1.out.cells
  have HO := hide (fun W => outside2 bo W)
  have HA := fun W => alike_gen 2 bo n t ya yl yc la ll lc fa fl fc 2 bo 0 ⟨#[]⟩ none 0 0 none 0 0 none 0 0 W
  simp only [hβ] at HA
  replace HA := hide HA
  have HXd := hide HX1.out.drew
  go_wp2
  go_region_held3 (fun W => W.cell? ⟨b, 0, none⟩ = some (.int .u8 2) ∧ W.cell? ⟨b, 1, none⟩ = some (.bool bo) ∧ W.cell? ⟨b, 2, none⟩ = some (.int .i64 n) ∧ W.cell? ⟨b, 3, none⟩ = some (.string t) ∧ W.cell? ⟨b, 4, none⟩ = some (.slice ya yl yc) ∧ W.cell? ⟨b, 5, none⟩ = some (.slice la ll lc) ∧ W.cell? ⟨b, 6, none⟩ = some (.slice fa fl fc)) ((refine ⟨?_, ?_, ?_, ?_, ?_, ?_, ?_⟩ <;> assumption)) ((first | (go_at_call 49; refine (HO.out _).mono ?_; intro r' V1 hh; obtain ⟨rfl, hb1⟩ := hh; have HB2 := hide (HBd.out.below hb1); have HX2 := hide (HXd.out.on hb1); obtain ⟨q0, q1, q2, q3, q4, q5, q6⟩ := HB2.out.cells; clear hb1) | (go_at_call 48; refine (HA.out _).mono ?_; intro r' V2 hh; obtain ⟨rfl, hb2⟩ := hh; have HB3 := hide (HB2.out.below hb2); have HX3 := hide (HX2.out.on hb2); obtain ⟨p0, p1, p2, p3, p4, p5, p6⟩ := HB3.out.cells; clear hb2)))
  clear k0 k1 k2 k3 k4 k5 k6 q0 q1 q2 q3 q4 q5 q6 p0 p1 p2 p3 p4 p5 p6
  go_wp2
  go_ret
  exact ⟨rfl, by rw [HBW.out]; exact HX3.out.below⟩
set_option maxHeartbeats 3200000 in
set_option maxRecDepth 1000000 in
theorem fits2_yes (bo : Bool) (n : Int) (t : ByteArray) (ya : Option Addr) (yl yc : Nat) (la : Option Addr) (ll lc : Nat) (fa : Option Addr) (fl fc : Nat) (w : World) (hβ : alB 2 bo n t yl ll fl 2 bo 0 ⟨#[]⟩ 0 0 0 = true) : Calls Try.prog 34 #[.agg #[.int .u8 2, .bool bo, .int .i64 n, .string t, .slice ya yl yc, .slice la ll lc, .slice fa fl fc]] w fun e w' => e = .returned (.int .u16 ((0 : Nat) : Int)) ∧ Below w.heap.size w w' := by
  have a0 := ta_no92 104 (by decide)
  have a1 := ta_no95 104 (by decide)
  have a2 := ta_no96 104 (by decide)
  have HX0 := hide ((Fr.refl w).alloc (.cells #[.int .u8 2, .bool bo, .int .i64 n, .string t, .slice ya yl yc, .slice la ll lc, .slice fa fl fc] 32))
  have HB0 := hide (Box7.new w (.int .u8 2) (.bool bo) (.int .i64 n) (.string t) (.slice ya yl yc) (.slice la ll lc) (.slice fa fl fc))
  go_enter Try.func34, Try.ntmps34
  go_wp2_with fail
  refine (inside2 bo n t ya yl yc la ll lc fa fl fc _).mono ?_
  rintro e w1 ⟨rfl, hb⟩
  have HB1 := hide (HB0.out.below hb)
  have HX1 := hide (HX0.out.on hb)
  clear hb HB0 HX0
  generalize hbw : w.heap.size = b at *
  have HBW := hide hbw
  clear hbw
  have HBd := hide (HB1.out.below (Below.refl _ _).drew)
  obtain ⟨k0, k1, k2, k3, k4, k5, k6⟩ := HB1.out.cells
  have HO := hide (fun W => outside2 bo W)
  have HA := fun W => alike_gen 2 bo n t ya yl yc la ll lc fa fl fc 2 bo 0 ⟨#[]⟩ none 0 0 none 0 0 none 0 0 W
  simp only [hβ] at HA
  replace HA := hide HA
  have HXd := hide HX1.out.drew
  go_wp2
  go_region_held3 (fun W => W.cell? ⟨b, 0, none⟩ = some (.int .u8 2) ∧ W.cell? ⟨b, 1, none⟩ = some (.bool bo) ∧ W.cell? ⟨b, 2, none⟩ = some (.int .i64 n) ∧ W.cell? ⟨b, 3, none⟩ = some (.string t) ∧ W.cell? ⟨b, 4, none⟩ = some (.slice ya yl yc) ∧ W.cell? ⟨b, 5, none⟩ = some (.slice la ll lc) ∧ W.cell? ⟨b, 6, none⟩ = some (.slice fa fl fc)) ((refine ⟨?_, ?_, ?_, ?_, ?_, ?_, ?_⟩ <;> assumption)) ((first | (go_at_call 49; refine (HO.out _).mono ?_; intro r' V1 hh; obtain ⟨rfl, hb1⟩ := hh; have HB2 := hide (HBd.out.below hb1); have HX2 := hide (HXd.out.on hb1); obtain ⟨q0, q1, q2, q3, q4, q5, q6⟩ := HB2.out.cells; clear hb1) | (go_at_call 48; refine (HA.out _).mono ?_; intro r' V2 hh; obtain ⟨rfl, hb2⟩ := hh; have HB3 := hide (HB2.out.below hb2); have HX3 := hide (HX2.out.on hb2); obtain ⟨p0, p1, p2, p3, p4, p5, p6⟩ := HB3.out.cells; clear hb2)))
  clear k0 k1 k2 k3 k4 k5 k6 q0 q1 q2 q3 q4 q5 q6 p0 p1 p2 p3 p4 p5 p6
  go_wp2
  go_ret
  exact ⟨rfl, by rw [HBW.out]; exact HX3.out.below⟩
theorem fits2 (bo : Bool) (n : Int) (t : ByteArray) (ya : Option Addr) (yl yc : Nat) (la : Option Addr) (ll lc : Nat) (fa : Option Addr) (fl fc : Nat) (w : World) : Calls Try.prog 34 #[.agg #[.int .u8 2, .bool bo, .int .i64 n, .string t, .slice ya yl yc, .slice la ll lc, .slice fa fl fc]] w fun e w' => e = .returned (.int .u16 ((if alB 2 bo n t yl ll fl 2 bo 0 ⟨#[]⟩ 0 0 0 then 0 else 30 : Nat) : Int)) ∧ Below w.heap.size w w' := by
  cases hβ : alB 2 bo n t yl ll fl 2 bo 0 ⟨#[]⟩ 0 0 0
  · exact fits2_no bo n t ya yl yc la ll lc fa fl fc w hβ
  · exact fits2_yes bo n t ya yl yc la ll lc fa fl fc w hβ
set_option maxHeartbeats 3200000 in
set_option maxRecDepth 1000000 in
theorem fits3_no (bo : Bool) (n : Int) (t : ByteArray) (ya : Option Addr) (yl yc : Nat) (la : Option Addr) (ll lc : Nat) (fa : Option Addr) (fl fc : Nat) (w : World) (hβ : alB 3 bo n t yl ll fl 3 false n ⟨#[]⟩ 0 0 0 = false) : Calls Try.prog 34 #[.agg #[.int .u8 3, .bool bo, .int .i64 n, .string t, .slice ya yl yc, .slice la ll lc, .slice fa fl fc]] w fun e w' => e = .returned (.int .u16 ((30 : Nat) : Int)) ∧ Below w.heap.size w w' := by
  have a0 := ta_no92 105 (by decide)
  have a1 := ta_no95 105 (by decide)
  have a2 := ta_no96 105 (by decide)
  have HX0 := hide ((Fr.refl w).alloc (.cells #[.int .u8 3, .bool bo, .int .i64 n, .string t, .slice ya yl yc, .slice la ll lc, .slice fa fl fc] 32))
  have HB0 := hide (Box7.new w (.int .u8 3) (.bool bo) (.int .i64 n) (.string t) (.slice ya yl yc) (.slice la ll lc) (.slice fa fl fc))
  go_enter Try.func34, Try.ntmps34
  go_wp2_with fail
  refine (inside3 bo n t ya yl yc la ll lc fa fl fc _).mono ?_
  rintro e w1 ⟨rfl, hb⟩
  have HB1 := hide (HB0.out.below hb)
  have HX1 := hide (HX0.out.on hb)
  clear hb HB0 HX0
  generalize hbw : w.heap.size = b at *
  have HBW := hide hbw
  clear hbw
  have HBd := hide (HB1.out.below (Below.refl _ _).drew)
  obtain ⟨k0, k1, k2, k3, k4, k5, k6⟩ := HB1.out.cells
  have HO := hide (fun W => outside3 n W)
  have HA := fun W => alike_gen 3 bo n t ya yl yc la ll lc fa fl fc 3 false n ⟨#[]⟩ none 0 0 none 0 0 none 0 0 W
  simp only [hβ] at HA
  replace HA := hide HA
  have HXd := hide HX1.out.drew
  go_wp2
  go_region_held3 (fun W => W.cell? ⟨b, 0, none⟩ = some (.int .u8 3) ∧ W.cell? ⟨b, 1, none⟩ = some (.bool bo) ∧ W.cell? ⟨b, 2, none⟩ = some (.int .i64 n) ∧ W.cell? ⟨b, 3, none⟩ = some (.string t) ∧ W.cell? ⟨b, 4, none⟩ = some (.slice ya yl yc) ∧ W.cell? ⟨b, 5, none⟩ = some (.slice la ll lc) ∧ W.cell? ⟨b, 6, none⟩ = some (.slice fa fl fc)) ((refine ⟨?_, ?_, ?_, ?_, ?_, ?_, ?_⟩ <;> assumption)) ((first | (go_at_call 49; refine (HO.out _).mono ?_; intro r' V1 hh; obtain ⟨rfl, hb1⟩ := hh; have HB2 := hide (HBd.out.below hb1); have HX2 := hide (HXd.out.on hb1); obtain ⟨q0, q1, q2, q3, q4, q5, q6⟩ := HB2.out.cells; clear hb1) | (go_at_call 48; refine (HA.out _).mono ?_; intro r' V2 hh; obtain ⟨rfl, hb2⟩ := hh; have HB3 := hide (HB2.out.below hb2); have HX3 := hide (HX2.out.on hb2); obtain ⟨p0, p1, p2, p3, p4, p5, p6⟩ := HB3.out.cells; clear hb2)))
  clear k0 k1 k2 k3 k4 k5 k6 q0 q1 q2 q3 q4 q5 q6 p0 p1 p2 p3 p4 p5 p6
  go_wp2
  go_ret
  exact ⟨rfl, by rw [HBW.out]; exact HX3.out.below⟩
set_option maxHeartbeats 3200000 in
set_option maxRecDepth 1000000 in
theorem fits3_yes (bo : Bool) (n : Int) (t : ByteArray) (ya : Option Addr) (yl yc : Nat) (la : Option Addr) (ll lc : Nat) (fa : Option Addr) (fl fc : Nat) (w : World) (hβ : alB 3 bo n t yl ll fl 3 false n ⟨#[]⟩ 0 0 0 = true) : Calls Try.prog 34 #[.agg #[.int .u8 3, .bool bo, .int .i64 n, .string t, .slice ya yl yc, .slice la ll lc, .slice fa fl fc]] w fun e w' => e = .returned (.int .u16 ((0 : Nat) : Int)) ∧ Below w.heap.size w w' := by
  have a0 := ta_no92 105 (by decide)
  have a1 := ta_no95 105 (by decide)
  have a2 := ta_no96 105 (by decide)
  have HX0 := hide ((Fr.refl w).alloc (.cells #[.int .u8 3, .bool bo, .int .i64 n, .string t, .slice ya yl yc, .slice la ll lc, .slice fa fl fc] 32))
  have HB0 := hide (Box7.new w (.int .u8 3) (.bool bo) (.int .i64 n) (.string t) (.slice ya yl yc) (.slice la ll lc) (.slice fa fl fc))
  go_enter Try.func34, Try.ntmps34
  go_wp2_with fail
  refine (inside3 bo n t ya yl yc la ll lc fa fl fc _).mono ?_
  rintro e w1 ⟨rfl, hb⟩
  have HB1 := hide (HB0.out.below hb)
  have HX1 := hide (HX0.out.on hb)
  clear hb HB0 HX0
  generalize hbw : w.heap.size = b at *
  have HBW := hide hbw
  clear hbw
  have HBd := hide (HB1.out.below (Below.refl _ _).drew)
  obtain ⟨k0, k1, k2, k3, k4, k5, k6⟩ := HB1.out.cells
  have HO := hide (fun W => outside3 n W)
  have HA := fun W => alike_gen 3 bo n t ya yl yc la ll lc fa fl fc 3 false n ⟨#[]⟩ none 0 0 none 0 0 none 0 0 W
  simp only [hβ] at HA
  replace HA := hide HA
  have HXd := hide HX1.out.drew
  go_wp2
  go_region_held3 (fun W => W.cell? ⟨b, 0, none⟩ = some (.int .u8 3) ∧ W.cell? ⟨b, 1, none⟩ = some (.bool bo) ∧ W.cell? ⟨b, 2, none⟩ = some (.int .i64 n) ∧ W.cell? ⟨b, 3, none⟩ = some (.string t) ∧ W.cell? ⟨b, 4, none⟩ = some (.slice ya yl yc) ∧ W.cell? ⟨b, 5, none⟩ = some (.slice la ll lc) ∧ W.cell? ⟨b, 6, none⟩ = some (.slice fa fl fc)) ((refine ⟨?_, ?_, ?_, ?_, ?_, ?_, ?_⟩ <;> assumption)) ((first | (go_at_call 49; refine (HO.out _).mono ?_; intro r' V1 hh; obtain ⟨rfl, hb1⟩ := hh; have HB2 := hide (HBd.out.below hb1); have HX2 := hide (HXd.out.on hb1); obtain ⟨q0, q1, q2, q3, q4, q5, q6⟩ := HB2.out.cells; clear hb1) | (go_at_call 48; refine (HA.out _).mono ?_; intro r' V2 hh; obtain ⟨rfl, hb2⟩ := hh; have HB3 := hide (HB2.out.below hb2); have HX3 := hide (HX2.out.on hb2); obtain ⟨p0, p1, p2, p3, p4, p5, p6⟩ := HB3.out.cells; clear hb2)))
  clear k0 k1 k2 k3 k4 k5 k6 q0 q1 q2 q3 q4 q5 q6 p0 p1 p2 p3 p4 p5 p6
  go_wp2
  go_ret
  exact ⟨rfl, by rw [HBW.out]; exact HX3.out.below⟩
theorem fits3 (bo : Bool) (n : Int) (t : ByteArray) (ya : Option Addr) (yl yc : Nat) (la : Option Addr) (ll lc : Nat) (fa : Option Addr) (fl fc : Nat) (w : World) : Calls Try.prog 34 #[.agg #[.int .u8 3, .bool bo, .int .i64 n, .string t, .slice ya yl yc, .slice la ll lc, .slice fa fl fc]] w fun e w' => e = .returned (.int .u16 ((if alB 3 bo n t yl ll fl 3 false n ⟨#[]⟩ 0 0 0 then 0 else 30 : Nat) : Int)) ∧ Below w.heap.size w w' := by
  cases hβ : alB 3 bo n t yl ll fl 3 false n ⟨#[]⟩ 0 0 0
  · exact fits3_no bo n t ya yl yc la ll lc fa fl fc w hβ
  · exact fits3_yes bo n t ya yl yc la ll lc fa fl fc w hβ
set_option maxHeartbeats 3200000 in
set_option maxRecDepth 1000000 in
theorem fits4_no (bo : Bool) (n : Int) (t : ByteArray) (ya : Option Addr) (yl yc : Nat) (la : Option Addr) (ll lc : Nat) (fa : Option Addr) (fl fc : Nat) (w : World) (ht : t.size ≤ 1000000000) (hβ : alB 4 bo n t yl ll fl 4 false 0 t 0 0 0 = false) : Calls Try.prog 34 #[.agg #[.int .u8 4, .bool bo, .int .i64 n, .string t, .slice ya yl yc, .slice la ll lc, .slice fa fl fc]] w fun e w' => e = .returned (.int .u16 ((30 : Nat) : Int)) ∧ Below w.heap.size w w' := by
  have a0 := ta_yes92
  have HX0 := hide ((Fr.refl w).alloc (.cells #[.int .u8 4, .bool bo, .int .i64 n, .string t, .slice ya yl yc, .slice la ll lc, .slice fa fl fc] 32))
  have HB0 := hide (Box7.new w (.int .u8 4) (.bool bo) (.int .i64 n) (.string t) (.slice ya yl yc) (.slice la ll lc) (.slice fa fl fc))
  go_enter Try.func34, Try.ntmps34
  go_wp2_with fail
  refine (inside4 bo n t ya yl yc la ll lc fa fl fc _).mono ?_
  rintro e w1 ⟨rfl, hb⟩
  have HB1 := hide (HB0.out.below hb)
  have HX1 := hide (HX0.out.on hb)
  clear hb HB0 HX0
  generalize hbw : w.heap.size = b at *
  have HBW := hide hbw
  clear hbw
  have HBd := hide (HB1.out.below (Below.refl _ _).drew)
  obtain ⟨k0, k1, k2, k3, k4, k5, k6⟩ := HB1.out.cells
  have HO := hide (fun W => outside4 t W)
  have HA := fun W => alike_gen 4 bo n t ya yl yc la ll lc fa fl fc 4 false 0 t none 0 0 none 0 0 none 0 0 W
  simp only [hβ] at HA
  replace HA := hide HA
  have HXd := hide HX1.out.drew
  go_wp2
  go_region_held3 (fun W => W.cell? ⟨b, 0, none⟩ = some (.int .u8 4) ∧ W.cell? ⟨b, 1, none⟩ = some (.bool bo) ∧ W.cell? ⟨b, 2, none⟩ = some (.int .i64 n) ∧ W.cell? ⟨b, 3, none⟩ = some (.string t) ∧ W.cell? ⟨b, 4, none⟩ = some (.slice ya yl yc) ∧ W.cell? ⟨b, 5, none⟩ = some (.slice la ll lc) ∧ W.cell? ⟨b, 6, none⟩ = some (.slice fa fl fc)) ((refine ⟨?_, ?_, ?_, ?_, ?_, ?_, ?_⟩ <;> assumption)) ((first | (go_at_call 49; refine (HO.out _).mono ?_; intro r' V1 hh; obtain ⟨rfl, hb1⟩ := hh; have HB2 := hide (HBd.out.below hb1); have HX2 := hide (HXd.out.on hb1); obtain ⟨q0, q1, q2, q3, q4, q5, q6⟩ := HB2.out.cells; clear hb1) | (go_at_call 48; refine (HA.out _).mono ?_; intro r' V2 hh; obtain ⟨rfl, hb2⟩ := hh; have HB3 := hide (HB2.out.below hb2); have HX3 := hide (HX2.out.on hb2); obtain ⟨p0, p1, p2, p3, p4, p5, p6⟩ := HB3.out.cells; clear hb2)))
  clear k0 k1 k2 k3 k4 k5 k6 q0 q1 q2 q3 q4 q5 q6 p0 p1 p2 p3 p4 p5 p6
  go_wp2
  go_ret
  exact ⟨rfl, by rw [HBW.out]; exact HX3.out.below⟩
set_option maxHeartbeats 3200000 in
set_option maxRecDepth 1000000 in
theorem fits4_yes (bo : Bool) (n : Int) (t : ByteArray) (ya : Option Addr) (yl yc : Nat) (la : Option Addr) (ll lc : Nat) (fa : Option Addr) (fl fc : Nat) (w : World) (ht : t.size ≤ 1000000000) (hβ : alB 4 bo n t yl ll fl 4 false 0 t 0 0 0 = true) (r : Nat) (hr : ((if (rn t).2 then (if 1000 < (rn t).1 then 33 else 0) else 34) : Nat) = r) : Calls Try.prog 34 #[.agg #[.int .u8 4, .bool bo, .int .i64 n, .string t, .slice ya yl yc, .slice la ll lc, .slice fa fl fc]] w fun e w' => e = .returned (.int .u16 ((r : Nat) : Int)) ∧ Below w.heap.size w w' := by
  have HR := hide hr
  clear hr
  have a0 := ta_yes92
  have HX0 := hide ((Fr.refl w).alloc (.cells #[.int .u8 4, .bool bo, .int .i64 n, .string t, .slice ya yl yc, .slice la ll lc, .slice fa fl fc] 32))
  have HB0 := hide (Box7.new w (.int .u8 4) (.bool bo) (.int .i64 n) (.string t) (.slice ya yl yc) (.slice la ll lc) (.slice fa fl fc))
  go_enter Try.func34, Try.ntmps34
  go_wp2_with fail
  refine (inside4 bo n t ya yl yc la ll lc fa fl fc _).mono ?_
  rintro e w1 ⟨rfl, hb⟩
  have HB1 := hide (HB0.out.below hb)
  have HX1 := hide (HX0.out.on hb)
  clear hb HB0 HX0
  generalize hbw : w.heap.size = b at *
  have HBW := hide hbw
  clear hbw
  have HBd := hide (HB1.out.below (Below.refl _ _).drew)
  obtain ⟨k0, k1, k2, k3, k4, k5, k6⟩ := HB1.out.cells
  have HO := hide (fun W => outside4 t W)
  have HA := fun W => alike_gen 4 bo n t ya yl yc la ll lc fa fl fc 4 false 0 t none 0 0 none 0 0 none 0 0 W
  simp only [hβ] at HA
  replace HA := hide HA
  have HXd := hide HX1.out.drew
  go_wp2
  go_region_held3 (fun W => W.cell? ⟨b, 0, none⟩ = some (.int .u8 4) ∧ W.cell? ⟨b, 1, none⟩ = some (.bool bo) ∧ W.cell? ⟨b, 2, none⟩ = some (.int .i64 n) ∧ W.cell? ⟨b, 3, none⟩ = some (.string t) ∧ W.cell? ⟨b, 4, none⟩ = some (.slice ya yl yc) ∧ W.cell? ⟨b, 5, none⟩ = some (.slice la ll lc) ∧ W.cell? ⟨b, 6, none⟩ = some (.slice fa fl fc)) ((refine ⟨?_, ?_, ?_, ?_, ?_, ?_, ?_⟩ <;> assumption)) ((first | (go_at_call 49; refine (HO.out _).mono ?_; intro r' V1 hh; obtain ⟨rfl, hb1⟩ := hh; have HB2 := hide (HBd.out.below hb1); have HX2 := hide (HXd.out.on hb1); obtain ⟨q0, q1, q2, q3, q4, q5, q6⟩ := HB2.out.cells; clear hb1) | (go_at_call 48; refine (HA.out _).mono ?_; intro r' V2 hh; obtain ⟨rfl, hb2⟩ := hh; have HB3 := hide (HB2.out.below hb2); have HX3 := hide (HX2.out.on hb2); obtain ⟨p0, p1, p2, p3, p4, p5, p6⟩ := HB3.out.cells; clear hb2)))
  clear k0 k1 k2 k3 k4 k5 k6 q0 q1 q2 q3 q4 q5 q6 p0 p1 p2 p3 p4 p5 p6
  go_wp2_with fail
  refine (runes_any t _ ht).mono ?_
  rintro e w3 ⟨rfl, hb3⟩
  have HX4 := hide (HX3.out.on hb3)
  clear hb3
  generalize (rn t).2 = wh at *
  generalize (rn t).1 = cn at *
  cases wh
  · obtain rfl : r = 34 := by have := HR.out; simp at this; omega
    go_wp2
    go_ret
    exact ⟨rfl, by rw [HBW.out]; exact HX4.out.below⟩
  · by_cases hm : 1000 < cn
    · have hd : decide ((1000 : Int) < (cn : Int)) = true := by simp; omega
      obtain rfl : r = 33 := by have := HR.out; simp only [if_true, if_pos hm] at this; omega
      go_wp2
      go_ret
      exact ⟨rfl, by rw [HBW.out]; exact HX4.out.below⟩
    · have hd : decide ((1000 : Int) < (cn : Int)) = false := by simp; omega
      obtain rfl : r = 0 := by have := HR.out; simp only [if_true, if_neg hm] at this; omega
      go_wp2
      go_ret
      exact ⟨rfl, by rw [HBW.out]; exact HX4.out.below⟩
theorem fits4 (bo : Bool) (n : Int) (t : ByteArray) (ya : Option Addr) (yl yc : Nat) (la : Option Addr) (ll lc : Nat) (fa : Option Addr) (fl fc : Nat) (w : World) (ht : t.size ≤ 1000000000) : Calls Try.prog 34 #[.agg #[.int .u8 4, .bool bo, .int .i64 n, .string t, .slice ya yl yc, .slice la ll lc, .slice fa fl fc]] w fun e w' => e = .returned (.int .u16 ((if alB 4 bo n t yl ll fl 4 false 0 t 0 0 0 then (if (rn t).2 then (if 1000 < (rn t).1 then 33 else 0) else 34) else 30 : Nat) : Int)) ∧ Below w.heap.size w w' := by
  cases hβ : alB 4 bo n t yl ll fl 4 false 0 t 0 0 0
  · exact fits4_no bo n t ya yl yc la ll lc fa fl fc w ht hβ
  · exact fits4_yes bo n t ya yl yc la ll lc fa fl fc w ht hβ _ rfl
set_option maxHeartbeats 3200000 in
set_option maxRecDepth 1000000 in
theorem fits5_no (bo : Bool) (n : Int) (t : ByteArray) (ya : Option Addr) (yl yc : Nat) (la : Option Addr) (ll lc : Nat) (fa : Option Addr) (fl fc : Nat) (w : World) (hyl : yl ≤ 9223372036854775807) (hβ : alB 5 bo n t yl ll fl 5 false 0 ⟨#[]⟩ yl 0 0 = false) : Calls Try.prog 34 #[.agg #[.int .u8 5, .bool bo, .int .i64 n, .string t, .slice ya yl yc, .slice la ll lc, .slice fa fl fc]] w fun e w' => e = .returned (.int .u16 ((30 : Nat) : Int)) ∧ Below w.heap.size w w' := by
  have a0 := ta_no92 93 (by decide)
  have a1 := ta_yes95
  have HX0 := hide ((Fr.refl w).alloc (.cells #[.int .u8 5, .bool bo, .int .i64 n, .string t, .slice ya yl yc, .slice la ll lc, .slice fa fl fc] 32))
  have HB0 := hide (Box7.new w (.int .u8 5) (.bool bo) (.int .i64 n) (.string t) (.slice ya yl yc) (.slice la ll lc) (.slice fa fl fc))
  go_enter Try.func34, Try.ntmps34
  go_wp2_with fail
  refine (inside5 bo n t ya yl yc la ll lc fa fl fc _).mono ?_
  rintro e w1 ⟨rfl, hb⟩
  have HB1 := hide (HB0.out.below hb)
  have HX1 := hide (HX0.out.on hb)
  clear hb HB0 HX0
  generalize hbw : w.heap.size = b at *
  have HBW := hide hbw
  clear hbw
  have HBd := hide (HB1.out.below (Below.refl _ _).drew)
  obtain ⟨k0, k1, k2, k3, k4, k5, k6⟩ := HB1.out.cells
  have HO := hide (fun W => outside5 ya yl yc W)
  have HA := fun W => alike_gen 5 bo n t ya yl yc la ll lc fa fl fc 5 false 0 ⟨#[]⟩ ya yl yc none 0 0 none 0 0 W
  simp only [hβ] at HA
  replace HA := hide HA
  have HXd := hide HX1.out.drew
  go_wp2
  go_region_held3 (fun W => W.cell? ⟨b, 0, none⟩ = some (.int .u8 5) ∧ W.cell? ⟨b, 1, none⟩ = some (.bool bo) ∧ W.cell? ⟨b, 2, none⟩ = some (.int .i64 n) ∧ W.cell? ⟨b, 3, none⟩ = some (.string t) ∧ W.cell? ⟨b, 4, none⟩ = some (.slice ya yl yc) ∧ W.cell? ⟨b, 5, none⟩ = some (.slice la ll lc) ∧ W.cell? ⟨b, 6, none⟩ = some (.slice fa fl fc)) ((refine ⟨?_, ?_, ?_, ?_, ?_, ?_, ?_⟩ <;> assumption)) ((first | (go_at_call 49; refine (HO.out _).mono ?_; intro r' V1 hh; obtain ⟨rfl, hb1⟩ := hh; have HB2 := hide (HBd.out.below hb1); have HX2 := hide (HXd.out.on hb1); obtain ⟨q0, q1, q2, q3, q4, q5, q6⟩ := HB2.out.cells; clear hb1) | (go_at_call 48; refine (HA.out _).mono ?_; intro r' V2 hh; obtain ⟨rfl, hb2⟩ := hh; have HB3 := hide (HB2.out.below hb2); have HX3 := hide (HX2.out.on hb2); obtain ⟨p0, p1, p2, p3, p4, p5, p6⟩ := HB3.out.cells; clear hb2)))
  clear k0 k1 k2 k3 k4 k5 k6 q0 q1 q2 q3 q4 q5 q6 p0 p1 p2 p3 p4 p5 p6
  go_wp2
  go_ret
  exact ⟨rfl, by rw [HBW.out]; exact HX3.out.below⟩
set_option maxHeartbeats 3200000 in
set_option maxRecDepth 1000000 in
theorem fits5_yes (bo : Bool) (n : Int) (t : ByteArray) (ya : Option Addr) (yl yc : Nat) (la : Option Addr) (ll lc : Nat) (fa : Option Addr) (fl fc : Nat) (w : World) (hyl : yl ≤ 9223372036854775807) (hβ : alB 5 bo n t yl ll fl 5 false 0 ⟨#[]⟩ yl 0 0 = true) : Calls Try.prog 34 #[.agg #[.int .u8 5, .bool bo, .int .i64 n, .string t, .slice ya yl yc, .slice la ll lc, .slice fa fl fc]] w fun e w' => e = .returned (.int .u16 (((if 4000 < yl then 33 else 0) : Nat) : Int)) ∧ Below w.heap.size w w' := by
  have a0 := ta_no92 93 (by decide)
  have a1 := ta_yes95
  have HX0 := hide ((Fr.refl w).alloc (.cells #[.int .u8 5, .bool bo, .int .i64 n, .string t, .slice ya yl yc, .slice la ll lc, .slice fa fl fc] 32))
  have HB0 := hide (Box7.new w (.int .u8 5) (.bool bo) (.int .i64 n) (.string t) (.slice ya yl yc) (.slice la ll lc) (.slice fa fl fc))
  go_enter Try.func34, Try.ntmps34
  go_wp2_with fail
  refine (inside5 bo n t ya yl yc la ll lc fa fl fc _).mono ?_
  rintro e w1 ⟨rfl, hb⟩
  have HB1 := hide (HB0.out.below hb)
  have HX1 := hide (HX0.out.on hb)
  clear hb HB0 HX0
  generalize hbw : w.heap.size = b at *
  have HBW := hide hbw
  clear hbw
  have HBd := hide (HB1.out.below (Below.refl _ _).drew)
  obtain ⟨k0, k1, k2, k3, k4, k5, k6⟩ := HB1.out.cells
  have HO := hide (fun W => outside5 ya yl yc W)
  have HA := fun W => alike_gen 5 bo n t ya yl yc la ll lc fa fl fc 5 false 0 ⟨#[]⟩ ya yl yc none 0 0 none 0 0 W
  simp only [hβ] at HA
  replace HA := hide HA
  have HXd := hide HX1.out.drew
  go_wp2
  go_region_held3 (fun W => W.cell? ⟨b, 0, none⟩ = some (.int .u8 5) ∧ W.cell? ⟨b, 1, none⟩ = some (.bool bo) ∧ W.cell? ⟨b, 2, none⟩ = some (.int .i64 n) ∧ W.cell? ⟨b, 3, none⟩ = some (.string t) ∧ W.cell? ⟨b, 4, none⟩ = some (.slice ya yl yc) ∧ W.cell? ⟨b, 5, none⟩ = some (.slice la ll lc) ∧ W.cell? ⟨b, 6, none⟩ = some (.slice fa fl fc)) ((refine ⟨?_, ?_, ?_, ?_, ?_, ?_, ?_⟩ <;> assumption)) ((first | (go_at_call 49; refine (HO.out _).mono ?_; intro r' V1 hh; obtain ⟨rfl, hb1⟩ := hh; have HB2 := hide (HBd.out.below hb1); have HX2 := hide (HXd.out.on hb1); obtain ⟨q0, q1, q2, q3, q4, q5, q6⟩ := HB2.out.cells; clear hb1) | (go_at_call 48; refine (HA.out _).mono ?_; intro r' V2 hh; obtain ⟨rfl, hb2⟩ := hh; have HB3 := hide (HB2.out.below hb2); have HX3 := hide (HX2.out.on hb2); obtain ⟨p0, p1, p2, p3, p4, p5, p6⟩ := HB3.out.cells; clear hb2)))
  clear k0 k1 k2 k3 k4 k5 k6 q0 q1 q2 q3 q4 q5 q6 p0 p1 p2 p3 p4 p5 p6
  by_cases hm : 4000 < yl
  · have hd : decide ((4000 : Int) < (yl : Int)) = true := by simp; omega
    have HV : Hid ((if 4000 < yl then 33 else 0 : Nat) = 33) := if_pos hm
    go_wp2
    go_ret
    exact ⟨rfl, by rw [HBW.out]; exact HX3.out.below⟩
  · have hd : decide ((4000 : Int) < (yl : Int)) = false := by simp; omega
    have HV : Hid ((if 4000 < yl then 33 else 0 : Nat) = 0) := if_neg hm
    go_wp2
    go_ret
    exact ⟨rfl, by rw [HBW.out]; exact HX3.out.below⟩
theorem fits5 (bo : Bool) (n : Int) (t : ByteArray) (ya : Option Addr) (yl yc : Nat) (la : Option Addr) (ll lc : Nat) (fa : Option Addr) (fl fc : Nat) (w : World) (hyl : yl ≤ 9223372036854775807) : Calls Try.prog 34 #[.agg #[.int .u8 5, .bool bo, .int .i64 n, .string t, .slice ya yl yc, .slice la ll lc, .slice fa fl fc]] w fun e w' => e = .returned (.int .u16 ((if alB 5 bo n t yl ll fl 5 false 0 ⟨#[]⟩ yl 0 0 then (if 4000 < yl then 33 else 0) else 30 : Nat) : Int)) ∧ Below w.heap.size w w' := by
  cases hβ : alB 5 bo n t yl ll fl 5 false 0 ⟨#[]⟩ yl 0 0
  · exact fits5_no bo n t ya yl yc la ll lc fa fl fc w hyl hβ
  · exact fits5_yes bo n t ya yl yc la ll lc fa fl fc w hyl hβ
set_option maxHeartbeats 3200000 in
set_option maxRecDepth 1000000 in
theorem fits6_no (bo : Bool) (n : Int) (t : ByteArray) (ya : Option Addr) (yl yc : Nat) (la : Option Addr) (ll lc : Nat) (fa : Option Addr) (fl fc : Nat) (w : World) (hβ : alB 6 bo n t yl ll fl 6 false 0 ⟨#[]⟩ 0 ll 0 = false) : Calls Try.prog 34 #[.agg #[.int .u8 6, .bool bo, .int .i64 n, .string t, .slice ya yl yc, .slice la ll lc, .slice fa fl fc]] w fun e w' => e = .returned (.int .u16 ((30 : Nat) : Int)) ∧ Below w.heap.size w w' := by
  have a0 := ta_no92 106 (by decide)
  have a1 := ta_no95 106 (by decide)
  have a2 := ta_no96 106 (by decide)
  have HX0 := hide ((Fr.refl w).alloc (.cells #[.int .u8 6, .bool bo, .int .i64 n, .string t, .slice ya yl yc, .slice la ll lc, .slice fa fl fc] 32))
  have HB0 := hide (Box7.new w (.int .u8 6) (.bool bo) (.int .i64 n) (.string t) (.slice ya yl yc) (.slice la ll lc) (.slice fa fl fc))
  go_enter Try.func34, Try.ntmps34
  go_wp2_with fail
  refine (inside6 bo n t ya yl yc la ll lc fa fl fc _).mono ?_
  rintro e w1 ⟨rfl, hb⟩
  have HB1 := hide (HB0.out.below hb)
  have HX1 := hide (HX0.out.on hb)
  clear hb HB0 HX0
  generalize hbw : w.heap.size = b at *
  have HBW := hide hbw
  clear hbw
  have HBd := hide (HB1.out.below (Below.refl _ _).drew)
  obtain ⟨k0, k1, k2, k3, k4, k5, k6⟩ := HB1.out.cells
  have HO := hide (fun W => outside6 la ll lc W)
  have HA := fun W => alike_gen 6 bo n t ya yl yc la ll lc fa fl fc 6 false 0 ⟨#[]⟩ none 0 0 la ll lc none 0 0 W
  simp only [hβ] at HA
  replace HA := hide HA
  have HXd := hide HX1.out.drew
  go_wp2
  go_region_held3 (fun W => W.cell? ⟨b, 0, none⟩ = some (.int .u8 6) ∧ W.cell? ⟨b, 1, none⟩ = some (.bool bo) ∧ W.cell? ⟨b, 2, none⟩ = some (.int .i64 n) ∧ W.cell? ⟨b, 3, none⟩ = some (.string t) ∧ W.cell? ⟨b, 4, none⟩ = some (.slice ya yl yc) ∧ W.cell? ⟨b, 5, none⟩ = some (.slice la ll lc) ∧ W.cell? ⟨b, 6, none⟩ = some (.slice fa fl fc)) ((refine ⟨?_, ?_, ?_, ?_, ?_, ?_, ?_⟩ <;> assumption)) ((first | (go_at_call 49; refine (HO.out _).mono ?_; intro r' V1 hh; obtain ⟨rfl, hb1⟩ := hh; have HB2 := hide (HBd.out.below hb1); have HX2 := hide (HXd.out.on hb1); obtain ⟨q0, q1, q2, q3, q4, q5, q6⟩ := HB2.out.cells; clear hb1) | (go_at_call 48; refine (HA.out _).mono ?_; intro r' V2 hh; obtain ⟨rfl, hb2⟩ := hh; have HB3 := hide (HB2.out.below hb2); have HX3 := hide (HX2.out.on hb2); obtain ⟨p0, p1, p2, p3, p4, p5, p6⟩ := HB3.out.cells; clear hb2)))
  clear k0 k1 k2 k3 k4 k5 k6 q0 q1 q2 q3 q4 q5 q6 p0 p1 p2 p3 p4 p5 p6
  go_wp2
  go_ret
  exact ⟨rfl, by rw [HBW.out]; exact HX3.out.below⟩
set_option maxHeartbeats 3200000 in
set_option maxRecDepth 1000000 in
theorem fits6_yes (bo : Bool) (n : Int) (t : ByteArray) (ya : Option Addr) (yl yc : Nat) (la : Option Addr) (ll lc : Nat) (fa : Option Addr) (fl fc : Nat) (w : World) (hβ : alB 6 bo n t yl ll fl 6 false 0 ⟨#[]⟩ 0 ll 0 = true) : Calls Try.prog 34 #[.agg #[.int .u8 6, .bool bo, .int .i64 n, .string t, .slice ya yl yc, .slice la ll lc, .slice fa fl fc]] w fun e w' => e = .returned (.int .u16 ((0 : Nat) : Int)) ∧ Below w.heap.size w w' := by
  have a0 := ta_no92 106 (by decide)
  have a1 := ta_no95 106 (by decide)
  have a2 := ta_no96 106 (by decide)
  have HX0 := hide ((Fr.refl w).alloc (.cells #[.int .u8 6, .bool bo, .int .i64 n, .string t, .slice ya yl yc, .slice la ll lc, .slice fa fl fc] 32))
  have HB0 := hide (Box7.new w (.int .u8 6) (.bool bo) (.int .i64 n) (.string t) (.slice ya yl yc) (.slice la ll lc) (.slice fa fl fc))
  go_enter Try.func34, Try.ntmps34
  go_wp2_with fail
  refine (inside6 bo n t ya yl yc la ll lc fa fl fc _).mono ?_
  rintro e w1 ⟨rfl, hb⟩
  have HB1 := hide (HB0.out.below hb)
  have HX1 := hide (HX0.out.on hb)
  clear hb HB0 HX0
  generalize hbw : w.heap.size = b at *
  have HBW := hide hbw
  clear hbw
  have HBd := hide (HB1.out.below (Below.refl _ _).drew)
  obtain ⟨k0, k1, k2, k3, k4, k5, k6⟩ := HB1.out.cells
  have HO := hide (fun W => outside6 la ll lc W)
  have HA := fun W => alike_gen 6 bo n t ya yl yc la ll lc fa fl fc 6 false 0 ⟨#[]⟩ none 0 0 la ll lc none 0 0 W
  simp only [hβ] at HA
  replace HA := hide HA
  have HXd := hide HX1.out.drew
  go_wp2
  go_region_held3 (fun W => W.cell? ⟨b, 0, none⟩ = some (.int .u8 6) ∧ W.cell? ⟨b, 1, none⟩ = some (.bool bo) ∧ W.cell? ⟨b, 2, none⟩ = some (.int .i64 n) ∧ W.cell? ⟨b, 3, none⟩ = some (.string t) ∧ W.cell? ⟨b, 4, none⟩ = some (.slice ya yl yc) ∧ W.cell? ⟨b, 5, none⟩ = some (.slice la ll lc) ∧ W.cell? ⟨b, 6, none⟩ = some (.slice fa fl fc)) ((refine ⟨?_, ?_, ?_, ?_, ?_, ?_, ?_⟩ <;> assumption)) ((first | (go_at_call 49; refine (HO.out _).mono ?_; intro r' V1 hh; obtain ⟨rfl, hb1⟩ := hh; have HB2 := hide (HBd.out.below hb1); have HX2 := hide (HXd.out.on hb1); obtain ⟨q0, q1, q2, q3, q4, q5, q6⟩ := HB2.out.cells; clear hb1) | (go_at_call 48; refine (HA.out _).mono ?_; intro r' V2 hh; obtain ⟨rfl, hb2⟩ := hh; have HB3 := hide (HB2.out.below hb2); have HX3 := hide (HX2.out.on hb2); obtain ⟨p0, p1, p2, p3, p4, p5, p6⟩ := HB3.out.cells; clear hb2)))
  clear k0 k1 k2 k3 k4 k5 k6 q0 q1 q2 q3 q4 q5 q6 p0 p1 p2 p3 p4 p5 p6
  go_wp2
  go_ret
  exact ⟨rfl, by rw [HBW.out]; exact HX3.out.below⟩
theorem fits6 (bo : Bool) (n : Int) (t : ByteArray) (ya : Option Addr) (yl yc : Nat) (la : Option Addr) (ll lc : Nat) (fa : Option Addr) (fl fc : Nat) (w : World) : Calls Try.prog 34 #[.agg #[.int .u8 6, .bool bo, .int .i64 n, .string t, .slice ya yl yc, .slice la ll lc, .slice fa fl fc]] w fun e w' => e = .returned (.int .u16 ((if alB 6 bo n t yl ll fl 6 false 0 ⟨#[]⟩ 0 ll 0 then 0 else 30 : Nat) : Int)) ∧ Below w.heap.size w w' := by
  cases hβ : alB 6 bo n t yl ll fl 6 false 0 ⟨#[]⟩ 0 ll 0
  · exact fits6_no bo n t ya yl yc la ll lc fa fl fc w hβ
  · exact fits6_yes bo n t ya yl yc la ll lc fa fl fc w hβ
set_option maxHeartbeats 3200000 in
set_option maxRecDepth 1000000 in
theorem fits7_no (bo : Bool) (n : Int) (t : ByteArray) (ya : Option Addr) (yl yc : Nat) (la : Option Addr) (ll lc : Nat) (fa : Option Addr) (fl fc : Nat) (w : World) (n₀ : Nat) (f : FL) (hf : Flds w fa n₀ f) (hfl : f.list.length = fl) (hn : n₀ ≤ w.heap.size) (hβ : alB 7 bo n t yl ll fl 7 false 0 ⟨#[]⟩ 0 0 fl = false) : Calls Try.prog 34 #[.agg #[.int .u8 7, .bool bo, .int .i64 n, .string t, .slice ya yl yc, .slice la ll lc, .slice fa fl fc]] w fun e w' => e = .returned (.int .u16 ((30 : Nat) : Int)) ∧ Below w.heap.size w w' := by
  subst hfl
  have HFd := hide hf
  clear hf
  have a0 := ta_no92 94 (by decide)
  have a1 := ta_no95 94 (by decide)
  have a2 := ta_yes96
  have HX0 := hide ((Fr.refl w).alloc (.cells #[.int .u8 7, .bool bo, .int .i64 n, .string t, .slice ya yl yc, .slice la ll lc, .slice fa f.list.length fc] 32))
  have HB0 := hide (Box7.new w (.int .u8 7) (.bool bo) (.int .i64 n) (.string t) (.slice ya yl yc) (.slice la ll lc) (.slice fa f.list.length fc))
  go_enter Try.func34, Try.ntmps34
  go_wp2_with fail
  refine (inside7 bo n t ya yl yc la ll lc fa f.list.length fc _).mono ?_
  rintro e w1 ⟨rfl, hb⟩
  have HB1 := hide (HB0.out.below hb)
  have HX1 := hide (HX0.out.on hb)
  clear hb HB0 HX0
  generalize hbw : w.heap.size = b at *
  have HBW := hide hbw
  clear hbw
  have HBd := hide (HB1.out.below (Below.refl _ _).drew)
  obtain ⟨k0, k1, k2, k3, k4, k5, k6⟩ := HB1.out.cells
  have HO := hide (fun W => outside7 fa f.list.length fc W)
  have HA := fun W => alike_gen 7 bo n t ya yl yc la ll lc fa f.list.length fc 7 false 0 ⟨#[]⟩ none 0 0 none 0 0 fa f.list.length fc W
  simp only [hβ] at HA
  replace HA := hide HA
  have HXd := hide HX1.out.drew
  go_wp2
  go_region_held3 (fun W => W.cell? ⟨b, 0, none⟩ = some (.int .u8 7) ∧ W.cell? ⟨b, 1, none⟩ = some (.bool bo) ∧ W.cell? ⟨b, 2, none⟩ = some (.int .i64 n) ∧ W.cell? ⟨b, 3, none⟩ = some (.string t) ∧ W.cell? ⟨b, 4, none⟩ = some (.slice ya yl yc) ∧ W.cell? ⟨b, 5, none⟩ = some (.slice la ll lc) ∧ W.cell? ⟨b, 6, none⟩ = some (.slice fa f.list.length fc)) ((refine ⟨?_, ?_, ?_, ?_, ?_, ?_, ?_⟩ <;> assumption)) ((first | (go_at_call 49; refine (HO.out _).mono ?_; intro r' V1 hh; obtain ⟨rfl, hb1⟩ := hh; have HB2 := hide (HBd.out.below hb1); have HX2 := hide (HXd.out.on hb1); obtain ⟨q0, q1, q2, q3, q4, q5, q6⟩ := HB2.out.cells; clear hb1) | (go_at_call 48; refine (HA.out _).mono ?_; intro r' V2 hh; obtain ⟨rfl, hb2⟩ := hh; have HB3 := hide (HB2.out.below hb2); have HX3 := hide (HX2.out.on hb2); obtain ⟨p0, p1, p2, p3, p4, p5, p6⟩ := HB3.out.cells; clear hb2)))
  clear k0 k1 k2 k3 k4 k5 k6 q0 q1 q2 q3 q4 q5 q6 p0 p1 p2 p3 p4 p5 p6
  go_wp2
  go_ret
  exact ⟨rfl, by rw [HBW.out]; exact HX3.out.below⟩
set_option maxHeartbeats 3200000 in
set_option maxRecDepth 1000000 in
theorem fits7_yes (bo : Bool) (n : Int) (t : ByteArray) (ya : Option Addr) (yl yc : Nat) (la : Option Addr) (ll lc : Nat) (fa : Option Addr) (fl fc : Nat) (w : World) (n₀ : Nat) (f : FL) (hf : Flds w fa n₀ f) (hfl : f.list.length = fl) (hn : n₀ ≤ w.heap.size) (hβ : alB 7 bo n t yl ll fl 7 false 0 ⟨#[]⟩ 0 0 fl = true) (r : Nat) (hr : ((if ris f.names then 0 else 30) : Nat) = r) : Calls Try.prog 34 #[.agg #[.int .u8 7, .bool bo, .int .i64 n, .string t, .slice ya yl yc, .slice la ll lc, .slice fa fl fc]] w fun e w' => e = .returned (.int .u16 ((r : Nat) : Int)) ∧ Below w.heap.size w w' := by
  have HR := hide hr
  clear hr
  subst hfl
  have HFd := hide hf
  clear hf
  have a0 := ta_no92 94 (by decide)
  have a1 := ta_no95 94 (by decide)
  have a2 := ta_yes96
  have HX0 := hide ((Fr.refl w).alloc (.cells #[.int .u8 7, .bool bo, .int .i64 n, .string t, .slice ya yl yc, .slice la ll lc, .slice fa f.list.length fc] 32))
  have HB0 := hide (Box7.new w (.int .u8 7) (.bool bo) (.int .i64 n) (.string t) (.slice ya yl yc) (.slice la ll lc) (.slice fa f.list.length fc))
  go_enter Try.func34, Try.ntmps34
  go_wp2_with fail
  refine (inside7 bo n t ya yl yc la ll lc fa f.list.length fc _).mono ?_
  rintro e w1 ⟨rfl, hb⟩
  have HB1 := hide (HB0.out.below hb)
  have HX1 := hide (HX0.out.on hb)
  clear hb HB0 HX0
  generalize hbw : w.heap.size = b at *
  have HBW := hide hbw
  clear hbw
  have HBd := hide (HB1.out.below (Below.refl _ _).drew)
  obtain ⟨k0, k1, k2, k3, k4, k5, k6⟩ := HB1.out.cells
  have HO := hide (fun W => outside7 fa f.list.length fc W)
  have HA := fun W => alike_gen 7 bo n t ya yl yc la ll lc fa f.list.length fc 7 false 0 ⟨#[]⟩ none 0 0 none 0 0 fa f.list.length fc W
  simp only [hβ] at HA
  replace HA := hide HA
  have HXd := hide HX1.out.drew
  go_wp2
  go_region_held3 (fun W => W.cell? ⟨b, 0, none⟩ = some (.int .u8 7) ∧ W.cell? ⟨b, 1, none⟩ = some (.bool bo) ∧ W.cell? ⟨b, 2, none⟩ = some (.int .i64 n) ∧ W.cell? ⟨b, 3, none⟩ = some (.string t) ∧ W.cell? ⟨b, 4, none⟩ = some (.slice ya yl yc) ∧ W.cell? ⟨b, 5, none⟩ = some (.slice la ll lc) ∧ W.cell? ⟨b, 6, none⟩ = some (.slice fa f.list.length fc)) ((refine ⟨?_, ?_, ?_, ?_, ?_, ?_, ?_⟩ <;> assumption)) ((first | (go_at_call 49; refine (HO.out _).mono ?_; intro r' V1 hh; obtain ⟨rfl, hb1⟩ := hh; have HB2 := hide (HBd.out.below hb1); have HX2 := hide (HXd.out.on hb1); obtain ⟨q0, q1, q2, q3, q4, q5, q6⟩ := HB2.out.cells; clear hb1) | (go_at_call 48; refine (HA.out _).mono ?_; intro r' V2 hh; obtain ⟨rfl, hb2⟩ := hh; have HB3 := hide (HB2.out.below hb2); have HX3 := hide (HX2.out.on hb2); obtain ⟨p0, p1, p2, p3, p4, p5, p6⟩ := HB3.out.cells; clear hb2)))
  clear k0 k1 k2 k3 k4 k5 k6 q0 q1 q2 q3 q4 q5 q6 p0 p1 p2 p3 p4 p5 p6
  go_wp2_with fail
  refine (rising_any fa n₀ fc f _ ⟨HFd.out.mem.on (HX3.out.below.mono (by have := HBW.out; omega)), HFd.out.big, HFd.out.txt⟩ (by have := HX3.out.size; have := HBW.out; omega)).mono ?_
  rintro e w3 ⟨rfl, hb3⟩
  have HX4 := hide (HX3.out.on hb3)
  clear hb3
  generalize ris f.names = rr at *
  cases rr
  · obtain rfl : r = 30 := by have := HR.out; simp at this; omega
    go_wp2
    go_ret
    exact ⟨rfl, by rw [HBW.out]; exact HX4.out.below⟩
  · obtain rfl : r = 0 := by have := HR.out; simp at this; omega
    go_wp2
    go_ret
    exact ⟨rfl, by rw [HBW.out]; exact HX4.out.below⟩
theorem fits7 (bo : Bool) (n : Int) (t : ByteArray) (ya : Option Addr) (yl yc : Nat) (la : Option Addr) (ll lc : Nat) (fa : Option Addr) (fl fc : Nat) (w : World) (n₀ : Nat) (f : FL) (hf : Flds w fa n₀ f) (hfl : f.list.length = fl) (hn : n₀ ≤ w.heap.size) : Calls Try.prog 34 #[.agg #[.int .u8 7, .bool bo, .int .i64 n, .string t, .slice ya yl yc, .slice la ll lc, .slice fa fl fc]] w fun e w' => e = .returned (.int .u16 ((if alB 7 bo n t yl ll fl 7 false 0 ⟨#[]⟩ 0 0 fl then (if ris f.names then 0 else 30) else 30 : Nat) : Int)) ∧ Below w.heap.size w w' := by
  cases hβ : alB 7 bo n t yl ll fl 7 false 0 ⟨#[]⟩ 0 0 fl
  · exact fits7_no bo n t ya yl yc la ll lc fa fl fc w n₀ f hf hfl hn hβ
  · exact fits7_yes bo n t ya yl yc la ll lc fa fl fc w n₀ f hf hfl hn hβ _ rfl
set_option maxHeartbeats 3200000 in
set_option maxRecDepth 1000000 in
theorem fits_else_no (k : Int) (bo : Bool) (n : Int) (t : ByteArray) (ya : Option Addr) (yl yc : Nat) (la : Option Addr) (ll lc : Nat) (fa : Option Addr) (fl fc : Nat) (w : World) (h2 : (k == 2) = false) (h3 : (k == 3) = false) (h4 : (k == 4) = false) (h5 : (k == 5) = false) (h6 : (k == 6) = false) (h7 : (k == 7) = false) (hβ : alB k bo n t yl ll fl 1 false 0 ⟨#[]⟩ 0 0 0 = false) : Calls Try.prog 34 #[.agg #[.int .u8 k, .bool bo, .int .i64 n, .string t, .slice ya yl yc, .slice la ll lc, .slice fa fl fc]] w fun e w' => e = .returned (.int .u16 ((30 : Nat) : Int)) ∧ Below w.heap.size w w' := by
  have a0 := ta_no92 108 (by decide)
  have a1 := ta_no95 108 (by decide)
  have a2 := ta_no96 108 (by decide)
  have HX0 := hide ((Fr.refl w).alloc (.cells #[.int .u8 k, .bool bo, .int .i64 n, .string t, .slice ya yl yc, .slice la ll lc, .slice fa fl fc] 32))
  have HB0 := hide (Box7.new w (.int .u8 k) (.bool bo) (.int .i64 n) (.string t) (.slice ya yl yc) (.slice la ll lc) (.slice fa fl fc))
  go_enter Try.func34, Try.ntmps34
  go_wp2_with fail
  refine (inside_else k bo n t ya yl yc la ll lc fa fl fc _ h2 h3 h4 h5 h6 h7).mono ?_
  rintro e w1 ⟨rfl, hb⟩
  have HB1 := hide (HB0.out.below hb)
  have HX1 := hide (HX0.out.on hb)
  clear hb HB0 HX0
  generalize hbw : w.heap.size = b at *
  have HBW := hide hbw
  clear hbw
  have HBd := hide (HB1.out.below (Below.refl _ _).drew)
  obtain ⟨k0, k1, k2, k3, k4, k5, k6⟩ := HB1.out.cells
  have HO := hide (fun W => outside_else W)
  have HA := fun W => alike_gen k bo n t ya yl yc la ll lc fa fl fc 1 false 0 ⟨#[]⟩ none 0 0 none 0 0 none 0 0 W
  simp only [hβ] at HA
  replace HA := hide HA
  have HXd := hide HX1.out.drew
  go_wp2
  go_region_held3 (fun W => W.cell? ⟨b, 0, none⟩ = some (.int .u8 k) ∧ W.cell? ⟨b, 1, none⟩ = some (.bool bo) ∧ W.cell? ⟨b, 2, none⟩ = some (.int .i64 n) ∧ W.cell? ⟨b, 3, none⟩ = some (.string t) ∧ W.cell? ⟨b, 4, none⟩ = some (.slice ya yl yc) ∧ W.cell? ⟨b, 5, none⟩ = some (.slice la ll lc) ∧ W.cell? ⟨b, 6, none⟩ = some (.slice fa fl fc)) ((refine ⟨?_, ?_, ?_, ?_, ?_, ?_, ?_⟩ <;> assumption)) ((first | (go_at_call 49; refine (HO.out _).mono ?_; intro r' V1 hh; obtain ⟨rfl, hb1⟩ := hh; have HB2 := hide (HBd.out.below hb1); have HX2 := hide (HXd.out.on hb1); obtain ⟨q0, q1, q2, q3, q4, q5, q6⟩ := HB2.out.cells; clear hb1) | (go_at_call 48; refine (HA.out _).mono ?_; intro r' V2 hh; obtain ⟨rfl, hb2⟩ := hh; have HB3 := hide (HB2.out.below hb2); have HX3 := hide (HX2.out.on hb2); obtain ⟨p0, p1, p2, p3, p4, p5, p6⟩ := HB3.out.cells; clear hb2)))
  clear k0 k1 k2 k3 k4 k5 k6 q0 q1 q2 q3 q4 q5 q6 p0 p1 p2 p3 p4 p5 p6
  go_wp2
  go_ret
  exact ⟨rfl, by rw [HBW.out]; exact HX3.out.below⟩
set_option maxHeartbeats 3200000 in
set_option maxRecDepth 1000000 in
theorem fits_else_yes (k : Int) (bo : Bool) (n : Int) (t : ByteArray) (ya : Option Addr) (yl yc : Nat) (la : Option Addr) (ll lc : Nat) (fa : Option Addr) (fl fc : Nat) (w : World) (h2 : (k == 2) = false) (h3 : (k == 3) = false) (h4 : (k == 4) = false) (h5 : (k == 5) = false) (h6 : (k == 6) = false) (h7 : (k == 7) = false) (hβ : alB k bo n t yl ll fl 1 false 0 ⟨#[]⟩ 0 0 0 = true) : Calls Try.prog 34 #[.agg #[.int .u8 k, .bool bo, .int .i64 n, .string t, .slice ya yl yc, .slice la ll lc, .slice fa fl fc]] w fun e w' => e = .returned (.int .u16 ((0 : Nat) : Int)) ∧ Below w.heap.size w w' := by
  have a0 := ta_no92 108 (by decide)
  have a1 := ta_no95 108 (by decide)
  have a2 := ta_no96 108 (by decide)
  have HX0 := hide ((Fr.refl w).alloc (.cells #[.int .u8 k, .bool bo, .int .i64 n, .string t, .slice ya yl yc, .slice la ll lc, .slice fa fl fc] 32))
  have HB0 := hide (Box7.new w (.int .u8 k) (.bool bo) (.int .i64 n) (.string t) (.slice ya yl yc) (.slice la ll lc) (.slice fa fl fc))
  go_enter Try.func34, Try.ntmps34
  go_wp2_with fail
  refine (inside_else k bo n t ya yl yc la ll lc fa fl fc _ h2 h3 h4 h5 h6 h7).mono ?_
  rintro e w1 ⟨rfl, hb⟩
  have HB1 := hide (HB0.out.below hb)
  have HX1 := hide (HX0.out.on hb)
  clear hb HB0 HX0
  generalize hbw : w.heap.size = b at *
  have HBW := hide hbw
  clear hbw
  have HBd := hide (HB1.out.below (Below.refl _ _).drew)
  obtain ⟨k0, k1, k2, k3, k4, k5, k6⟩ := HB1.out.cells
  have HO := hide (fun W => outside_else W)
  have HA := fun W => alike_gen k bo n t ya yl yc la ll lc fa fl fc 1 false 0 ⟨#[]⟩ none 0 0 none 0 0 none 0 0 W
  simp only [hβ] at HA
  replace HA := hide HA
  have HXd := hide HX1.out.drew
  go_wp2
  go_region_held3 (fun W => W.cell? ⟨b, 0, none⟩ = some (.int .u8 k) ∧ W.cell? ⟨b, 1, none⟩ = some (.bool bo) ∧ W.cell? ⟨b, 2, none⟩ = some (.int .i64 n) ∧ W.cell? ⟨b, 3, none⟩ = some (.string t) ∧ W.cell? ⟨b, 4, none⟩ = some (.slice ya yl yc) ∧ W.cell? ⟨b, 5, none⟩ = some (.slice la ll lc) ∧ W.cell? ⟨b, 6, none⟩ = some (.slice fa fl fc)) ((refine ⟨?_, ?_, ?_, ?_, ?_, ?_, ?_⟩ <;> assumption)) ((first | (go_at_call 49; refine (HO.out _).mono ?_; intro r' V1 hh; obtain ⟨rfl, hb1⟩ := hh; have HB2 := hide (HBd.out.below hb1); have HX2 := hide (HXd.out.on hb1); obtain ⟨q0, q1, q2, q3, q4, q5, q6⟩ := HB2.out.cells; clear hb1) | (go_at_call 48; refine (HA.out _).mono ?_; intro r' V2 hh; obtain ⟨rfl, hb2⟩ := hh; have HB3 := hide (HB2.out.below hb2); have HX3 := hide (HX2.out.on hb2); obtain ⟨p0, p1, p2, p3, p4, p5, p6⟩ := HB3.out.cells; clear hb2)))
  clear k0 k1 k2 k3 k4 k5 k6 q0 q1 q2 q3 q4 q5 q6 p0 p1 p2 p3 p4 p5 p6
  go_wp2
  go_ret
  exact ⟨rfl, by rw [HBW.out]; exact HX3.out.below⟩
theorem fits_else (k : Int) (bo : Bool) (n : Int) (t : ByteArray) (ya : Option Addr) (yl yc : Nat) (la : Option Addr) (ll lc : Nat) (fa : Option Addr) (fl fc : Nat) (w : World) (h2 : (k == 2) = false) (h3 : (k == 3) = false) (h4 : (k == 4) = false) (h5 : (k == 5) = false) (h6 : (k == 6) = false) (h7 : (k == 7) = false) : Calls Try.prog 34 #[.agg #[.int .u8 k, .bool bo, .int .i64 n, .string t, .slice ya yl yc, .slice la ll lc, .slice fa fl fc]] w fun e w' => e = .returned (.int .u16 ((if alB k bo n t yl ll fl 1 false 0 ⟨#[]⟩ 0 0 0 then 0 else 30 : Nat) : Int)) ∧ Below w.heap.size w w' := by
  cases hβ : alB k bo n t yl ll fl 1 false 0 ⟨#[]⟩ 0 0 0
  · exact fits_else_no k bo n t ya yl yc la ll lc fa fl fc w h2 h3 h4 h5 h6 h7 hβ
  · exact fits_else_yes k bo n t ya yl yc la ll lc fa fl fc w h2 h3 h4 h5 h6 h7 hβ
end Go.Proofs.Ytegoeaofjnpehab
/- Check of any value: what fits says, kind by kind. -/
namespace Go.Proofs.Ytegoeaofjnpehab
open Go.RowKit
set_option linter.unusedVariables false

/-- what is said of one value alone. -/
def fitE : T → Nat
  | .mk k bo n t ya yc y la lc l fa fc f =>
    if k = 2 then (if alB 2 bo n t y.length l.list.length f.list.length 2 bo 0 ⟨#[]⟩ 0 0 0 then 0 else 30)
    else if k = 3 then (if alB 3 bo n t y.length l.list.length f.list.length 3 false n ⟨#[]⟩ 0 0 0 then 0 else 30)
    else if k = 4 then (if alB 4 bo n t y.length l.list.length f.list.length 4 false 0 t 0 0 0 then (if (rn t).2 then (if 1000 < (rn t).1 then 33 else 0) else 34) else 30)
    else if k = 5 then (if alB 5 bo n t y.length l.list.length f.list.length 5 false 0 ⟨#[]⟩ y.length 0 0 then (if 4000 < y.length then 33 else 0) else 30)
    else if k = 6 then (if alB 6 bo n t y.length l.list.length f.list.length 6 false 0 ⟨#[]⟩ 0 l.list.length 0 then 0 else 30)
    else if k = 7 then (if alB 7 bo n t y.length l.list.length f.list.length 7 false 0 ⟨#[]⟩ 0 0 f.list.length then (if ris f.names then 0 else 30) else 30)
    else (if alB k bo n t y.length l.list.length f.list.length 1 false 0 ⟨#[]⟩ 0 0 0 then 0 else 30)
/-- texts and rows that are no longer than a machine holds. -/
def T.Node : T → Prop
  | .mk k bo n t ya yc y la lc l fa fc f => t.size ≤ 1000000000 ∧ y.length ≤ 9223372036854775807 ∧ f.list.length ≤ 1000000 ∧ ∀ x ∈ f.list, x.1.size ≤ 1000000000
theorem fitE_le (x : T) : fitE x ≤ 60000 := by
  cases x
  unfold fitE
  repeat' split
  all_goals omega
theorem fits_gen (n₀ : Nat) (x : T) (W : World) (hN : x.Node) (hm : x.Mem n₀ W) (hn : n₀ ≤ W.heap.size) :
    Calls Try.prog 34 #[x.val] W fun e w' => e = .returned (.int .u16 (fitE x : Int)) ∧ Below W.heap.size W w' := by
  cases x with
  | mk k bo n t ya yc y la lc l fa fc f =>
  obtain ⟨h1, h2, h3, h4⟩ := hN
  have h8 := hm.2.2.2.2.2.2.2.1
  simp only [T.val]
  by_cases k2 : k = 2
  · subst k2
    rw [show fitE (.mk 2 bo n t ya yc y la lc l fa fc f) = _ from rfl]
    exact fits2 bo n t ya y.length yc la l.list.length lc fa f.list.length fc W
  by_cases k3 : k = 3
  · subst k3
    exact fits3 bo n t ya y.length yc la l.list.length lc fa f.list.length fc W
  by_cases k4 : k = 4
  · subst k4
    exact fits4 bo n t ya y.length yc la l.list.length lc fa f.list.length fc W h1
  by_cases k5 : k = 5
  · subst k5
    exact fits5 bo n t ya y.length yc la l.list.length lc fa f.list.length fc W h2
  by_cases k6 : k = 6
  · subst k6
    exact fits6 bo n t ya y.length yc la l.list.length lc fa f.list.length fc W
  by_cases k7 : k = 7
  · subst k7
    exact fits7 bo n t ya y.length yc la l.list.length lc fa f.list.length fc W n₀ f ⟨h8, h3, h4⟩ rfl hn
  have e : fitE (.mk k bo n t ya yc y la lc l fa fc f) = (if alB k bo n t y.length l.list.length f.list.length 1 false 0 ⟨#[]⟩ 0 0 0 then 0 else 30) := by
    simp [fitE, k2, k3, k4, k5, k6, k7]
  rw [e]
  exact fits_else k bo n t ya y.length yc la l.list.length lc fa f.list.length fc W (by simp [k2]) (by simp [k3]) (by simp [k4]) (by simp [k5]) (by simp [k6]) (by simp [k7])
/-- a value whose parts are all no longer than a machine holds. -/
def T.Tame (v : T) : Prop := v.sz ≤ 999999 ∧ ∀ d x, (d, x) ∈ v.flat 1 → x.Node
def ckE (v : T) : Nat := chk fitE v
theorem check_all (n₀ : Nat) (v : T) (w : World) (hm : v.Mem n₀ w) (hn : n₀ ≤ w.heap.size) (hT : v.Tame) :
    Calls Try.prog 21 #[v.val] w fun e w' => e = .returned (.int .u16 (ckE v : Int)) ∧ Below w.heap.size w w' :=
  check_gen fitE n₀ v w hm hn hT.1 fitE_le (fun x W ⟨d, hd⟩ hx hW => fits_gen n₀ x W (hT.2 d x hd) hx hW)
end Go.Proofs.Ytegoeaofjnpehab
/- Whether a value is a document or has one below it, of any value. -/
namespace Go.Proofs.Ytegoeaofjnpehab
open Go.RowKit
set_option linter.unusedVariables false

mutual
def T.hd : T → Bool
  | .mk k _ _ _ _ _ _ _ _ l _ _ _ => decide (k = 7) || l.hd
def TL.hd : TL → Bool
  | .nil => false
  | .cons v r => v.hd || r.hd
end
theorem TL.hd_is (l : TL) : l.hd = l.list.any T.hd := by
  match l with
  | .nil => simp [TL.hd, TL.list]
  | .cons v r => simp [TL.hd, TL.list, TL.hd_is r]

set_option maxHeartbeats 1600000 in
set_option maxRecDepth 1000000 in
theorem index_gen (n₀ : Nat) (la : Option Addr) (lc : Nat) (l : TL) (w : World) (hm : l.Mem n₀ w la 0) (hlen : l.list.length ≤ 9223372036854775807) (hn : n₀ ≤ w.heap.size)
    (HI : Hid (∀ c ∈ l.list, ∀ W, c.Mem n₀ W → n₀ ≤ W.heap.size → Calls Try.prog 22 #[c.val] W fun e w' => e = .returned (.bool c.hd) ∧ Below W.heap.size W w')) :
    Calls Try.prog 52 #[.slice la l.list.length lc, .func (.func 22) #[] #[]] w fun e w' => (∃ i : Int, e = .returned (.int .i64 i) ∧ decide (0 ≤ i) = l.hd) ∧ Below w.heap.size w w' := by
  have HM := hide hm
  clear hm
  have HH := hide (TL.hd_is l)
  go_enter Try.func52, Try.ntmps52
  go_wp2
  go_loopw [8] (fun i wr => ∃ j : Nat, j ≤ l.list.length ∧ i = .int .i64 (j : Int) ∧ Below w.heap.size w wr ∧ w.heap.size ≤ wr.heap.size ∧ ∀ c ∈ l.list.take j, c.hd = false) (fun i _ => l.list.length - (intOf i).toNat)
  case atStart => exact ⟨0, by omega, rfl, Below.refl _ _, Nat.le_refl _, by simp⟩
  case round =>
    obtain ⟨j, hj, rfl, hB, hS, hA⟩ := hrel
    have HB := hide hB
    have HA := hide hA
    clear hB hA
    by_cases hlt : j < l.list.length
    · obtain ⟨c, hc⟩ : ∃ c, l.list[j]? = some c := ⟨_, List.getElem?_eq_getElem hlt⟩
      have HTk := hide (take_next l.list j c hc)
      have hmem : c ∈ l.list := List.mem_of_getElem? hc
      have HMw := hide (HM.out.on (HB.out.mono hn))
      have HIc := hide (fun W => HI.out c hmem W)
      have HMc := hide (TL.Mem.at l 0 HMw.out j c hc).2
      have HMem := hide hmem
      clear hmem
      cases c with
      | mk ck cbo cn ct cya cyc cy cla clc cl cfa cfc cf =>
      obtain ⟨b', o', rfl, hb', c0, c1, c2, c3, c4, c5, c6⟩ := HMw.out.cells hc
      clear hc
      simp only [T.val] at HIc
      go_wp2_with fail
      refine (HIc.out wr HMc.out (by omega)).mono ?_
      rintro e W3 ⟨rfl, hb3⟩
      have HB3 := hide hb3
      clear hb3 c0 c1 c2 c3 c4 c5 c6
      generalize hβ : (T.mk ck cbo cn ct cya cyc cy cla clc cl cfa cfc cf).hd = β at *
      have HBe := hide hβ
      clear hβ
      cases β
      · go_wp2
        go_roundw
        case rel => exact ⟨j + 1, by omega, by go_num, HB.out.trans (HB3.out.mono hS), Nat.le_trans hS HB3.out.size, by rw [HTk.out]; intro c hc; rcases List.mem_append.1 hc with h | h; exact HA.out c h; rw [List.mem_singleton.1 h]; exact HBe.out⟩
        case measure => simp [intOf]; omega
      · go_wp2
        go_ret
        exact ⟨⟨_, rfl, by rw [HH.out]; have : l.list.any T.hd = true := List.any_eq_true.2 ⟨_, HMem.out, HBe.out⟩; rw [this]; simp⟩, HB.out.trans (HB3.out.mono hS)⟩
    · go_wp2
      go_ret
      refine ⟨⟨_, rfl, ?_⟩, HB.out⟩
      have hall := HA.out
      rw [List.take_of_length_le (by omega)] at hall
      have : l.list.any T.hd = false := List.any_eq_false.2 (fun c hc => by rw [hall c hc]; simp)
      rw [HH.out, this]
      rfl
set_option maxHeartbeats 800000 in
theorem contains_gen (n₀ : Nat) (la : Option Addr) (lc : Nat) (l : TL) (w : World) (hm : l.Mem n₀ w la 0) (hlen : l.list.length ≤ 9223372036854775807) (hn : n₀ ≤ w.heap.size)
    (HI : Hid (∀ c ∈ l.list, ∀ W, c.Mem n₀ W → n₀ ≤ W.heap.size → Calls Try.prog 22 #[c.val] W fun e w' => e = .returned (.bool c.hd) ∧ Below W.heap.size W w')) :
    Calls Try.prog 35 #[.slice la l.list.length lc, .func (.func 22) #[] #[]] w fun e w' => e = .returned (.bool l.hd) ∧ Below w.heap.size w w' := by
  have HC := hide (index_gen n₀ la lc l w hm hlen hn HI)
  clear hm
  go_enter Try.func35, Try.ntmps35
  go_wp2_with fail
  refine HC.out.mono ?_
  rintro e w1 ⟨⟨i, rfl, hi⟩, hb⟩
  have HD := hide hi
  have HB := hide hb
  clear hi hb
  go_wp2
  go_ret
  exact ⟨ret_bool HD.out, HB.out⟩
set_option maxHeartbeats 800000 in
theorem hasdoc_gen (n₀ : Nat) : ∀ (N : Nat) (v : T), v.sz ≤ N → ∀ (w : World), v.Mem n₀ w → n₀ ≤ w.heap.size → Calls Try.prog 22 #[v.val] w fun e w' => e = .returned (.bool v.hd) ∧ Below w.heap.size w w' := by
  intro N
  induction N with
  | zero => intro v hv; cases v; simp [T.sz] at hv
  | succ N ih =>
    intro v hv w hm hn
    cases v with
    | mk k bo n t ya yc y la lc l fa fc f =>
    have HI : Hid (∀ c ∈ l.list, ∀ W, c.Mem n₀ W → n₀ ≤ W.heap.size → Calls Try.prog 22 #[c.val] W fun e w' => e = .returned (.bool c.hd) ∧ Below W.heap.size W w') := by
      intro c hc W h1 h2
      refine ih c ?_ W h1 h2
      have := T.kid_sz (.mk k bo n t ya yc y la lc l fa fc f) c (by simp only [T.kids]; exact List.mem_append_left _ hc)
      omega
    clear ih hv
    have HX := hide (below_alloc w (.cells #[.int .u8 k, .bool bo, .int .i64 n, .string t, .slice ya y.length yc, .slice la l.list.length lc, .slice fa f.list.length fc] 32))
    have HC := hide (contains_gen n₀ la lc l _ ((hm.2.2.2.2.1).on (HX.out.mono hn)) hm.2.2.2.2.2.2.1 (by simp; omega) HI)
    clear hm
    simp only [T.val, T.hd]
    by_cases hk : k = 7
    · subst hk
      go_enter Try.func22, Try.ntmps22
      go_wp2
      go_ret
      exact ⟨by simp, HX.out⟩
    · have hk2 : (k == 7) = false := by simp [hk]
      have HK := hide hk
      clear hk
      go_enter Try.func22, Try.ntmps22
      go_wp2_with fail
      refine HC.out.mono ?_
      rintro e w1 ⟨rfl, hb⟩
      have HB := hide hb
      clear hb
      generalize hβ : l.hd = β at *
      have HBe := hide hβ
      clear hβ
      go_wp2
      go_ret
      exact ⟨ret_bool (by simp [HK.out]; exact HBe.out.symm), HX.out.trans (HB.out.mono (by simp))⟩
end Go.Proofs.Ytegoeaofjnpehab
