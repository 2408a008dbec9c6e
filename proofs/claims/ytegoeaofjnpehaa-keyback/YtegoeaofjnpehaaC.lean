/- Contracts of looking at a value alone: a text of one letter, a number. -/
import Derived.Test.YtegoeaofjnpehaaB
import Derived.Deep.RegionHeld3
namespace Go.Proofs.Ytegoeaofjnpehaa
open Go.RowKit
set_option linter.unusedVariables false

/-- a value's seven cells lie at b. -/
def Box7 (W : World) (b : Nat) (c0 c1 c2 c3 c4 c5 c6 : Value) : Prop := W.heap[b]? = some (.cells #[c0, c1, c2, c3, c4, c5, c6] 41 (0, 0))
section
variable {W W' : World} {b : Nat} {c0 c1 c2 c3 c4 c5 c6 : Value}
theorem Box7.lt (h : Box7 W b c0 c1 c2 c3 c4 c5 c6) : b < W.heap.size := lt_of_block h
theorem Box7.cells (h : Box7 W b c0 c1 c2 c3 c4 c5 c6) : W.cell? ⟨b, 0, none⟩ = some c0 ∧ W.cell? ⟨b, 1, none⟩ = some c1 ∧ W.cell? ⟨b, 2, none⟩ = some c2 ∧ W.cell? ⟨b, 3, none⟩ = some c3 ∧ W.cell? ⟨b, 4, none⟩ = some c4 ∧ W.cell? ⟨b, 5, none⟩ = some c5 ∧ W.cell? ⟨b, 6, none⟩ = some c6 := by
  unfold Box7 at h
  simp [World.cell?, h]
theorem Box7.free (h : Box7 W b c0 c1 c2 c3 c4 c5 c6) (i : Nat) : W.frozen? ⟨b, i, none⟩ = false := by
  unfold Box7 at h
  simp [World.frozen?, h]
theorem Box7.below (h : Box7 W b c0 c1 c2 c3 c4 c5 c6) (hb : Below W.heap.size W W') : Box7 W' b c0 c1 c2 c3 c4 c5 c6 := (hb.block b h.lt).trans h
theorem Box7.new (W : World) (c0 c1 c2 c3 c4 c5 c6 : Value) : Box7 (W.alloc (.cells #[c0, c1, c2, c3, c4, c5, c6] 41)) W.heap.size c0 c1 c2 c3 c4 c5 c6 := heap_alloc_new W _
end

set_option maxHeartbeats 1600000 in
set_option maxRecDepth 1000000 in
theorem fitsT (w : World) : Calls Try.prog 34 #[vT ⟨#[97]⟩] w fun e w' => e = .returned (.int .u16 0) ∧ Below w.heap.size w w' := by
  have a2 := ta_yes92
  have HX0 := hide ((Fr.refl w).alloc (.cells #[.int .u8 4, .bool false, .int .i64 0, .string ⟨#[97]⟩, .slice none 0 0, .slice none 0 0, .slice none 0 0] 41))
  have HB0 := hide (Box7.new w (.int .u8 4) (.bool false) (.int .i64 0) (.string ⟨#[97]⟩) (.slice none 0 0) (.slice none 0 0) (.slice none 0 0))
  go_enter Try.func34, Try.ntmps34
  go_wp2_with fail
  refine (insideT _ _).mono ?_
  rintro e w1 ⟨rfl, hb⟩
  have HB1 := hide (HB0.out.below hb)
  have HX1 := hide (HX0.out.on hb)
  clear hb HB0 HX0
  generalize hbw : w.heap.size = b at *
  have HBW := hide hbw
  clear hbw
  have HBd := hide (HB1.out.below (Below.refl _ _).drew)
  obtain ⟨k0, k1, k2, k3, k4, k5, k6⟩ := HB1.out.cells
  have HO := hide (outsideT ⟨#[97]⟩)
  have HA := hide (alikeT ⟨#[97]⟩)
  have HXd := hide HX1.out.drew
  go_wp2
  go_region_held3 (fun W => W.cell? ⟨b, 0, none⟩ = some (.int .u8 4) ∧ W.cell? ⟨b, 1, none⟩ = some (.bool false) ∧ W.cell? ⟨b, 2, none⟩ = some (.int .i64 0) ∧ W.cell? ⟨b, 3, none⟩ = some (.string ⟨#[97]⟩) ∧ W.cell? ⟨b, 4, none⟩ = some (.slice none 0 0) ∧ W.cell? ⟨b, 5, none⟩ = some (.slice none 0 0) ∧ W.cell? ⟨b, 6, none⟩ = some (.slice none 0 0)) ((refine ⟨?_, ?_, ?_, ?_, ?_, ?_, ?_⟩ <;> assumption)) ((first | (go_at_call 48; refine (HO.out _).mono ?_; intro r' V1 hh; obtain ⟨rfl, hb1⟩ := hh; have HB2 := hide (HBd.out.below hb1); have HX2 := hide (HXd.out.on hb1); obtain ⟨q0, q1, q2, q3, q4, q5, q6⟩ := HB2.out.cells; clear hb1) | (go_at_call 47; refine (HA.out _).mono ?_; intro r' V2 hh; obtain ⟨rfl, hb2⟩ := hh; have HB3 := hide (HB2.out.below hb2); have HX3 := hide (HX2.out.on hb2); obtain ⟨p0, p1, p2, p3, p4, p5, p6⟩ := HB3.out.cells; clear hb2)))
  clear k0 k1 k2 k3 k4 k5 k6 q0 q1 q2 q3 q4 q5 q6
  go_wp2_with fail
  refine (runes_a _).mono ?_
  rintro e w3 ⟨rfl, hb3⟩
  go_wp2
  go_ret
  exact ⟨rfl, by rw [HBW.out]; exact (HX3.out.on hb3).below⟩
set_option maxHeartbeats 1600000 in
set_option maxRecDepth 1000000 in
theorem fitsI (n : Int) (w : World) : Calls Try.prog 34 #[vI n] w fun e w' => e = .returned (.int .u16 0) ∧ Below w.heap.size w w' := by
  have a2 := ta_no92 105 (by decide)
  have a3 := ta_no95 105 (by decide)
  have a4 := ta_no96 105 (by decide)
  have HX0 := hide ((Fr.refl w).alloc (.cells #[.int .u8 3, .bool false, .int .i64 n, .string ⟨#[]⟩, .slice none 0 0, .slice none 0 0, .slice none 0 0] 41))
  have HB0 := hide (Box7.new w (.int .u8 3) (.bool false) (.int .i64 n) (.string ⟨#[]⟩) (.slice none 0 0) (.slice none 0 0) (.slice none 0 0))
  go_enter Try.func34, Try.ntmps34
  go_wp2_with fail
  refine (insideI _ _).mono ?_
  rintro e w1 ⟨rfl, hb⟩
  have HB1 := hide (HB0.out.below hb)
  have HX1 := hide (HX0.out.on hb)
  clear hb HB0 HX0
  generalize hbw : w.heap.size = b at *
  have HBW := hide hbw
  clear hbw
  have HBd := hide (HB1.out.below (Below.refl _ _).drew)
  obtain ⟨k0, k1, k2, k3, k4, k5, k6⟩ := HB1.out.cells
  have HO := hide (outsideI n)
  have HA := hide (alikeI n)
  have HXd := hide HX1.out.drew
  go_wp2
  go_region_held3 (fun W => W.cell? ⟨b, 0, none⟩ = some (.int .u8 3) ∧ W.cell? ⟨b, 1, none⟩ = some (.bool false) ∧ W.cell? ⟨b, 2, none⟩ = some (.int .i64 n) ∧ W.cell? ⟨b, 3, none⟩ = some (.string ⟨#[]⟩) ∧ W.cell? ⟨b, 4, none⟩ = some (.slice none 0 0) ∧ W.cell? ⟨b, 5, none⟩ = some (.slice none 0 0) ∧ W.cell? ⟨b, 6, none⟩ = some (.slice none 0 0)) ((refine ⟨?_, ?_, ?_, ?_, ?_, ?_, ?_⟩ <;> assumption)) ((first | (go_at_call 48; refine (HO.out _).mono ?_; intro r' V1 hh; obtain ⟨rfl, hb1⟩ := hh; have HB2 := hide (HBd.out.below hb1); have HX2 := hide (HXd.out.on hb1); obtain ⟨q0, q1, q2, q3, q4, q5, q6⟩ := HB2.out.cells; clear hb1) | (go_at_call 47; refine (HA.out _).mono ?_; intro r' V2 hh; obtain ⟨rfl, hb2⟩ := hh; have HB3 := hide (HB2.out.below hb2); have HX3 := hide (HX2.out.on hb2); obtain ⟨p0, p1, p2, p3, p4, p5, p6⟩ := HB3.out.cells; clear hb2)))
  clear k0 k1 k2 k3 k4 k5 k6 q0 q1 q2 q3 q4 q5 q6
  go_wp2
  go_ret
  exact ⟨rfl, by rw [HBW.out]; exact HX3.out.below⟩
end Go.Proofs.Ytegoeaofjnpehaa
