/- The reader of keys: values of kinds 1, 2 and 5. -/
import Derived.Test.YtegoeaofjnpehaaO
import Derived.Test.YtegoeaofjnpehaaVA
namespace Go.Proofs.Ytegoeaofjnpehaa
open Go.RowKit
set_option linter.unusedVariables false

set_option maxHeartbeats 3200000 in
set_option maxRecDepth 1000000 in
theorem value_null (p : Nat) (a : Option Addr) (cap : Nat) (bs : List Int) (i n q : Nat) (m : Int) (w : World) (hr : Rdr w p a cap bs i n q m) (hn : n < 512) :
    Calls Try.prog 32 #[.pointer (some ⟨p, 0, none⟩), .int .u8 16] w fun e w' => e = .returned (.tuple #[.agg #[.int .u8 1, .bool false, .int .i64 0, .string ⟨#[]⟩, .slice none 0 0, .slice none 0 0, .slice none 0 0], .bool true]) ∧ Rdr w' p a cap bs i (n + 1) q m ∧ w.grownBy w' (some p) := by
  have hpb := hr.lt
  have hpne : w.heap.size ≠ p := by omega
  have k2 := hr.c2
  have f2 := hr.f 2
  have HRy := hide (hr.setParts (n + 1) (by omega))
  have HGy := hide (grown_setCell w p 2 (.int .i64 ((n + 1 : Nat) : Int)))
  have k3 := HRy.out.c2
  rw [show ((n + 1 : Nat) : Int) = (n : Int) + 1 by omega] at k3 HRy HGy
  clear hr
  go_enter Try.func32, Try.ntmps32
  go_wp2
  refine bodyPost_ret (v := .tuple #[.agg #[.int .u8 1, .bool false, .int .i64 0, .string ⟨#[]⟩, .slice none 0 0, .slice none 0 0, .slice none 0 0], .bool true]) ?_ rfl ?_
  · simp [results, Try.results32, go_sem]
  · exact ⟨rfl, HRy.out.below (below_alloc _ _), grown_trans HGy.out (grown_below (below_alloc _ _))⟩
set_option maxHeartbeats 3200000 in
set_option maxRecDepth 1000000 in
theorem value_false (p : Nat) (a : Option Addr) (cap : Nat) (bs : List Int) (i n q : Nat) (m : Int) (w : World) (hr : Rdr w p a cap bs i n q m) (hn : n < 512) :
    Calls Try.prog 32 #[.pointer (some ⟨p, 0, none⟩), .int .u8 32] w fun e w' => e = .returned (.tuple #[.agg #[.int .u8 2, .bool false, .int .i64 0, .string ⟨#[]⟩, .slice none 0 0, .slice none 0 0, .slice none 0 0], .bool true]) ∧ Rdr w' p a cap bs i (n + 1) q m ∧ w.grownBy w' (some p) := by
  have hpb := hr.lt
  have hpne : w.heap.size ≠ p := by omega
  have k2 := hr.c2
  have f2 := hr.f 2
  have HRy := hide (hr.setParts (n + 1) (by omega))
  have HGy := hide (grown_setCell w p 2 (.int .i64 ((n + 1 : Nat) : Int)))
  have k3 := HRy.out.c2
  rw [show ((n + 1 : Nat) : Int) = (n : Int) + 1 by omega] at k3 HRy HGy
  clear hr
  go_enter Try.func32, Try.ntmps32
  go_wp2
  refine bodyPost_ret (v := .tuple #[.agg #[.int .u8 2, .bool false, .int .i64 0, .string ⟨#[]⟩, .slice none 0 0, .slice none 0 0, .slice none 0 0], .bool true]) ?_ rfl ?_
  · simp [results, Try.results32, go_sem]
  · exact ⟨rfl, HRy.out.below (below_alloc _ _), grown_trans HGy.out (grown_below (below_alloc _ _))⟩
set_option maxHeartbeats 3200000 in
set_option maxRecDepth 1000000 in
theorem value_true (p : Nat) (a : Option Addr) (cap : Nat) (bs : List Int) (i n q : Nat) (m : Int) (w : World) (hr : Rdr w p a cap bs i n q m) (hn : n < 512) :
    Calls Try.prog 32 #[.pointer (some ⟨p, 0, none⟩), .int .u8 33] w fun e w' => e = .returned (.tuple #[.agg #[.int .u8 2, .bool true, .int .i64 0, .string ⟨#[]⟩, .slice none 0 0, .slice none 0 0, .slice none 0 0], .bool true]) ∧ Rdr w' p a cap bs i (n + 1) q m ∧ w.grownBy w' (some p) := by
  have hpb := hr.lt
  have hpne : w.heap.size ≠ p := by omega
  have k2 := hr.c2
  have f2 := hr.f 2
  have HRy := hide (hr.setParts (n + 1) (by omega))
  have HGy := hide (grown_setCell w p 2 (.int .i64 ((n + 1 : Nat) : Int)))
  have k3 := HRy.out.c2
  rw [show ((n + 1 : Nat) : Int) = (n : Int) + 1 by omega] at k3 HRy HGy
  clear hr
  go_enter Try.func32, Try.ntmps32
  go_wp2
  refine bodyPost_ret (v := .tuple #[.agg #[.int .u8 2, .bool true, .int .i64 0, .string ⟨#[]⟩, .slice none 0 0, .slice none 0 0, .slice none 0 0], .bool true]) ?_ rfl ?_
  · simp [results, Try.results32, go_sem]
  · exact ⟨rfl, HRy.out.below (below_alloc _ _), grown_trans HGy.out (grown_below (below_alloc _ _))⟩
set_option maxHeartbeats 3200000 in
set_option maxRecDepth 1000000 in
theorem value_bytes (p : Nat) (a : Option Addr) (cap : Nat) (bs : List Int) (i n q : Nat) (m : Int) (ys rest : List Int) (w : World) (hr : Rdr w p a cap bs i n q m) (hn : n < 512) (hE : (bs.drop i).map (tn m) = esc ys ++ 0 :: 1 :: rest) (hy : Byts ys) (hl : ys.length ≤ 4000) :
    Calls Try.prog 32 #[.pointer (some ⟨p, 0, none⟩), .int .u8 80] w fun e w' => ∃ a' c', e = .returned (.tuple #[.agg #[.int .u8 5, .bool false, .int .i64 0, .string ⟨#[]⟩, .slice a' ys.length c', .slice none 0 0, .slice none 0 0], .bool true]) ∧ OwnB (w.heap.size + 1) w' (.slice a' ys.length c') ys ∧ Rdr w' p a cap bs (i + (esc ys).length + 2) (n + 1) q m ∧ w.grownBy w' (some p) := by
  have hne : bs ≠ [] := fun e => by subst e; simp at hE
  have HLo := hide (hr.low hne)
  clear hne
  have hpb := hr.lt
  have hpne : w.heap.size ≠ p := by omega
  have k2 := hr.c2
  have f2 := hr.f 2
  have HRy := hide (hr.setParts (n + 1) (by omega))
  have HGy := hide (grown_setCell w p 2 (.int .i64 ((n + 1 : Nat) : Int)))
  have k3 := HRy.out.c2
  rw [show ((n + 1 : Nat) : Int) = (n : Int) + 1 by omega] at k3 HRy HGy
  have HSz : Hid ((w.setCell ⟨p, 2, none⟩ (.int .i64 ((n : Int) + 1))).heap.size = w.heap.size) := by simp [World.setCell, Hid]
  have HB1 := hide (Box7.new (w.setCell ⟨p, 2, none⟩ (.int .i64 ((n : Int) + 1))) (.int .u8 0) (.bool false) (.int .i64 0) (.string ⟨#[]⟩) (.slice none 0 0) (.slice none 0 0) (.slice none 0 0))
  rw [HSz.out] at HB1
  have HR1 := hide (HRy.out.below (below_alloc _ (.cells #[.int .u8 0, .bool false, .int .i64 0, .string ⟨#[]⟩, .slice none 0 0, .slice none 0 0, .slice none 0 0] 41)))
  have HG1 : Hid (w.grownBy ((w.setCell ⟨p, 2, none⟩ (.int .i64 ((n : Int) + 1))).alloc (.cells #[.int .u8 0, .bool false, .int .i64 0, .string ⟨#[]⟩, .slice none 0 0, .slice none 0 0, .slice none 0 0] 41)) (some p)) := grown_trans HGy.out (grown_below (below_alloc _ _))
  have HS1 : Hid (((w.setCell ⟨p, 2, none⟩ (.int .i64 ((n : Int) + 1))).alloc (.cells #[.int .u8 0, .bool false, .int .i64 0, .string ⟨#[]⟩, .slice none 0 0, .slice none 0 0, .slice none 0 0] 41)).heap.size = w.heap.size + 1) := by simp [World.setCell, Hid]
  have HE := hide hE
  have HY := hide hy
  clear hr hE hy
  go_enter Try.func32, Try.ntmps32
  go_wp2_with fail
  clear k2 f2 k3
  generalize (w.setCell ⟨p, 2, none⟩ (.int .i64 ((n : Int) + 1))).alloc (.cells #[.int .u8 0, .bool false, .int .i64 0, .string ⟨#[]⟩, .slice none 0 0, .slice none 0 0, .slice none 0 0] 41) = X1 at *
  refine (content_in p a cap bs i (n + 1) q m ys rest X1 HR1.out HE.out HY.out hl).mono ?_
  rintro e W1 ⟨a', c', rfl, hown, hrd, hg⟩
  have HR2 := hide hrd
  have HG2 := hide (grown_trans HG1.out hg)
  have HB2 := hide (HB1.out.grown hg hpne)
  have HOw := hide hown
  obtain ⟨j0, j1, j2, j3, j4, j5, j6⟩ := HB2.out.cells
  have fr := HB2.out.free
  clear hown hrd hg
  go_wp2
  have HBz := hide (HB2.out.set7 (.int .u8 5) (.bool false) (.int .i64 0) (.string ⟨#[]⟩) (.slice a' ys.length c') (.slice none 0 0) (.slice none 0 0))
  have HGz := hide (grown_set7 W1 w.heap.size (.int .u8 5) (.bool false) (.int .i64 0) (.string ⟨#[]⟩) (.slice a' ys.length c') (.slice none 0 0) (.slice none 0 0))
  generalize ((((((W1.setCell ⟨w.heap.size, 0, none⟩ (.int .u8 5)).setCell ⟨w.heap.size, 1, none⟩ (.bool false)).setCell ⟨w.heap.size, 2, none⟩ (.int .i64 0)).setCell ⟨w.heap.size, 3, none⟩ (.string ⟨#[]⟩)).setCell ⟨w.heap.size, 4, none⟩ (.slice a' ys.length c')).setCell ⟨w.heap.size, 5, none⟩ (.slice none 0 0)).setCell ⟨w.heap.size, 6, none⟩ (.slice none 0 0) = Z at *
  obtain ⟨z0, z1, z2, z3, z4, z5, z6⟩ := HBz.out.cells
  refine bodyPost_ret (v := .tuple #[.agg #[.int .u8 5, .bool false, .int .i64 0, .string ⟨#[]⟩, .slice a' ys.length c', .slice none 0 0, .slice none 0 0], .bool true]) ?_ rfl ?_
  · simp [results, Try.results32, go_sem, z0, z1, z2, z3, z4, z5, z6]
  · have hO : OwnB (w.heap.size + 1) W1 (.slice a' ys.length c') ys := by rw [← HS1.out]; exact HOw.out
    exact ⟨a', c', rfl, hO.grown HGz.out (by omega), HR2.out.grown HLo.out HGz.out (fun k e => by cases e; exact Nat.le_refl _), grown_new HG2.out HGz.out (fun k e => by cases e; exact Nat.le_refl _)⟩
end Go.Proofs.Ytegoeaofjnpehaa
