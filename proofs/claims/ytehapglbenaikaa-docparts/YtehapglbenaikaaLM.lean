/- Decode of any bytes. -/
import Derived.Test.YtehapglbenaikaaLL
namespace Go.Proofs.Ytehapglbenaikaa
open Go.RowKit
set_option linter.unusedVariables false

set_option maxHeartbeats 1600000 in
set_option maxRecDepth 1000000 in
theorem decode_gen (n c : Nat) (a : Option Addr) (bs : List Int) (w : World) (hl : bs.length = n) (hr : Row w a bs) (hby : Byts bs) (hbig : n ≤ 100000000) :
    Calls Try.prog 7 #[.slice a n c] w fun e w' => WhOut w.heap.size bs w e w' ∧ True := by
  have HB0 : Hid (Below w.heap.size w ((w.alloc (.cells #[.int .u8 0, .bool false, .int .i64 0, .string ⟨#[]⟩, .slice none 0 0, .slice none 0 0, .slice none 0 0] 27)).alloc (.cells #[.pointer none, .slice none 0 0, .int .u64 0] 51))) := (below_alloc w _).trans ((below_alloc _ _).mono (by simp))
  have HRB : Hid (Box7 ((w.alloc (.cells #[.int .u8 0, .bool false, .int .i64 0, .string ⟨#[]⟩, .slice none 0 0, .slice none 0 0, .slice none 0 0] 27)).alloc (.cells #[.pointer none, .slice none 0 0, .int .u64 0] 51)) w.heap.size (.int .u8 0) (.bool false) (.int .i64 0) (.string ⟨#[]⟩) (.slice none 0 0) (.slice none 0 0) (.slice none 0 0)) := (Below.heap_alloc _ _ _ (by simp)).trans (heap_alloc_new w _)
  have HQ : Hid (((w.alloc (.cells #[.int .u8 0, .bool false, .int .i64 0, .string ⟨#[]⟩, .slice none 0 0, .slice none 0 0, .slice none 0 0] 27)).alloc (.cells #[.pointer none, .slice none 0 0, .int .u64 0] 51)).heap[w.heap.size + 1]? = some (.cells #[.pointer none, .slice none 0 0, .int .u64 0] 51 (0, 0))) := by
    have := heap_alloc_new (w.alloc (.cells #[.int .u8 0, .bool false, .int .i64 0, .string ⟨#[]⟩, .slice none 0 0, .slice none 0 0, .slice none 0 0] 27)) (.cells #[.pointer none, .slice none 0 0, .int .u64 0] 51)
    rw [Hid]
    simpa using this
  have HW := hide (whole_gen (w.heap.size + 1) (w.heap.size + 1) n c a bs ((w.alloc (.cells #[.int .u8 0, .bool false, .int .i64 0, .string ⟨#[]⟩, .slice none 0 0, .slice none 0 0, .slice none 0 0] 27)).alloc (.cells #[.pointer none, .slice none 0 0, .int .u64 0] 51)) (Nat.le_refl _) HQ.out hl (hr.below HB0.out) hby hbig)
  have HS0 : Hid (((w.alloc (.cells #[.int .u8 0, .bool false, .int .i64 0, .string ⟨#[]⟩, .slice none 0 0, .slice none 0 0, .slice none 0 0] 27)).alloc (.cells #[.pointer none, .slice none 0 0, .int .u64 0] 51)).heap.size = w.heap.size + 2) := by rw [Hid]; simp
  clear hl hr hby hbig
  go_enter Try.func7, Try.ntmps7
  go_wp2_with fail
  refine HW.out.mono ?_
  rintro e W2 ⟨⟨hb2, hor⟩, -⟩
  have HB2 := hide hb2
  have HBx : Hid (Box7 W2 w.heap.size (.int .u8 0) (.bool false) (.int .i64 0) (.string ⟨#[]⟩) (.slice none 0 0) (.slice none 0 0) (.slice none 0 0)) := (hb2.block _ (by omega)).trans HRB.out
  have hs2 : w.heap.size + 2 ≤ W2.heap.size := by have := hb2.size; have := HS0.out; omega
  have HBW : Hid (Below w.heap.size w W2) := HB0.out.trans (hb2.mono (by omega))
  clear hb2 HW HRB HQ HB0
  obtain ⟨d0, d1, d2, d3, d4, d5, d6⟩ := HBx.out.cells
  have fr := HBx.out.free
  rcases hor with ⟨V, rfl, h8, hV⟩ | ⟨rfl, hno⟩
  · obtain ⟨v0, hv0, -⟩ := hV W2 (Nat.le_refl _) (fun _ _ _ => rfl)
    cases v0 with
    | mk vk vbo vn vt vya vyc vy vla vlc vl vfa vfc vf =>
    simp only [T.val] at hv0
    subst hv0
    have HV := hide hV
    clear hV
    go_wp2
    have HBz := hide (HBx.out.set7 (.int .u8 vk) (.bool vbo) (.int .i64 vn) (.string vt) (.slice vya vy.length vyc) (.slice vla vl.list.length vlc) (.slice vfa vf.list.length vfc))
    have HGz := hide (grown_set7 W2 w.heap.size (.int .u8 vk) (.bool vbo) (.int .i64 vn) (.string vt) (.slice vya vy.length vyc) (.slice vla vl.list.length vlc) (.slice vfa vf.list.length vfc))
    generalize ((((((W2.setCell ⟨w.heap.size, 0, none⟩ (.int .u8 vk)).setCell ⟨w.heap.size, 1, none⟩ (.bool vbo)).setCell ⟨w.heap.size, 2, none⟩ (.int .i64 vn)).setCell ⟨w.heap.size, 3, none⟩ (.string vt)).setCell ⟨w.heap.size, 4, none⟩ (.slice vya vy.length vyc)).setCell ⟨w.heap.size, 5, none⟩ (.slice vla vl.list.length vlc)).setCell ⟨w.heap.size, 6, none⟩ (.slice vfa vf.list.length vfc) = Wz at HBz HGz ⊢
    obtain ⟨z0, z1, z2, z3, z4, z5, z6⟩ := HBz.out.cells
    clear d0 d1 d2 d3 d4 d5 d6 fr
    refine bodyPost_ret (v := .tuple #[.agg #[.int .u8 vk, .bool vbo, .int .i64 vn, .string vt, .slice vya vy.length vyc, .slice vla vl.list.length vlc, .slice vfa vf.list.length vfc], .int .u16 0]) ?_ rfl ?_
    · simp [results, Try.results7, go_sem, z0, z1, z2, z3, z4, z5, z6]
    · refine ⟨⟨below_grown HBW.out HGz.out (Nat.le_refl _) (by omega), .inl ⟨_, rfl, h8, fun W hs ha => HV.out W (Nat.le_trans HGz.out.size hs) (fun k h1 h2 => ?_)⟩⟩, trivial⟩
      rw [ha k (by omega) (Nat.lt_of_lt_of_le h2 HGz.out.size)]
      exact HGz.out.block k h2 (fun e => by simp at e; omega)
  · have HNo := hide hno
    clear hno
    simp only [zeroT, T.val, TL.list, FL.list, List.length_nil]
    go_wp2
    have HBz := hide (HBx.out.set7 (.int .u8 0) (.bool false) (.int .i64 0) (.string ⟨#[]⟩) (.slice none 0 0) (.slice none 0 0) (.slice none 0 0))
    have HGz := hide (grown_set7 W2 w.heap.size (.int .u8 0) (.bool false) (.int .i64 0) (.string ⟨#[]⟩) (.slice none 0 0) (.slice none 0 0) (.slice none 0 0))
    generalize ((((((W2.setCell ⟨w.heap.size, 0, none⟩ (.int .u8 0)).setCell ⟨w.heap.size, 1, none⟩ (.bool false)).setCell ⟨w.heap.size, 2, none⟩ (.int .i64 0)).setCell ⟨w.heap.size, 3, none⟩ (.string ⟨#[]⟩)).setCell ⟨w.heap.size, 4, none⟩ (.slice none 0 0)).setCell ⟨w.heap.size, 5, none⟩ (.slice none 0 0)).setCell ⟨w.heap.size, 6, none⟩ (.slice none 0 0) = Wz at HBz HGz ⊢
    obtain ⟨z0, z1, z2, z3, z4, z5, z6⟩ := HBz.out.cells
    clear d0 d1 d2 d3 d4 d5 d6 fr
    refine bodyPost_ret (v := .tuple #[.agg #[.int .u8 0, .bool false, .int .i64 0, .string ⟨#[]⟩, .slice none 0 0, .slice none 0 0, .slice none 0 0], .int .u16 50]) ?_ rfl ?_
    · simp [results, Try.results7, go_sem, z0, z1, z2, z3, z4, z5, z6]
    · exact ⟨⟨below_grown HBW.out HGz.out (Nat.le_refl _) (by omega), .inr ⟨rfl, HNo.out⟩⟩, trivial⟩
end Go.Proofs.Ytehapglbenaikaa
