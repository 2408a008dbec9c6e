/- Contract of the known example. -/
import Derived.Test.YtegoeaofjnpehaaT
namespace Go.Proofs.Ytegoeaofjnpehaa
open Go.RowKit
set_option linter.unusedVariables false

theorem row_new (w : World) (zs : List Int) (cs : Array Value) (f : Nat × Nat) (h : cs = (zs.map (Value.int .u8)).toArray) : Row (w.alloc (.cells cs 5 f)) (some ⟨w.heap.size, 0, none⟩) zs := by
  refine .inr ⟨_, _, rfl, by simp, fun i hi => ?_⟩
  rw [World.cell?_alloc_mark, h]
  simp [hi]
theorem kn_new (w : World) : Kn ((w.alloc (.cells #[.int .u8 4, .bool false, .int .i64 0, .string ⟨#[97]⟩, .slice none 0 0, .slice none 0 0, .slice none 0 0, .int .u8 3, .bool false, .int .i64 1, .string ⟨#[]⟩, .slice none 0 0, .slice none 0 0, .slice none 0 0] 41)).alloc (.cells #[.bool false, .bool true] 4)) w.heap.size (w.heap.size + 1) := by
  refine ⟨(Below.heap_alloc _ _ _ (by simp)).trans (heap_alloc_new w _), ?_⟩
  have := heap_alloc_new (w.alloc (.cells #[.int .u8 4, .bool false, .int .i64 0, .string ⟨#[97]⟩, .slice none 0 0, .slice none 0 0, .slice none 0 0, .int .u8 3, .bool false, .int .i64 1, .string ⟨#[]⟩, .slice none 0 0, .slice none 0 0, .slice none 0 0] 41)) (.cells #[.bool false, .bool true] 4)
  rwa [World.size_alloc] at this
theorem kn_again {w : World} {bl bd : Nat} (h : Kn w bl bd) : Kn (w.alloc (.cells #[.bool false, .bool true] 4)) bl w.heap.size :=
  ⟨(Below.heap_alloc _ _ _ (lt_of_block h.l)).trans h.l, heap_alloc_new w _⟩

set_option maxHeartbeats 3200000 in
set_option maxRecDepth 1000000 in
theorem known_any (w : World) : Calls Try.prog 8 #[] w fun e w' => e = .returned (.bool true) ∧ Below w.heap.size w w' := by
  have HK0 := hide (kn_new w)
  have HF0 := hide (((Fr.refl w).alloc (.cells #[.int .u8 4, .bool false, .int .i64 0, .string ⟨#[97]⟩, .slice none 0 0, .slice none 0 0, .slice none 0 0, .int .u8 3, .bool false, .int .i64 1, .string ⟨#[]⟩, .slice none 0 0, .slice none 0 0, .slice none 0 0] 41)).alloc (.cells #[.bool false, .bool true] 4))
  go_enter Try.func8, Try.ntmps8
  go_wp2_with fail
  generalize (w.alloc (.cells #[.int .u8 4, .bool false, .int .i64 0, .string ⟨#[97]⟩, .slice none 0 0, .slice none 0 0, .slice none 0 0, .int .u8 3, .bool false, .int .i64 1, .string ⟨#[]⟩, .slice none 0 0, .slice none 0 0, .slice none 0 0] 41)).alloc (.cells #[.bool false, .bool true] 4) = X at *
  generalize hB : w.heap.size = B at *
  have HBB := hide hB
  clear hB
  refine (encode_known B (B + 1) X HK0.out).mono ?_
  rintro e W1 ⟨a1, c1, rfl, hown, hb⟩
  rw [kb_is] at hown
  have hcap : 13 ≤ c1 := by obtain ⟨a', c', e', hle, _⟩ := hown.shape; cases e'; exact hle
  obtain ⟨b, o, rfl⟩ : ∃ b o, a1 = some ⟨b, o, none⟩ := by
    rcases hown.row with h0 | ⟨b, o, rfl, _⟩
    · cases h0
    · exact ⟨b, o, rfl⟩
  have HR1 := hide hown.row
  have HK1 := hide (HK0.out.on hb (lt_of_block HK0.out.l) (lt_of_block HK0.out.d))
  have HF1 := hide (HF0.out.on hb)
  rw [show (k1 ++ k2).length = 13 from rfl]
  clear hown hb HK0 HF0
  go_wp2_with fail
  have HK2 := hide (kn_again HK1.out)
  have HR2 := hide (HR1.out.below (below_alloc W1 (.cells #[.bool false, .bool true] 4)))
  have HF2 := hide (HF1.out.alloc (.cells #[.bool false, .bool true] 4))
  refine (decode_known b o c1 B W1.heap.size _ HR2.out HK2.out hcap).mono ?_
  rintro e W3 ⟨v, rfl, hown, hb⟩
  obtain ⟨g, c3, rfl, hkg, hc3⟩ := kg_of hown
  have HG3 := hide hkg
  have HK3 := hide (HK2.out.on hb (lt_of_block HK2.out.l) (lt_of_block HK2.out.d))
  have HR3 := hide (HR2.out.below hb)
  have HF3 := hide (HF2.out.on hb)
  clear hown hb hkg HK1 HK2 HR1 HR2 HF1 HF2
  generalize W1.heap.size = bd at *
  go_wp2_with fail
  have HR4 := hide (HR3.out.below (below_alloc W3 (.cells #[.int .u8 1, .int .u8 255] 5)))
  have HF4 := hide (HF3.out.alloc (.cells #[.int .u8 1, .int .u8 255] 5))
  have HK4 := hide (HK3.out.on (below_alloc W3 (.cells #[.int .u8 1, .int .u8 255] 5)) (lt_of_block HK3.out.l) (lt_of_block HK3.out.d))
  have HG4 := hide (HG3.out.on (below_alloc W3 (.cells #[.int .u8 1, .int .u8 255] 5)))
  refine (after_at (some ⟨W3.heap.size, 0, none⟩) 2 2 [1, 255] 0 _ rfl (by omega) (by omega) (row_new W3 [1, 255] _ _ rfl) (by unfold Byts; decide) (by omega) (by decide) (by intro i h1 h2; obtain rfl : i = 1 := (by omega); rfl)).mono ?_
  rintro e W5 ⟨v, rfl, hown, hb⟩
  obtain ⟨a5, n5, c5, rfl, HN5⟩ := hown.own.shape2
  have hn5 : n5 = 1 := HN5.out
  subst hn5
  have HR5 := hide (HR4.out.below hb)
  have HF5 := hide (HF4.out.on hb)
  have HK5 := hide (HK4.out.on hb (lt_of_block HK4.out.l) (lt_of_block HK4.out.d))
  have HG5 := hide (HG4.out.on hb)
  have HX5 : Hid (Row W5 a5 [2]) := hown.own.row
  clear hown hb HR3 HR4 HF3 HF4 HK3 HK4 HG3 HG4
  go_wp2_with fail
  have HR6 := hide (HR5.out.below (below_alloc W5 (.cells #[.int .u8 64, .int .u8 97, .int .u8 0, .int .u8 1, .int .u8 207, .int .u8 127, .int .u8 255, .int .u8 255, .int .u8 255, .int .u8 255, .int .u8 255, .int .u8 255, .int .u8 254] 5)))
  have HF6 := hide (HF5.out.alloc (.cells #[.int .u8 64, .int .u8 97, .int .u8 0, .int .u8 1, .int .u8 207, .int .u8 127, .int .u8 255, .int .u8 255, .int .u8 255, .int .u8 255, .int .u8 255, .int .u8 255, .int .u8 254] 5))
  have HK6 := hide (HK5.out.on (below_alloc W5 (.cells #[.int .u8 64, .int .u8 97, .int .u8 0, .int .u8 1, .int .u8 207, .int .u8 127, .int .u8 255, .int .u8 255, .int .u8 255, .int .u8 255, .int .u8 255, .int .u8 255, .int .u8 254] 5)) (lt_of_block HK5.out.l) (lt_of_block HK5.out.d))
  have HG6 := hide (HG5.out.on (below_alloc W5 (.cells #[.int .u8 64, .int .u8 97, .int .u8 0, .int .u8 1, .int .u8 207, .int .u8 127, .int .u8 255, .int .u8 255, .int .u8 255, .int .u8 255, .int .u8 255, .int .u8 255, .int .u8 254] 5)))
  have HX6 := hide (HX5.out.below (below_alloc W5 (.cells #[.int .u8 64, .int .u8 97, .int .u8 0, .int .u8 1, .int .u8 207, .int .u8 127, .int .u8 255, .int .u8 255, .int .u8 255, .int .u8 255, .int .u8 255, .int .u8 255, .int .u8 254] 5)))
  refine (same_gen (some ⟨b, o, none⟩) (some ⟨W5.heap.size, 0, none⟩) 13 13 c1 13 kb kb _ rfl rfl (by omega) (by omega) HR6.out (row_new W5 kb _ _ rfl)).mono ?_
  rintro e W7 ⟨rfl, hb⟩
  have HF7 := hide (HF6.out.on hb)
  have HK7 := hide (HK6.out.on hb (lt_of_block HK6.out.l) (lt_of_block HK6.out.d))
  have HG7 := hide (HG6.out.on hb)
  have HX7 := hide (HX6.out.below hb)
  clear hb HR5 HR6 HF5 HF6 HK5 HK6 HG5 HG6 HX5 HX6
  rw [show sameB kb kb = true by decide]
  go_wp2_with fail
  refine (sames_known g c3 B bd W7 HK7.out HG7.out).mono ?_
  rintro e W8 ⟨rfl, hb⟩
  have HF8 := hide (HF7.out.on hb)
  have HX8 := hide (HX7.out.below hb)
  clear hb HF7 HK7 HG7 HX7
  go_wp2_with fail
  have HX9 := hide (HX8.out.below (below_alloc W8 (.cells #[.int .u8 2] 5)))
  have HF9 := hide (HF8.out.alloc (.cells #[.int .u8 2] 5))
  refine (same_gen a5 (some ⟨W8.heap.size, 0, none⟩) 1 1 c5 1 [2] [2] _ rfl rfl (by omega) (by omega) HX9.out (row_new W8 [2] _ _ rfl)).mono ?_
  rintro e W10 ⟨rfl, hb⟩
  have HF10 := hide (HF9.out.on hb)
  clear hb HF8 HF9 HX8 HX9
  rw [show sameB [2] [2] = true by decide]
  go_wp2
  go_ret
  exact ⟨rfl, by rw [HBB.out]; exact HF10.out.below⟩
end Go.Proofs.Ytegoeaofjnpehaa
