/- The document's own PutMeta; a number out of bytes. -/
import Derived.Test.YtfbkcolcdkglbaaQB
namespace Go.Proofs.Ytfbkcolcdkglbaa
open Go.RowKit
set_option linter.unusedVariables false

theorem src_cmet (w : World) : Src Try.prog 1 9 (.string ⟨#[67, 77, 69, 84]⟩) 4 (([67, 77, 69, 84] : List Int).map (Value.int .u8)) w := Src.ofString w Try.underlying9 ⟨#[67, 77, 69, 84]⟩
theorem rput_made (w0 : World) (v : Value) (n m : Nat) (mi ni : Int) (hni : ni = (n : Int)) (hmi : mi = (m : Int)) (zs : List Int) (W : World) (h : Made w0 v zs W) (hn : n < 18446744073709551616) (hm : m ≤ 100) (hb : zs.length ≤ 100000) :
    Calls Try.prog 33 #[v, .int .u64 ni, .int .i64 mi] W fun e W' => ∃ a n' c, e = .returned (.slice a n' c) ∧ Made w0 (.slice a n' c) (zs ++ Crc.le m n) W' := by
  refine (put_made w0 v n m mi ni hni hmi zs W h hn hm hb).mono ?_
  rintro e W' ⟨v', rfl, hm'⟩
  obtain ⟨a, n', c, rfl, -⟩ := hm'.1.shape2
  exact ⟨a, n', c, rfl, hm'⟩

set_option maxHeartbeats 1600000 in
set_option maxRecDepth 1000000 in
theorem rputm_no (m : Pg.M) (w : World) (h : ¬ m.May) : Calls Try.prog 21 #[mv m] w fun e w' => e = .returned (.tuple #[.slice none 0 0, .int .u16 80]) ∧ Below w.heap.size w w' := by
  obtain ⟨g, r, f, p, k⟩ := m
  have HM : Hid (∀ W, Calls Try.prog 63 #[.agg #[.int .u64 (g : Int), .int .u32 (r : Int), .int .u32 (f : Int), .int .u32 (p : Int), .int .u64 (k : Int)]] W fun e w' => e = .returned (.bool false) ∧ Below W.heap.size W w') := hide fun W => rmay_no ⟨g, r, f, p, k⟩ W h
  clear h
  unfold mv
  go_enter Try.func21, Try.ntmps21
  go_wp2_with fail
  refine (HM.out _).mono ?_
  rintro e w1 ⟨rfl, hb1⟩
  have HB1 := hide ((below_alloc w _).trans (hb1.mono (below_alloc w _).size))
  clear hb1
  go_wp2
  go_ret2
  exact ⟨rfl, HB1.out⟩

set_option maxHeartbeats 3200000 in
set_option maxRecDepth 1000000 in
theorem rputm_ok (m : Pg.M) (w : World) (h : m.May) : Calls Try.prog 21 #[mv m] w fun e w' => ∃ v, e = .returned (.tuple #[v, .int .u16 0]) ∧ Made w v (Pg.mt m) w' := by
  obtain ⟨g, r, f, p, k⟩ := m
  obtain ⟨i0, hi, hz0, hz1, hz2⟩ := info_parts Try.info5
  have HM : Hid (∀ W, Calls Try.prog 63 #[.agg #[.int .u64 (g : Int), .int .u32 (r : Int), .int .u32 (f : Int), .int .u32 (p : Int), .int .u64 (k : Int)]] W fun e w' => e = .returned (.bool true) ∧ Below W.heap.size W w') := hide fun W => rmay_yes ⟨g, r, f, p, k⟩ W h
  obtain ⟨f1, f2, f3, f4, f5⟩ := h.fit
  simp only at f1 f2 f3 f4 f5
  have HG : Hid (Pg.mt ⟨g, r, f, p, k⟩ = Pg.sl 128 ([67, 77, 69, 84] ++ Crc.le 8 g ++ Crc.le 4 r ++ Crc.le 4 f ++ Crc.le 4 p ++ Crc.le 8 k)) := hide rfl
  have HH : Hid (Byts ([67, 77, 69, 84] ++ Crc.le 8 g ++ Crc.le 4 r ++ Crc.le 4 f ++ Crc.le 4 p ++ Crc.le 8 k)) := Pg.mh_b8 ⟨g, r, f, p, k⟩
  clear h
  generalize Pg.mt ⟨g, r, f, p, k⟩ = G at *
  have HZ : Hid (∀ V, Below (w.heap.size + 1) (w.alloc (.cells #[.int .u64 (g : Int), .int .u32 (r : Int), .int .u32 (f : Int), .int .u32 (p : Int), .int .u64 (k : Int)] 64)) V → V.heap[w.heap.size]? = some (.cells #[.int .u64 (g : Int), .int .u32 (r : Int), .int .u32 (f : Int), .int .u32 (p : Int), .int .u64 (k : Int)] 64 (0, 0))) := fun V hv => (hv.block w.heap.size (by omega)).trans (heap_alloc_new w (.cells #[.int .u64 (g : Int), .int .u32 (r : Int), .int .u32 (f : Int), .int .u32 (p : Int), .int .u64 (k : Int)] 64))
  have HS : Hid ((w.alloc (.cells #[.int .u64 (g : Int), .int .u32 (r : Int), .int .u32 (f : Int), .int .u32 (p : Int), .int .u64 (k : Int)] 64)).heap.size = w.heap.size + 1) := by rw [Hid]; simp
  unfold mv
  go_enter Try.func21, Try.ntmps21
  go_wp2_with fail
  refine (HM.out _).mono ?_
  rintro e w1 ⟨rfl, hb1⟩
  have HB1 : Hid (Below (w.heap.size + 1) (w.alloc (.cells #[.int .u64 (g : Int), .int .u32 (r : Int), .int .u32 (f : Int), .int .u32 (p : Int), .int .u64 (k : Int)] 64)) w1) := by have := hb1; rwa [HS.out] at this
  have hs1 : w.heap.size + 1 ≤ w1.heap.size := by have := hb1.size; rwa [HS.out] at this
  have HL : Hid (([] : List Int).length + 4 ≤ 140737488355328) := by rw [Hid]; simp
  clear hb1
  go_wp2_with (refine wpList_append_src (by rfl) (.tmp 10) (.const (.string ⟨#[67, 77, 69, 84]⟩)) 23 9 (by rfl) i0 Try.underlying23 hi hz0 hz1 hz2 (.slice none 0 0) [] (by rfl) (Own.nil _) (.string ⟨#[67, 77, 69, 84]⟩) 4 [67, 77, 69, 84] (by rfl) (src_cmet _) HL.out ?_; intro v' w2 hown1 hg1 hf1; obtain ⟨a2, n2, c2, rfl, HN2⟩ := hown1.shape2; have HM2 := hide (Made.append (w0 := w1) ⟨Own.nil _, (by intro k hk; simp [Value.ownBlock] at hk), Below.refl _ _⟩ (Below.refl _ _) hown1 hg1 hf1); clear hown1 hg1 hf1; obtain ⟨y0, y1, y2, y3, y4⟩ := five (HZ.out _ (HB1.out.trans (HM2.out.2.2.mono hs1))); clear y1 y2 y3 y4)
  skip
  refine (rput_made w1 _ g 8 _ _ rfl rfl _ _ HM2.out (by omega) (by omega) (by simp)).mono ?_
  rintro e w3 ⟨a3, n3, c3, rfl, hm3⟩
  have HM3 := hide hm3
  clear hm3 y0
  obtain ⟨y0, y1, y2, y3, y4⟩ := five (HZ.out _ (HB1.out.trans (HM3.out.2.2.mono hs1)))
  clear y0 y2 y3 y4
  go_wp2_with fail
  refine (rput_made w1 _ r 4 _ _ rfl rfl _ _ HM3.out (by omega) (by omega) (by simp [Crc.le_length])).mono ?_
  rintro e w4 ⟨a4, n4, c4, rfl, hm4⟩
  have HM4 := hide hm4
  clear hm4 y1
  obtain ⟨y0, y1, y2, y3, y4⟩ := five (HZ.out _ (HB1.out.trans (HM4.out.2.2.mono hs1)))
  clear y0 y1 y3 y4
  go_wp2_with fail
  refine (rput_made w1 _ f 4 _ _ rfl rfl _ _ HM4.out (by omega) (by omega) (by simp [Crc.le_length])).mono ?_
  rintro e w5 ⟨a5, n5, c5, rfl, hm5⟩
  have HM5 := hide hm5
  clear hm5 y2
  obtain ⟨y0, y1, y2, y3, y4⟩ := five (HZ.out _ (HB1.out.trans (HM5.out.2.2.mono hs1)))
  clear y0 y1 y2 y4
  go_wp2_with fail
  refine (rput_made w1 _ p 4 _ _ rfl rfl _ _ HM5.out (by omega) (by omega) (by simp [Crc.le_length])).mono ?_
  rintro e w6 ⟨a6, n6, c6, rfl, hm6⟩
  have HM6 := hide hm6
  clear hm6 y3
  obtain ⟨y0, y1, y2, y3, y4⟩ := five (HZ.out _ (HB1.out.trans (HM6.out.2.2.mono hs1)))
  clear y0 y1 y2 y3
  go_wp2_with fail
  refine (rput_made w1 _ k 8 _ _ rfl rfl _ _ HM6.out (by omega) (by omega) (by simp [Crc.le_length])).mono ?_
  rintro e w7 ⟨a7, n7, c7, rfl, hm7⟩
  have HM7 := hide hm7
  clear hm7 y4
  go_wp2_with fail
  refine (filled_made w1 _ 124 _ rfl _ _ HM7.out (by have := HH.out; simpa using this) (by omega) (by simp [Crc.le_length])).mono ?_
  rintro e w9 ⟨v, rfl, hm9⟩
  simp only [List.nil_append, List.append_assoc] at hm9 HG
  rw [← HG.out] at hm9
  have HM9 : Hid (Made w v G w9) := hide ⟨hm9.1, fun k' hk => by have h1 := hm9.2.1 k' hk; omega, (below_alloc w _).trans ((HB1.out.trans (hm9.2.2.mono hs1)).mono (by omega))⟩
  clear hm9
  obtain ⟨a9, n9, c9, rfl, -⟩ := HM9.out.1.shape2
  go_wp2
  go_ret2
  exact ⟨_, rfl, HM9.out⟩

end Go.Proofs.Ytfbkcolcdkglbaa
