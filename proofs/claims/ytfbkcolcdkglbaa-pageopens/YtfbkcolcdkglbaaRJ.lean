/- Whether a state may be; PutMeta. -/
import Derived.Test.YtfbkcolcdkglbaaRI
namespace Go.Proofs.Ytfbkcolcdkglbaa
open Go.RowKit
set_option linter.unusedVariables false

theorem beq0 (k : Nat) : ((k : Int) == 0) = decide (k = 0) := by
  by_cases h : k = 0 <;> simp [h]
theorem may_any (m : Pg.M) (w : World) : Calls Try.prog 62 #[mv m] w fun e w' => e = .returned (.bool (decide m.May)) ∧ Below w.heap.size w w' := by
  obtain ⟨g, r, f, p, k⟩ := m
  have no : ∀ {R : Ending → World → Prop}, ¬ (Pg.M.mk g r f p k).May → (Calls Try.prog 62 #[mv ⟨g, r, f, p, k⟩] w fun e w' => e = .returned (.bool false) ∧ Below w.heap.size w w') → Calls Try.prog 62 #[mv ⟨g, r, f, p, k⟩] w fun e w' => e = .returned (.bool (decide (Pg.M.mk g r f p k).May)) ∧ Below w.heap.size w w' := by
    intro R h hc
    rw [decide_eq_false h]; exact hc
  have no := @no (fun _ _ => True)
  by_cases h1 : 1 ≤ g
  rotate_left
  · exact no (fun h => h1 h.1) (may_n1 g r f p k w (by omega))
  by_cases h2 : g ≤ 4611686018427387904
  rotate_left
  · exact no (fun h => h2 h.2.1) (may_n2 g r f p k w (by omega) (by omega))
  by_cases h3 : 2 ≤ p
  rotate_left
  · exact no (fun h => h3 h.2.2.1) (may_n3 g r f p k w (by omega) (by omega) (by omega))
  by_cases h4 : p ≤ 16384
  rotate_left
  · exact no (fun h => h4 h.2.2.2.1) (may_n4 g r f p k w (by omega) (by omega) (by omega) (by omega))
  cases h5 : Pg.stB r p with
  | false => exact no (fun h => by have := h.2.2.2.2.1; simp only at this; rw [h5] at this; cases this) (may_n5 g r f p k w (by omega) (by omega) (by omega) (by omega) h5)
  | true =>
  cases h6 : Pg.stB f p with
  | false => exact no (fun h => by have := h.2.2.2.2.2.1; simp only at this; rw [h6] at this; cases this) (may_n6 g r f p k w (by omega) (by omega) (by omega) (by omega) h5 h6)
  | true =>
  by_cases h7 : r = f
  · by_cases h0 : r = 0
    · by_cases h8 : k ≤ 4611686018427387904
      rotate_left
      · exact no (fun h => h8 h.2.2.2.2.2.2.2.1) (may_n8b g r f p k w (by omega) (by omega) (by omega) (by omega) h5 h6 (by simp [h7]) (by simp [h0]) (by omega))
      have e : decide (Pg.M.mk g r f p k).May = ((k : Int) == 0) := by
        have : (Pg.M.mk g r f p k).May ↔ k = 0 := by
          unfold Pg.M.May
          simp only
          constructor
          · intro h; exact h.2.2.2.2.2.2.2.2.2 h0
          · intro h; exact ⟨h1, h2, h3, h4, h5, h6, .inr h0, h8, ⟨fun _ => h0, fun _ => h⟩⟩
        simp [this]
        by_cases hk : k = 0 <;> simp [hk]
      rw [e]
      exact may_yb g r f p k w (by omega) (by omega) (by omega) (by omega) h5 h6 (by simp [h7]) (by simp [h0]) (by omega) _ true rfl
    · exact no (fun h => h.2.2.2.2.2.2.1.elim (fun h' => h' h7) (fun h' => h0 h')) (may_n7 g r f p k w (by omega) (by omega) (by omega) (by omega) h5 h6 (by simp [h7]) (by simp [h0]))
  · have h7' : ((r : Int) != (f : Int)) = true := by simp; omega
    by_cases h8 : k ≤ 4611686018427387904
    rotate_left
    · exact no (fun h => h8 h.2.2.2.2.2.2.2.1) (may_n8a g r f p k w (by omega) (by omega) (by omega) (by omega) h5 h6 h7' (by omega))
    have e : decide (Pg.M.mk g r f p k).May = (((k : Int) == 0) == ((r : Int) == 0)) := by
      have : (Pg.M.mk g r f p k).May ↔ (k = 0 ↔ r = 0) := by
        unfold Pg.M.May
        simp only
        constructor
        · intro h; exact h.2.2.2.2.2.2.2.2
        · intro h; exact ⟨h1, h2, h3, h4, h5, h6, .inl h7, h8, h⟩
      simp [this]
      rw [beq0, beq0]
    rw [e]
    exact may_ya g r f p k w (by omega) (by omega) (by omega) (by omega) h5 h6 h7' (by omega) _ _ rfl rfl
theorem may_yes (m : Pg.M) (w : World) (h : m.May) : Calls Try.prog 62 #[mv m] w fun e w' => e = .returned (.bool true) ∧ Below w.heap.size w w' := by
  have := may_any m w
  rwa [decide_eq_true h] at this
theorem may_no (m : Pg.M) (w : World) (h : ¬ m.May) : Calls Try.prog 62 #[mv m] w fun e w' => e = .returned (.bool false) ∧ Below w.heap.size w w' := by
  have := may_any m w
  rwa [decide_eq_false h] at this

set_option maxHeartbeats 1600000 in
set_option maxRecDepth 1000000 in
theorem put_no (m : Pg.M) (w : World) (h : ¬ m.May) : Calls Try.prog 20 #[mv m] w fun e w' => e = .returned (.tuple #[.slice none 0 0, .int .u16 80]) ∧ Below w.heap.size w w' := by
  obtain ⟨g, r, f, p, k⟩ := m
  have HM : Hid (∀ W, Calls Try.prog 62 #[.agg #[.int .u64 (g : Int), .int .u32 (r : Int), .int .u32 (f : Int), .int .u32 (p : Int), .int .u64 (k : Int)]] W fun e w' => e = .returned (.bool false) ∧ Below W.heap.size W w') := hide fun W => may_no ⟨g, r, f, p, k⟩ W h
  clear h
  unfold mv
  go_enter Try.func20, Try.ntmps20
  go_wp2_with fail
  refine (HM.out _).mono ?_
  rintro e w1 ⟨rfl, hb1⟩
  have HB1 := hide ((below_alloc w _).trans (hb1.mono (below_alloc w _).size))
  clear hb1
  go_wp2
  go_ret2
  exact ⟨rfl, HB1.out⟩

set_option maxHeartbeats 1600000 in
set_option maxRecDepth 1000000 in
theorem put_ok (m : Pg.M) (w : World) (h : m.May) : Calls Try.prog 20 #[mv m] w fun e w' => ∃ v, e = .returned (.tuple #[v, .int .u16 0]) ∧ Made w v (Pg.mt m) w' := by
  obtain ⟨g, r, f, p, k⟩ := m
  have kc := fun (w : World) (C : Array Value) (n c : Nat) => Lib.run_convert_bytes_const (P := Try.prog) w 23 5 C n c Try.underlying23 Try.underlying5
  have HM : Hid (∀ W, Calls Try.prog 62 #[.agg #[.int .u64 (g : Int), .int .u32 (r : Int), .int .u32 (f : Int), .int .u32 (p : Int), .int .u64 (k : Int)]] W fun e w' => e = .returned (.bool true) ∧ Below W.heap.size W w') := hide fun W => may_yes ⟨g, r, f, p, k⟩ W h
  obtain ⟨f1, f2, f3, f4, f5⟩ := h.fit
  simp only at f1 f2 f3 f4 f5
  have HG : Hid (Pg.mt ⟨g, r, f, p, k⟩ = Pg.sl 128 ([67, 77, 69, 84] ++ Crc.le 8 g ++ Crc.le 4 r ++ Crc.le 4 f ++ Crc.le 4 p ++ Crc.le 8 k)) := hide rfl
  have HH : Hid (Byts ([67, 77, 69, 84] ++ Crc.le 8 g ++ Crc.le 4 r ++ Crc.le 4 f ++ Crc.le 4 p ++ Crc.le 8 k)) := Pg.mh_b8 ⟨g, r, f, p, k⟩
  clear h
  generalize Pg.mt ⟨g, r, f, p, k⟩ = G at *
  unfold mv
  have HZ : Hid (∀ V, Below (w.heap.size + 1) (w.alloc (.cells #[.int .u64 (g : Int), .int .u32 (r : Int), .int .u32 (f : Int), .int .u32 (p : Int), .int .u64 (k : Int)] 64)) V → V.cell? ⟨w.heap.size, 0, none⟩ = some (.int .u64 (g : Int)) ∧ V.cell? ⟨w.heap.size, 1, none⟩ = some (.int .u32 (r : Int)) ∧ V.cell? ⟨w.heap.size, 2, none⟩ = some (.int .u32 (f : Int)) ∧ V.cell? ⟨w.heap.size, 3, none⟩ = some (.int .u32 (p : Int)) ∧ V.cell? ⟨w.heap.size, 4, none⟩ = some (.int .u64 (k : Int)) ) := by
    intro V hv
    have hb := (hv.block w.heap.size (by omega)).trans (heap_alloc_new w (.cells #[.int .u64 (g : Int), .int .u32 (r : Int), .int .u32 (f : Int), .int .u32 (p : Int), .int .u64 (k : Int)] 64))
    refine ⟨?_, ?_, ?_, ?_, ?_⟩ <;> simp [World.cell?, hb]
  have HS : Hid ((w.alloc (.cells #[.int .u64 (g : Int), .int .u32 (r : Int), .int .u32 (f : Int), .int .u32 (p : Int), .int .u64 (k : Int)] 64)).heap.size = w.heap.size + 1) := by rw [Hid]; simp
  go_enter Try.func20, Try.ntmps20
  go_wp2_with fail
  refine (HM.out _).mono ?_
  rintro e w1 ⟨rfl, hb1⟩
  have HB1 : Hid (Below (w.heap.size + 1) (w.alloc (.cells #[.int .u64 (g : Int), .int .u32 (r : Int), .int .u32 (f : Int), .int .u32 (p : Int), .int .u64 (k : Int)] 64)) w1) := by have := hb1; rwa [HS.out] at this
  clear hb1
  go_wp2_with fail
  refine (st_new 128 128 rfl _ (by omega)).mono ?_
  rintro e w2 ⟨q, rfl, hs2⟩
  have HS2 := hide hs2
  clear hs2
  go_wp2_with fail
  refine (st_raw q 128 _ 4 4 [] [67, 77, 69, 84] w1 _ (HS2.out.below (below_alloc _ _)) rfl (by intro h; cases h) (row_new _ _ _ _ rfl) (by simp) (by omega)).mono ?_
  rintro e w3 ⟨rfl, hs3⟩
  have HS3 := hide hs3
  obtain ⟨y0, y1, y2, y3, y4⟩ := HZ.out _ (HB1.out.trans (hs3.bel.mono (by have := HB1.out.size; have := HS.out; omega)))
  clear hs3 y1 y2 y3 y4
  go_wp2_with fail
  refine (st_num q 128 g 8 _ 8 rfl rfl _ w1 _ HS3.out (by omega) (by omega) (by simp)).mono ?_
  rintro e w4 ⟨rfl, hs4⟩
  have HS4 := hide hs4
  clear y0
  obtain ⟨y0, y1, y2, y3, y4⟩ := HZ.out _ (HB1.out.trans (hs4.bel.mono (by have := HB1.out.size; have := HS.out; omega)))
  clear hs4 y0 y2 y3 y4
  go_wp2_with fail
  refine (st_num q 128 r 4 _ 4 rfl rfl _ w1 _ HS4.out (by omega) (by omega) (by simp [Crc.le_length])).mono ?_
  rintro e w5 ⟨rfl, hs5⟩
  have HS5 := hide hs5
  clear y1
  obtain ⟨y0, y1, y2, y3, y4⟩ := HZ.out _ (HB1.out.trans (hs5.bel.mono (by have := HB1.out.size; have := HS.out; omega)))
  clear hs5 y0 y1 y3 y4
  go_wp2_with fail
  refine (st_num q 128 f 4 _ 4 rfl rfl _ w1 _ HS5.out (by omega) (by omega) (by simp [Crc.le_length])).mono ?_
  rintro e w6 ⟨rfl, hs6⟩
  have HS6 := hide hs6
  clear y2
  obtain ⟨y0, y1, y2, y3, y4⟩ := HZ.out _ (HB1.out.trans (hs6.bel.mono (by have := HB1.out.size; have := HS.out; omega)))
  clear hs6 y0 y1 y2 y4
  go_wp2_with fail
  refine (st_num q 128 p 4 _ 4 rfl rfl _ w1 _ HS6.out (by omega) (by omega) (by simp [Crc.le_length])).mono ?_
  rintro e w7 ⟨rfl, hs7⟩
  have HS7 := hide hs7
  clear y3
  obtain ⟨y0, y1, y2, y3, y4⟩ := HZ.out _ (HB1.out.trans (hs7.bel.mono (by have := HB1.out.size; have := HS.out; omega)))
  clear hs7 y0 y1 y2 y3
  go_wp2_with fail
  refine (st_num q 128 k 8 _ 8 rfl rfl _ w1 _ HS7.out (by omega) (by omega) (by simp [Crc.le_length])).mono ?_
  rintro e w8 ⟨rfl, hs8⟩
  have HS8 := hide hs8
  clear hs8
  go_wp2_with fail
  refine (st_seal q 128 _ w1 _ HS8.out (by simp [Crc.le_length]) (by omega) (by have := HH.out; simpa using this)).mono ?_
  rintro e w9 ⟨v, rfl, hm9⟩
  simp only [List.nil_append, List.append_assoc] at hm9 HG
  rw [← HG.out] at hm9
  have HM9 : Hid (Made w v G w9) := hide ⟨hm9.1, fun k' hk => by have h1 := hm9.2.1 k' hk; have h2 := HB1.out.size; have h3 := HS.out; omega, (below_alloc w _).trans ((HB1.out.trans (hm9.2.2.mono (by have := HB1.out.size; have := HS.out; omega))).mono (by omega))⟩
  clear hm9
  obtain ⟨a9, n9, c9, rfl, -⟩ := HM9.out.1.shape2
  go_wp2
  go_ret2
  exact ⟨_, rfl, HM9.out⟩
end Go.Proofs.Ytfbkcolcdkglbaa
