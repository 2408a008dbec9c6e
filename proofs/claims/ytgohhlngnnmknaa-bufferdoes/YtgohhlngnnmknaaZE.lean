/- Of a buffer that is there. -/
import Derived.Test.YtgohhlngnnmknaaWM
import Derived.Lib.SlBytesConst
import Derived.Lib.ConvBytes
import Derived.Test.YtgohhlngnnmknaaZC
import Derived.Test.YtgohhlngnnmknaaPE
import Derived.Test.YtgohhlngnnmknaaDO
namespace Go.Proofs.Ytgohhlngnnmknaa
open Go.RowKit Go.Maps
set_option linter.unusedVariables false

theorem inn_const (W : World) (x : Int) (hx : 0 ≤ x ∧ x ≤ 255) : Inn (W.alloc (.cells #[.int .u8 x] 5 (1, 2))) (some ⟨W.heap.size, 0, none⟩) 1 1 [x] := by
  refine ⟨rfl, Nat.le_refl _, by omega, by (intro e; cases e), .inr ⟨W.heap.size, 0, rfl, by simp, fun i hi => ?_⟩, by intro c hc; simp at hc; omega⟩
  have hb := heap_alloc_new W (.cells #[.int .u8 x] 5 (1, 2))
  simp at hi
  subst hi
  simp only [World.cell?, hb]
  rfl
theorem St.on {w w' : World} {p B n : Nat} {es : List Ee} {hs : List (List Ee)} {O O' : Nat → Prop} (h : St w p B es n hs O) (hg : Go1 O w O' w') : Below B w w' := by
  have := h.plt
  exact hg.mv.below (by omega) fun k hk => h.ge hk
def k1 : Ee := ⟨[98], [49], false⟩
def k2 : Ee := ⟨[99], [], true⟩
def k3 : Ee := ⟨[97], [50], false⟩
theorem k123 : put (put (put [] k1) k2) k3 = [k3, k1, k2] := by rfl
def d1 : Ee := ⟨[98], [53], false⟩
def d2 : Ee := ⟨[99], [54], false⟩
def d3 : Ee := ⟨[100], [55], false⟩
theorem seen1 : firstU [k3, k1, k2] [d1, d2, d3] 100 [98] false = (some d3, 0, 98) := by rfl
theorem seen2 : firstD [k3, k1, k2] [d1, d2, d3] 98 [100] false = (some k1, 0, 96) := by rfl
/-- one more block of one byte. -/
def c1 (W : World) (x : Int) : World := W.alloc (.cells #[.int .u8 x] 5 (1, 2))
def us3 (b : Nat) : List En := [⟨d1, some ⟨b, 0, none⟩, 1, some ⟨b + 1, 0, none⟩, 1⟩, ⟨d2, some ⟨b + 1 + 1, 0, none⟩, 1, some ⟨b + 1 + 1 + 1, 0, none⟩, 1⟩, ⟨d3, some ⟨b + 1 + 1 + 1 + 1, 0, none⟩, 1, some ⟨b + 1 + 1 + 1 + 1 + 1, 0, none⟩, 1⟩]
def row3 (b : Nat) : Array Value := #[.slice (some ⟨b, 0, none⟩) 1 1, .slice (some ⟨b + 1, 0, none⟩) 1 1, .slice (some ⟨b + 1 + 1, 0, none⟩) 1 1, .slice (some ⟨b + 1 + 1 + 1, 0, none⟩) 1 1, .slice (some ⟨b + 1 + 1 + 1 + 1, 0, none⟩) 1 1, .slice (some ⟨b + 1 + 1 + 1 + 1 + 1, 0, none⟩) 1 1]
theorem c1_size (W : World) (x : Int) : (c1 W x).heap.size = W.heap.size + 1 := by simp [c1]
theorem c1_below (W : World) (x : Int) : Below W.heap.size W (c1 W x) := below_alloc _ _
/-- the pairs of known, and what lies below, laid. -/
def CH (W : World) : World := ((c1 (c1 (c1 (c1 (c1 (c1 W 98) 53) 99) 54) 100) 55).alloc (.cells (row3 W.heap.size) 74)).alloc (.cells #[.slice (some ⟨W.heap.size + 1 + 1 + 1 + 1 + 1 + 1, 0, none⟩) 3 3, .int .i64 100] 76)
theorem laid3 (W : World) : Bl (CH W) (W.heap.size + 1 + 1 + 1 + 1 + 1 + 1 + 1) (some ⟨W.heap.size + 1 + 1 + 1 + 1 + 1 + 1, 0, none⟩) 3 3 (us3 W.heap.size) 100 ∧ Below W.heap.size W (CH W) := by
  unfold CH
  obtain ⟨W1, h1⟩ : ∃ W1, W1 = c1 W 98 := ⟨_, rfl⟩
  obtain ⟨W2, h2⟩ : ∃ W2, W2 = c1 W1 53 := ⟨_, rfl⟩
  obtain ⟨W3, h3⟩ : ∃ W3, W3 = c1 W2 99 := ⟨_, rfl⟩
  obtain ⟨W4, h4⟩ : ∃ W4, W4 = c1 W3 54 := ⟨_, rfl⟩
  obtain ⟨W5, h5⟩ : ∃ W5, W5 = c1 W4 100 := ⟨_, rfl⟩
  obtain ⟨W6, h6⟩ : ∃ W6, W6 = c1 W5 55 := ⟨_, rfl⟩
  rw [← h1, ← h2, ← h3, ← h4, ← h5, ← h6]
  have s1 : W1.heap.size = W.heap.size + 1 := by rw [h1, c1_size]
  have s2 : W2.heap.size = W.heap.size + 1 + 1 := by rw [h2, c1_size, s1]
  have s3 : W3.heap.size = W.heap.size + 1 + 1 + 1 := by rw [h3, c1_size, s2]
  have s4 : W4.heap.size = W.heap.size + 1 + 1 + 1 + 1 := by rw [h4, c1_size, s3]
  have s5 : W5.heap.size = W.heap.size + 1 + 1 + 1 + 1 + 1 := by rw [h5, c1_size, s4]
  have s6 : W6.heap.size = W.heap.size + 1 + 1 + 1 + 1 + 1 + 1 := by rw [h6, c1_size, s5]
  have b1 : Below W.heap.size W W1 := by rw [h1]; exact c1_below _ _
  have b2 : Below W1.heap.size W1 W2 := by rw [h2]; exact c1_below _ _
  have b3 : Below W2.heap.size W2 W3 := by rw [h3]; exact c1_below _ _
  have b4 : Below W3.heap.size W3 W4 := by rw [h4]; exact c1_below _ _
  have b5 : Below W4.heap.size W4 W5 := by rw [h5]; exact c1_below _ _
  have b6 : Below W5.heap.size W5 W6 := by rw [h6]; exact c1_below _ _
  have i1 : Inn W6 (some ⟨W.heap.size, 0, none⟩) 1 1 [98] := by
    have : Inn W1 (some ⟨W.heap.size, 0, none⟩) 1 1 [98] := by rw [h1]; exact inn_const W 98 (by omega)
    exact ((((this.below b2).below b3).below b4).below b5).below b6
  have i2 : Inn W6 (some ⟨W.heap.size + 1, 0, none⟩) 1 1 [53] := by
    have : Inn W2 (some ⟨W1.heap.size, 0, none⟩) 1 1 [53] := by rw [h2]; exact inn_const W1 53 (by omega)
    rw [s1] at this
    exact (((this.below b3).below b4).below b5).below b6
  have i3 : Inn W6 (some ⟨W.heap.size + 1 + 1, 0, none⟩) 1 1 [99] := by
    have : Inn W3 (some ⟨W2.heap.size, 0, none⟩) 1 1 [99] := by rw [h3]; exact inn_const W2 99 (by omega)
    rw [s2] at this
    exact ((this.below b4).below b5).below b6
  have i4 : Inn W6 (some ⟨W.heap.size + 1 + 1 + 1, 0, none⟩) 1 1 [54] := by
    have : Inn W4 (some ⟨W3.heap.size, 0, none⟩) 1 1 [54] := by rw [h4]; exact inn_const W3 54 (by omega)
    rw [s3] at this
    exact (this.below b5).below b6
  have i5 : Inn W6 (some ⟨W.heap.size + 1 + 1 + 1 + 1, 0, none⟩) 1 1 [100] := by
    have : Inn W5 (some ⟨W4.heap.size, 0, none⟩) 1 1 [100] := by rw [h5]; exact inn_const W4 100 (by omega)
    rw [s4] at this
    exact this.below b6
  have i6 : Inn W6 (some ⟨W.heap.size + 1 + 1 + 1 + 1 + 1, 0, none⟩) 1 1 [55] := by
    have : Inn W6 (some ⟨W5.heap.size, 0, none⟩) 1 1 [55] := by rw [h6]; exact inn_const W5 55 (by omega)
    rw [s5] at this
    exact this
  have b7 := below_alloc W6 (.cells (row3 W.heap.size) 74)
  have s7 : (W6.alloc (.cells (row3 W.heap.size) 74)).heap.size = W.heap.size + 1 + 1 + 1 + 1 + 1 + 1 + 1 := by simp [s6]
  have b8 := below_alloc (W6.alloc (.cells (row3 W.heap.size) 74)) (.cells #[.slice (some ⟨W.heap.size + 1 + 1 + 1 + 1 + 1 + 1, 0, none⟩) 3 3, .int .i64 100] 76)
  have hbW : Below W.heap.size W W6 := ((((b1.trans (b2.mono (by omega))).trans (b3.mono (by omega))).trans (b4.mono (by omega))).trans (b5.mono (by omega))).trans (b6.mono (by omega))
  have hrow := heap_alloc_new W6 (.cells (row3 W.heap.size) 74)
  rw [s6] at hrow
  have hbox := heap_alloc_new (W6.alloc (.cells (row3 W.heap.size) 74)) (.cells #[.slice (some ⟨W.heap.size + 1 + 1 + 1 + 1 + 1 + 1, 0, none⟩) 3 3, .int .i64 100] 76)
  rw [s7] at hbox
  refine ⟨⟨hbox, _, ⟨rfl, by (intro e; cases e), Nat.le_refl _, by omega, .inr ⟨W.heap.size + 1 + 1 + 1 + 1 + 1 + 1, 0, rfl, by rw [s7]; omega, fun k x hx => ?_⟩, fun x hx => ?_⟩, by rw [s7]; exact Nat.le_refl _, b8⟩, (hbW.trans (b7.mono (by omega))).trans (b8.mono (by omega))⟩
  · simp only [World.cell?, hrow]
    match k, hx with
    | 0, hx => simp [us3] at hx; subst hx; exact ⟨rfl, rfl⟩
    | 1, hx => simp [us3] at hx; subst hx; exact ⟨rfl, rfl⟩
    | 2, hx => simp [us3] at hx; subst hx; exact ⟨rfl, rfl⟩
    | k + 3, hx => simp [us3] at hx
  · simp [us3] at hx
    rcases hx with rfl | rfl | rfl
    · exact ⟨i1.below b7, i2.below b7⟩
    · exact ⟨i3.below b7, i4.below b7⟩
    · exact ⟨i5.below b7, i6.below b7⟩
theorem CH_size (W : World) : (CH W).heap.size = W.heap.size + 1 + 1 + 1 + 1 + 1 + 1 + 1 + 1 := by simp [CH, c1]
set_option maxHeartbeats 800000 in
theorem len_in {w : World} {p B : Nat} {sv uv : Value} {xs : List En} {us : List Value} (h : Bf w p B sv uv xs us) : Calls Try.prog 20 #[.pointer (some ⟨p, 0, none⟩)] w fun e w' => e = .returned (.int .i64 (xs.length : Int)) ∧ w' = w := by
  obtain ⟨a, c, rfl, _⟩ := row_shape h.said
  obtain ⟨c0, c1, f0⟩ := cells_two h.blk
  clear h
  generalize xs.length = m at *
  go_enter Try.func20, Try.ntmps20
  go_wp2
  go_ret
  exact ⟨rfl, rfl⟩
set_option maxHeartbeats 800000 in
theorem mark_in {w : World} {p B : Nat} {sv uv : Value} {xs : List En} {us : List Value} (h : Bf w p B sv uv xs us) : Calls Try.prog 21 #[.pointer (some ⟨p, 0, none⟩)] w fun e w' => e = .returned (.int .i64 (us.length : Int)) ∧ w' = w := by
  obtain ⟨a, c, rfl, _⟩ := row_shape h.undo
  obtain ⟨c0, c1, f0⟩ := cells_two h.blk
  clear h
  generalize us.length = m at *
  go_enter Try.func21, Try.ntmps21
  go_wp2
  go_ret
  exact ⟨rfl, rfl⟩
end Go.Proofs.Ytgohhlngnnmknaa
/- Of a buffer that is there: the walk. -/
namespace Go.Proofs.Ytgohhlngnnmknaa
open Go.RowKit Go.Maps
set_option linter.unusedVariables false

/-- what is turned lies above. -/
theorem mv_low {w w1 w2 : World} {q : Nat} (hm : Mv (fun k => k = q) w1 w2) (hb : Below w.heap.size w w1) (hq : w.heap.size ≤ q) : Below w.heap.size w w2 :=
  ⟨hm.os.trans hb.os, hm.tape.trans hb.tape, hm.output.trans hb.output, Nat.le_trans hb.size hm.size, fun k hk => (hm.block k (Nat.lt_of_lt_of_le hk hb.size) (by omega)).trans (hb.block k hk)⟩
set_option maxHeartbeats 12800000 in
set_option maxRecDepth 1000000 in
theorem known_any (w : World) : Calls Try.prog 6 #[] w fun e w' => e = .returned (.bool true) ∧ Below w.heap.size w w' := by
  have kc := fun (w : World) (C : Array Value) (n c : Nat) => Lib.run_convert_bytes_const (P := Try.prog) w 60 5 C n c Try.underlying60 Try.underlying5
  have kc1 : ∀ (W : World) (b n c : Nat) (C : Array Value), b = W.heap.size → (convert 60 60 (.slice (some ⟨b, 0, none⟩) n c)).run Try.prog (W.alloc (.cells C 5)) = .ok (.slice (some ⟨b, 0, none⟩) n c) (W.alloc (.cells C 5 (C.size, C.size + 1))) := fun W b n c C e => by subst e; exact kc W C n c
  have hmf : ∀ (fn : Fn) (first cap : Array Value) (w : World), (Instr.makeFunc fn first cap).run Try.prog w = .ok (.func fn first cap) w := fun _ _ _ _ => rfl
  go_enter Try.func6, Try.ntmps6
  go_wp2_with fail
  refine (new_any w).mono ?_
  rintro e w1 ⟨rfl, hst1, hb1, hl1⟩
  have HST1 := hide hst1
  have HB1 := hide hb1
  clear hst1 hb1
  go_wp2_with fail
  have hx1 := (c1_below w1 98).trans ((c1_below (c1 w1 98) 49).mono (by rw [c1_size]; omega))
  refine (put_any (HST1.out.below hx1) (some ⟨w1.heap.size, 0, none⟩) (some ⟨w1.heap.size + 1, 0, none⟩) 1 1 1 1 [98] [49] ((inn_const w1 98 (by omega)).below (c1_below _ _)) (by have := inn_const (c1 w1 98) 49 (by omega); rwa [c1_size] at this) (by omega) (by omega) (by omega) (by simp)).mono ?_
  rintro e w2 ⟨rfl, O2, hst2, hgo2⟩
  have HST2 := hide hst2
  have HB2 := hide ((HB1.out.trans (hx1.mono HB1.out.size)).trans ((HST1.out.below hx1).on hgo2))
  clear hst2 hgo2 hx1
  go_wp2_with fail
  have hx2 := c1_below w2 99
  refine (delete_key (HST2.out.below hx2) (some ⟨w2.heap.size, 0, none⟩) 1 1 [99] (inn_const w2 99 (by omega)) (by omega) (by omega) (by have := (put_len [] k1).1; simp at this; unfold k1 at this; omega)).mono ?_
  rintro e w3 ⟨rfl, O3, hst3, hgo3⟩
  have HST3 := hide hst3
  have HB3 := hide ((HB2.out.trans (hx2.mono HB2.out.size)).trans ((HST2.out.below hx2).on hgo3))
  clear hst3 hgo3 hx2
  go_wp2_with fail
  have hx3 := (c1_below w3 97).trans ((c1_below (c1 w3 97) 50).mono (by rw [c1_size]; omega))
  refine (put_any (HST3.out.below hx3) (some ⟨w3.heap.size, 0, none⟩) (some ⟨w3.heap.size + 1, 0, none⟩) 1 1 1 1 [97] [50] ((inn_const w3 97 (by omega)).below (c1_below _ _)) (by have := inn_const (c1 w3 97) 50 (by omega); rwa [c1_size] at this) (by omega) (by omega) (by omega) (by have := (put_len (put [] k1) k2).1; have := (put_len [] k1).1; simp at *; unfold k1 k2 at *; omega)).mono ?_
  rintro e w4 ⟨rfl, O4, hst4, hgo4⟩
  have hst4' : St w4 w.heap.size w.heap.size [k3, k1, k2] 3 ([] ++ [[]] ++ [put [] k1] ++ [put (put [] k1) k2]) O4 := hst4
  have HST4 := hide hst4'
  have HB4 := hide ((HB3.out.trans (hx3.mono HB3.out.size)).trans ((HST3.out.below hx3).on hgo4))
  clear hst4 hgo4 hx3 hst4'
  go_wp2_with fail
  obtain ⟨sv, uv, xs, vs, hh, hbh, hers, hlen, -, -, hris, -⟩ := HST4.out
  obtain ⟨hbl, hbw⟩ := laid3 w4
  have hxl : xs.length = 3 := by have := congrArg List.length hers; rw [ers_len] at this; exact this
  have hw : ∀ x ∈ xs, x.e.key.length ≤ 140737488351232 ∧ x.e.val.length ≤ 140737488351232 := fun x hx => by
    have : x.e ∈ ers xs := List.mem_map.2 ⟨x, hx, rfl⟩
    rw [hers] at this
    simp only [List.mem_cons, List.not_mem_nil, or_false] at this
    rcases this with h | h | h <;> rw [h] <;> decide
  have hus : ∀ x ∈ us3 w4.heap.size, x.e.key.length ≤ 140737488351232 ∧ x.e.val.length ≤ 140737488351232 := fun x hx => by
    simp only [us3, List.mem_cons, List.not_mem_nil, or_false] at hx
    rcases hx with h | h | h <;> rw [h] <;> exact ⟨Nat.le_of_ble_eq_true rfl, Nat.le_of_ble_eq_true rfl⟩
  have hris' : Ris (ers xs) := by rw [hers]; exact hris
  have hc8 := c1_below (CH w4) 98
  have hf8 := (hbh.bf.below hbw).below hc8
  have hq8 : w4.heap.size + 1 + 1 + 1 + 1 + 1 + 1 + 1 < (CH w4).heap.size := lt_of_block hbl.blk
  have hbl8 := hbl.low hc8 hq8 (Nat.le_refl _)
  have HB8 := hide ((HB4.out.trans (hbw.mono HB4.out.size)).trans (hc8.mono (Nat.le_trans HB4.out.size hbw.size)))
  refine (seenU_any hf8 hris' hbl8 (by omega) (some ⟨w4.heap.size + 1 + 1 + 1 + 1 + 1 + 1 + 1 + 1, 0, none⟩) 1 1 [98] false (by have := inn_const (CH w4) 98 (by omega); rwa [CH_size] at this) (by omega) (by omega) (by omega) hw hus (some d3, 0, 98) (by rw [hers]; exact seen1.symm)).mono ?_
  rintro e w5 ⟨y, rfl, hy1, hy2, hyo, hm5, hbl5⟩
  have hf5 := hf8.mvq hbl8.blk hm5
  have HB5 := hide (mv_low hm5 HB8.out (by have := HB4.out.size; omega))
  have HF5 := hide hf5
  have HBL5 := hide hbl5
  have HY5 := hide hyo
  have HY1 := hide hy1
  have Hris := hide hris'
  have HW := hide hw
  have HUS := hide hus
  have HErs := hide hers
  have HLen := hide hlen
  have hq5 : w4.heap.size + 1 + 1 + 1 + 1 + 1 + 1 + 1 < w5.heap.size := lt_of_block hbl5.blk
  have hb45 : w4.heap.size ≤ w5.heap.size := by omega
  have Hwx := hide HB4.out.size
  clear hbl hbw hw hus hris hris' hc8 hf8 hbl8 hy1 hy2 hyo hm5 hbl5 hf5 hbh hers hlen hq8
  go_wp2_with fail
  have hx5 : Below w5.heap.size w5 ((w5.alloc (.cells #[.slice y.ka y.e.key.length y.kc, .slice y.va y.e.val.length y.vc] 74)).alloc (.cells #[.int .u8 100] 5 (1, 2))) := two_alloc _ _
  have hbl6 := HBL5.out.low hx5 hq5 (Nat.le_refl _)
  have hf6 := HF5.out.below hx5
  have hpy : ((w5.alloc (.cells #[.slice y.ka y.e.key.length y.kc, .slice y.va y.e.val.length y.vc] 74)).alloc (.cells #[.int .u8 100] 5 (1, 2))).heap[w5.heap.size]? = some (.cells #[.slice y.ka y.e.key.length y.kc, .slice y.va y.e.val.length y.vc] 74 (0, 0)) := (Below.heap_alloc _ _ _ (by simp)).trans (heap_alloc_new w5 _)
  refine (seenD_any hf6 Hris.out hbl6 (by omega) (some ⟨w5.heap.size + 1, 0, none⟩) 1 1 [100] false (by have := inn_const (w5.alloc (.cells #[.slice y.ka y.e.key.length y.kc, .slice y.va y.e.val.length y.vc] 74)) 100 (by omega); rwa [World.size_alloc] at this) (by omega) (by omega) (by omega) HW.out HUS.out (some k1, 0, 96) (by rw [HErs.out]; exact seen2.symm)).mono ?_
  rintro e w6 ⟨z, rfl, hz1, hz2, hzo, hm6, hbl7⟩
  have hpy6 := (hm6.block _ (lt_of_block hpy) (by omega)).trans hpy
  have hf7 := hf6.mvq hbl6.blk hm6
  have hik := inn_mv hbl6.blk (HY5.out.ok.below hx5).key hm6
  have hb7 := below_alloc w6 (.cells #[.slice z.ka z.e.key.length z.kc, .slice z.va z.e.val.length z.vc] 74)
  have HB7 := hide ((mv_low hm6 (HB5.out.trans (hx5.mono HB5.out.size)) (by have := Hwx.out; omega)).trans (hb7.mono (by have := HB5.out.size; have := hm6.size; simp at this; omega)))
  have hpy7 := (hb7.block _ (lt_of_block hpy6)).trans hpy6
  obtain ⟨p0, p1, -⟩ := cells_two hpy7
  have hf8 := hf7.below hb7
  have hL := len_in hf8
  have hM := mark_in hf8
  have hlen := HLen.out
  rw [hxl] at hL
  rw [hlen] at hM
  have ty := text_inn (hik.below hb7)
  have tz := text_inn (hzo.ok.val.below hb7)
  have ey : y.e.key = [100] := HY1.out
  have ez : z.e.val = [49] := hz2
  have t1 : bk y.e.key = ⟨#[100]⟩ := by rw [ey]; rfl
  have t2 : bk z.e.val = ⟨#[49]⟩ := by rw [ez]; rfl
  have HL := hide hL
  have HM := hide hM
  rw [t1] at ty
  rw [t2] at tz
  have q1 : ((⟨#[100]⟩ : ByteArray).toList == (⟨#[100]⟩ : ByteArray).toList) = true := beq_self_eq_true _
  have q2 : ((⟨#[49]⟩ : ByteArray).toList == (⟨#[49]⟩ : ByteArray).toList) = true := beq_self_eq_true _
  clear hx5 hbl6 hf6 hpy hz1 hz2 hzo hm6 hbl7 hpy6 hf7 hik hb7 hpy7 hf8 hL hM hlen ey ez t1 t2
  go_wp2_with (first | (go_at_call 20; refine HL.out.mono ?_; rintro e w7 ⟨rfl, rfl⟩) | (go_at_call 21; refine HM.out.mono ?_; rintro e w8 ⟨rfl, rfl⟩) | fail)
  go_ret
  exact ⟨rfl, HB7.out⟩
end Go.Proofs.Ytgohhlngnnmknaa
/- What is seen above what lies below, told of the three of them. -/
namespace Go.Proofs.Ytgohhlngnnmknaa
open Go.RowKit Go.Maps
set_option linter.unusedVariables false

theorem kp_len (e : Ee) : (kp e).length ≤ 1 := by unfold kp; split <;> simp
theorem mg_len (es us : List Ee) : (mg es us).length ≤ es.length + us.length := by
  fun_induction mg es us with
  | case1 us => simp
  | case2 e es ih => have := kp_len e; simp only [List.length_append, List.length_cons, List.length_nil] at *; omega
  | case3 e es u us hlt ih => simp only [List.length_cons] at *; omega
  | case4 e es u us hlt ih =>
    have := kp_len e
    simp only [List.length_append, List.length_cons] at *
    have h2 : (if h : u.key = e.key then us else u :: us).length ≤ us.length + 1 := by split <;> simp
    simp only [dite_eq_ite] at *
    omega
theorem Bl.make {w5 W : World} {q n c wr : Nat} {a : Option Addr} {us : List En} (h : Prs w5 a n c us) (hb : Below w5.heap.size w5 W) (hq : w5.heap.size ≤ q) (hc : W.heap[q]? = some (.cells #[.slice a n c, .int .i64 (wr : Int)] 76 (0, 0))) : Bl W q a n c us wr := ⟨hc, w5, h, hq, hb⟩
/-- what a step answers, of its own. -/
def StepOwn (W : World) (o : Option Ee) (r : Ending) (w' : World) : Prop := ∃ y : En, r = .returned (.tuple #[.agg #[.slice y.ka y.e.key.length y.kc, .slice y.va y.e.val.length y.vc], .bool o.isSome, .int .u16 0]) ∧ y.e.key = (o.getD zeE).key ∧ y.e.val = (o.getD zeE).val ∧ y.Own W.heap.size w' ∧ Below W.heap.size W w'
theorem step_own {W : World} {q n c : Nat} {a : Option Addr} {us : List En} {R : Option Ee × Nat × Nat} {o : Option Ee} {r : Ending} {w' : World} {x : Obj} (h1 : R.1 = o) (h2 : R.2.1 = 0) (hq : q = W.heap.size) (h : FirstOut (W.alloc x) q a n c us R r w') : StepOwn W o r w' := by
  obtain ⟨y, e, k, v, ho, hm, -⟩ := h
  subst hq
  rw [h1] at e k v
  rw [h2] at e
  exact ⟨y, e, k, v, ho.mono (below_alloc W x).size, mv_low hm (below_alloc W x) (Nat.le_refl _)⟩
section
variable {B0 N : Nat} {X : Nat → Prop} {w w0 w' : World} {p : Nat} {Lb Lr : List Ee} {pr q : Nat} {a : Option Addr} {n c : Nat} {us : List En}
theorem Dn.seenU_any (h : Dn B0 N X w p Lb Lr pr q) (hN : N ≤ 900) (hu : Prs w a n c us) (hru : Ris (ers us)) (hn : n ≤ 1000) (hs : ∀ u ∈ us, Esm u.e) (fa : Option Addr) (fn fc : Nat) (frm : List Int) (inn : Bool) (hf : Inn w fa fn fc frm) (hfl : fn ≤ 140737488351232) :
    Calls Try.prog 16 #[.pointer (some ⟨p, 0, none⟩), .func (.func 17) #[.pointer (some ⟨w.heap.size, 0, none⟩)] #[], .slice fa fn fc, .bool inn] (w.alloc (.cells #[.slice a n c, .int .i64 1000000] 76)) (StepOwn w (nxU (mg (Lb.foldl put []) (ers us)) frm inn)) := by
  obtain ⟨e1, e2, e3⟩ := h.fold
  obtain ⟨hs', O, E, v, ys, f, n0, A0, C0, Z0, n1, A1, C1, Z1, n2, A2, C2, Z2, g1, g2⟩ := h
  obtain ⟨sv, uv, xs, vs, hh, b1, b2, b3, b4, b5, b6, b7⟩ := g1.b
  rw [← b2] at e1 e2 e3 ⊢
  rw [ers_len] at e1
  obtain ⟨h1, h2⟩ := seenU_is e3 hru (k := 1000000) (by rw [ers_len, hu.len]; omega) frm inn
  refine (Go.Proofs.Ytgohhlngnnmknaa.seenU_any (b1.bf.below (below_alloc w _)) e3 (Bl.make (wr := 1000000) hu (below_alloc w _) (Nat.le_refl _) (heap_alloc_new w _)) (by omega) fa fn fc frm inn (hf.below (below_alloc w _)) hfl (by omega) (by omega) (fun x hx => e2 x.e (List.mem_map.2 ⟨x, hx, rfl⟩)) hs (firstU (ers xs) (ers us) 1000000 frm inn) rfl).mono ?_
  intro r w' h
  exact step_own h1 h2 rfl h
theorem Dn.seenD_any (h : Dn B0 N X w p Lb Lr pr q) (hN : N ≤ 900) (hu : Prs w a n c us) (hru : Ris (ers us)) (hn : n ≤ 1000) (hs : ∀ u ∈ us, Esm u.e) (fa : Option Addr) (fn fc : Nat) (frm : List Int) (inn : Bool) (hf : Inn w fa fn fc frm) (hfl : fn ≤ 140737488351232) :
    Calls Try.prog 18 #[.pointer (some ⟨p, 0, none⟩), .func (.func 19) #[.pointer (some ⟨w.heap.size, 0, none⟩)] #[], .slice fa fn fc, .bool inn] (w.alloc (.cells #[.slice a n c, .int .i64 1000000] 76)) (StepOwn w (nxD (mg (Lb.foldl put []) (ers us)) frm inn)) := by
  obtain ⟨e1, e2, e3⟩ := h.fold
  obtain ⟨hs', O, E, v, ys, f, n0, A0, C0, Z0, n1, A1, C1, Z1, n2, A2, C2, Z2, g1, g2⟩ := h
  obtain ⟨sv, uv, xs, vs, hh, b1, b2, b3, b4, b5, b6, b7⟩ := g1.b
  rw [← b2] at e1 e2 e3 ⊢
  rw [ers_len] at e1
  obtain ⟨h1, h2⟩ := seenD_is e3 hru (k := 1000000) (by rw [ers_len, hu.len]; omega) frm inn
  refine (Go.Proofs.Ytgohhlngnnmknaa.seenD_any (b1.bf.below (below_alloc w _)) e3 (Bl.make (wr := 1000000) hu (below_alloc w _) (Nat.le_refl _) (heap_alloc_new w _)) (by omega) fa fn fc frm inn (hf.below (below_alloc w _)) hfl (by omega) (by omega) (fun x hx => e2 x.e (List.mem_map.2 ⟨x, hx, rfl⟩)) hs (firstD (ers xs) (ers us) 1000000 frm inn) rfl).mono ?_
  intro r w' h
  exact step_own h1 h2 rfl h
theorem Dn.rseen_any (h : Dn B0 N X w p Lb Lr pr q) (hN : N ≤ 900) (hu : Prs w a n c us) (hn : n ≤ 1000) (huu : ∀ y ∈ us, EnU B0 y w) :
    Calls Try.prog 23 #[.pointer (some ⟨pr, 0, none⟩), .slice a n c] w fun r w' => ∃ b m d vs, r = .returned (.slice b m d) ∧ Prs w' b m d vs ∧ m ≤ 10000 ∧ ers vs = mg (Lr.foldl put []) (ers us) ∧ (∀ y ∈ vs, EnU B0 y w') ∧ Below w.heap.size w w' := by
  have hl := h.len
  obtain ⟨ar, cr, ys, h1, h2, h3, h4⟩ := h.ref
  refine (Go.Proofs.Ytgohhlngnnmknaa.rseen_any h1 h2 (by omega) hu (by omega)).mono ?_
  rintro r w' ⟨W0, v, m, vs, rfl, hb, hr, he, hs⟩
  obtain ⟨b, d, rfl, hp⟩ := hr.prs
  rw [h3] at he
  refine ⟨b, m, d, vs, rfl, hp, ?_, he, fun y hy => ((hs y hy).elim (h4 y) (huu y)).below (hb.trans (hr.on.mono hb.size)), hb.trans (hr.on.mono hb.size)⟩
  have e1 := mg_len (Lr.foldl put []) (ers us)
  have e2 := len_fold Lr []
  rw [← he, ers_len, ers_len, hp.len, hu.len] at e1
  simp only [List.length_nil] at e2
  omega
theorem Dn.rchanges_any (h : Dn B0 N X w p Lb Lr pr q) (hN : N ≤ 900) :
    Calls Try.prog 12 #[.pointer (some ⟨pr, 0, none⟩)] w fun r w' => ∃ b d ys, r = .returned (.slice b (Lr.foldl put []).length d) ∧ Ens w' b (Lr.foldl put []).length d ys ∧ ers ys = Lr.foldl put [] ∧ Below w.heap.size w w' := by
  have hl := h.len
  obtain ⟨ar, cr, ys, h1, h2, h3, h4⟩ := h.ref
  refine (Go.Proofs.Ytgohhlngnnmknaa.rchanges_any h1 h2 (by omega)).mono ?_
  rintro r w' ⟨v, m, vs, rfl, hr⟩
  have hi := hr.is
  rw [h3, List.take_of_length_le (Nat.le_refl _)] at hi
  obtain ⟨b, d, rfl, he⟩ := hr.ens h2
  have hm : m = (Lr.foldl put []).length := by rw [← hi, ers_len, he.len]
  subst hm
  exact ⟨b, d, vs, rfl, he, hi, hr.below⟩
theorem Dn.changes_any (h : Dn B0 N X w p Lb Lr pr q) (hN : N ≤ 900) :
    Calls Try.prog 9 #[.pointer (some ⟨p, 0, none⟩)] w fun e w' => ∃ ys, e = .returned (.slice (some ⟨w.heap.size, 0, none⟩) (Lb.foldl put []).length (Lb.foldl put []).length) ∧ ers ys = Lb.foldl put [] ∧ Cl w.heap.size w' (.slice (some ⟨w.heap.size, 0, none⟩) (Lb.foldl put []).length (Lb.foldl put []).length) ys ∧ Below w.heap.size w w' := by
  obtain ⟨e1, e2, e3⟩ := h.fold
  obtain ⟨hs', O, E, v, ys, f, n0, A0, C0, Z0, n1, A1, C1, Z1, n2, A2, C2, Z2, g1, g2⟩ := h
  exact changes_st g1.b.st (by omega) e2
theorem Dn.own_any (h : Dn B0 N X w p Lb Lr pr q) (hN : N ≤ 900) :
    Calls Try.prog 13 #[.pointer (some ⟨q, 0, none⟩)] w fun r w' => r = .returned (.bool true) ∧ Below B0 w w' := by
  obtain ⟨hs', O, E, v, ys, f, n0, A0, C0, Z0, n1, A1, C1, Z1, n2, A2, C2, Z2, g1, g2, g3, g4, g5, g6⟩ := h
  refine (Bd.bookOwn_any q f n0 A0 C0 Z0 n1 A1 C1 Z1 n2 A2 C2 Z2 w g1.k (by omega) (by omega) (by omega) g1.k.small (fun i hi => by have := g1.z1 i hi; omega) (fun i hi => by have := g1.z2 i hi; omega)).mono ?_
  rintro r w' ⟨rfl, hk⟩
  exact ⟨rfl, hk.os, hk.tape, hk.output, hk.size, fun k hk' => hk.block k (Nat.lt_of_lt_of_le hk' g1.base) fun hx => by
    have : B0 ≤ k := g1.lo.2.2 k (by rcases hx with h | h | h; exact .inr (.inr (.inl h)); exact .inr (.inr (.inr (.inr (.inl h)))); exact .inr (.inr (.inr (.inr (.inr (.inr h))))))
    omega⟩
end
end Go.Proofs.Ytgohhlngnnmknaa
