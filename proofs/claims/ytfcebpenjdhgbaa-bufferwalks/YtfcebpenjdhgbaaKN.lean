/- Of a buffer that is there. -/
import Derived.Test.YtfcebpenjdhgbaaPJ
import Derived.Lib.SlBytesConst
import Derived.Lib.ConvBytes
namespace Go.Proofs.Ytfcebpenjdhgbaa
open Go.RowKit Go.Maps
set_option linter.unusedVariables false

theorem inn_const (W : World) (x : Int) (hx : 0 ≤ x ∧ x ≤ 255) : Inn (W.alloc (.cells #[.int .u8 x] 5 (1, 2))) (some ⟨W.heap.size, 0, none⟩) 1 1 [x] := by
  refine ⟨rfl, Nat.le_refl _, by omega, by (intro e; cases e), .inr ⟨W.heap.size, 0, rfl, by simp, fun i hi => ?_⟩, by intro c hc; simp at hc; omega⟩
  have hb := heap_alloc_new W (.cells #[.int .u8 x] 5 (1, 2))
  simp at hi
  subst hi
  simp only [World.cell?, hb]
  rfl
theorem St.on {w w' : World} {p B n : Nat} {es : List Ee} {hs : List (List Ee)} {O O' : Nat → Prop} (h : St w p B es n hs O) (hg : Go1 O w O' w') : Below B w w' := by
  have := h.plt
  exact hg.mv.below (by omega) fun k hk => h.ge hk
def k1 : Ee := ⟨[98], [49], false⟩
def k2 : Ee := ⟨[99], [], true⟩
def k3 : Ee := ⟨[97], [50], false⟩
theorem k123 : put (put (put [] k1) k2) k3 = [k3, k1, k2] := by rfl
def d1 : Ee := ⟨[98], [53], false⟩
def d2 : Ee := ⟨[99], [54], false⟩
def d3 : Ee := ⟨[100], [55], false⟩
theorem seen1 : firstU [k3, k1, k2] [d1, d2, d3] 100 [98] false = (some d3, 0, 98) := by rfl
theorem seen2 : firstD [k3, k1, k2] [d1, d2, d3] 98 [100] false = (some k1, 0, 96) := by rfl
/-- one more block of one byte. -/
def c1 (W : World) (x : Int) : World := W.alloc (.cells #[.int .u8 x] 5 (1, 2))
def us3 (b : Nat) : List En := [⟨d1, some ⟨b, 0, none⟩, 1, some ⟨b + 1, 0, none⟩, 1⟩, ⟨d2, some ⟨b + 1 + 1, 0, none⟩, 1, some ⟨b + 1 + 1 + 1, 0, none⟩, 1⟩, ⟨d3, some ⟨b + 1 + 1 + 1 + 1, 0, none⟩, 1, some ⟨b + 1 + 1 + 1 + 1 + 1, 0, none⟩, 1⟩]
def row3 (b : Nat) : Array Value := #[.slice (some ⟨b, 0, none⟩) 1 1, .slice (some ⟨b + 1, 0, none⟩) 1 1, .slice (some ⟨b + 1 + 1, 0, none⟩) 1 1, .slice (some ⟨b + 1 + 1 + 1, 0, none⟩) 1 1, .slice (some ⟨b + 1 + 1 + 1 + 1, 0, none⟩) 1 1, .slice (some ⟨b + 1 + 1 + 1 + 1 + 1, 0, none⟩) 1 1]
theorem c1_size (W : World) (x : Int) : (c1 W x).heap.size = W.heap.size + 1 := by simp [c1]
theorem c1_below (W : World) (x : Int) : Below W.heap.size W (c1 W x) := below_alloc _ _
/-- the pairs of known, and what lies below, laid. -/
def CH (W : World) : World := ((c1 (c1 (c1 (c1 (c1 (c1 W 98) 53) 99) 54) 100) 55).alloc (.cells (row3 W.heap.size) 40)).alloc (.cells #[.slice (some ⟨W.heap.size + 1 + 1 + 1 + 1 + 1 + 1, 0, none⟩) 3 3, .int .i64 100] 48)
theorem laid3 (W : World) : Bl (CH W) (W.heap.size + 1 + 1 + 1 + 1 + 1 + 1 + 1) (some ⟨W.heap.size + 1 + 1 + 1 + 1 + 1 + 1, 0, none⟩) 3 3 (us3 W.heap.size) 100 ∧ Below W.heap.size W (CH W) := by
  unfold CH
  obtain ⟨W1, h1⟩ : ∃ W1, W1 = c1 W 98 := ⟨_, rfl⟩
  obtain ⟨W2, h2⟩ : ∃ W2, W2 = c1 W1 53 := ⟨_, rfl⟩
  obtain ⟨W3, h3⟩ : ∃ W3, W3 = c1 W2 99 := ⟨_, rfl⟩
  obtain ⟨W4, h4⟩ : ∃ W4, W4 = c1 W3 54 := ⟨_, rfl⟩
  obtain ⟨W5, h5⟩ : ∃ W5, W5 = c1 W4 100 := ⟨_, rfl⟩
  obtain ⟨W6, h6⟩ : ∃ W6, W6 = c1 W5 55 := ⟨_, rfl⟩
  rw [← h1, ← h2, ← h3, ← h4, ← h5, ← h6]
  have s1 : W1.heap.size = W.heap.size + 1 := by rw [h1, c1_size]
  have s2 : W2.heap.size = W.heap.size + 1 + 1 := by rw [h2, c1_size, s1]
  have s3 : W3.heap.size = W.heap.size + 1 + 1 + 1 := by rw [h3, c1_size, s2]
  have s4 : W4.heap.size = W.heap.size + 1 + 1 + 1 + 1 := by rw [h4, c1_size, s3]
  have s5 : W5.heap.size = W.heap.size + 1 + 1 + 1 + 1 + 1 := by rw [h5, c1_size, s4]
  have s6 : W6.heap.size = W.heap.size + 1 + 1 + 1 + 1 + 1 + 1 := by rw [h6, c1_size, s5]
  have b1 : Below W.heap.size W W1 := by rw [h1]; exact c1_below _ _
  have b2 : Below W1.heap.size W1 W2 := by rw [h2]; exact c1_below _ _
  have b3 : Below W2.heap.size W2 W3 := by rw [h3]; exact c1_below _ _
  have b4 : Below W3.heap.size W3 W4 := by rw [h4]; exact c1_below _ _
  have b5 : Below W4.heap.size W4 W5 := by rw [h5]; exact c1_below _ _
  have b6 : Below W5.heap.size W5 W6 := by rw [h6]; exact c1_below _ _
  have i1 : Inn W6 (some ⟨W.heap.size, 0, none⟩) 1 1 [98] := by
    have : Inn W1 (some ⟨W.heap.size, 0, none⟩) 1 1 [98] := by rw [h1]; exact inn_const W 98 (by omega)
    exact ((((this.below b2).below b3).below b4).below b5).below b6
  have i2 : Inn W6 (some ⟨W.heap.size + 1, 0, none⟩) 1 1 [53] := by
    have : Inn W2 (some ⟨W1.heap.size, 0, none⟩) 1 1 [53] := by rw [h2]; exact inn_const W1 53 (by omega)
    rw [s1] at this
    exact (((this.below b3).below b4).below b5).below b6
  have i3 : Inn W6 (some ⟨W.heap.size + 1 + 1, 0, none⟩) 1 1 [99] := by
    have : Inn W3 (some ⟨W2.heap.size, 0, none⟩) 1 1 [99] := by rw [h3]; exact inn_const W2 99 (by omega)
    rw [s2] at this
    exact ((this.below b4).below b5).below b6
  have i4 : Inn W6 (some ⟨W.heap.size + 1 + 1 + 1, 0, none⟩) 1 1 [54] := by
    have : Inn W4 (some ⟨W3.heap.size, 0, none⟩) 1 1 [54] := by rw [h4]; exact inn_const W3 54 (by omega)
    rw [s3] at this
    exact (this.below b5).below b6
  have i5 : Inn W6 (some ⟨W.heap.size + 1 + 1 + 1 + 1, 0, none⟩) 1 1 [100] := by
    have : Inn W5 (some ⟨W4.heap.size, 0, none⟩) 1 1 [100] := by rw [h5]; exact inn_const W4 100 (by omega)
    rw [s4] at this
    exact this.below b6
  have i6 : Inn W6 (some ⟨W.heap.size + 1 + 1 + 1 + 1 + 1, 0, none⟩) 1 1 [55] := by
    have : Inn W6 (some ⟨W5.heap.size, 0, none⟩) 1 1 [55] := by rw [h6]; exact inn_const W5 55 (by omega)
    rw [s5] at this
    exact this
  have b7 := below_alloc W6 (.cells (row3 W.heap.size) 40)
  have s7 : (W6.alloc (.cells (row3 W.heap.size) 40)).heap.size = W.heap.size + 1 + 1 + 1 + 1 + 1 + 1 + 1 := by simp [s6]
  have b8 := below_alloc (W6.alloc (.cells (row3 W.heap.size) 40)) (.cells #[.slice (some ⟨W.heap.size + 1 + 1 + 1 + 1 + 1 + 1, 0, none⟩) 3 3, .int .i64 100] 48)
  have hbW : Below W.heap.size W W6 := ((((b1.trans (b2.mono (by omega))).trans (b3.mono (by omega))).trans (b4.mono (by omega))).trans (b5.mono (by omega))).trans (b6.mono (by omega))
  have hrow := heap_alloc_new W6 (.cells (row3 W.heap.size) 40)
  rw [s6] at hrow
  have hbox := heap_alloc_new (W6.alloc (.cells (row3 W.heap.size) 40)) (.cells #[.slice (some ⟨W.heap.size + 1 + 1 + 1 + 1 + 1 + 1, 0, none⟩) 3 3, .int .i64 100] 48)
  rw [s7] at hbox
  refine ⟨⟨hbox, _, ⟨rfl, by (intro e; cases e), Nat.le_refl _, by omega, .inr ⟨W.heap.size + 1 + 1 + 1 + 1 + 1 + 1, 0, rfl, by rw [s7]; omega, fun k x hx => ?_⟩, fun x hx => ?_⟩, by rw [s7]; exact Nat.le_refl _, b8⟩, (hbW.trans (b7.mono (by omega))).trans (b8.mono (by omega))⟩
  · simp only [World.cell?, hrow]
    match k, hx with
    | 0, hx => simp [us3] at hx; subst hx; exact ⟨rfl, rfl⟩
    | 1, hx => simp [us3] at hx; subst hx; exact ⟨rfl, rfl⟩
    | 2, hx => simp [us3] at hx; subst hx; exact ⟨rfl, rfl⟩
    | k + 3, hx => simp [us3] at hx
  · simp [us3] at hx
    rcases hx with rfl | rfl | rfl
    · exact ⟨i1.below b7, i2.below b7⟩
    · exact ⟨i3.below b7, i4.below b7⟩
    · exact ⟨i5.below b7, i6.below b7⟩
theorem CH_size (W : World) : (CH W).heap.size = W.heap.size + 1 + 1 + 1 + 1 + 1 + 1 + 1 + 1 := by simp [CH, c1]
set_option maxHeartbeats 800000 in
theorem len_in {w : World} {p B : Nat} {sv uv : Value} {xs : List En} {us : List Value} (h : Bf w p B sv uv xs us) : Calls Try.prog 22 #[.pointer (some ⟨p, 0, none⟩)] w fun e w' => e = .returned (.int .i64 (xs.length : Int)) ∧ w' = w := by
  obtain ⟨a, c, rfl, _⟩ := row_shape h.said
  obtain ⟨c0, c1, f0⟩ := cells_two h.blk
  clear h
  generalize xs.length = m at *
  go_enter Try.func22, Try.ntmps22
  go_wp2
  go_ret
  exact ⟨rfl, rfl⟩
set_option maxHeartbeats 800000 in
theorem mark_in {w : World} {p B : Nat} {sv uv : Value} {xs : List En} {us : List Value} (h : Bf w p B sv uv xs us) : Calls Try.prog 23 #[.pointer (some ⟨p, 0, none⟩)] w fun e w' => e = .returned (.int .i64 (us.length : Int)) ∧ w' = w := by
  obtain ⟨a, c, rfl, _⟩ := row_shape h.undo
  obtain ⟨c0, c1, f0⟩ := cells_two h.blk
  clear h
  generalize us.length = m at *
  go_enter Try.func23, Try.ntmps23
  go_wp2
  go_ret
  exact ⟨rfl, rfl⟩
end Go.Proofs.Ytfcebpenjdhgbaa
