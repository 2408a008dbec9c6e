/- The document's own word on which states may be. -/
import Derived.Test.YtfbkcolcdkglbaaQA
namespace Go.Proofs.Ytfbkcolcdkglbaa
open Go.RowKit
set_option linter.unusedVariables false

set_option maxHeartbeats 1600000 in
set_option maxRecDepth 1000000 in
theorem rmay_n1 (g r f p k : Nat) (w : World)  (h0 : (g : Int) < 1) :
    Calls Try.prog 63 #[.agg #[.int .u64 (g : Int), .int .u32 (r : Int), .int .u32 (f : Int), .int .u32 (p : Int), .int .u64 (k : Int)]] w fun e w' => e = .returned (.bool false) ∧ Below w.heap.size w w' := by
  go_enter Try.func63, Try.ntmps63
  go_wp2
  go_ret
  exact ⟨rfl, below_alloc _ _⟩
set_option maxHeartbeats 1600000 in
set_option maxRecDepth 1000000 in
theorem rmay_n2 (g r f p k : Nat) (w : World) (h0 : (1 : Int) ≤ (g : Int)) (h1 : 4611686018427387904 < (g : Int)) :
    Calls Try.prog 63 #[.agg #[.int .u64 (g : Int), .int .u32 (r : Int), .int .u32 (f : Int), .int .u32 (p : Int), .int .u64 (k : Int)]] w fun e w' => e = .returned (.bool false) ∧ Below w.heap.size w w' := by
  go_enter Try.func63, Try.ntmps63
  go_wp2
  go_ret
  exact ⟨rfl, below_alloc _ _⟩
set_option maxHeartbeats 1600000 in
set_option maxRecDepth 1000000 in
theorem rmay_n3 (g r f p k : Nat) (w : World) (h0 : (1 : Int) ≤ (g : Int)) (h1 : (g : Int) ≤ 4611686018427387904) (h2 : (p : Int) < 2) :
    Calls Try.prog 63 #[.agg #[.int .u64 (g : Int), .int .u32 (r : Int), .int .u32 (f : Int), .int .u32 (p : Int), .int .u64 (k : Int)]] w fun e w' => e = .returned (.bool false) ∧ Below w.heap.size w w' := by
  go_enter Try.func63, Try.ntmps63
  go_wp2
  go_ret
  exact ⟨rfl, below_alloc _ _⟩
set_option maxHeartbeats 1600000 in
set_option maxRecDepth 1000000 in
theorem rmay_n4 (g r f p k : Nat) (w : World) (h0 : (1 : Int) ≤ (g : Int)) (h1 : (g : Int) ≤ 4611686018427387904) (h2 : (2 : Int) ≤ (p : Int)) (h3 : 16384 < (p : Int)) :
    Calls Try.prog 63 #[.agg #[.int .u64 (g : Int), .int .u32 (r : Int), .int .u32 (f : Int), .int .u32 (p : Int), .int .u64 (k : Int)]] w fun e w' => e = .returned (.bool false) ∧ Below w.heap.size w w' := by
  go_enter Try.func63, Try.ntmps63
  go_wp2
  go_ret
  exact ⟨rfl, below_alloc _ _⟩
set_option maxHeartbeats 1600000 in
set_option maxRecDepth 1000000 in
theorem rmay_n5 (g r f p k : Nat) (w : World) (h0 : (1 : Int) ≤ (g : Int)) (h1 : (g : Int) ≤ 4611686018427387904) (h2 : (2 : Int) ≤ (p : Int)) (h3 : (p : Int) ≤ 16384) (h4 : 4611686018427387904 < (k : Int)) :
    Calls Try.prog 63 #[.agg #[.int .u64 (g : Int), .int .u32 (r : Int), .int .u32 (f : Int), .int .u32 (p : Int), .int .u64 (k : Int)]] w fun e w' => e = .returned (.bool false) ∧ Below w.heap.size w w' := by
  go_enter Try.func63, Try.ntmps63
  go_wp2
  go_ret
  exact ⟨rfl, below_alloc _ _⟩
set_option maxHeartbeats 1600000 in
set_option maxRecDepth 1000000 in
theorem rmay_n6 (g r f p k : Nat) (w : World) (h0 : (1 : Int) ≤ (g : Int)) (h1 : (g : Int) ≤ 4611686018427387904) (h2 : (2 : Int) ≤ (p : Int)) (h3 : (p : Int) ≤ 16384) (h4 : (k : Int) ≤ 4611686018427387904) (h5 : ((r : Int) == 1) = true) :
    Calls Try.prog 63 #[.agg #[.int .u64 (g : Int), .int .u32 (r : Int), .int .u32 (f : Int), .int .u32 (p : Int), .int .u64 (k : Int)]] w fun e w' => e = .returned (.bool false) ∧ Below w.heap.size w w' := by
  go_enter Try.func63, Try.ntmps63
  go_wp2
  go_ret
  exact ⟨rfl, below_alloc _ _⟩
set_option maxHeartbeats 1600000 in
set_option maxRecDepth 1000000 in
theorem rmay_n7 (g r f p k : Nat) (w : World) (h0 : (1 : Int) ≤ (g : Int)) (h1 : (g : Int) ≤ 4611686018427387904) (h2 : (2 : Int) ≤ (p : Int)) (h3 : (p : Int) ≤ 16384) (h4 : (k : Int) ≤ 4611686018427387904) (h5 : ((r : Int) == 1) = false) (h6 : (p : Int) ≤ (r : Int)) :
    Calls Try.prog 63 #[.agg #[.int .u64 (g : Int), .int .u32 (r : Int), .int .u32 (f : Int), .int .u32 (p : Int), .int .u64 (k : Int)]] w fun e w' => e = .returned (.bool false) ∧ Below w.heap.size w w' := by
  go_enter Try.func63, Try.ntmps63
  go_wp2
  go_ret
  exact ⟨rfl, below_alloc _ _⟩
set_option maxHeartbeats 1600000 in
set_option maxRecDepth 1000000 in
theorem rmay_n8 (g r f p k : Nat) (w : World) (h0 : (1 : Int) ≤ (g : Int)) (h1 : (g : Int) ≤ 4611686018427387904) (h2 : (2 : Int) ≤ (p : Int)) (h3 : (p : Int) ≤ 16384) (h4 : (k : Int) ≤ 4611686018427387904) (h5 : ((r : Int) == 1) = false) (h6 : (r : Int) < (p : Int)) (h7 : ((f : Int) == 1) = true) :
    Calls Try.prog 63 #[.agg #[.int .u64 (g : Int), .int .u32 (r : Int), .int .u32 (f : Int), .int .u32 (p : Int), .int .u64 (k : Int)]] w fun e w' => e = .returned (.bool false) ∧ Below w.heap.size w w' := by
  go_enter Try.func63, Try.ntmps63
  go_wp2
  go_ret
  exact ⟨rfl, below_alloc _ _⟩
set_option maxHeartbeats 1600000 in
set_option maxRecDepth 1000000 in
theorem rmay_n9 (g r f p k : Nat) (w : World) (h0 : (1 : Int) ≤ (g : Int)) (h1 : (g : Int) ≤ 4611686018427387904) (h2 : (2 : Int) ≤ (p : Int)) (h3 : (p : Int) ≤ 16384) (h4 : (k : Int) ≤ 4611686018427387904) (h5 : ((r : Int) == 1) = false) (h6 : (r : Int) < (p : Int)) (h7 : ((f : Int) == 1) = false) (h8 : (p : Int) ≤ (f : Int)) :
    Calls Try.prog 63 #[.agg #[.int .u64 (g : Int), .int .u32 (r : Int), .int .u32 (f : Int), .int .u32 (p : Int), .int .u64 (k : Int)]] w fun e w' => e = .returned (.bool false) ∧ Below w.heap.size w w' := by
  go_enter Try.func63, Try.ntmps63
  go_wp2
  go_ret
  exact ⟨rfl, below_alloc _ _⟩
set_option maxHeartbeats 1600000 in
set_option maxRecDepth 1000000 in
theorem rmay_n10 (g r f p k : Nat) (w : World) (h0 : (1 : Int) ≤ (g : Int)) (h1 : (g : Int) ≤ 4611686018427387904) (h2 : (2 : Int) ≤ (p : Int)) (h3 : (p : Int) ≤ 16384) (h4 : (k : Int) ≤ 4611686018427387904) (h5 : ((r : Int) == 1) = false) (h6 : (r : Int) < (p : Int)) (h7 : ((f : Int) == 1) = false) (h8 : (f : Int) < (p : Int)) (h9 : ((r : Int) != (f : Int)) = false) (h10 : ((r : Int) == 0) = false) :
    Calls Try.prog 63 #[.agg #[.int .u64 (g : Int), .int .u32 (r : Int), .int .u32 (f : Int), .int .u32 (p : Int), .int .u64 (k : Int)]] w fun e w' => e = .returned (.bool false) ∧ Below w.heap.size w w' := by
  go_enter Try.func63, Try.ntmps63
  go_wp2
  go_ret
  exact ⟨rfl, below_alloc _ _⟩
set_option maxHeartbeats 1600000 in
set_option maxRecDepth 1000000 in
theorem rmay_ya (g r f p k : Nat) (w : World) (h0 : (1 : Int) ≤ (g : Int)) (h1 : (g : Int) ≤ 4611686018427387904) (h2 : (2 : Int) ≤ (p : Int)) (h3 : (p : Int) ≤ 16384) (h4 : (k : Int) ≤ 4611686018427387904) (h5 : ((r : Int) == 1) = false) (h6 : (r : Int) < (p : Int)) (h7 : ((f : Int) == 1) = false) (h8 : (f : Int) < (p : Int)) (h9 : ((r : Int) != (f : Int)) = true) (b1 b2 : Bool) (h10 : ((k : Int) == 0) = b1) (h11 : ((r : Int) == 0) = b2) :
    Calls Try.prog 63 #[.agg #[.int .u64 (g : Int), .int .u32 (r : Int), .int .u32 (f : Int), .int .u32 (p : Int), .int .u64 (k : Int)]] w fun e w' => e = .returned (.bool (b1 == b2)) ∧ Below w.heap.size w w' := by
  go_enter Try.func63, Try.ntmps63
  go_wp2
  go_ret
  exact ⟨ret_bool (by simp), below_alloc _ _⟩
set_option maxHeartbeats 1600000 in
set_option maxRecDepth 1000000 in
theorem rmay_yb (g r f p k : Nat) (w : World) (h0 : (1 : Int) ≤ (g : Int)) (h1 : (g : Int) ≤ 4611686018427387904) (h2 : (2 : Int) ≤ (p : Int)) (h3 : (p : Int) ≤ 16384) (h4 : (k : Int) ≤ 4611686018427387904) (h5 : ((r : Int) == 1) = false) (h6 : (r : Int) < (p : Int)) (h7 : ((f : Int) == 1) = false) (h8 : (f : Int) < (p : Int)) (h9 : ((r : Int) != (f : Int)) = false) (h10 : ((r : Int) == 0) = true) (b1 : Bool) (h11 : ((k : Int) == 0) = b1) :
    Calls Try.prog 63 #[.agg #[.int .u64 (g : Int), .int .u32 (r : Int), .int .u32 (f : Int), .int .u32 (p : Int), .int .u64 (k : Int)]] w fun e w' => e = .returned (.bool b1) ∧ Below w.heap.size w w' := by
  go_enter Try.func63, Try.ntmps63
  go_wp2
  go_ret
  exact ⟨ret_bool (by simp), below_alloc _ _⟩
theorem rmay_any (m : Pg.M) (w : World) : Calls Try.prog 63 #[mv m] w fun e w' => e = .returned (.bool (decide m.May)) ∧ Below w.heap.size w w' := by
  obtain ⟨g, r, f, p, k⟩ := m
  have no : ¬ (Pg.M.mk g r f p k).May → (Calls Try.prog 63 #[mv ⟨g, r, f, p, k⟩] w fun e w' => e = .returned (.bool false) ∧ Below w.heap.size w w') → Calls Try.prog 63 #[mv ⟨g, r, f, p, k⟩] w fun e w' => e = .returned (.bool (decide (Pg.M.mk g r f p k).May)) ∧ Below w.heap.size w w' := by
    intro h hc
    rw [decide_eq_false h]; exact hc
  have st : ∀ {x p : Nat}, 2 ≤ p → (Pg.stB x p = true ↔ x ≠ 1 ∧ x < p) := by
    intro x p hp
    simp [Pg.stB]
    omega
  by_cases h1 : 1 ≤ g
  rotate_left
  · exact no (fun h => h1 h.1) (rmay_n1 g r f p k w (by omega))
  by_cases h2 : g ≤ 4611686018427387904
  rotate_left
  · exact no (fun h => h2 h.2.1) (rmay_n2 g r f p k w (by omega) (by omega))
  by_cases h3 : 2 ≤ p
  rotate_left
  · exact no (fun h => h3 h.2.2.1) (rmay_n3 g r f p k w (by omega) (by omega) (by omega))
  by_cases h4 : p ≤ 16384
  rotate_left
  · exact no (fun h => h4 h.2.2.2.1) (rmay_n4 g r f p k w (by omega) (by omega) (by omega) (by omega))
  by_cases h5 : k ≤ 4611686018427387904
  rotate_left
  · exact no (fun h => h5 h.2.2.2.2.2.2.2.1) (rmay_n5 g r f p k w (by omega) (by omega) (by omega) (by omega) (by omega))
  by_cases h6 : r = 1
  · exact no (fun h => ((st h3).1 h.2.2.2.2.1).1 h6) (rmay_n6 g r f p k w (by omega) (by omega) (by omega) (by omega) (by omega) (by simp [h6]))
  by_cases h7 : r < p
  rotate_left
  · exact no (fun h => h7 ((st h3).1 h.2.2.2.2.1).2) (rmay_n7 g r f p k w (by omega) (by omega) (by omega) (by omega) (by omega) (by simp; omega) (by omega))
  by_cases h8 : f = 1
  · exact no (fun h => ((st h3).1 h.2.2.2.2.2.1).1 h8) (rmay_n8 g r f p k w (by omega) (by omega) (by omega) (by omega) (by omega) (by simp; omega) (by omega) (by simp [h8]))
  by_cases h9 : f < p
  rotate_left
  · exact no (fun h => h9 ((st h3).1 h.2.2.2.2.2.1).2) (rmay_n9 g r f p k w (by omega) (by omega) (by omega) (by omega) (by omega) (by simp; omega) (by omega) (by simp; omega) (by omega))
  have s1 := (st h3).2 ⟨h6, h7⟩
  have s2 := (st h3).2 ⟨h8, h9⟩
  by_cases h10 : r = f
  · by_cases h0 : r = 0
    · have e : decide (Pg.M.mk g r f p k).May = ((k : Int) == 0) := by
        have : (Pg.M.mk g r f p k).May ↔ k = 0 := by
          unfold Pg.M.May
          simp only
          constructor
          · intro h; exact h.2.2.2.2.2.2.2.2.2 h0
          · intro h; exact ⟨h1, h2, h3, h4, s1, s2, .inr h0, h5, ⟨fun _ => h0, fun _ => h⟩⟩
        simp [this]
        by_cases hk : k = 0 <;> simp [hk]
      rw [e]
      exact rmay_yb g r f p k w (by omega) (by omega) (by omega) (by omega) (by omega) (by simp; omega) (by omega) (by simp; omega) (by omega) (by simp [h10]) (by simp [h0]) _ rfl
    · exact no (fun h => h.2.2.2.2.2.2.1.elim (fun h' => h' h10) (fun h' => h0 h')) (rmay_n10 g r f p k w (by omega) (by omega) (by omega) (by omega) (by omega) (by simp; omega) (by omega) (by simp; omega) (by omega) (by simp [h10]) (by simp [h0]))
  · have e : decide (Pg.M.mk g r f p k).May = (((k : Int) == 0) == ((r : Int) == 0)) := by
      have : (Pg.M.mk g r f p k).May ↔ (k = 0 ↔ r = 0) := by
        unfold Pg.M.May
        simp only
        constructor
        · intro h; exact h.2.2.2.2.2.2.2.2
        · intro h; exact ⟨h1, h2, h3, h4, s1, s2, .inl h10, h5, h⟩
      simp [this]
      rw [beq0, beq0]
    rw [e]
    exact rmay_ya g r f p k w (by omega) (by omega) (by omega) (by omega) (by omega) (by simp; omega) (by omega) (by simp; omega) (by omega) (by simp; omega) _ _ rfl rfl
theorem rmay_yes (m : Pg.M) (w : World) (h : m.May) : Calls Try.prog 63 #[mv m] w fun e w' => e = .returned (.bool true) ∧ Below w.heap.size w w' := by
  have := rmay_any m w
  rwa [decide_eq_true h] at this
theorem rmay_no (m : Pg.M) (w : World) (h : ¬ m.May) : Calls Try.prog 63 #[mv m] w fun e w' => e = .returned (.bool false) ∧ Below w.heap.size w w' := by
  have := rmay_any m w
  rwa [decide_eq_false h] at this
end Go.Proofs.Ytfbkcolcdkglbaa
