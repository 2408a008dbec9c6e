/- Which states may be. -/
import Derived.Test.YtfbkcolcdkglbaaRH
import Derived.Test.YtfbkcolcdkglbaaPO
namespace Go.Proofs.Ytfbkcolcdkglbaa
open Go.RowKit
set_option linter.unusedVariables false

theorem ret_bool {a b : Bool} (h : a = b) : Ending.returned (.bool a) = .returned (.bool b) := by rw [h]
/-- a state as a value. -/
def mv (m : Pg.M) : Value := .agg #[.int .u64 (m.g : Int), .int .u32 (m.r : Int), .int .u32 (m.f : Int), .int .u32 (m.p : Int), .int .u64 (m.k : Int)]

set_option maxHeartbeats 800000 in
theorem stand_any (x p : Nat) (b : Bool) (hb : Pg.stB x p = b) (w : World) :
    Calls Try.prog 80 #[.int .u32 (x : Int), .int .u32 (p : Int)] w fun e w' => e = .returned (.bool b) ∧ w' = w := by
  subst hb
  by_cases h0 : x = 0
  · have HE : Hid (true = Pg.stB x p) := by simp [Hid, Pg.stB, h0]
    have d0 : ((x : Int) == 0) = true := by simp [h0]
    clear h0
    generalize Pg.stB x p = b at *
    go_enter Try.func80, Try.ntmps80
    go_wp2
    go_ret
    exact ⟨ret_bool HE.out, rfl⟩
  · have d0 : ((x : Int) == 0) = false := by simp [h0]
    by_cases h2 : 2 ≤ x
    · have d2 : (2 : Int) ≤ (x : Int) := by omega
      have HE : Hid (decide (x < p) = Pg.stB x p) := by simp [Hid, Pg.stB, h0, h2]
      clear h0 h2
      generalize Pg.stB x p = b at *
      go_enter Try.func80, Try.ntmps80
      go_wp2
      go_ret
      exact ⟨ret_bool (by simpa using HE.out), rfl⟩
    · have d2 : (x : Int) < 2 := by omega
      have HE : Hid (false = Pg.stB x p) := by simp [Hid, Pg.stB, h0, h2]
      clear h0 h2
      generalize Pg.stB x p = b at *
      go_enter Try.func80, Try.ntmps80
      go_wp2
      go_ret
      exact ⟨ret_bool HE.out, rfl⟩

set_option maxHeartbeats 1600000 in
set_option maxRecDepth 1000000 in
theorem may_n1 (g r f p k : Nat) (w : World)  (h0 : (g : Int) < 1) :
    Calls Try.prog 62 #[.agg #[.int .u64 (g : Int), .int .u32 (r : Int), .int .u32 (f : Int), .int .u32 (p : Int), .int .u64 (k : Int)]] w fun e w' => e = .returned (.bool false) ∧ Below w.heap.size w w' := by
  go_enter Try.func62, Try.ntmps62
  go_wp2
  go_ret
  exact ⟨rfl, below_alloc _ _⟩
set_option maxHeartbeats 1600000 in
set_option maxRecDepth 1000000 in
theorem may_n2 (g r f p k : Nat) (w : World) (h0 : (1 : Int) ≤ (g : Int)) (h1 : 4611686018427387904 < (g : Int)) :
    Calls Try.prog 62 #[.agg #[.int .u64 (g : Int), .int .u32 (r : Int), .int .u32 (f : Int), .int .u32 (p : Int), .int .u64 (k : Int)]] w fun e w' => e = .returned (.bool false) ∧ Below w.heap.size w w' := by
  go_enter Try.func62, Try.ntmps62
  go_wp2
  go_ret
  exact ⟨rfl, below_alloc _ _⟩
set_option maxHeartbeats 1600000 in
set_option maxRecDepth 1000000 in
theorem may_n3 (g r f p k : Nat) (w : World) (h0 : (1 : Int) ≤ (g : Int)) (h1 : (g : Int) ≤ 4611686018427387904) (h2 : (p : Int) < 2) :
    Calls Try.prog 62 #[.agg #[.int .u64 (g : Int), .int .u32 (r : Int), .int .u32 (f : Int), .int .u32 (p : Int), .int .u64 (k : Int)]] w fun e w' => e = .returned (.bool false) ∧ Below w.heap.size w w' := by
  go_enter Try.func62, Try.ntmps62
  go_wp2
  go_ret
  exact ⟨rfl, below_alloc _ _⟩
set_option maxHeartbeats 1600000 in
set_option maxRecDepth 1000000 in
theorem may_n4 (g r f p k : Nat) (w : World) (h0 : (1 : Int) ≤ (g : Int)) (h1 : (g : Int) ≤ 4611686018427387904) (h2 : (2 : Int) ≤ (p : Int)) (h3 : 16384 < (p : Int)) :
    Calls Try.prog 62 #[.agg #[.int .u64 (g : Int), .int .u32 (r : Int), .int .u32 (f : Int), .int .u32 (p : Int), .int .u64 (k : Int)]] w fun e w' => e = .returned (.bool false) ∧ Below w.heap.size w w' := by
  go_enter Try.func62, Try.ntmps62
  go_wp2
  go_ret
  exact ⟨rfl, below_alloc _ _⟩
set_option maxHeartbeats 1600000 in
set_option maxRecDepth 1000000 in
theorem may_n5 (g r f p k : Nat) (w : World) (h0 : (1 : Int) ≤ (g : Int)) (h1 : (g : Int) ≤ 4611686018427387904) (h2 : (2 : Int) ≤ (p : Int)) (h3 : (p : Int) ≤ 16384) (hs1 : Pg.stB r p = false) :
    Calls Try.prog 62 #[.agg #[.int .u64 (g : Int), .int .u32 (r : Int), .int .u32 (f : Int), .int .u32 (p : Int), .int .u64 (k : Int)]] w fun e w' => e = .returned (.bool false) ∧ Below w.heap.size w w' := by
  have HS1 := hide hs1
  clear hs1
  go_enter Try.func62, Try.ntmps62
  go_wp2_with fail
  refine (stand_any r p false HS1.out _).mono ?_
  rintro e w' ⟨rfl, rfl⟩
  go_wp2
  go_ret
  exact ⟨rfl, below_alloc _ _⟩
set_option maxHeartbeats 1600000 in
set_option maxRecDepth 1000000 in
theorem may_n6 (g r f p k : Nat) (w : World) (h0 : (1 : Int) ≤ (g : Int)) (h1 : (g : Int) ≤ 4611686018427387904) (h2 : (2 : Int) ≤ (p : Int)) (h3 : (p : Int) ≤ 16384) (hs1 : Pg.stB r p = true) (hs2 : Pg.stB f p = false) :
    Calls Try.prog 62 #[.agg #[.int .u64 (g : Int), .int .u32 (r : Int), .int .u32 (f : Int), .int .u32 (p : Int), .int .u64 (k : Int)]] w fun e w' => e = .returned (.bool false) ∧ Below w.heap.size w w' := by
  have HS1 := hide hs1
  clear hs1
  have HS2 := hide hs2
  clear hs2
  go_enter Try.func62, Try.ntmps62
  go_wp2_with fail
  refine (stand_any r p true HS1.out _).mono ?_
  rintro e w' ⟨rfl, rfl⟩
  go_wp2_with fail
  refine (stand_any f p false HS2.out _).mono ?_
  rintro e w' ⟨rfl, rfl⟩
  go_wp2
  go_ret
  exact ⟨rfl, below_alloc _ _⟩
set_option maxHeartbeats 1600000 in
set_option maxRecDepth 1000000 in
theorem may_n7 (g r f p k : Nat) (w : World) (h0 : (1 : Int) ≤ (g : Int)) (h1 : (g : Int) ≤ 4611686018427387904) (h2 : (2 : Int) ≤ (p : Int)) (h3 : (p : Int) ≤ 16384) (hs1 : Pg.stB r p = true) (hs2 : Pg.stB f p = true) (h6 : ((r : Int) != (f : Int)) = false) (h7 : ((r : Int) == 0) = false) :
    Calls Try.prog 62 #[.agg #[.int .u64 (g : Int), .int .u32 (r : Int), .int .u32 (f : Int), .int .u32 (p : Int), .int .u64 (k : Int)]] w fun e w' => e = .returned (.bool false) ∧ Below w.heap.size w w' := by
  have HS1 := hide hs1
  clear hs1
  have HS2 := hide hs2
  clear hs2
  go_enter Try.func62, Try.ntmps62
  go_wp2_with fail
  refine (stand_any r p true HS1.out _).mono ?_
  rintro e w' ⟨rfl, rfl⟩
  go_wp2_with fail
  refine (stand_any f p true HS2.out _).mono ?_
  rintro e w' ⟨rfl, rfl⟩
  go_wp2
  go_ret
  exact ⟨rfl, below_alloc _ _⟩
set_option maxHeartbeats 1600000 in
set_option maxRecDepth 1000000 in
theorem may_n8a (g r f p k : Nat) (w : World) (h0 : (1 : Int) ≤ (g : Int)) (h1 : (g : Int) ≤ 4611686018427387904) (h2 : (2 : Int) ≤ (p : Int)) (h3 : (p : Int) ≤ 16384) (hs1 : Pg.stB r p = true) (hs2 : Pg.stB f p = true) (h6 : ((r : Int) != (f : Int)) = true) (h8 : 4611686018427387904 < (k : Int)) :
    Calls Try.prog 62 #[.agg #[.int .u64 (g : Int), .int .u32 (r : Int), .int .u32 (f : Int), .int .u32 (p : Int), .int .u64 (k : Int)]] w fun e w' => e = .returned (.bool false) ∧ Below w.heap.size w w' := by
  have HS1 := hide hs1
  clear hs1
  have HS2 := hide hs2
  clear hs2
  go_enter Try.func62, Try.ntmps62
  go_wp2_with fail
  refine (stand_any r p true HS1.out _).mono ?_
  rintro e w' ⟨rfl, rfl⟩
  go_wp2_with fail
  refine (stand_any f p true HS2.out _).mono ?_
  rintro e w' ⟨rfl, rfl⟩
  go_wp2
  go_ret
  exact ⟨rfl, below_alloc _ _⟩
set_option maxHeartbeats 1600000 in
set_option maxRecDepth 1000000 in
theorem may_ya (g r f p k : Nat) (w : World) (h0 : (1 : Int) ≤ (g : Int)) (h1 : (g : Int) ≤ 4611686018427387904) (h2 : (2 : Int) ≤ (p : Int)) (h3 : (p : Int) ≤ 16384) (hs1 : Pg.stB r p = true) (hs2 : Pg.stB f p = true) (h6 : ((r : Int) != (f : Int)) = true) (h8 : (k : Int) ≤ 4611686018427387904) (b9 b10 : Bool) (h9 : ((k : Int) == 0) = b9) (h10 : ((r : Int) == 0) = b10) :
    Calls Try.prog 62 #[.agg #[.int .u64 (g : Int), .int .u32 (r : Int), .int .u32 (f : Int), .int .u32 (p : Int), .int .u64 (k : Int)]] w fun e w' => e = .returned (.bool (b9 == b10)) ∧ Below w.heap.size w w' := by
  have HS1 := hide hs1
  clear hs1
  have HS2 := hide hs2
  clear hs2
  go_enter Try.func62, Try.ntmps62
  go_wp2_with fail
  refine (stand_any r p true HS1.out _).mono ?_
  rintro e w' ⟨rfl, rfl⟩
  go_wp2_with fail
  refine (stand_any f p true HS2.out _).mono ?_
  rintro e w' ⟨rfl, rfl⟩
  go_wp2
  go_ret
  exact ⟨ret_bool (by simp), below_alloc _ _⟩
set_option maxHeartbeats 1600000 in
set_option maxRecDepth 1000000 in
theorem may_n8b (g r f p k : Nat) (w : World) (h0 : (1 : Int) ≤ (g : Int)) (h1 : (g : Int) ≤ 4611686018427387904) (h2 : (2 : Int) ≤ (p : Int)) (h3 : (p : Int) ≤ 16384) (hs1 : Pg.stB r p = true) (hs2 : Pg.stB f p = true) (h6 : ((r : Int) != (f : Int)) = false) (h7 : ((r : Int) == 0) = true) (h8 : 4611686018427387904 < (k : Int)) :
    Calls Try.prog 62 #[.agg #[.int .u64 (g : Int), .int .u32 (r : Int), .int .u32 (f : Int), .int .u32 (p : Int), .int .u64 (k : Int)]] w fun e w' => e = .returned (.bool false) ∧ Below w.heap.size w w' := by
  have HS1 := hide hs1
  clear hs1
  have HS2 := hide hs2
  clear hs2
  go_enter Try.func62, Try.ntmps62
  go_wp2_with fail
  refine (stand_any r p true HS1.out _).mono ?_
  rintro e w' ⟨rfl, rfl⟩
  go_wp2_with fail
  refine (stand_any f p true HS2.out _).mono ?_
  rintro e w' ⟨rfl, rfl⟩
  go_wp2
  go_ret
  exact ⟨rfl, below_alloc _ _⟩
set_option maxHeartbeats 1600000 in
set_option maxRecDepth 1000000 in
theorem may_yb (g r f p k : Nat) (w : World) (h0 : (1 : Int) ≤ (g : Int)) (h1 : (g : Int) ≤ 4611686018427387904) (h2 : (2 : Int) ≤ (p : Int)) (h3 : (p : Int) ≤ 16384) (hs1 : Pg.stB r p = true) (hs2 : Pg.stB f p = true) (h6 : ((r : Int) != (f : Int)) = false) (h7 : ((r : Int) == 0) = true) (h8 : (k : Int) ≤ 4611686018427387904) (b9 b10 : Bool) (h9 : ((k : Int) == 0) = b9) :
    Calls Try.prog 62 #[.agg #[.int .u64 (g : Int), .int .u32 (r : Int), .int .u32 (f : Int), .int .u32 (p : Int), .int .u64 (k : Int)]] w fun e w' => e = .returned (.bool b9) ∧ Below w.heap.size w w' := by
  have HS1 := hide hs1
  clear hs1
  have HS2 := hide hs2
  clear hs2
  go_enter Try.func62, Try.ntmps62
  go_wp2_with fail
  refine (stand_any r p true HS1.out _).mono ?_
  rintro e w' ⟨rfl, rfl⟩
  go_wp2_with fail
  refine (stand_any f p true HS2.out _).mono ?_
  rintro e w' ⟨rfl, rfl⟩
  go_wp2
  go_ret
  exact ⟨ret_bool (by simp), below_alloc _ _⟩
end Go.Proofs.Ytfbkcolcdkglbaa
