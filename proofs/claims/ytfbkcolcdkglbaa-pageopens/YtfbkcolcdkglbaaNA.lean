/- Of two states the newer one; one of them torn. -/
import Derived.Test.YtfbkcolcdkglbaaTB
namespace Go.Proofs.Ytfbkcolcdkglbaa
open Go.RowKit Pg
set_option linter.unusedVariables false

theorem bst_two {m n : M} (hm : m.May) (hn : n.May) (h0 : m.g % 2 = 0) (h1 : n.g % 2 = 1) : bst (mt m) (mt n) = (if m.g < n.g then n else m, 0) := by
  have hb : bg (mt m) = true := by have := bg_mt m []; rwa [List.append_nil] at this
  have e : nwr (stm (Pg.get (mt m)) 0) (stm (Pg.get (mt n)) 1) = if m.g < n.g then n else m := by
    rw [get_mt' m hm, get_mt' n hn]
    simp only [stm, h0, h1, if_true, nwr]
    by_cases h : n.g < m.g
    · rw [if_pos h, if_neg (by omega)]
    · rw [if_neg h, if_pos (by omega)]
  have hne : (if m.g < n.g then n else m) ≠ mz := by
    intro h
    have := congrArg M.g h
    have h1' := hm.1
    have h2' := hn.1
    split at this <;> simp [mz] at this <;> omega
  rw [bst, if_neg (by rw [hb]; simp), e, if_neg hne]
theorem bst_left {n : M} {xs : List Int} (hn : n.May) (h1 : n.g % 2 = 1) (hx : Pg.get xs = none) : bst xs (mt n) = (n, 0) := by
  have hb : bg (mt n) = true := by have := bg_mt n []; rwa [List.append_nil] at this
  have e : nwr (stm (Pg.get xs) 0) (stm (Pg.get (mt n)) 1) = n := by
    rw [hx, get_mt' n hn]
    simp only [stm, h1, if_true, nwr, mz]
    rw [if_neg (by omega)]
  have hne : n ≠ mz := by
    intro h
    have := congrArg M.g h
    have h2' := hn.1
    simp [mz] at this
    omega
  rw [bst, if_neg (by rw [hb]; simp), e, if_neg hne]
theorem bst_right {m : M} {xs : List Int} (hm : m.May) (h0 : m.g % 2 = 0) (hx : Pg.get xs = none) : bst (mt m) xs = (m, 0) := by
  have hb : bg (mt m) = true := by have := bg_mt m []; rwa [List.append_nil] at this
  have h2' := hm.1
  have e : nwr (stm (Pg.get (mt m)) 0) (stm (Pg.get xs) 1) = m := by
    rw [hx, get_mt' m hm]
    simp only [stm, h0, if_true, nwr, mz]
    rw [if_pos (by omega)]
  have hne : m ≠ mz := by
    intro h
    have := congrArg M.g h
    simp [mz] at this
    omega
  rw [bst, if_neg (by rw [hb]; simp), e, if_neg hne]
theorem put_either (g r f p k : Nat) (W : World) : Calls Try.prog 20 #[.agg #[.int .u64 (g : Int), .int .u32 (r : Int), .int .u32 (f : Int), .int .u32 (p : Int), .int .u64 (k : Int)]] W fun e w' =>
    ∃ a n c er, e = .returned (.tuple #[.slice a n c, .int .u16 (er : Int)]) ∧ Below W.heap.size W w' ∧ ((M.mk g r f p k).May → er = 0 ∧ Inn w' a n c (mt ⟨g, r, f, p, k⟩) ∧ n = 128) ∧ (¬ (M.mk g r f p k).May → er = 80) := by
  by_cases h : (M.mk g r f p k).May
  · refine (put_ok ⟨g, r, f, p, k⟩ W h).mono ?_
    rintro e w' ⟨v, rfl, hm⟩
    obtain ⟨a, n, c, rfl, -⟩ := hm.1.shape2
    obtain ⟨hi, hn⟩ := hm.inn (mt_b8 _)
    exact ⟨a, n, c, 0, rfl, hm.2.2, fun _ => ⟨rfl, hi, hn.out.trans (mt_length _)⟩, fun h' => absurd h h'⟩
  · refine (put_no ⟨g, r, f, p, k⟩ W h).mono ?_
    rintro e w' ⟨rfl, hb⟩
    exact ⟨none, 0, 0, 80, rfl, hb, fun h' => absurd h' h, fun _ => rfl⟩
end Go.Proofs.Ytfbkcolcdkglbaa
