/- What PageStates asks, call by call. -/
import Derived.Test.YtfbkcolcdkglbaaQE
import Derived.Test.YtfbkcolcdkglbaaTL
import Derived.Test.YtfbkcolcdkglbaaNA
namespace Go.Proofs.Ytfbkcolcdkglbaa
open Go.RowKit
set_option linter.unusedVariables false

/-- both GetMetas of some bytes. -/
theorem get_both {w : World} {a : Option Addr} {n c : Nat} {zs : List Int} (h : Inn w a n c zs) : ∃ (m : Pg.M) (er : Nat),
    (∀ W, Below w.heap.size w W → Calls Try.prog 22 #[.slice a n c] W fun e w' => e = .returned (.tuple #[mv m, .int .u16 (er : Int)]) ∧ Below W.heap.size W w') ∧
    (∀ W, Below w.heap.size w W → Calls Try.prog 23 #[.slice a n c] W fun e w' => e = .returned (.tuple #[mv m, .int .u16 (er : Int)]) ∧ Below W.heap.size W w') := by
  cases hO : Pg.get zs with
  | none =>
    refine ⟨mz, 80, fun W hb => ?_, fun W hb => ?_⟩
    · refine (get_inn (h.below hb)).mono ?_
      rintro e w' ⟨-, hno, hb'⟩
      exact ⟨hno hO, hb'⟩
    · refine (rgetm_any (h.below hb)).mono ?_
      rintro e w' ⟨-, hno, hb'⟩
      exact ⟨hno hO, hb'⟩
  | some m =>
    refine ⟨m, 0, fun W hb => ?_, fun W hb => ?_⟩
    · refine (get_inn (h.below hb)).mono ?_
      rintro e w' ⟨hy, -, hb'⟩
      exact ⟨hy m hO, hb'⟩
    · refine (rgetm_any (h.below hb)).mono ?_
      rintro e w' ⟨hy, -, hb'⟩
      exact ⟨hy m hO, hb'⟩
theorem own_inn {w : World} {a : Option Addr} {n c : Nat} {zs : List Int} (h : Own w (.slice a n c) zs) (h8 : Byts zs) : Inn w a n c zs := by
  obtain ⟨a', c', e, h1, h2, h3, h4, _⟩ := h.shape
  cases e
  exact ⟨rfl, h1, by unfold maxLen at h2; omega, h3, h4, h8⟩
/-- what was lent is bytes like any. -/
theorem lent_inn {w : World} {g n : Nat} {zs : List Int} (h : Own w (.slice (some ⟨g, 0, none⟩) (n + 2) (n + 2)) (zs ++ [91, 92])) (hl : zs.length = n) (h8 : Byts zs) (hn : n ≤ 100000) : Inn w (some ⟨g, 0, none⟩) n (n + 2) zs := by
  obtain ⟨a, c, e, _, _, _, hr, _⟩ := h.shape
  have ha : a = some ⟨g, 0, none⟩ := by injection e with h1; exact h1.symm
  subst ha
  exact ⟨hl, by omega, by omega, by (intro h; cases h), hr.left, h8⟩
theorem lent_row {w : World} {g n : Nat} {zs : List Int} (h : Own w (.slice (some ⟨g, 0, none⟩) (n + 2) (n + 2)) (zs ++ [91, 92])) : Row w (some ⟨g, 0, none⟩) (zs ++ [91, 92]) := by
  obtain ⟨a, c, e, _, _, _, hr, _⟩ := h.shape
  have ha : a = some ⟨g, 0, none⟩ := by injection e with h1; exact h1.symm
  subst ha
  exact hr
theorem lent_made {w : World} {a : Option Addr} {n c : Nat} {zs : List Int} (h : Inn w a n c zs) (hn : n ≤ 100000) :
    Calls Try.prog 9 #[.slice a n c] w fun e w' => e = .returned (.slice (some ⟨w.heap.size, 0, none⟩) n (n + 2)) ∧ Own w' (.slice (some ⟨w.heap.size, 0, none⟩) (n + 2) (n + 2)) (zs ++ [91, 92]) ∧ Below w.heap.size w w' :=
  lent_any a n c zs w h.len hn h.bare h.row
end Go.Proofs.Ytfbkcolcdkglbaa
