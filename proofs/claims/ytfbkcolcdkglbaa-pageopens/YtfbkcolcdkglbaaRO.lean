/- States that are compared; how a page begins, and what stands on it. -/
import Derived.Test.YtfbkcolcdkglbaaRN
namespace Go.Proofs.Ytfbkcolcdkglbaa
open Go.RowKit
set_option linter.unusedVariables false

set_option maxHeartbeats 1600000 in
theorem eq_mm (g r f p k g2 r2 f2 p2 k2 : Nat) (W : World) : (binOp .eql 64 (.agg #[.int .u64 (g : Int), .int .u32 (r : Int), .int .u32 (f : Int), .int .u32 (p : Int), .int .u64 (k : Int)]) (.agg #[.int .u64 (g2 : Int), .int .u32 (r2 : Int), .int .u32 (f2 : Int), .int .u32 (p2 : Int), .int .u64 (k2 : Int)])).run Try.prog W = .ok (.bool (decide ((⟨g, r, f, p, k⟩ : Pg.M) = ⟨g2, r2, f2, p2, k2⟩))) W := by
  simp [go_sem]
  repeat' split
  all_goals simp_all
  all_goals omega
set_option maxHeartbeats 1600000 in
theorem ne_mm (g r f p k g2 r2 f2 p2 k2 : Nat) (W : World) : (binOp .neq 64 (.agg #[.int .u64 (g : Int), .int .u32 (r : Int), .int .u32 (f : Int), .int .u32 (p : Int), .int .u64 (k : Int)]) (.agg #[.int .u64 (g2 : Int), .int .u32 (r2 : Int), .int .u32 (f2 : Int), .int .u32 (p2 : Int), .int .u64 (k2 : Int)])).run Try.prog W = .ok (.bool (!decide ((⟨g, r, f, p, k⟩ : Pg.M) = ⟨g2, r2, f2, p2, k2⟩))) W := by
  simp [go_sem]
  repeat' split
  all_goals simp_all
  all_goals omega
theorem eq_mz (g r f p k : Nat) (W : World) : (binOp .eql 64 (.agg #[.int .u64 (g : Int), .int .u32 (r : Int), .int .u32 (f : Int), .int .u32 (p : Int), .int .u64 (k : Int)]) (.agg #[.int .u64 0, .int .u32 0, .int .u32 0, .int .u32 0, .int .u64 0])).run Try.prog W = .ok (.bool (decide ((⟨g, r, f, p, k⟩ : Pg.M) = mz))) W := eq_mm g r f p k 0 0 0 0 0 W
/-- does it begin as a state does? -/
def bg (zs : List Int) : Bool := decide (zs.take 4 = [67, 77, 69, 84])
/-- what Best answers: a state and an error. -/
def bst (xs ys : List Int) : Pg.M × Nat :=
  if bg xs = false ∧ bg ys = false then (mz, 150) else
    if nwr (stm (Pg.get xs) 0) (stm (Pg.get ys) 1) = mz then (mz, 151) else (nwr (stm (Pg.get xs) 0) (stm (Pg.get ys) 1), 0)
/-- bytes that came in. -/
structure Inn (w : World) (a : Option Addr) (n c : Nat) (zs : List Int) : Prop where
  len : zs.length = n
  cap : n ≤ c
  max : c ≤ 9223372036854775807
  bare : a = none → n = 0 ∧ c = 0
  row : Row w a zs
  byts : Byts zs
theorem Inn.below {w w' : World} {a : Option Addr} {n c : Nat} {zs : List Int} (h : Inn w a n c zs) (hb : Below w.heap.size w w') : Inn w' a n c zs := ⟨h.len, h.cap, h.max, h.bare, h.row.below hb, h.byts⟩
theorem begins_inn {a : Option Addr} {n c : Nat} {zs : List Int} {w : World} (h : Inn w a n c zs) (b : Bool) (hb : bg zs = b) :
    ∀ W, Below w.heap.size w W → Calls Try.prog 66 #[.slice a n c] W fun e w' => e = .returned (.bool b) ∧ Below W.heap.size W w' := by
  intro W hW
  have h := h.below hW
  have := begins_any a n c zs W h.len h.cap h.max h.bare h.row h.byts
  rwa [show decide (zs.take 4 = [67, 77, 69, 84]) = b from hb] at this
theorem standing_inn {a : Option Addr} {n c : Nat} {zs : List Int} {w : World} (h : Inn w a n c zs) (par : Nat) (pi : Int) (hpi : pi = (par : Int)) (hp : par < 2) :
    ∀ W, Below w.heap.size w W → Calls Try.prog 68 #[.slice a n c, .int .u64 pi] W fun e w' => e = .returned (mv (stm (Pg.get zs) par)) ∧ Below W.heap.size W w' := by
  intro W hW
  subst hpi
  have h := h.below hW
  exact standing_any a n c zs par W h.len h.cap h.max h.bare h.row h.byts hp

end Go.Proofs.Ytfbkcolcdkglbaa
