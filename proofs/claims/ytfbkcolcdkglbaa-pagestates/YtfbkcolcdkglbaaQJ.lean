/- The document's own Best: neither stands. -/
import Derived.Test.YtfbkcolcdkglbaaQJa
import Derived.Test.YtfbkcolcdkglbaaQJb
import Derived.Test.YtfbkcolcdkglbaaQJc
import Derived.Test.YtfbkcolcdkglbaaQJd
namespace Go.Proofs.Ytfbkcolcdkglbaa
open Go.RowKit
set_option linter.unusedVariables false

set_option maxHeartbeats 6400000 in
set_option maxRecDepth 1000000 in
theorem rbest_z3 (a b : Option Addr) (n c m d : Nat) (xs ys : List Int) (w : World) (hx : Inn w a n c xs) (hy : Inn w b m d ys) (g r f p k ex g2 r2 f2 p2 k2 ey : Nat)
    (HX : ∀ W, Below w.heap.size w W → Calls Try.prog 23 #[.slice a n c] W fun e w' => e = .returned (.tuple #[.agg #[.int .u64 (g : Int), .int .u32 (r : Int), .int .u32 (f : Int), .int .u32 (p : Int), .int .u64 (k : Int)], .int .u16 (ex : Int)]) ∧ Below W.heap.size W w')
    (HY : ∀ W, Below w.heap.size w W → Calls Try.prog 23 #[.slice b m d] W fun e w' => e = .returned (.tuple #[.agg #[.int .u64 (g2 : Int), .int .u32 (r2 : Int), .int .u32 (f2 : Int), .int .u32 (p2 : Int), .int .u64 (k2 : Int)], .int .u16 (ey : Int)]) ∧ Below W.heap.size W w')
    (hg : g < 18446744073709551616) (hg2 : g2 < 18446744073709551616) (hone : ((ex : Int) == 0) = false ∨ (((ex : Int) == 0) = true ∧ ((g : Int) % 2 == 0) = false)) (htwo : ((ey : Int) == 0) = false ∨ (((ey : Int) == 0) = true ∧ ((g2 : Int) % 2 == 1) = false)) (hNA : ((n : Nat) : Int) < 4 ∨ ((4 : Int) ≤ ((n : Nat) : Int) ∧ ¬ (bk (xs.take 4)).toList = ([67, 77, 69, 84] : List UInt8))) (hNB : ((m : Nat) : Int) < 4 ∨ ((4 : Int) ≤ ((m : Nat) : Int) ∧ ¬ (bk (ys.take 4)).toList = ([67, 77, 69, 84] : List UInt8))) :
    Calls Try.prog 25 #[.slice a n c, .slice b m d] w fun e w' => e = .returned (.tuple #[.agg #[.int .u64 0, .int .u32 0, .int .u32 0, .int .u32 0, .int .u64 0], .int .u16 150]) ∧ Below w.heap.size w w' := by
  rcases hNA with l1 | hA <;> rcases hNB with l3 | hB
  · exact rbest_z3a a b n c m d xs ys w hx hy g r f p k ex g2 r2 f2 p2 k2 ey HX HY hg hg2 hone htwo l1 l3
  · exact rbest_z3b a b n c m d xs ys w hx hy g r f p k ex g2 r2 f2 p2 k2 ey HX HY hg hg2 hone htwo l1 hB
  · exact rbest_z3c a b n c m d xs ys w hx hy g r f p k ex g2 r2 f2 p2 k2 ey HX HY hg hg2 hone htwo hA l3
  · exact rbest_z3d a b n c m d xs ys w hx hy g r f p k ex g2 r2 f2 p2 k2 ey HX HY hg hg2 hone htwo hA hB
end Go.Proofs.Ytfbkcolcdkglbaa
