/- Memory that is owned by some blocks: what stays as it was, and rows of more than one cell. -/
import Derived.Test.YtpcckaahfaobeaaPS1
import Derived.Test.YtpcckaahfaobeaaRows
import Derived.Test.YtpcckaahfaobeaaChecked
import Derived.Deep.MidRow
import Derived.Maps.Own
import Derived.Maps.OwnSet
import Derived.Maps.AppendAt
namespace Go.Proofs.Ytpcckaahfaobeaa
open Go.RowKit Go.Maps
set_option linter.unusedVariables false

theorem Mv.alloc {O : Nat → Prop} {w w' : World} (h : Mv O w w') (o : Obj) : Mv O w (w'.alloc o) := by
  have hb := below_alloc w' o
  exact ⟨hb.os.trans h.os, hb.tape.trans h.tape, hb.output.trans h.output, Nat.le_trans h.size hb.size, fun k hk ho => (hb.block k (Nat.lt_of_lt_of_le hk h.size)).trans (h.block k hk ho)⟩
theorem Mv.grown {O : Nat → Prop} {w w1 w2 : World} {r : Option Nat} (h : Mv O w w1) (hg : w1.grownBy w2 r) (hr : ∀ k, r = some k → O k ∨ w.heap.size ≤ k) : Mv O w w2 :=
  ⟨hg.os.trans h.os, hg.tape.trans h.tape, hg.output.trans h.output, Nat.le_trans h.size hg.size, fun k hk ho => by
    rw [hg.block k (Nat.lt_of_lt_of_le hk h.size) (fun e => (hr k e.symm).elim ho (fun hl => by omega))]
    exact h.block k hk ho⟩
theorem row_shape2 {w : World} {base e size : Nat} {v : Value} {n : Nat} {xs : List Value} (h : w.ownsRow base e size v n xs) : ∃ a cap, v = .slice a n cap := by
  rcases h.2 with ⟨e, h0⟩ | ⟨g, cap, cur, e, _⟩
  · exact ⟨_, _, by rw [h0]; exact e⟩
  · exact ⟨_, _, e⟩
end Go.Proofs.Ytpcckaahfaobeaa
