/- What the proofs have in common: what a slice of bytes that came in is known to be. -/
import Derived.Test.YtpcckaahfaobeaaRows
import Derived.Test.YtpcckaahfaobeaaPL
import Derived.WalkKit
import Derived.ProofKit
import Derived.OpenShut
import Derived.ShutString
import Derived.ChangeOld
import Derived.Below
namespace Go.Proofs.Ytpcckaahfaobeaa
open Go.ChangeShapes Go.WideShapes Go.ChangeAt Go.RowKit
set_option linter.unusedVariables false

theorem own : ownKnob Try.prog.godebug = none := by kernel_rfl
theorem laidOut : laidOutB Try.prog = true := by kernel_rfl
/-- bytes that came in. -/
structure Inn (w : World) (a : Option Addr) (n c : Nat) (zs : List Int) : Prop where
  len : zs.length = n
  cap : n ≤ c
  max : c ≤ 9223372036854775807
  bare : a = none → n = 0 ∧ c = 0
  row : Row w a zs
  byts : Byts zs
theorem Inn.below {w w' : World} {a : Option Addr} {n c : Nat} {zs : List Int} (h : Inn w a n c zs) (hb : Below w.heap.size w w') : Inn w' a n c zs := ⟨h.len, h.cap, h.max, h.bare, h.row.below hb, h.byts⟩
/-- what a walk is told of a slice of integers that came in. -/
def IsRow (k : IntKind) (w : World) (a : Option Addr) (len cap : Nat) (zs : List Int) : Prop :=
  (a = none ∧ len = 0 ∧ cap = 0 ∧ zs = []) ∨
  ∃ x, a = some x ∧ len ≤ cap ∧ cap ≤ maxLen ∧ zs.length = cap ∧ (∀ i, i < zs.length → w.cell? (x.add i) = some (.int k (zs.getD i 0))) ∧ ∀ n ∈ zs, (Lit.int k n).wf = true
theorem isrow_inn {w : World} {a : Option Addr} {len cap : Nat} {zs : List Int} (h : IsRow .u8 w a len cap zs) : Inn w a len cap (zs.take len) := by
  rcases h with ⟨rfl, rfl, rfl, rfl⟩ | ⟨x, rfl, hl, hm, hz, hcell, hwz⟩
  · exact ⟨rfl, Nat.le_refl _, by omega, fun _ => ⟨rfl, rfl⟩, .inl rfl, (by intro c hc; simp at hc)⟩
  · have hlen : (zs.take len).length = len := by simp; omega
    refine ⟨hlen, hl, by unfold maxLen at hm; omega, by (intro h; cases h), ?_, ?_⟩
    · by_cases h0 : len = 0
      · subst h0; exact .inl rfl
      · obtain ⟨b, off, spot⟩ := x
        have hc := hcell 0 (by omega)
        have hspot : spot = none := by simpa [Addr.add] using World.cell?_spot hc
        subst hspot
        refine .inr ⟨b, off, rfl, ?_, fun i hi => ?_⟩
        · have := World.block_lt_of_cell? w _ hc
          rw [Addr.add_lit] at this
          exact this
        · rw [hlen] at hi
          have := hcell i (by omega)
          rw [Addr.add_lit] at this
          rw [this]; simp [hi]
    · intro c hc
      exact bounds_u8 (hwz c (List.mem_of_mem_take hc))
end Go.Proofs.Ytpcckaahfaobeaa
