/- What a slice of bytes that came in is known to be. -/
import Derived.Test.YtegoeaofjnpehaaRows
import Derived.Test.YtegoeaofjnpehaaV
import Derived.OpenShut
import Derived.ShutString
import Derived.ChangeOld
namespace Go.Proofs.Ytegoeaofjnpehaa
open Go.ChangeShapes Go.WideShapes Go.ChangeAt Go.RowKit
set_option linter.unusedVariables false

theorem own : ownKnob Try.prog.godebug = none := by kernel_rfl
theorem laidOut : laidOutB Try.prog = true := by kernel_rfl

/-- what a walk is told of a slice of integers that came in. -/
def IsRow (k : IntKind) (w : World) (a : Option Addr) (len cap : Nat) (zs : List Int) : Prop :=
  (a = none ∧ len = 0 ∧ cap = 0 ∧ zs = []) ∨
  ∃ x, a = some x ∧ len ≤ cap ∧ cap ≤ maxLen ∧ zs.length = cap ∧ (∀ i, i < zs.length → w.cell? (x.add i) = some (.int k (zs.getD i 0))) ∧ ∀ n ∈ zs, (Lit.int k n).wf = true

theorem isrow_row {w : World} {a : Option Addr} {len cap : Nat} {zs : List Int} (h : IsRow .u8 w a len cap zs) :
    Row w a (zs.take len) ∧ Byts (zs.take len) ∧ (zs.take len).length = len ∧ len ≤ cap ∧ cap ≤ maxLen ∧ (a = none → len = 0 ∧ cap = 0) := by
  rcases h with ⟨rfl, rfl, rfl, rfl⟩ | ⟨x, rfl, hl, hm, hz, hcell, hwz⟩
  · exact ⟨.inl rfl, (by intro c hc; simp at hc), rfl, Nat.le_refl _, Nat.zero_le _, fun _ => ⟨rfl, rfl⟩⟩
  · have hlen : (zs.take len).length = len := by simp; omega
    refine ⟨?_, ?_, hlen, hl, hm, by intro h; cases h⟩
    · by_cases h0 : len = 0
      · subst h0; exact .inl rfl
      · obtain ⟨b, off, spot⟩ := x
        have hc := hcell 0 (by omega)
        have hspot : spot = none := by simpa [Addr.add] using World.cell?_spot hc
        subst hspot
        refine .inr ⟨b, off, rfl, ?_, fun i hi => ?_⟩
        · have := World.block_lt_of_cell? w _ hc
          rw [Addr.add_lit] at this
          exact this
        · rw [hlen] at hi
          have := hcell i (by omega)
          rw [Addr.add_lit] at this
          rw [this]; simp [hi]
    · intro c hc
      exact bounds_u8 (hwz c (List.mem_of_mem_take hc))

theorem Row.first {w : World} {a : Option Addr} {zs : List Int} (h : Row w a zs) (n : Nat) : Row w a (zs.take n) := by
  rcases h with h | ⟨b, off, rfl, hlt, hc⟩
  · exact .inl (by rw [h]; simp)
  · refine .inr ⟨b, off, rfl, hlt, fun i hi => ?_⟩
    rw [List.length_take] at hi
    rw [hc i (by omega)]
    simp [List.getD_eq_getElem?_getD, show i < n by omega]
/-- are the first k bytes all 255? -/
def fl (b : List Int) (k : Nat) : Bool := (List.range k).all fun j => b.getD j 0 == 255
theorem fl_succ (b : List Int) (k : Nat) : fl b (k + 1) = (fl b k && (b.getD k 0 == 255)) := by simp [fl, List.range_succ]
theorem fl_true (b : List Int) (n : Nat) (h : ∀ i, i < n → b.getD i 0 = 255) : fl b n = true := by
  simp only [fl, List.all_eq_true, List.mem_range]
  intro i hi
  rw [h i hi]
  rfl
theorem fl_false (b : List Int) (n p : Nat) (hp : p < n) (h : b.getD p 0 < 255) : fl b n = false := by
  rw [Bool.eq_false_iff]
  intro hf
  simp only [fl, List.all_eq_true, List.mem_range] at hf
  have := hf p hp
  simp only [beq_iff_eq] at this
  omega
end Go.Proofs.Ytegoeaofjnpehaa
