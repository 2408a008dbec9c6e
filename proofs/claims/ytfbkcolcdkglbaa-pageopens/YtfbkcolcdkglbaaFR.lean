/- What the proofs have in common: what a slice of bytes that came in is known to be; Seal of any. -/
import Derived.Test.YtfbkcolcdkglbaaRows
import Derived.Test.YtfbkcolcdkglbaaKN
import Derived.WalkKit
import Derived.ProofKit
import Derived.OpenShut
import Derived.ShutString
import Derived.ChangeOld
import Derived.Below
namespace Go.Proofs.Ytfbkcolcdkglbaa
open Go.ChangeShapes Go.WideShapes Go.ChangeAt Go.RowKit
set_option linter.unusedVariables false

theorem own : ownKnob Try.prog.godebug = none := by kernel_rfl
theorem laidOut : laidOutB Try.prog = true := by kernel_rfl

/-- what a walk is told of a slice of integers that came in. -/
def IsRow (k : IntKind) (w : World) (a : Option Addr) (len cap : Nat) (zs : List Int) : Prop :=
  (a = none ∧ len = 0 ∧ cap = 0 ∧ zs = []) ∨
  ∃ x, a = some x ∧ len ≤ cap ∧ cap ≤ maxLen ∧ zs.length = cap ∧ (∀ i, i < zs.length → w.cell? (x.add i) = some (.int k (zs.getD i 0))) ∧ ∀ n ∈ zs, (Lit.int k n).wf = true

theorem isrow_inn {w : World} {a : Option Addr} {len cap : Nat} {zs : List Int} (h : IsRow .u8 w a len cap zs) : Inn w a len cap (zs.take len) := by
  rcases h with ⟨rfl, rfl, rfl, rfl⟩ | ⟨x, rfl, hl, hm, hz, hcell, hwz⟩
  · exact ⟨rfl, Nat.le_refl _, by omega, fun _ => ⟨rfl, rfl⟩, .inl rfl, (by intro c hc; simp at hc)⟩
  · have hlen : (zs.take len).length = len := by simp; omega
    refine ⟨hlen, hl, by unfold maxLen at hm; omega, by (intro h; cases h), ?_, ?_⟩
    · by_cases h0 : len = 0
      · subst h0; exact .inl rfl
      · obtain ⟨b, off, spot⟩ := x
        have hc := hcell 0 (by omega)
        have hspot : spot = none := by simpa [Addr.add] using World.cell?_spot hc
        subst hspot
        refine .inr ⟨b, off, rfl, ?_, fun i hi => ?_⟩
        · have := World.block_lt_of_cell? w _ hc
          rw [Addr.add_lit] at this
          exact this
        · rw [hlen] at hi
          have := hcell i (by omega)
          rw [Addr.add_lit] at this
          rw [this]; simp [hi]
    · intro c hc
      exact bounds_u8 (hwz c (List.mem_of_mem_take hc))

/-- may it be sealed? -/
def sOk (kind n : Nat) : Prop := 1 ≤ kind ∧ kind ≤ 4 ∧ n ≤ 1008
instance (kind n : Nat) : Decidable (sOk kind n) := by unfold sOk; infer_instance
theorem seal_yes {kind number : Nat} {a : Option Addr} {n c : Nat} {pl : List Int} {w : World} (h : Inn w a n c pl) (hk : sOk kind n) (hn : number < 4294967296) :
    Calls Try.prog 10 #[.int .u8 (kind : Int), .int .u32 (number : Int), .slice a n c] w fun e w' => ∃ v, e = .returned (.tuple #[v, .int .u16 0]) ∧ Made w v (Pg.pg kind number pl) w' :=
  seal_ok kind number a n c pl w hk.1 hk.2.1 hn h.len h.bare h.row h.byts hk.2.2
theorem seal_not {kind number : Nat} {a : Option Addr} {n c : Nat} {w : World} (hk : ¬ sOk kind n) :
    Calls Try.prog 10 #[.int .u8 (kind : Int), .int .u32 (number : Int), .slice a n c] w fun e w' => e = .returned (.tuple #[.slice none 0 0, .int .u16 80]) ∧ Below w.heap.size w w' := seal_no kind number a n c w hk
theorem text_inn {w : World} {a : Option Addr} {n c : Nat} {zs : List Int} (h : Inn w a n c zs) : (convert 23 9 (.slice a n c)).run Try.prog w = .ok (.string (bk zs)) w := run_text w a n c zs h.len h.bare h.row h.byts
end Go.Proofs.Ytfbkcolcdkglbaa
