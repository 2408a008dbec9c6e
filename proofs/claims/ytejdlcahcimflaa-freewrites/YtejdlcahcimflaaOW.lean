/- Words in a row of the call's own. -/
import Derived.Test.YtejdlcahcimflaaNA
import Derived.Test.YtejdlcahcimflaaLG
namespace Go.Proofs.Ytejdlcahcimflaa
open Go.RowKit Go.Maps
set_option linter.unusedVariables false
variable {w w' : World}
theorem below_drewN {w w' : World} (h : Below w.heap.size w w') (k : Nat) : Below w.heap.size w (w'.drewN k) := ⟨h.os, h.tape, h.output, h.size, h.block⟩
/-- the words zs lie in a row of the call's own. -/
def OwnW (w : World) (v : Value) (zs : List Nat) : Prop := w.ownsRow 0 32 1 v zs.length (zs.map fun (z : Nat) => Value.int .u32 (z : Int))
theorem OwnW.lt {v : Value} {zs : List Nat} (h : OwnW w v zs) {k : Nat} (hk : v.ownBlock = some k) : k < w.heap.size := (World.ownsRow.lt h k hk).2
theorem OwnW.shape {v : Value} {zs : List Nat} (h : OwnW w v zs) : ∃ a c, v = .slice a zs.length c ∧ zs.length ≤ c ∧ c ≤ maxLen ∧ Rw w a zs ∧ ∀ k, (∃ ad, a = some ad ∧ ad.block = k) ↔ v.ownBlock = some k := by
  rcases h.2 with ⟨rfl, h0⟩ | ⟨g, cap, cur, rfl, _, hg, hn, hm, _⟩
  · exact ⟨none, 0, by rw [h0], by omega, by omega, .inl (List.eq_nil_of_length_eq_zero h0), fun k => by simp [Value.ownBlock]⟩
  · refine ⟨_, cap, rfl, hn, hm, .inr ⟨g, 0, rfl, lt_of_block hg, fun i hi => ?_⟩, fun k => by simp [Value.ownBlock]⟩
    have := World.ownsRow.cells h (g := g) rfl i (.int .u32 ((zs.getD i 0 : Nat) : Int)) (by simp [hi])
    rwa [Addr.add_lit] at this
theorem infoU32 : (Try.prog.info? 32).map (fun i => (i.zero, i.size, i.bytes)) = some (some (.int .u32 0), 1, 4) := by kernel_rfl
end Go.Proofs.Ytejdlcahcimflaa
