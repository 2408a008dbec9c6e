/- Blocks of bytes stay where others are written. -/
import Derived.Test.YtjojpohnmfkanaaHE
namespace Go.Proofs.Ytjojpohnmfkanaa
open Go.RowKit
set_option linter.unusedVariables false

/-- blocks of bytes stay. -/
def Kb8 (w w' : World) : Prop := ∀ (k : Nat) (cur : Array Value), w.heap[k]? = some (.cells cur 5 (0, 0)) → w'.heap[k]? = w.heap[k]?
theorem Kb8.refl (w : World) : Kb8 w w := fun _ _ _ => rfl
theorem Kb8.trans {a b c : World} (h : Kb8 a b) (k : Kb8 b c) : Kb8 a c := fun j cur hj => (k j cur ((h j cur hj).trans hj)).trans (h j cur hj)
theorem Kb8.below {w w' : World} (h : Below w.heap.size w w') : Kb8 w w' := fun j cur hj => h.block j (lt_of_block hj)
theorem blk_type {w : World} {k : Nat} {c c' : Array Value} {t t' : TypeId} (h : w.heap[k]? = some (.cells c t (0, 0))) (h' : w.heap[k]? = some (.cells c' t' (0, 0))) : t = t' := by
  rw [h] at h'
  have := congrArg (fun o : Option Obj => match o with | some (.cells _ t _) => t | _ => 0) h'
  simpa using this
theorem Kb8.set {w : World} {p : Nat} {c : Array Value} {t : TypeId} (h : w.heap[p]? = some (.cells c t (0, 0))) (ht : t ≠ 5) (j : Nat) (v : Value) : Kb8 w (w.setCell ⟨p, j, none⟩ v) := fun k cur hk => Below.heap_setCell _ _ _ _ (fun e => ht (by rw [show k = p from e] at hk; exact blk_type h hk))
theorem Kb8.grown {w w' : World} {g : Nat} {c : Array Value} {t : TypeId} (hg : w.grownBy w' (some g)) (h : w.heap[g]? = some (.cells c t (0, 0))) (ht : t ≠ 5) : Kb8 w w' := fun k cur hk => hg.block k (lt_of_block hk) (fun e => by cases e; exact ht (blk_type h hk))
theorem En.Own.keep {y : En} {B : Nat} {w w' : World} (h : y.Own B w) (hs : Kb8 w w') : y.Own B w' := h.of_block fun k hk => by
  obtain ⟨cur, hc⟩ := h.u8 hk
  exact hs k cur hc
theorem own_keep {v : Value} {zs : List Int} {w w' : World} (h : Go.Proofs.Ytjojpohnmfkanaa.Own w v zs) (hs : Kb8 w w') : Go.Proofs.Ytjojpohnmfkanaa.Own w' v zs := h.of_block fun k hk => by
  obtain ⟨cur, hc⟩ := h.u8 hk
  exact hs k cur hc
end Go.Proofs.Ytjojpohnmfkanaa
