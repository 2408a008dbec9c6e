/- Check of any value: what fits says, kind by kind. -/
import Derived.Test.YtegoeaofjnpehaaVE
import Derived.Test.YtegoeaofjnpehaaVI
namespace Go.Proofs.Ytegoeaofjnpehaa
open Go.RowKit
set_option linter.unusedVariables false

/-- what is said of one value alone. -/
def fitE : T → Nat
  | .mk k bo n t ya yc y la lc l fa fc f =>
    if k = 2 then (if alB 2 bo n t y.length l.list.length f.list.length 2 bo 0 ⟨#[]⟩ 0 0 0 then 0 else 30)
    else if k = 3 then (if alB 3 bo n t y.length l.list.length f.list.length 3 false n ⟨#[]⟩ 0 0 0 then 0 else 30)
    else if k = 4 then (if alB 4 bo n t y.length l.list.length f.list.length 4 false 0 t 0 0 0 then (if (rn t).2 then (if 1000 < (rn t).1 then 33 else 0) else 34) else 30)
    else if k = 5 then (if alB 5 bo n t y.length l.list.length f.list.length 5 false 0 ⟨#[]⟩ y.length 0 0 then (if 4000 < y.length then 33 else 0) else 30)
    else if k = 6 then (if alB 6 bo n t y.length l.list.length f.list.length 6 false 0 ⟨#[]⟩ 0 l.list.length 0 then 0 else 30)
    else if k = 7 then (if alB 7 bo n t y.length l.list.length f.list.length 7 false 0 ⟨#[]⟩ 0 0 f.list.length then (if ris f.names then 0 else 30) else 30)
    else (if alB k bo n t y.length l.list.length f.list.length 1 false 0 ⟨#[]⟩ 0 0 0 then 0 else 30)
/-- texts and rows that are no longer than a machine holds. -/
def T.Node : T → Prop
  | .mk k bo n t ya yc y la lc l fa fc f => t.size ≤ 1000000000 ∧ y.length ≤ 9223372036854775807 ∧ f.list.length ≤ 1000000 ∧ ∀ x ∈ f.list, x.1.size ≤ 1000000000
theorem fitE_le (x : T) : fitE x ≤ 60000 := by
  cases x
  unfold fitE
  repeat' split
  all_goals omega
theorem fits_gen (n₀ : Nat) (x : T) (W : World) (hN : x.Node) (hm : x.Mem n₀ W) (hn : n₀ ≤ W.heap.size) :
    Calls Try.prog 34 #[x.val] W fun e w' => e = .returned (.int .u16 (fitE x : Int)) ∧ Below W.heap.size W w' := by
  cases x with
  | mk k bo n t ya yc y la lc l fa fc f =>
  obtain ⟨h1, h2, h3, h4⟩ := hN
  have h8 := hm.2.2.2.2.2.2.2.1
  simp only [T.val]
  by_cases k2 : k = 2
  · subst k2
    rw [show fitE (.mk 2 bo n t ya yc y la lc l fa fc f) = _ from rfl]
    exact fits2 bo n t ya y.length yc la l.list.length lc fa f.list.length fc W
  by_cases k3 : k = 3
  · subst k3
    exact fits3 bo n t ya y.length yc la l.list.length lc fa f.list.length fc W
  by_cases k4 : k = 4
  · subst k4
    exact fits4 bo n t ya y.length yc la l.list.length lc fa f.list.length fc W h1
  by_cases k5 : k = 5
  · subst k5
    exact fits5 bo n t ya y.length yc la l.list.length lc fa f.list.length fc W h2
  by_cases k6 : k = 6
  · subst k6
    exact fits6 bo n t ya y.length yc la l.list.length lc fa f.list.length fc W
  by_cases k7 : k = 7
  · subst k7
    exact fits7 bo n t ya y.length yc la l.list.length lc fa f.list.length fc W n₀ f ⟨h8, h3, h4⟩ rfl hn
  have e : fitE (.mk k bo n t ya yc y la lc l fa fc f) = (if alB k bo n t y.length l.list.length f.list.length 1 false 0 ⟨#[]⟩ 0 0 0 then 0 else 30) := by
    simp [fitE, k2, k3, k4, k5, k6, k7]
  rw [e]
  exact fits_else k bo n t ya y.length yc la l.list.length lc fa f.list.length fc W (by simp [k2]) (by simp [k3]) (by simp [k4]) (by simp [k5]) (by simp [k6]) (by simp [k7])
/-- a value whose parts are all no longer than a machine holds. -/
def T.Tame (v : T) : Prop := v.sz ≤ 999999 ∧ ∀ d x, (d, x) ∈ v.flat 1 → x.Node
def ckE (v : T) : Nat := chk fitE v
theorem check_all (n₀ : Nat) (v : T) (w : World) (hm : v.Mem n₀ w) (hn : n₀ ≤ w.heap.size) (hT : v.Tame) :
    Calls Try.prog 23 #[v.val] w fun e w' => e = .returned (.int .u16 (ckE v : Int)) ∧ Below w.heap.size w w' :=
  check_gen fitE n₀ v w hm hn hT.1 fitE_le (fun x W ⟨d, hd⟩ hx hW => fits_gen n₀ x W (hT.2 d x hd) hx hW)
end Go.Proofs.Ytegoeaofjnpehaa
