/- ReadsSpans: mathematics. -/
import Derived.Test.YtpoanlbjhhlagaaSW
import Derived.Test.YtpoanlbjhhlagaaZT
namespace Go.Proofs.Ytpoanlbjhhlagaa
open Go.RowKit Go.Maps
set_option linter.unusedVariables false

theorem apt_all {xs : List Ee} (h : Apt xs) {i : Nat} {x : Ee} (hx : xs[i]? = some x) : U xs x.key ∧ (x.del = true → i + 1 = xs.length ∧ x.val = []) ∧ (x.del = false → ordI x.key x.val < 0 ∧ ¬ U xs x.val ∧ ∀ y, xs[i + 1]? = some y → ordI x.val y.key < 0) := by
  have hp := List.pairwise_iff_getElem.1 h.2
  obtain ⟨hi, hxe⟩ := List.getElem?_eq_some_iff.1 hx
  have hm := List.mem_of_getElem? hx
  have hok := h.1 x hm
  refine ⟨⟨x, hm, own_in hok⟩, fun hd => ⟨?_, ?_⟩, fun hd => ⟨hok.lt hd, ?_, fun y hy => ?_⟩⟩
  · rcases Nat.lt_or_ge (i + 1) xs.length with hlt | hge
    · have := (hp i (i + 1) hi hlt (by omega)).1
      rw [hxe, hd] at this; cases this
    · omega
  · rcases hok with ⟨_, e⟩ | ⟨e, _⟩
    · exact e
    · rw [hd] at e; cases e
  · rintro ⟨z, hz, hin⟩
    obtain ⟨j, hj, rfl⟩ := List.mem_iff_getElem.1 hz
    rcases Nat.lt_trichotomy j i with hlt | he | hgt
    · have hn := hp j i hj hi hlt
      rw [hxe] at hn
      rcases hin.2 with h2 | h2
      · rw [hn.1] at h2; cases h2
      · have h3 := hok.lt hd
        have h4 := ordI_trans_lt _ _ _ hn.2 (Int.le_of_lt h3)
        have := ordI_anti x.val xs[j].val
        omega
    · subst he
      rw [hxe] at hin
      rcases hin.2 with h2 | h2
      · rw [hd] at h2; cases h2
      · rw [ordI_self] at h2; omega
    · have hn := hp i j hi hj hgt
      rw [hxe] at hn
      have := ordI_anti xs[j].key x.val
      have h1 := hin.1
      have h2 := hn.2
      omega
  · obtain ⟨hj, rfl⟩ := List.getElem?_eq_some_iff.1 hy
    have hn := hp i (i + 1) hi hj (by omega)
    rw [hxe] at hn
    exact hn.2
theorem kspan_in (x : Ky) : inS (kspan x) x.key := own_in (.inr ⟨rfl, ordI_snoc x.key 0⟩)
end Go.Proofs.Ytpoanlbjhhlagaa
