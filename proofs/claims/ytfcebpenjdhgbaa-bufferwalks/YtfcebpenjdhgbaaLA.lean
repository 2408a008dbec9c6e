/- Mathematics of BufferLast; what a buffer tells, by what it says. -/
import Derived.Test.YtfcebpenjdhgbaaFI
namespace Go.Proofs.Ytfcebpenjdhgbaa
open Go.RowKit Go.Maps
set_option linter.unusedVariables false

theorem foldA_small {xs : List Ac} {b : Nat} (hs : ∀ x ∈ xs, x.db.length ≤ b ∧ x.kb.length ≤ b) : ∀ e ∈ foldA xs, e.key.length ≤ b ∧ e.val.length ≤ b := by
  unfold foldA
  have gen : ∀ (l : List Ac) (es : List Ee), (∀ x ∈ l, x.db.length ≤ b ∧ x.kb.length ≤ b) → (∀ e ∈ es, e.key.length ≤ b ∧ e.val.length ≤ b) → ∀ e ∈ l.foldl stepA es, e.key.length ≤ b ∧ e.val.length ≤ b := by
    intro l
    induction l with
    | nil => intro es _ h e he; exact h e he
    | cons x t ih =>
      intro es hl h e he
      refine ih (stepA es x) (fun y hy => hl y (by simp [hy])) (fun z hz => ?_) e he
      have hx := hl x (by simp)
      unfold stepA at hz
      split at hz
      · rcases put_mem hz with rfl | hz
        · exact hx
        · exact h z hz
      · split at hz
        · rcases put_mem hz with rfl | hz
          · exact ⟨hx.1, by simp⟩
          · exact h z hz
        · exact h z hz
  exact gen xs [] hs (by simp)
/-- what a call says of its key. -/
def saidE (z : Ac) : Ee := if z.k % 8 = 2 then ⟨z.db, [], true⟩ else ⟨z.db, z.kb, false⟩
theorem saidE_key (z : Ac) : (saidE z).key = z.db := by unfold saidE; split <;> rfl
theorem step_put {es : List Ee} {z : Ac} (h : z.k % 8 ≤ 2) : stepA es z = put es (saidE z) := by
  unfold stepA saidE
  by_cases h2 : z.k % 8 = 2
  · rw [if_neg (by omega), if_pos h2, if_pos h2]
  · rw [if_pos (by omega), if_neg h2]
theorem last_lk {xs : List Ac} {l : Nat} {z : Ac} (hl : xs[l]? = some z) (hz : z.k % 8 ≤ 2) (hno : ∀ j y, l < j → xs[j]? = some y → y.k % 8 ≤ 2 → y.db ≠ z.db) : lk (foldA xs) z.db = some (saidE z) := by
  have hlt : l < xs.length := (List.getElem?_eq_some_iff.1 hl).1
  have gen : ∀ m, l + 1 + m ≤ xs.length → lk (foldA (xs.take (l + 1 + m))) z.db = some (saidE z) := by
    intro m
    induction m with
    | zero =>
      intro _
      rw [Nat.add_zero, foldA_next hl, step_put hz, lk_put, if_pos (saidE_key z)]
    | succ m ih =>
      intro hm
      have hy : xs[l + 1 + m]? = some xs[l + 1 + m] := List.getElem?_eq_getElem (by omega)
      rw [show l + 1 + (m + 1) = (l + 1 + m) + 1 by omega, foldA_next hy]
      by_cases hk : (xs[l + 1 + m]).k % 8 ≤ 2
      · rw [step_put hk, lk_put, if_neg (by rw [saidE_key]; exact hno _ _ (by omega) hy hk)]
        exact ih (by omega)
      · unfold stepA
        rw [if_neg (by omega), if_neg (by omega)]
        exact ih (by omega)
  have := gen (xs.length - (l + 1)) (by omega)
  rwa [show l + 1 + (xs.length - (l + 1)) = xs.length by omega, List.take_of_length_le (Nat.le_refl _)] at this
theorem foldA_len (xs : List Ac) : (foldA xs).length ≤ sayN xs := by
  have gen : ∀ m, m ≤ xs.length → (foldA (xs.take m)).length ≤ sayN (xs.take m) := by
    intro m
    induction m with
    | zero => intro _; simp [foldA, sayN]
    | succ m ih =>
      intro hm
      have hy : xs[m]? = some xs[m] := List.getElem?_eq_getElem (by omega)
      rw [foldA_next hy, sayN_next hy]
      have h0 := ih (by omega)
      by_cases hk : (xs[m]).k % 8 ≤ 2
      · rw [step_put hk, if_pos hk]
        have := (put_len (foldA (xs.take m)) (saidE xs[m])).1
        omega
      · unfold stepA
        rw [if_neg (by omega), if_neg (by omega), if_neg hk]
        exact h0
  have := gen xs.length (Nat.le_refl _)
  rwa [List.take_of_length_le (Nat.le_refl _)] at this
section
variable {w : World} {p B n : Nat} {es : List Ee} {hs : List (List Ee)} {O : Nat → Prop}
theorem St.ris (h : St w p B es n hs O) : Ris es := by
  obtain ⟨sv, uv, xs, us, hh, h1, h2, h3, h4, h5, h6, h7⟩ := h
  exact h6
theorem changes_st (h : St w p B es n hs O) (hn : es.length ≤ 900000) (hw : ∀ e ∈ es, e.key.length ≤ 140737488351232 ∧ e.val.length ≤ 140737488351232) :
    Calls Try.prog 9 #[.pointer (some ⟨p, 0, none⟩)] w fun e w' => ∃ ys, e = .returned (.slice (some ⟨w.heap.size, 0, none⟩) es.length es.length) ∧ ers ys = es ∧ Cl w.heap.size w' (.slice (some ⟨w.heap.size, 0, none⟩) es.length es.length) ys ∧ Below w.heap.size w w' := by
  obtain ⟨sv, uv, xs, us, hh, h1, rfl, h3, h4, h5, h6, h7⟩ := h
  rw [ers_len] at hn ⊢
  exact changes_in h1.bf hn fun x hx => hw x.e (List.mem_map.2 ⟨x, hx, rfl⟩)
end
end Go.Proofs.Ytfcebpenjdhgbaa
