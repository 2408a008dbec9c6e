/- How often what lies below is asked for what is seen first. -/
import Derived.Test.YtfcebpenjdhgbaaPI
namespace Go.Proofs.Ytfcebpenjdhgbaa
open Go.RowKit Go.Maps
set_option linter.unusedVariables false

theorem bhU_self (key : List Int) : bhU key key false = false := by simp [bhU, ordI_self]
/-- behind a key that is behind a place. -/
theorem bhU_trans {key p frm : List Int} {inn : Bool} (h1 : bhU key p false = true) (h2 : bhU p frm inn = true) : bhU key frm inn = true := by
  have h1' : 0 < ordI key p := by simpa [bhU] using h1
  have a1 := ordI_anti key p
  have hp : ordI p key < 0 := by omega
  have hgt : ∀ z, 0 ≤ ordI p z → 0 < ordI key z := fun z hz => by
    have a2 := ordI_anti p z
    have a3 := ordI_anti key z
    have := ordI_trans_lt p key z hp
    by_cases hk : ordI key z ≤ 0
    · have := this hk; omega
    · omega
  have h2' : 0 < ordI p frm ∨ (inn = true ∧ (ordI p frm = 0 ∨ frm.length = 0)) := by simpa [bhU] using h2
  rcases h2' with h | ⟨hi, h | h⟩
  · have := hgt frm (by omega); simp [bhU, this]
  · have := hgt frm (by omega); simp [bhU, this]
  · simp [bhU, hi, h]
theorem bhD_self (key : List Int) : bhD key key false = false := by simp [bhD, ordI_self]
theorem bhD_trans {key p frm : List Int} {inn : Bool} (h1 : bhD key p false = true) (h2 : bhD p frm inn = true) : bhD key frm inn = true := by
  have h1' : ordI key p < 0 := by simpa [bhD] using h1
  have hlt : ∀ z, ordI p z ≤ 0 → ordI key z < 0 := fun z hz => ordI_trans_lt key p z h1' hz
  have h2' : ordI p frm < 0 ∨ (inn = true ∧ (ordI p frm = 0 ∨ frm.length = 0)) := by simpa [bhD] using h2
  rcases h2' with h | ⟨hi, h | h⟩
  · have := hlt frm (by omega); simp [bhD, this]
  · have := hlt frm (by omega); simp [bhD, this]
  · simp [bhD, hi, h]
/-- how many of what lies below come behind a place. -/
def cntU (us : List Ee) (frm : List Int) (inn : Bool) : Nat := (us.filter (fun e => bhU e.key frm inn)).length
def cntD (us : List Ee) (frm : List Int) (inn : Bool) : Nat := (us.filter (fun e => bhD e.key frm inn)).length
theorem filter_lt {α : Type} (P Q : α → Bool) (hPQ : ∀ x, P x = true → Q x = true) : ∀ (l : List α) (x : α), x ∈ l → P x = false → Q x = true → (l.filter P).length < (l.filter Q).length
  | [], x, h, _, _ => by simp at h
  | y :: l, x, h, hp, hq => by
    have hle : (l.filter P).length ≤ (l.filter Q).length := by
      have : l.filter P = (l.filter Q).filter P := by
        rw [List.filter_filter]
        apply List.filter_congr
        intro z _
        by_cases hz : P z = true
        · simp [hz, hPQ z hz]
        · simp [hz]
      rw [this]
      exact List.length_filter_le _ _
    rcases List.mem_cons.1 h with rfl | h
    · rw [List.filter_cons_of_neg (by simp [hp]), List.filter_cons_of_pos hq]
      simp only [List.length_cons]; omega
    · have ih := filter_lt P Q hPQ l x h hp hq
      by_cases hy : P y = true
      · rw [List.filter_cons_of_pos hy, List.filter_cons_of_pos (hPQ y hy)]
        simp only [List.length_cons]; omega
      · rw [List.filter_cons_of_neg hy]
        by_cases hy2 : Q y = true
        · rw [List.filter_cons_of_pos hy2]; simp only [List.length_cons]; omega
        · rw [List.filter_cons_of_neg hy2]; exact ih
theorem cntU_next {us : List Ee} {frm : List Int} {inn : Bool} {p : Ee} (h : nxU us frm inn = some p) : cntU us p.key false < cntU us frm inn := by
  have hm := List.mem_of_find?_eq_some h
  have hb : bhU p.key frm inn = true := by have := List.find?_some h; simpa using this
  exact filter_lt _ _ (fun x hx => bhU_trans hx hb) us p hm (bhU_self p.key) hb
theorem cntD_next {us : List Ee} {frm : List Int} {inn : Bool} {p : Ee} (h : nxD us frm inn = some p) : cntD us p.key false < cntD us frm inn := by
  have hm : p ∈ us := List.mem_reverse.1 (List.mem_of_find?_eq_some h)
  have hb : bhD p.key frm inn = true := by have := List.find?_some h; simpa using this
  exact filter_lt _ _ (fun x hx => bhD_trans hx hb) us p hm (bhD_self p.key) hb
/-- with questions enough it asks some number of them, and tells no error; with fewer than these, the error; with as many or more, the same. -/
theorem firstU_asks (es us : List Ee) : ∀ (c : Nat) (frm : List Int) (inn : Bool), cntU us frm inn ≤ c → ∃ (r : Option Ee) (d : Nat), 1 ≤ d ∧ d ≤ c + 1 ∧ (∀ k, d ≤ k → firstU es us k frm inn = (r, 0, k - d)) ∧ (∀ k, k < d → firstU es us k frm inn = (none, 6, 0))
  | c, frm, inn, hc => by
    cases hp : putU es frm inn ((nxU us frm inn).map Ee.key) with
    | some e =>
      refine ⟨some e, 1, Nat.le_refl _, by omega, fun k hk => ?_, fun k hk => ?_⟩
      · obtain ⟨k, rfl⟩ : ∃ j, k = j + 1 := ⟨k - 1, by omega⟩
        simp [firstU, hp]
      · obtain rfl : k = 0 := by omega
        rfl
    | none =>
      cases hn : nxU us frm inn with
      | none =>
        refine ⟨none, 1, Nat.le_refl _, by omega, fun k hk => ?_, fun k hk => ?_⟩
        · obtain ⟨k, rfl⟩ : ∃ j, k = j + 1 := ⟨k - 1, by omega⟩
          rw [hn] at hp
          simp only [firstU, hn, hp]
          simp
        · obtain rfl : k = 0 := by omega
          rfl
      | some p =>
        rw [hn] at hp
        by_cases hl : (lk es p.key).isSome = true
        · have hlt := cntU_next hn
          obtain ⟨c, rfl⟩ : ∃ j, c = j + 1 := ⟨c - 1, by omega⟩
          obtain ⟨r, d, h1, h2, h3, h4⟩ := firstU_asks es us c p.key false (by omega)
          refine ⟨r, d + 1, by omega, by omega, fun k hk => ?_, fun k hk => ?_⟩
          · obtain ⟨k, rfl⟩ : ∃ j, k = j + 1 := ⟨k - 1, by omega⟩
            simp only [firstU, hn, hp, hl, if_true]
            rw [h3 k (by omega)]
            simp
          · cases k with
            | zero => rfl
            | succ k =>
              simp only [firstU, hn, hp, hl, if_true]
              exact h4 k (by omega)
        · refine ⟨some p, 1, Nat.le_refl _, by omega, fun k hk => ?_, fun k hk => ?_⟩
          · obtain ⟨k, rfl⟩ : ∃ j, k = j + 1 := ⟨k - 1, by omega⟩
            simp only [firstU, hn, hp, hl]
            simp
          · obtain rfl : k = 0 := by omega
            rfl
theorem cntU_le (us : List Ee) (frm : List Int) (inn : Bool) : cntU us frm inn ≤ us.length := List.length_filter_le _ _
end Go.Proofs.Ytfcebpenjdhgbaa
