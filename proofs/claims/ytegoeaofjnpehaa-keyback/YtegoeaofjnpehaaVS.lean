/- Mathematics of the order: escaped bytes with their end compare as the bytes do. -/
import Derived.Test.YtegoeaofjnpehaaVR
namespace Go.Proofs.Ytegoeaofjnpehaa
set_option linter.unusedVariables false

theorem esc_order : ∀ (a b s r : List Int), Byts a → Byts b → ordI (esc a ++ 0 :: 1 :: s) (esc b ++ 0 :: 1 :: r) = if ordI a b = 0 then ordI s r else ordI a b := by
  intro a
  induction a with
  | nil =>
    intro b s r ha hb
    cases b with
    | nil => simp [esc, ordI]
    | cons c t =>
      have hc := hb c (by simp)
      rw [esc_cons]
      by_cases h0 : c = 0
      · simp [esc, ordI, h0]
      · have : 0 < c := by omega
        simp [esc, ordI, h0, this]
  | cons x a ih =>
    intro b s r ha hb
    have hx := ha x (by simp)
    have ha' : Byts a := fun c hc => ha c (by simp [hc])
    cases b with
    | nil =>
      rw [esc_cons]
      by_cases h0 : x = 0
      · simp [esc, ordI, h0]
      · have h1 : 0 < x := by omega
        have h2 : ¬ x < 0 := by omega
        simp [esc, ordI, h0, h1, h2]
    | cons c t =>
      have hc := hb c (by simp)
      have hb' : Byts t := fun c hc => hb c (by simp [hc])
      have h := ih t s r ha' hb'
      rw [esc_cons, esc_cons]
      by_cases hx0 : x = 0
      · by_cases hc0 : c = 0
        · subst hx0; subst hc0
          simp only [if_true, List.cons_append, List.nil_append, ordI]
          simpa using h
        · have h1 : 0 < c := by omega
          subst hx0
          simp [ordI, hc0, h1]
      · by_cases hc0 : c = 0
        · have h1 : 0 < x := by omega
          have h2 : ¬ x < 0 := by omega
          subst hc0
          simp [ordI, hx0, h1, h2]
        · simp only [if_neg hx0, if_neg hc0, List.cons_append, List.nil_append, ordI]
          by_cases h1 : x < c
          · simp [h1]
          · by_cases h2 : c < x
            · simp [h1, h2]
            · simp only [if_neg h1, if_neg h2]
              exact h
end Go.Proofs.Ytegoeaofjnpehaa
